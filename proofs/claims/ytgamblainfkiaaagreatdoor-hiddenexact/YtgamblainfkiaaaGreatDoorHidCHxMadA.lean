/- shown of package hidden, moved of package chain. -/
import Derived.Test.YtgamblainfkiaaaGreatDoorHidBHx
import Derived.Test.YtgamblainfkiaaaGreatDoorFillBHxHidQ
import Derived.Laws.EntriesVeiled
import Derived.Shelf.Slices.CompactI
import Derived.Test.YtgamblainfkiaaaGreatDoorRefSHxFillA
import Derived.Test.YtgamblainfkiaaaGreatDoorCore1HxCore2b
import Derived.Lib.ItoaNum
import Derived.Test.YtgamblainfkiaaaGreatDoorRefCHxNumR
import Derived.Test.YtgamblainfkiaaaGreatDoorMostAHxRefA
namespace Go.Proofs.YtgamblainfkiaaaGreatDoor
open Go.RowKit Go.Shelf
abbrev HC3 (x y z:Value):Obj:=.cells #[x,y,z] 25
def HBox (w:World) (g:Nat) (x y z:Value):Prop:=w.heap[g]? =some (.cells #[x,y,z] 25 (0,0))
theorem HBox.new (w:World) (x y z:Value):HBox (w.alloc (HC3 x y z)) w.heap.size x y z:=heap_alloc_new w _
theorem HBox.lt {w:World} {g:Nat} {x y z:Value} (h:HBox w g x y z):g<w.heap.size:=(Array.getElem?_eq_some_iff.1 h).1
theorem HBox.below {w w':World} {g b:Nat} {x y z:Value} (h:HBox w g x y z) (hb:Below b w w') (hg:g<b):HBox w' g x y z:=(hb.block g hg).trans h
theorem HBox.cells {w:World} {g:Nat} {x y z:Value} (h:HBox w g x y z):w.cell? ⟨g,0,none⟩=some x∧w.cell? ⟨g,1,none⟩=some y∧w.cell? ⟨g,2,none⟩=some z:=by
 refine⟨?_,?_,?_⟩<;>(rw[cell_of_row w g _ _ _ (0,0) h];rfl)
theorem Box.away {w:World} {g:Nat} {n:Bool} {x y:ByteArray} (h:Box w g n x y) (b j:Nat) (v:Value) (hne:g≠b):Box (w.setCell ⟨b,j,none⟩ v) g n x y:=(Below.heap_setCell w ⟨b,j,none⟩ v g hne).trans h
structure MB (w:World) (G gB:Nat) (l:List Fr) (n:Bool) (x y:ByteArray) (U:World):Prop where
 mf:MF w G l U
 bx:Box U gB n x y
theorem MB.step {w U U':World} {G gB:Nat} {l:List Fr} {n:Bool} {x y:ByteArray} (h:MB w G gB l n x y U) (hb:Below U.heap.size U U'):MB w G gB l n x y U':=⟨h.mf.step hb,h.bx.below hb h.bx.lt⟩
theorem MB.drew {w U:World} {G gB:Nat} {l:List Fr} {n:Bool} {x y:ByteArray} (h:MB w G gB l n x y U):MB w G gB l n x y U.drew:=⟨h.mf.drew,h.bx.drew⟩
theorem MB.put {w U:World} {G gB:Nat} {l:List Fr} {n:Bool} {x y:ByteArray} (h:MB w G gB l n x y U) (hne:gB≠G) (hg:w.heap.size≤G) (i:Nat) (f:Fr):MB w G gB (l.set i f) n x y (((U.setCell ⟨G,i*3,none⟩ (.bool f.1)).setCell ⟨G,i*3+1,none⟩ (.string f.2.1)).setCell ⟨G,i*3+2,none⟩ (.string f.2.2)):=
 ⟨h.mf.put hg i f,((h.bx.away G _ _ hne).away G _ _ hne).away G _ _ hne⟩
set_option maxRecDepth 100000 in
set_option maxHeartbeats 1000000 in
theorem hShown_any (a b c d:Option Addr) (n1 n2 ca cb cc cd n x:Nat) (R:List (List Fr)) (r:List Fr) (f g:Nat→Rat) (w:World) (hR:FsS w c R) (hr:FrS w d r) (hf:Lst n f r) (hRl:R.length=n) (hg:∀i (h:i<R.length),∃hx:x<R[i].length,frQ R[i][x]=g i∧R[i][x].2.1.size+R[i][x].2.2.size≤30010) (hm:∀i (h:i<R.length),R[i].length≤100) (hn:n≤100):
  Calls Tryz.prog 52 #[.agg #[.slice a n1 ca,.slice b n2 cb,.slice c n cc],.slice d n cd,.int .i64 (x:Nat)] w fun e w'=>∃G,e=.returned (.slice (some ⟨G,0,none⟩) n n)∧w.heap.size≤G∧RowF w' G (lF n fun i=>f i*g i)∧Below w.heap.size w w':=by
 obtain⟨i0,hi0,hz0,hz1,hz2⟩:=info_parts Tryz.infoFrac
 have HFR:=hid hR
 have HFr:=hid hr
 have HLA:=hid hf
 have HG:=hid hg
 have HM:=hid hm
 have HRL:=hid hRl
 clear hR hr hf hg hm hRl
 have hfl:=lF_length n fun i=>f i*g i
 have HFG:=hid (fun i (hi:i<n)=>lF_get? (f:=fun i=>f i*g i) hi)
 generalize (lF n fun i=>f i*g i)=FL at *
 have hB0:=(Below.refl w.heap.size w).alloc (Nat.le_refl _) (HC3 (.slice a n1 ca) (.slice b n2 cb) (.slice c n cc))
 have hH:=HBox.new w (.slice a n1 ca) (.slice b n2 cb) (.slice c n cc)
 have HS0:Hid ((w.alloc (HC3 (.slice a n1 ca) (.slice b n2 cb) (.slice c n cc))).heap.size=w.heap.size+1):=by show _=_;simp
 go_enter Tryz.func52,Tryz.ntmps52
 go_upto_region 1 with fail
 generalize (w.alloc (HC3 (.slice a n1 ca) (.slice b n2 cb) (.slice c n cc)))=w1 at *
 go_wp2_with (first |(at_make;refine wpList_make_full _ rfl _ _ 22 rfl w1.heap.size 30 i0 (.agg #[.bool false,.string ⟨#[]⟩,.string ⟨#[]⟩]) 3 Tryz.underlying22 hi0 hz0 hz1 .i64 .i64 _ _ n rfl rfl (by go_num) (by go_num) (by rw[hz2];omega) (by unfold maxLen;omega) (Nat.le_refl _) ?_;intro w2 hown2 hgrow2))
 have hb2:=block_of_own3 hown2
 rw[made_frs] at hb2
 have hB2:Below w1.heap.size w1 w2:=(Below.refl _ w1).grown hgrow2 (Nat.le_refl _) (fun k e=>by cases e)
 rw[HS0.out] at hb2⊢
 have HK0:Hid (MF w (w.heap.size+1) (partF FL 0) w2):=⟨by rw[partF_zero,hfl];exact hb2,hB0.trans (hB2.mono hB0.size)⟩
 have HH:=hid (hH.below hB2 hH.lt)
 have HW2:Hid (Below w.heap.size w w2):=HK0.out.bel
 have hG:w.heap.size≤w.heap.size+1:=by omega
 clear hown2 hgrow2 hb2 hB2 hB0 hH HS0
 go_loopw [15] (fun iv wr=>∃i:Nat,i≤n∧iv=.int .i64 i∧Hid (MF w (w.heap.size+1) (partF FL i) wr)∧Hid (HBox wr w.heap.size (.slice a n1 ca) (.slice b n2 cb) (.slice c n cc))) (fun iv _=>n - (intOf iv).toNat)
 case atStart=>exact⟨0,Nat.zero_le _,rfl,HK0,HH⟩
 case round=>
  obtain⟨i,hi,rfl,HK1,HH1⟩:=hrel
  clear HK0 HH HW2
  by_cases hlt:i<n
  ·have hia:i<r.length:=by rw[HLA.out.len];exact hlt
   have hiR:i<R.length:=by rw[HRL.out];exact hlt
   obtain⟨ga,oa,rfl,hga,a0,a1,a2⟩:=HFr.out i hia
   obtain⟨gc,oc,bc,cr,rfl,hgc,c0,hrow,hcr⟩:=HFR.out i hiR
   obtain⟨hxr,hgx,hgs⟩:=HG.out i hiR
   obtain⟨gr,or_,rfl,hgr,b0,b1,b2⟩:=hrow x hxr
   have hrm:=HM.out i hiR
   obtain⟨hd1,hd2⟩:=List.getElem?_eq_some_iff.1 (HFG.out i hlt)
   have HPS:=hid (partF_set FL hd1)
   rw[hd2] at HPS
   have HMU:Hid (∀V:World,Calls Tryz.prog 54 #[.agg #[.bool r[i].1,.string r[i].2.1,.string r[i].2.2],.agg #[.bool R[i][x].1,.string R[i][x].2.1,.string R[i][x].2.2]] V fun e w'=>e=.returned (.agg #[.bool (qF (f i*g i)).1,.string (qF (f i*g i)).2.1,.string (qF (f i*g i)).2.2])∧Below V.heap.size V w'):=fun V=>by
    have h1:=HLA.out.size i hia
    exact fMul_q (f i*g i) (HLA.out.is i hia) hgx rfl (by omega) (by omega)
   clear hd1 hd2 hrow hgx hgs
   generalize qF (f i*g i)=qf at *
   generalize r[i].1=an at *
   generalize r[i].2.1=ax at *
   generalize r[i].2.2=ay at *
   generalize R[i][x].1=bn at *
   generalize R[i][x].2.1=bx at *
   generalize R[i][x].2.2=by_ at *
   generalize R[i].length=rn at *
   have hA:=(Below.refl wr.heap.size wr).alloc (Nat.le_refl _) (FC an ax ay)
   have HK:Hid (MB w (w.heap.size+1) wr.heap.size (partF FL i) an ax ay (wr.alloc (FC an ax ay))):=⟨HK1.out.step hA,Box.new wr an ax ay⟩
   have HH:Hid (HBox (wr.alloc (FC an ax ay)) w.heap.size (.slice a n1 ca) (.slice b n2 cb) (.slice (some ⟨gc,oc,none⟩) n cc)):=HH1.out.below hA HH1.out.lt
   have hne:wr.heap.size≠w.heap.size+1:=by have:=HK1.out.row.lt;omega
   have hgB:w.heap.size+1<wr.heap.size:=HK1.out.row.lt
   have a0':=(HK1.out.bel.cell (p:=⟨ga,_,none⟩) hga).trans a0
   have a1':=(HK1.out.bel.cell (p:=⟨ga,_,none⟩) hga).trans a1
   have a2':=(HK1.out.bel.cell (p:=⟨ga,_,none⟩) hga).trans a2
   clear hA a0 a1 a2 HK1 HH1
   go_upto_region 5 with fail
   clear a0' a1' a2'
   generalize hgBe:wr.heap.size=gB at *
   generalize (wr.alloc (FC an ax ay))=W at *
   have hbl:=HK.out.mf.bel
   obtain⟨-, -,e2⟩:=HH.out.cells
   have HELD:Hid (∀u l,MB w (w.heap.size+1) gB l an ax ay u→u.cell? ⟨w.heap.size,2,none⟩=some (.slice (some ⟨gc,oc,none⟩) n cc)→u.cell? ⟨gB,0,none⟩=some (.bool an)∧u.cell? ⟨gB,1,none⟩=some (.string ax)∧u.cell? ⟨gB,2,none⟩=some (.string ay)∧u.cell? ⟨w.heap.size,2,none⟩=some (.slice (some ⟨gc,oc,none⟩) n cc)∧u.cell? ⟨gc,oc+i,none⟩=some (.slice (some ⟨gr,or_,none⟩) rn cr)∧u.cell? ⟨gr,or_+x*3,none⟩=some (.bool bn)∧u.cell? ⟨gr,or_+x*3+1,none⟩=some (.string bx)∧u.cell? ⟨gr,or_+x*3+2,none⟩=some (.string by_)):=fun u l h e=>⟨h.bx.c0,h.bx.c1,h.bx.c2,e,(h.mf.bel.cell (p:=⟨gc,_,none⟩) hgc).trans c0,(h.mf.bel.cell (p:=⟨gr,_,none⟩) hgr).trans b0,(h.mf.bel.cell (p:=⟨gr,_,none⟩) hgr).trans b1,(h.mf.bel.cell (p:=⟨gr,_,none⟩) hgr).trans b2⟩
   clear c0 b0 b1 b2 hbl
   replace HK:=hid HK.out.drew
   refine wp_region_held_drew (S:=fun u=>u.cell? ⟨gB,0,none⟩=some (.bool an)∧u.cell? ⟨gB,1,none⟩=some (.string ax)∧u.cell? ⟨gB,2,none⟩=some (.string ay)∧u.cell? ⟨w.heap.size,2,none⟩=some (.slice (some ⟨gc,oc,none⟩) n cc)∧u.cell? ⟨gc,oc+i,none⟩=some (.slice (some ⟨gr,or_,none⟩) rn cr)∧u.cell? ⟨gr,or_+x*3,none⟩=some (.bool bn)∧u.cell? ⟨gr,or_+x*3+1,none⟩=some (.string bx)∧u.cell? ⟨gr,or_+x*3+2,none⟩=some (.string by_)) (by kernel_rfl) (HELD.out _ _ HK.out e2) (fun hSd=>?_)
   have HHd:Hid (HBox W.drew w.heap.size (.slice a n1 ca) (.slice b n2 cb) (.slice (some ⟨gc,oc,none⟩) n cc)):=HH.out
   clear HH e2
   generalize W.drew=u0 at *
   refine wpAnyH_take (i:=0) (oi:=_) (v:=.slice (some ⟨w.heap.size+1,0,none⟩) n n) rfl (by kernel_rfl) (by kernel_rfl) (by kernel_rfl) (fun _ _ _ h=>h) (Or.inl ⟨by rfl,?_⟩) (by assumption) ?_
   ·intro u' hSu
    (try simp only[List.getElem_toArray,List.getElem_cons_zero])
    go_simp
   (try simp only[List.getElem_toArray,List.getElem_cons_zero])
   (try simp only[Act.put,List.setIfInBounds_toArray,List.set_cons_zero,List.set_cons_succ])
   refine wpAnyH_take (i:=1) (oi:=_) (v:=.int .i64 (i:Nat)) rfl (by kernel_rfl) (by kernel_rfl) (by kernel_rfl) (fun _ _ _ h=>h) (Or.inl ⟨by rfl,?_⟩) (by assumption) ?_
   ·intro u' hSu
    (try simp only[List.getElem_toArray,List.getElem_cons_zero,List.getElem_cons_succ])
    go_simp
   (try simp only[List.getElem_toArray,List.getElem_cons_zero,List.getElem_cons_succ])
   (try simp only[Act.put,List.setIfInBounds_toArray,List.set_cons_zero,List.set_cons_succ])
   refine wpAnyH_take (i:=2) (oi:=_) (v:=.agg #[.bool an,.string ax,.string ay]) rfl (by kernel_rfl) (by kernel_rfl) (by kernel_rfl) (fun _ _ _ h=>h) (Or.inl ⟨by rfl,?_⟩) (by assumption) ?_
   ·intro u' hSu
    (try simp only[List.getElem_toArray,List.getElem_cons_zero,List.getElem_cons_succ])
    obtain⟨s0,s1,s2,s3,s4,s5,s6,s7⟩:=hSu
    go_simp
   (try simp only[List.getElem_toArray,List.getElem_cons_zero,List.getElem_cons_succ])
   (try simp only[Act.put,List.setIfInBounds_toArray,List.set_cons_zero,List.set_cons_succ])
   refine wpAnyH_take (i:=3) (oi:=_) (v:=.pointer (some ⟨w.heap.size,2,none⟩)) rfl (by kernel_rfl) (by kernel_rfl) (by kernel_rfl) (fun _ _ _ h=>h) (Or.inl ⟨by rfl,?_⟩) (by assumption) ?_
   ·intro u' hSu
    (try simp only[List.getElem_toArray,List.getElem_cons_zero,List.getElem_cons_succ])
    go_simp
   (try simp only[List.getElem_toArray,List.getElem_cons_zero,List.getElem_cons_succ])
   (try simp only[Act.put,List.setIfInBounds_toArray,List.set_cons_zero,List.set_cons_succ])
   refine wpAnyH_take (i:=4) (oi:=_) (v:=.slice (some ⟨gc,oc,none⟩) n cc) rfl (by kernel_rfl) (by kernel_rfl) (by kernel_rfl) (fun _ _ _ h=>h) (Or.inl ⟨by rfl,?_⟩) (by assumption) ?_
   ·intro u' hSu
    (try simp only[List.getElem_toArray,List.getElem_cons_zero,List.getElem_cons_succ])
    obtain⟨s0,s1,s2,s3,s4,s5,s6,s7⟩:=hSu
    go_simp
   (try simp only[List.getElem_toArray,List.getElem_cons_zero,List.getElem_cons_succ])
   (try simp only[Act.put,List.setIfInBounds_toArray,List.set_cons_zero,List.set_cons_succ])
   refine wpAnyH_take (i:=5) (oi:=_) (v:=.int .i64 (i:Nat)) rfl (by kernel_rfl) (by kernel_rfl) (by kernel_rfl) (fun _ _ _ h=>h) (Or.inl ⟨by rfl,?_⟩) (by assumption) ?_
   ·intro u' hSu
    (try simp only[List.getElem_toArray,List.getElem_cons_zero,List.getElem_cons_succ])
    go_simp
   (try simp only[List.getElem_toArray,List.getElem_cons_zero,List.getElem_cons_succ])
   (try simp only[Act.put,List.setIfInBounds_toArray,List.set_cons_zero,List.set_cons_succ])
   refine wpAnyH_take (i:=6) (oi:=_) (v:=.pointer (some ⟨gc,oc+i,none⟩)) rfl (by kernel_rfl) (by kernel_rfl) (by kernel_rfl) (fun _ _ _ h=>h) (Or.inl ⟨by rfl,?_⟩) (by assumption) ?_
   ·intro u' hSu
    (try simp only[List.getElem_toArray,List.getElem_cons_zero,List.getElem_cons_succ])
    go_simp
   (try simp only[List.getElem_toArray,List.getElem_cons_zero,List.getElem_cons_succ])
   (try simp only[Act.put,List.setIfInBounds_toArray,List.set_cons_zero,List.set_cons_succ])
   refine wpAnyH_take (i:=7) (oi:=_) (v:=.slice (some ⟨gr,or_,none⟩) rn cr) rfl (by kernel_rfl) (by kernel_rfl) (by kernel_rfl) (fun _ _ _ h=>h) (Or.inl ⟨by rfl,?_⟩) (by assumption) ?_
   ·intro u' hSu
    (try simp only[List.getElem_toArray,List.getElem_cons_zero,List.getElem_cons_succ])
    obtain⟨s0,s1,s2,s3,s4,s5,s6,s7⟩:=hSu
    go_simp
   (try simp only[List.getElem_toArray,List.getElem_cons_zero,List.getElem_cons_succ])
   (try simp only[Act.put,List.setIfInBounds_toArray,List.set_cons_zero,List.set_cons_succ])
   refine wpAnyH_take (i:=8) (oi:=_) (v:=.int .i64 (x:Nat)) rfl (by kernel_rfl) (by kernel_rfl) (by kernel_rfl) (fun _ _ _ h=>h) (Or.inl ⟨by rfl,?_⟩) (by assumption) ?_
   ·intro u' hSu
    (try simp only[List.getElem_toArray,List.getElem_cons_zero,List.getElem_cons_succ])
    go_simp
   (try simp only[List.getElem_toArray,List.getElem_cons_zero,List.getElem_cons_succ])
   (try simp only[Act.put,List.setIfInBounds_toArray,List.set_cons_zero,List.set_cons_succ])
   refine wpAnyH_take (i:=9) (oi:=_) (v:=.pointer (some ⟨gr,or_+x*3,none⟩)) rfl (by kernel_rfl) (by kernel_rfl) (by kernel_rfl) (fun _ _ _ h=>h) (Or.inl ⟨by rfl,?_⟩) (by assumption) ?_
   ·intro u' hSu
    (try simp only[List.getElem_toArray,List.getElem_cons_zero,List.getElem_cons_succ])
    go_simp
   (try simp only[List.getElem_toArray,List.getElem_cons_zero,List.getElem_cons_succ])
   (try simp only[Act.put,List.setIfInBounds_toArray,List.set_cons_zero,List.set_cons_succ])
   refine wpAnyH_take (i:=10) (oi:=_) (v:=.agg #[.bool bn,.string bx,.string by_]) rfl (by kernel_rfl) (by kernel_rfl) (by kernel_rfl) (fun _ _ _ h=>h) (Or.inl ⟨by rfl,?_⟩) (by assumption) ?_
   ·intro u' hSu
    (try simp only[List.getElem_toArray,List.getElem_cons_zero,List.getElem_cons_succ])
    obtain⟨s0,s1,s2,s3,s4,s5,s6,s7⟩:=hSu
    go_simp
   (try simp only[List.getElem_toArray,List.getElem_cons_zero,List.getElem_cons_succ])
   (try simp only[Act.put,List.setIfInBounds_toArray,List.set_cons_zero,List.set_cons_succ])
   refine wpAnyH_ready (rs:=[11]) (by kernel_rfl) (by simp) (AllReadyH.cons rfl ?_ (AllReadyH.nil))
   ·intro K' hK'
    (try simp only[List.getElem_toArray,List.getElem_cons_zero,List.getElem_cons_succ])
    go_simp
    refine(HMU.out _).mono ?_
    rintro e u1 ⟨rfl,hb⟩
    replace HK:=hid (HK.out.step hb)
    replace HHd:=hid (HHd.out.below hb HHd.out.lt)
    refine hK'.out _ _ (HELD.out _ _ HK.out HHd.out.cells.2.2) (fun hSe=>?_)
    clear hK' K' hSd
    have hSd:=hSe
    clear hSe hb
    (try simp only[List.getElem_toArray,List.getElem_cons_zero,List.getElem_cons_succ])
    (try simp only[Act.put,List.setIfInBounds_toArray,List.set_cons_zero,List.set_cons_succ])
    refine wpAnyH_take (i:=12) (oi:=_) (v:=.pointer (some ⟨w.heap.size+1,i*3,none⟩)) rfl (by kernel_rfl) (by kernel_rfl) (by kernel_rfl) (fun _ _ _ h=>h) (Or.inl ⟨by rfl,?_⟩) (by assumption) ?_
    ·intro u' hSu
     (try simp only[List.getElem_toArray,List.getElem_cons_zero,List.getElem_cons_succ])
     go_simp
    (try simp only[List.getElem_toArray,List.getElem_cons_zero,List.getElem_cons_succ])
    (try simp only[Act.put,List.setIfInBounds_toArray,List.set_cons_zero,List.set_cons_succ])
    obtain⟨k0,k1,k2⟩:=HK.out.mf.row.cells i (by rw[partF_length _ (by omega)];omega)
    have f0:=HK.out.mf.row.fz (i*3)
    have f1:=HK.out.mf.row.fz (i*3+1)
    have f2:=HK.out.mf.row.fz (i*3+2)
    generalize (partF FL i)[i]'(by rw[partF_length _ (by omega)];omega)=z at *
    obtain⟨zn,zx,zy⟩:=z
    simp only at k0 k1 k2
    refine wpAnyH_ready (rs:=[13]) (by kernel_rfl) (by simp) (AllReadyH.cons rfl ?_ (AllReadyH.nil))
    ·intro K' hK'
     (try simp only[List.getElem_toArray,List.getElem_cons_zero,List.getElem_cons_succ])
     go_simp
     have HHp:Hid (HBox (((u1.setCell ⟨w.heap.size+1,i*3,none⟩ (.bool qf.1)).setCell ⟨w.heap.size+1,i*3+1,none⟩ (.string qf.2.1)).setCell ⟨w.heap.size+1,i*3+2,none⟩ (.string qf.2.2)) w.heap.size (.slice a n1 ca) (.slice b n2 cb) (.slice (some ⟨gc,oc,none⟩) n cc)):=(((Below.heap_setCell _ ⟨w.heap.size+1,i*3+2,none⟩ _ w.heap.size (by simp)).trans (Below.heap_setCell _ ⟨w.heap.size+1,i*3+1,none⟩ _ w.heap.size (by simp))).trans (Below.heap_setCell _ ⟨w.heap.size+1,i*3,none⟩ _ w.heap.size (by simp))).trans HHd.out
     refine hK'.out _ _ (HELD.out _ _ (HK.out.put hne hG i qf) HHp.out.cells.2.2) (fun _=>wpAnyH_done (by kernel_rfl) ?_ _)
     clear hK' K' hSd
     replace HK:=hid (HK.out.put hne hG i qf)
     rw[HPS.out] at HK
     clear k0 k1 k2 f0 f1 f2
     go_wp2
     go_roundw
     case rel=>exact⟨i+1,by omega,by go_num,HK.out.mf,HHp⟩
     case measure=>simp[intOf];omega
  ·obtain rfl:i=n:=by omega
   have hfin:=HK1.out.row
   rw[←hfl,partF_all] at hfin
   have HFI:=hid hfin
   clear hfin
   go_wp2
   go_ret
   exact⟨w.heap.size+1,rfl,by omega,HFI.out,HK1.out.bel⟩
set_option maxRecDepth 100000 in
set_option maxHeartbeats 2000000 in
theorem chMoved_any (a c:Option Addr) (ca cc n:Nat) (l:List Fr) (R:List (List Fr)) (f:Nat→Rat) (g:Nat→Nat→Rat) (w:World) (ha:FrS w a l) (hR:FsS w c R) (hf:Lst n f l) (hRl:R.length=n) (hg:∀i (h:i<R.length),Lst n (g i) R[i]) (hsz:∀i j,i<n→j<n→qw (f i*g i j)≤30010) (hps:∀j k,j<n→k≤n→qw (sumR (fun i=>f i*g i j) k)≤40000) (hn:n≤4):
  Calls Tryz.prog 106 #[.slice a n ca,.slice c n cc] w fun e w'=>∃G,e=.returned (.slice (some ⟨G,0,none⟩) n n)∧w.heap.size≤G∧RowF w' G (lF n fun j=>sumR (fun i=>f i*g i j) n)∧Below w.heap.size w w':=by
 obtain⟨i0,hi0,hz0,hz1,hz2⟩:=info_parts Tryz.infoFrac
 have HFA:=hid ha
 have HFR:=hid hR
 have HLA:=hid hf
 have HG:=hid hg
 have HSZ:=hid hsz
 have HPQ:=hid hps
 have HRL:=hid hRl
 clear ha hR hf hg hsz hRl hps
 have hfl:=lF_length n fun j=>sumR (fun i=>f i*g i j) n
 have HFG:=hid (fun j (hj:j<n)=>lF_get? (f:=fun j=>sumR (fun i=>f i*g i j) n) hj)
 generalize (lF n fun j=>sumR (fun i=>f i*g i j) n)=FL at *
 go_enter Tryz.func106,Tryz.ntmps106
 go_upto_region 2 with (at_make;refine wpList_make_full _ rfl _ _ 22 rfl w.heap.size 30 i0 (.agg #[.bool false,.string ⟨#[]⟩,.string ⟨#[]⟩]) 3 Tryz.underlying22 hi0 hz0 hz1 .i64 .i64 _ _ n rfl rfl (by go_num) (by go_num) (by rw[hz2];omega) (by unfold maxLen;omega) (Nat.le_refl _) ?_;intro w2 hown2 hgrow2)
 have hb2:=block_of_own3 hown2
 rw[made_frs] at hb2
 have hB2:Below w.heap.size w w2:=(Below.refl _ w).grown hgrow2 (Nat.le_refl _) (fun k e=>by cases e)
 have HK0:Hid (MF w w.heap.size (partF FL 0) w2):=⟨by rw[partF_zero,hfl];exact hb2,hB2⟩
 clear hown2 hgrow2 hb2 hB2
 go_wp2_with fail
 go_loopw [14] (fun jv wr=>∃j:Nat,j≤n∧jv=.int .i64 j∧Hid (MF w w.heap.size (partF FL j) wr)) (fun jv _=>n - (intOf jv).toNat)
 case atStart=>exact⟨0,Nat.zero_le _,rfl,HK0⟩
 case round=>
  obtain⟨j,hj,rfl,HK⟩:=hrel
  clear HK0
  by_cases hjl:j<n
  ·have htl:=lF_length n fun i=>f i*g i j
   have HTG:=hid (fun i (hi:i<n)=>lF_get? (f:=fun i=>f i*g i j) hi)
   have HTL:Hid (Lst n (fun i=>f i*g i j) (lF n fun i=>f i*g i j)):=Lst.mk' fun i hi=>HSZ.out i j hi hjl
   generalize (lF n fun i=>f i*g i j)=TL at *
   generalize wr=W at *
   go_upto_region 6 with (at_make;refine wpList_make_full _ rfl _ _ 22 rfl W.heap.size 30 i0 (.agg #[.bool false,.string ⟨#[]⟩,.string ⟨#[]⟩]) 3 Tryz.underlying22 hi0 hz0 hz1 .i64 .i64 _ _ n rfl rfl (by go_num) (by go_num) (by rw[hz2];omega) (by unfold maxLen;omega) (Nat.le_refl _) ?_;intro w2 hown2 hgrow2)
   have hb2:=block_of_own3 hown2
   rw[made_frs] at hb2
   have hB2:Below W.heap.size W w2:=(Below.refl _ W).grown hgrow2 (Nat.le_refl _) (fun k e=>by cases e)
   have HI0:Hid (MF W W.heap.size (partF TL 0) w2):=⟨by rw[partF_zero,htl];exact hb2,hB2⟩
   clear hown2 hgrow2 hb2 hB2
   go_wp2_with fail
   go_loopw [22] (fun iv wr=>∃i:Nat,i≤n∧iv=.int .i64 i∧Hid (MF W W.heap.size (partF TL i) wr)) (fun iv _=>n - (intOf iv).toNat)
   case atStart=>exact⟨0,Nat.zero_le _,rfl,HI0⟩
   case round=>
    obtain⟨i,hi,rfl,HI⟩:=hrel
    clear HI0
    by_cases hlt:i<n
    ·have hia:i<l.length:=by rw[HLA.out.len];exact hlt
     have hiR:i<R.length:=by rw[HRL.out];exact hlt
     have hjr:j<R[i].length:=by rw[(HG.out i hiR).len];exact hjl
     obtain⟨ga,oa,rfl,hga,a0,a1,a2⟩:=HFA.out i hia
     obtain⟨gc,oc,bc,cr,rfl,hgc,c0,hrow,hcr⟩:=HFR.out i hiR
     obtain⟨gr,or_,rfl,hgr,b0,b1,b2⟩:=hrow j hjr
     obtain⟨hd1,hd2⟩:=List.getElem?_eq_some_iff.1 (HTG.out i hlt)
     have HPS:=hid (partF_set TL hd1)
     rw[hd2] at HPS
     have hrl:=(HG.out i hiR).len
     have HMU:Hid (∀V:World,Calls Tryz.prog 54 #[.agg #[.bool l[i].1,.string l[i].2.1,.string l[i].2.2],.agg #[.bool R[i][j].1,.string R[i][j].2.1,.string R[i][j].2.2]] V fun e w'=>e=.returned (.agg #[.bool (qF (f i*g i j)).1,.string (qF (f i*g i j)).2.1,.string (qF (f i*g i j)).2.2])∧Below V.heap.size V w'):=fun V=>by
      have h1:=HLA.out.size i hia
      have h2:=(HG.out i hiR).size j hjr
      exact fMul_q (f i*g i j) (HLA.out.is i hia) ((HG.out i hiR).is j hjr) rfl (by omega) (by omega)
     clear hd1 hd2 hrow
     generalize qF (f i*g i j)=qf at *
     generalize l[i].1=an at *
     generalize l[i].2.1=ax at *
     generalize l[i].2.2=ay at *
     generalize R[i][j].1=bn at *
     generalize R[i][j].2.1=bx at *
     generalize R[i][j].2.2=by_ at *
     generalize R[i].length=rn at *
     go_upto_region 9 with fail
     have HELD:Hid (∀u,Below W.heap.size W u→u.cell? ⟨ga,oa+i*3,none⟩=some (.bool an)∧u.cell? ⟨ga,oa+i*3+1,none⟩=some (.string ax)∧u.cell? ⟨ga,oa+i*3+2,none⟩=some (.string ay)∧u.cell? ⟨gc,oc+i,none⟩=some (.slice (some ⟨gr,or_,none⟩) rn cr)∧u.cell? ⟨gr,or_+j*3,none⟩=some (.bool bn)∧u.cell? ⟨gr,or_+j*3+1,none⟩=some (.string bx)∧u.cell? ⟨gr,or_+j*3+2,none⟩=some (.string by_)):=fun u h0=>by
      have h:=HK.out.bel.trans (h0.mono HK.out.bel.size)
      exact⟨(h.cell (p:=⟨ga,_,none⟩) hga).trans a0,(h.cell (p:=⟨ga,_,none⟩) hga).trans a1,(h.cell (p:=⟨ga,_,none⟩) hga).trans a2,(h.cell (p:=⟨gc,_,none⟩) hgc).trans c0,(h.cell (p:=⟨gr,_,none⟩) hgr).trans b0,(h.cell (p:=⟨gr,_,none⟩) hgr).trans b1,(h.cell (p:=⟨gr,_,none⟩) hgr).trans b2⟩
     clear a0 a1 a2 c0 b0 b1 b2
     replace HI:=hid HI.out.drew
     refine wp_region_held_drew (S:=fun u=>u.cell? ⟨ga,oa+i*3,none⟩=some (.bool an)∧u.cell? ⟨ga,oa+i*3+1,none⟩=some (.string ax)∧u.cell? ⟨ga,oa+i*3+2,none⟩=some (.string ay)∧u.cell? ⟨gc,oc+i,none⟩=some (.slice (some ⟨gr,or_,none⟩) rn cr)∧u.cell? ⟨gr,or_+j*3,none⟩=some (.bool bn)∧u.cell? ⟨gr,or_+j*3+1,none⟩=some (.string bx)∧u.cell? ⟨gr,or_+j*3+2,none⟩=some (.string by_)) (by kernel_rfl) (HELD.out _ HI.out.bel) (fun hSd=>?_)
     generalize wr.drew=u0 at *
     refine wpAnyH_take (i:=0) (oi:=_) (v:=.slice (some ⟨W.heap.size,0,none⟩) n n) rfl (by kernel_rfl) (by kernel_rfl) (by kernel_rfl) (fun _ _ _ h=>h) (Or.inl ⟨by rfl,?_⟩) (by assumption) ?_
     ·intro u' hSu
      (try simp only[List.getElem_toArray,List.getElem_cons_zero])
      go_simp
     (try simp only[List.getElem_toArray,List.getElem_cons_zero])
     (try simp only[Act.put,List.setIfInBounds_toArray,List.set_cons_zero,List.set_cons_succ])
     refine wpAnyH_take (i:=1) (oi:=_) (v:=.int .i64 (i:Nat)) rfl (by kernel_rfl) (by kernel_rfl) (by kernel_rfl) (fun _ _ _ h=>h) (Or.inl ⟨by rfl,?_⟩) (by assumption) ?_
     ·intro u' hSu
      (try simp only[List.getElem_toArray,List.getElem_cons_zero,List.getElem_cons_succ])
      go_simp
     (try simp only[List.getElem_toArray,List.getElem_cons_zero,List.getElem_cons_succ])
     (try simp only[Act.put,List.setIfInBounds_toArray,List.set_cons_zero,List.set_cons_succ])
     refine wpAnyH_take (i:=2) (oi:=_) (v:=.slice (some ⟨ga,oa,none⟩) n ca) rfl (by kernel_rfl) (by kernel_rfl) (by kernel_rfl) (fun _ _ _ h=>h) (Or.inl ⟨by rfl,?_⟩) (by assumption) ?_
     ·intro u' hSu
      (try simp only[List.getElem_toArray,List.getElem_cons_zero,List.getElem_cons_succ])
      go_simp
     (try simp only[List.getElem_toArray,List.getElem_cons_zero,List.getElem_cons_succ])
     (try simp only[Act.put,List.setIfInBounds_toArray,List.set_cons_zero,List.set_cons_succ])
     refine wpAnyH_take (i:=3) (oi:=_) (v:=.int .i64 (i:Nat)) rfl (by kernel_rfl) (by kernel_rfl) (by kernel_rfl) (fun _ _ _ h=>h) (Or.inl ⟨by rfl,?_⟩) (by assumption) ?_
     ·intro u' hSu
      (try simp only[List.getElem_toArray,List.getElem_cons_zero,List.getElem_cons_succ])
      go_simp
     (try simp only[List.getElem_toArray,List.getElem_cons_zero,List.getElem_cons_succ])
     (try simp only[Act.put,List.setIfInBounds_toArray,List.set_cons_zero,List.set_cons_succ])
     refine wpAnyH_take (i:=4) (oi:=_) (v:=.pointer (some ⟨ga,oa+i*3,none⟩)) rfl (by kernel_rfl) (by kernel_rfl) (by kernel_rfl) (fun _ _ _ h=>h) (Or.inl ⟨by rfl,?_⟩) (by assumption) ?_
     ·intro u' hSu
      (try simp only[List.getElem_toArray,List.getElem_cons_zero,List.getElem_cons_succ])
      go_simp
     (try simp only[List.getElem_toArray,List.getElem_cons_zero,List.getElem_cons_succ])
     (try simp only[Act.put,List.setIfInBounds_toArray,List.set_cons_zero,List.set_cons_succ])
     refine wpAnyH_take (i:=5) (oi:=_) (v:=.agg #[.bool an,.string ax,.string ay]) rfl (by kernel_rfl) (by kernel_rfl) (by kernel_rfl) (fun _ _ _ h=>h) (Or.inl ⟨by rfl,?_⟩) (by assumption) ?_
     ·intro u' hSu
      (try simp only[List.getElem_toArray,List.getElem_cons_zero,List.getElem_cons_succ])
      obtain⟨s0,s1,s2,s3,s4,s5,s6⟩:=hSu
      go_simp
     (try simp only[List.getElem_toArray,List.getElem_cons_zero,List.getElem_cons_succ])
     (try simp only[Act.put,List.setIfInBounds_toArray,List.set_cons_zero,List.set_cons_succ])
     refine wpAnyH_take (i:=6) (oi:=_) (v:=.slice (some ⟨gc,oc,none⟩) n cc) rfl (by kernel_rfl) (by kernel_rfl) (by kernel_rfl) (fun _ _ _ h=>h) (Or.inl ⟨by rfl,?_⟩) (by assumption) ?_
     ·intro u' hSu
      (try simp only[List.getElem_toArray,List.getElem_cons_zero,List.getElem_cons_succ])
      go_simp
     (try simp only[List.getElem_toArray,List.getElem_cons_zero,List.getElem_cons_succ])
     (try simp only[Act.put,List.setIfInBounds_toArray,List.set_cons_zero,List.set_cons_succ])
     refine wpAnyH_take (i:=7) (oi:=_) (v:=.int .i64 (i:Nat)) rfl (by kernel_rfl) (by kernel_rfl) (by kernel_rfl) (fun _ _ _ h=>h) (Or.inl ⟨by rfl,?_⟩) (by assumption) ?_
     ·intro u' hSu
      (try simp only[List.getElem_toArray,List.getElem_cons_zero,List.getElem_cons_succ])
      go_simp
     (try simp only[List.getElem_toArray,List.getElem_cons_zero,List.getElem_cons_succ])
     (try simp only[Act.put,List.setIfInBounds_toArray,List.set_cons_zero,List.set_cons_succ])
     refine wpAnyH_take (i:=8) (oi:=_) (v:=.pointer (some ⟨gc,oc+i,none⟩)) rfl (by kernel_rfl) (by kernel_rfl) (by kernel_rfl) (fun _ _ _ h=>h) (Or.inl ⟨by rfl,?_⟩) (by assumption) ?_
     ·intro u' hSu
      (try simp only[List.getElem_toArray,List.getElem_cons_zero,List.getElem_cons_succ])
      go_simp
     (try simp only[List.getElem_toArray,List.getElem_cons_zero,List.getElem_cons_succ])
     (try simp only[Act.put,List.setIfInBounds_toArray,List.set_cons_zero,List.set_cons_succ])
     refine wpAnyH_take (i:=9) (oi:=_) (v:=.slice (some ⟨gr,or_,none⟩) rn cr) rfl (by kernel_rfl) (by kernel_rfl) (by kernel_rfl) (fun _ _ _ h=>h) (Or.inl ⟨by rfl,?_⟩) (by assumption) ?_
     ·intro u' hSu
      (try simp only[List.getElem_toArray,List.getElem_cons_zero,List.getElem_cons_succ])
      obtain⟨s0,s1,s2,s3,s4,s5,s6⟩:=hSu
      go_simp
     (try simp only[List.getElem_toArray,List.getElem_cons_zero,List.getElem_cons_succ])
     (try simp only[Act.put,List.setIfInBounds_toArray,List.set_cons_zero,List.set_cons_succ])
     refine wpAnyH_take (i:=10) (oi:=_) (v:=.int .i64 (j:Nat)) rfl (by kernel_rfl) (by kernel_rfl) (by kernel_rfl) (fun _ _ _ h=>h) (Or.inl ⟨by rfl,?_⟩) (by assumption) ?_
     ·intro u' hSu
      (try simp only[List.getElem_toArray,List.getElem_cons_zero,List.getElem_cons_succ])
      go_simp
     (try simp only[List.getElem_toArray,List.getElem_cons_zero,List.getElem_cons_succ])
     (try simp only[Act.put,List.setIfInBounds_toArray,List.set_cons_zero,List.set_cons_succ])
     refine wpAnyH_take (i:=11) (oi:=_) (v:=.pointer (some ⟨gr,or_+j*3,none⟩)) rfl (by kernel_rfl) (by kernel_rfl) (by kernel_rfl) (fun _ _ _ h=>h) (Or.inl ⟨by rfl,?_⟩) (by assumption) ?_
     ·intro u' hSu
      (try simp only[List.getElem_toArray,List.getElem_cons_zero,List.getElem_cons_succ])
      go_simp
     (try simp only[List.getElem_toArray,List.getElem_cons_zero,List.getElem_cons_succ])
     (try simp only[Act.put,List.setIfInBounds_toArray,List.set_cons_zero,List.set_cons_succ])
     refine wpAnyH_take (i:=12) (oi:=_) (v:=.agg #[.bool bn,.string bx,.string by_]) rfl (by kernel_rfl) (by kernel_rfl) (by kernel_rfl) (fun _ _ _ h=>h) (Or.inl ⟨by rfl,?_⟩) (by assumption) ?_
     ·intro u' hSu
      (try simp only[List.getElem_toArray,List.getElem_cons_zero,List.getElem_cons_succ])
      obtain⟨s0,s1,s2,s3,s4,s5,s6⟩:=hSu
      go_simp
     (try simp only[List.getElem_toArray,List.getElem_cons_zero,List.getElem_cons_succ])
     (try simp only[Act.put,List.setIfInBounds_toArray,List.set_cons_zero,List.set_cons_succ])
     refine wpAnyH_ready (rs:=[13]) (by kernel_rfl) (by simp) (AllReadyH.cons rfl ?_ (AllReadyH.nil))
     ·intro K' hK'
      (try simp only[List.getElem_toArray,List.getElem_cons_zero,List.getElem_cons_succ])
      go_simp
      refine(HMU.out _).mono ?_
      rintro e u1 ⟨rfl,hb⟩
      replace HI:=hid (HI.out.step hb)
      refine hK'.out _ _ (HELD.out _ HI.out.bel) (fun hSe=>?_)
      clear hK' K' hSd
      have hSd:=hSe
      clear hSe hb
      (try simp only[List.getElem_toArray,List.getElem_cons_zero,List.getElem_cons_succ])
      (try simp only[Act.put,List.setIfInBounds_toArray,List.set_cons_zero,List.set_cons_succ])
      refine wpAnyH_take (i:=14) (oi:=_) (v:=.pointer (some ⟨W.heap.size,i*3,none⟩)) rfl (by kernel_rfl) (by kernel_rfl) (by kernel_rfl) (fun _ _ _ h=>h) (Or.inl ⟨by rfl,?_⟩) (by assumption) ?_
      ·intro u' hSu
       (try simp only[List.getElem_toArray,List.getElem_cons_zero,List.getElem_cons_succ])
       go_simp
      (try simp only[List.getElem_toArray,List.getElem_cons_zero,List.getElem_cons_succ])
      (try simp only[Act.put,List.setIfInBounds_toArray,List.set_cons_zero,List.set_cons_succ])
      obtain⟨k0,k1,k2⟩:=HI.out.row.cells i (by rw[partF_length _ (by omega)];omega)
      have f0:=HI.out.row.fz (i*3)
      have f1:=HI.out.row.fz (i*3+1)
      have f2:=HI.out.row.fz (i*3+2)
      generalize (partF TL i)[i]'(by rw[partF_length _ (by omega)];omega)=z at *
      obtain⟨zn,zx,zy⟩:=z
      simp only at k0 k1 k2
      refine wpAnyH_ready (rs:=[15]) (by kernel_rfl) (by simp) (AllReadyH.cons rfl ?_ (AllReadyH.nil))
      ·intro K' hK'
       (try simp only[List.getElem_toArray,List.getElem_cons_zero,List.getElem_cons_succ])
       go_simp
       refine hK'.out _ _ (HELD.out _ (HI.out.put (Nat.le_refl _) i qf).bel) (fun _=>wpAnyH_done (by kernel_rfl) ?_ _)
       clear hK' K' hSd
       replace HI:=hid (HI.out.put (Nat.le_refl _) i qf)
       rw[HPS.out] at HI
       clear k0 k1 k2 f0 f1 f2
       go_wp2
       go_roundw
       case rel=>exact⟨i+1,by omega,by go_num,HI⟩
       case measure=>simp[intOf];omega
    ·obtain rfl:i=n:=by omega
     have hfin:=HI.out.row
     rw[←htl,partF_all] at hfin
     obtain⟨hd1,hd2⟩:=List.getElem?_eq_some_iff.1 (HFG.out j hjl)
     have HPS:=hid (partF_set FL hd1)
     rw[hd2] at HPS
     have HSU:Hid (Calls Tryz.prog 30 #[.slice (some ⟨W.heap.size,0,none⟩) i i] wr fun e w'=>e=.returned (.agg #[.bool (qF (sumR (fun k=>f k*g k j) i)).1,.string (qF (sumR (fun k=>f k*g k j) i)).2.1,.string (qF (sumR (fun k=>f k*g k j) i)).2.2])∧Below wr.heap.size wr w'):=by
      have h:=fSum_cw (some ⟨W.heap.size,0,none⟩) i TL wr hfin.fr (fun q hq=>Nat.le_trans (HTL.out.size q hq) (by omega)) (fun q hq=>by rw[HTL.out.fsumk (by rw[HTL.out.len] at hq;exact hq)];exact HPQ.out j q hjl (by rw[HTL.out.len] at hq;exact hq)) (by rw[HTL.out.len];omega)
      rw[HTL.out.len,HTL.out.fsum] at h
      exact h
     have HB:=hid HI.out.bel
     clear hfin hd1 hd2 HI
     generalize qF (sumR (fun k=>f k*g k j) i)=qf at *
     go_wp2_with fail
     refine HSU.out.mono ?_
     rintro e w5 ⟨rfl,hb5⟩
     replace HK:=hid (HK.out.step (HB.out.trans (hb5.mono HB.out.size)))
     clear hb5
     obtain⟨k0,k1,k2⟩:=HK.out.row.cells j (by rw[partF_length _ (by omega)];omega)
     have f0:=HK.out.row.fz (j*3)
     have f1:=HK.out.row.fz (j*3+1)
     have f2:=HK.out.row.fz (j*3+2)
     generalize (partF FL j)[j]'(by rw[partF_length _ (by omega)];omega)=z at *
     obtain⟨zn,zx,zy⟩:=z
     simp only at k0 k1 k2
     have HK2:=hid (HK.out.put (Nat.le_refl _) j qf)
     rw[HPS.out] at HK2
     go_wp2
     go_roundw
     case rel=>exact⟨j+1,by omega,by go_num,HK2⟩
     case measure=>simp[intOf];omega
  ·obtain rfl:j=n:=by omega
   have hfin:=HK.out.row
   rw[←hfl,partF_all] at hfin
   have HFI:=hid hfin
   clear hfin
   go_wp2
   go_ret
   exact⟨w.heap.size,rfl,Nat.le_refl _,HFI.out,HK.out.bel⟩
end Go.Proofs.YtgamblainfkiaaaGreatDoor

/- The variables of two tables together. -/
namespace Go.Proofs.YtgamblainfkiaaaGreatDoor
open Go.RowKit Go.Shelf Go.Sort Go.Lib
def togL (la lb:List Int):List Int:=Lib.compact ((la++lb).mergeSort fun x y=>decide (x≤y))
end Go.Proofs.YtgamblainfkiaaaGreatDoor

/- Plain facts for the sums' order: taking two variables out in either order leaves the same numbers; what has nothing of a variable may be taken out of the sum. -/
namespace Go.Proofs.YtgamblainfkiaaaGreatDoor
open Go.RowKit Go.Shelf
def Sml (s:Nat) (l:List Fr):Prop:=∀f∈l,∃q,f=qF q∧qw q≤s
end Go.Proofs.YtgamblainfkiaaaGreatDoor

/- The law's tables: what Out and Product answer there, and that the orders agree. -/
namespace Go.Proofs.YtgamblainfkiaaaGreatDoor
open Go.RowKit Go.Shelf
structure TL (sizes vars:List Int) (l:List Fr) (s:Nat):Prop where
 up:Up vars sizes.length
 len:l.length=cnt (toN sizes) (toN vars)
 sml:Sml s l
end Go.Proofs.YtgamblainfkiaaaGreatDoor

/- The document's answer: Product. -/
namespace Go.Proofs.YtgamblainfkiaaaGreatDoor
open Go.RowKit Go.Shelf
theorem RwI.below {w w':World} {B:Nat} {v:Value} {l:List Int} (h:RwI w B v l) (hb:Below w.heap.size w w'):RwI w' B v l:=by
 refine⟨h.1,h.2.imp id ?_⟩
 rintro⟨g,cap,cur,h1,h2,h3,h4⟩
 exact⟨g,cap,cur,h1,h2,(hb.block g (Array.getElem?_eq_some_iff.1 h3).1).trans h3,h4⟩
end Go.Proofs.YtgamblainfkiaaaGreatDoor

/- The law's raw numbers: Pick, sizesOf, All, Some, Less. -/
namespace Go.Proofs.YtgamblainfkiaaaGreatDoor
open Go.RowKit Go.Shelf
def pickN (c:Int) (n:Nat):Nat:=(if c<0 then(-(c+1)).toNat else c.toNat) % n
theorem pickN_lt (c:Int) {n:Nat} (h:1≤n):pickN c n<n:=Nat.mod_lt _ h
set_option maxRecDepth 100000 in
set_option maxHeartbeats 1000000 in
theorem rPick_same (c:Int) (n:Nat) (w:World) (h1: -9223372036854775808≤c) (h2:c≤9223372036854775807) (hn:1≤n) (hn':n≤1000):
  Calls Tryz.prog 24 #[.int .i64 c,.int .i64 (n:Nat)] w fun e w'=>e=.returned (.int .i64 (pickN c n:Nat))∧w'=w:=by
 have HP:Hid (pickN c n=(if c<0 then(-(c+1)).toNat else c.toNat) % n):=rfl
 have hlt:=pickN_lt c hn
 generalize pickN c n=P at *
 by_cases hc:c<0
 ·rw[if_pos hc] at HP
  obtain⟨d,hd⟩:∃d:Nat,c= -((d:Int)+1):=⟨(-(c+1)).toNat,by omega⟩
  subst hd
  have HE:Hid ((d:Int) % (n:Int)=(P:Int)):=by
   show _=_
   rw[HP.out,show (-(-((d:Int)+1)+1)).toNat=d by omega,Int.natCast_emod]
  have hw:IntKind.i64.wrap (-((d:Int)+1)+1)= -(d:Int):=by rw[IntKind.wrap_i64];omega
  have hw2:IntKind.i64.wrap (- -(d:Int))=(d:Int):=by rw[IntKind.wrap_i64];omega
  go_enter Tryz.func24,Tryz.ntmps24
  go_wp2
  go_ret
  exact⟨by rw[HE.out];rfl,rfl⟩
 ·rw[if_neg hc] at HP
  obtain⟨d,rfl⟩:∃d:Nat,c=d:=⟨c.toNat,by omega⟩
  have HE:Hid ((d:Int) % (n:Int)=(P:Int)):=by
   show _=_
   rw[HP.out,Int.toNat_natCast,Int.natCast_emod]
  go_enter Tryz.func24,Tryz.ntmps24
  go_wp2
  go_ret
  exact⟨by rw[HE.out];rfl,rfl⟩
theorem rPick_any (c:Int) (n:Nat) (w:World) (h1: -9223372036854775808≤c) (h2:c≤9223372036854775807) (hn:1≤n) (hn':n≤1000):
  Calls Tryz.prog 24 #[.int .i64 c,.int .i64 (n:Nat)] w fun e w'=>e=.returned (.int .i64 (pickN c n:Nat))∧Below w.heap.size w w':=by
 refine(rPick_same c n w h1 h2 hn hn').mono ?_
 rintro e w' ⟨h,rfl⟩
 exact⟨h,Below.refl _ _⟩
end Go.Proofs.YtgamblainfkiaaaGreatDoor

/- The law's comparison of two answers beside errors. -/
namespace Go.Proofs.YtgamblainfkiaaaGreatDoor
open Go.RowKit
set_option maxRecDepth 100000 in
set_option maxHeartbeats 1000000 in
theorem lawNought_any (w:World):
  Calls Tryz.prog 43 #[.agg #[.bool false,.string ⟨#[]⟩,.string ⟨#[]⟩]] w fun e w'=>e=.returned (.bool true)∧Below w.heap.size w w':=by
 go_enter Tryz.func43,Tryz.ntmps43
 have hB0:Below w.heap.size w (w.alloc (FC false ⟨#[]⟩ ⟨#[]⟩)):=(Below.refl _ w).alloc (Nat.le_refl _) _
 go_wp2_with fail
 go_quiet (fail)
 go_wp2
 go_ret
 exact⟨rfl,below_drewN hB0 _⟩
set_option maxRecDepth 100000 in
set_option maxHeartbeats 1000000 in
theorem oneFrac_ok (n:Bool) (x y:ByteArray) (w:World):
  Calls Tryz.prog 10 #[.agg #[.bool n,.string x,.string y],.int .i64 0,.agg #[.bool n,.string x,.string y],.int .i64 0] w fun e w'=>e=.returned (.bool true)∧Below w.heap.size w w':=by
 go_enter Tryz.func10,Tryz.ntmps10
 have hB0:Below w.heap.size w ((w.alloc (FC n x y)).alloc (FC n x y)):=((Below.refl _ w).alloc (Nat.le_refl _) _).alloc (by simp) _
 go_wp2
 go_ret
 exact⟨rfl,hB0⟩
set_option maxRecDepth 100000 in
set_option maxHeartbeats 1000000 in
theorem oneFrac_err (k:Int) (hk:¬k=0) (w:World):
  Calls Tryz.prog 10 #[.agg #[.bool false,.string ⟨#[]⟩,.string ⟨#[]⟩],.int .i64 k,.agg #[.bool false,.string ⟨#[]⟩,.string ⟨#[]⟩],.int .i64 k] w fun e w'=>e=.returned (.bool true)∧Below w.heap.size w w':=by
 have hkb:(k==0)=false:=beq_eq_false_iff_ne.2 hk
 go_enter Tryz.func10,Tryz.ntmps10
 have hB0:Below w.heap.size w ((w.alloc (FC false ⟨#[]⟩ ⟨#[]⟩)).alloc (FC false ⟨#[]⟩ ⟨#[]⟩)):=((Below.refl _ w).alloc (Nat.le_refl _) _).alloc (by simp) _
 go_wp2_with fail
 refine(lawNought_any _).mono ?_
 rintro e w1 ⟨rfl,hb1⟩
 have hB1:=hB0.trans (hb1.mono hB0.size)
 go_wp2
 go_ret
 exact⟨rfl,hB1⟩
end Go.Proofs.YtgamblainfkiaaaGreatDoor

/- The law's small functions on tables. -/
namespace Go.Proofs.YtgamblainfkiaaaGreatDoor
open Go.RowKit Go.Shelf
set_option maxRecDepth 100000 in
set_option maxHeartbeats 400000 in
theorem sameInts_any (a b:Option Addr) (ca cb:Nat) (l:List Int) (w:World) (ha:IntS w a l) (hb:IntS w b l) (hn:l.length≤100000):
  Calls Tryz.prog 22 #[.slice a l.length ca,.slice b l.length cb] w fun e w'=>e=.returned (.bool true)∧Below w.heap.size w w':=by
 have HA:=hid ha
 have HB:=hid hb
 clear ha hb
 go_enter Tryz.func22,Tryz.ntmps22
 go_wp2_with fail
 go_loopw [5] (fun iv wr=>∃i:Nat,i≤l.length∧iv=.int .i64 i∧Hid (Below w.heap.size w wr)) (fun iv _=>l.length - (intOf iv).toNat)
 case atStart=>exact⟨0,Nat.zero_le _,rfl,Below.refl _ _⟩
 case round=>
  obtain⟨i,hi,rfl,HW⟩:=hrel
  by_cases hlt:i<l.length
  ·obtain⟨g,o,rfl,hg,c0⟩:=(HA.out.below HW.out) i hlt
   obtain⟨g2,o2,rfl,hg2,c2⟩:=(HB.out.below HW.out) i hlt
   generalize l[i]=x at *
   go_wp2_with fail
   go_quiet (fail)
   go_wp2
   go_roundw
   case rel=>exact⟨i+1,by omega,by go_num,below_dn HW.out _⟩
   case measure=>simp[intOf];omega
  ·obtain rfl:i=l.length:=by omega
   go_wp2
   go_ret
   exact⟨rfl,HW.out⟩
set_option maxRecDepth 100000 in
set_option maxHeartbeats 400000 in
theorem sameFracs_any (a b:Option Addr) (ca cb:Nat) (l:List Fr) (w:World) (ha:FrS w a l) (hb:FrS w b l) (hn:l.length≤100000):
  Calls Tryz.prog 45 #[.slice a l.length ca,.slice b l.length cb] w fun e w'=>e=.returned (.bool true)∧Below w.heap.size w w':=by
 have HA:=hid ha
 have HB:=hid hb
 clear ha hb
 go_enter Tryz.func45,Tryz.ntmps45
 go_wp2_with fail
 go_loopw [5] (fun iv wr=>∃i:Nat,i≤l.length∧iv=.int .i64 i∧Hid (Below w.heap.size w wr)) (fun iv _=>l.length - (intOf iv).toNat)
 case atStart=>exact⟨0,Nat.zero_le _,rfl,Below.refl _ _⟩
 case round=>
  obtain⟨i,hi,rfl,HW⟩:=hrel
  by_cases hlt:i<l.length
  ·obtain⟨g,o,rfl,hg,a0,a1,a2⟩:=(HA.out.below HW.out) i hlt
   obtain⟨g2,o2,rfl,hg2,b0,b1,b2⟩:=(HB.out.below HW.out) i hlt
   generalize l[i]=f at *
   obtain⟨fn,fx,fy⟩:=f
   simp only at a0 a1 a2 b0 b1 b2
   go_wp2_with fail
   go_quiet (fail)
   go_wp2
   go_roundw
   case rel=>exact⟨i+1,by omega,by go_num,below_dn HW.out _⟩
   case measure=>simp[intOf];omega
  ·obtain rfl:i=l.length:=by omega
   go_wp2
   go_ret
   exact⟨rfl,HW.out⟩
end Go.Proofs.YtgamblainfkiaaaGreatDoor

/- The law's raw numbers: tableOf. -/
namespace Go.Proofs.YtgamblainfkiaaaGreatDoor
open Go.RowKit Go.Shelf
theorem wp_append_fr {w:World} {o:Oper} {a:Act} {K:Act→World→Prop} {Q:Exit→Act→World→Prop} (s x:Operand)
  (ho:o.op=.call {callee:=.builtin .append,args:= #[s,x],argTypes:= #[22,22]}) (base:Nat) (v:Value) (l:List Fr) (f:Fr) (hs:a.eval s=v) (hown:RwF w base v l) (g:Nat) (hx:a.eval x=.slice (some ⟨g,0,none⟩) 1 1) (hg:Box w g f.1 f.2.1 f.2.2) (hlen:l.length+1≤100000) (hbase:base≤w.heap.size)
  (h:∀v' w',RwF w' base v' (l++[f])→w.grownBy w' v.ownBlock→K (a.put o.dst v') w'):o.wp Tryz.prog a w K Q:=by
 obtain⟨i0,hi0,hz0,hz1,hz2⟩:=info_parts Tryz.infoFrac
 refine wp_append_own _ s x 22 ho base 30 i0 (.agg #[.bool false,.string ⟨#[]⟩,.string ⟨#[]⟩]) 3 40 Tryz.underlying22 hi0 hz0 hz1 hz2 rfl (by decide) v l.length _ hs hown ⟨g,0,none⟩ 1 1 [.bool f.1,.string f.2.1,.string f.2.2] hx rfl ?_ ?_ (by unfold maxLen;omega) (by omega) hbase ?_
 ·intro j u hj
  match j,hj with
  |0,hj=>cases hj;exact hg.c0
  |1,hj=>cases hj;exact hg.c1
  |2,hj=>cases hj;exact hg.c2
  |j+3,hj=>simp at hj
 ·intro u hu
  simp only[List.mem_cons,List.not_mem_nil,or_false] at hu
  rcases hu with rfl |rfl |rfl<;>rfl
 ·intro v' w' h1 h2 _
  refine h v' w' ?_ h2
  rw[RwF,List.length_append,frC_snoc]
  exact h1
theorem mkRat_int (k:Int):mkRat k 1=(k:Rat):=by
 rw[Rat.mkRat_one]
end Go.Proofs.YtgamblainfkiaaaGreatDoor

/- Plain facts on decimal numerals in groups of nine digits. -/
namespace Go.Proofs.YtgamblainfkiaaaGreatDoor
open Go
theorem dec_small {u:Nat} (h:u<10):Lib.decDigits u=[UInt8.ofNat (48+u)]:=by rw[Lib.decDigits,dif_pos h]
theorem dec_big {u:Nat} (h:¬u<10):Lib.decDigits u=Lib.decDigits (u/10)++[UInt8.ofNat (48+u % 10)]:=by rw[Lib.decDigits,dif_neg h]
end Go.Proofs.YtgamblainfkiaaaGreatDoor

/- The document's answer: NatText. -/
namespace Go.Proofs.YtgamblainfkiaaaGreatDoor
open Go.RowKit Go.Lib
theorem dec_len (k:Nat):∀n,n<10^(k+1)→(decDigits n).length≤k+1:=by
 induction k with
 |zero=>intro n h;rw[dec_small (by simpa using h)];simp
 |succ k ih=>
  intro n h
  by_cases h9:n<10
  ·rw[dec_small h9];simp
  ·rw[dec_big h9,List.length_append]
   have:=ih (n/10) (by rw[Nat.pow_succ] at h;omega)
   simp
   omega
theorem dec_fits {n k:Nat} (h:n<256^k):(decDigits n).length≤3*k+1:=by
 apply dec_len
 have h1:(256:Nat)^k≤(10^3)^k:=Nat.pow_le_pow_left (by decide) k
 rw[←Nat.pow_mul] at h1
 have h2:10^(3*k)≤10^(3*k+1):=Nat.pow_le_pow_right (by decide) (by omega)
 omega
def dg0 (n:Nat):List UInt8:=if n=0 then[] else decDigits n
theorem dg0_step {n:Nat} (h:n≠0):dg0 n=dg0 (n/10)++[UInt8.ofNat (48+n % 10)]:=by
 rw[dg0,if_neg h]
 by_cases h9:n<10
 ·rw[dec_small h9,dg0,if_pos (by omega),List.nil_append,Nat.mod_eq_of_lt h9]
 ·rw[dec_big h9,dg0,if_neg (by omega)]
set_option maxRecDepth 100000 in
set_option maxHeartbeats 1000000 in
theorem rText_any (a:ByteArray) (w:World) (ha:a.size≤500000):
  Calls Tryz.prog 59 #[.string a] w fun e w'=>e=.returned (.string ⟨(decDigits (N a)).toArray⟩)∧Below w.heap.size w w':=by
 have HT:=hide (rTrim_any a w (by omega))
 have sa:=Nat.le_trans (B_size_le a) ha
 have hfit:=dec_fits (B_lt (N a))
 generalize hA':N a=A at *
 clear hA' ha
 by_cases hA0:A=0
 ·subst hA0
  rw[B_zero] at HT
  have HZ:Hid (decDigits 0=[48]):=dec_small (by decide)
  rw[HZ.out]
  clear hfit
  go_enter Tryz.func59,Tryz.ntmps59
  go_wp2_with fail
  refine(HT.out).mono ?_
  rintro e w1 ⟨rfl,hw⟩
  subst hw
  go_wp2
  go_ret
  exact⟨rfl,Below.refl _ _⟩
 ·have hne:=B_full hA0
  have HDA:Hid (dg0 A=decDigits A):=if_neg hA0
  have hN10:N ⟨#[10]⟩=10:=rfl
  go_enter Tryz.func59,Tryz.ntmps59
  go_wp2_with fail
  refine(HT.out).mono ?_
  rintro e w1 ⟨rfl,hw⟩
  subst hw
  clear HT
  go_wp2
  go_loopg [0,3] A (fun n va vs wr=>∃s:ByteArray,va=.string (B n)∧vs=.string s∧(B n).size≤500000∧Hid (dg0 n++s.data.toList=dg0 A)∧Below w1.heap.size w1 wr)
  case atStart=>exact⟨⟨#[]⟩,rfl,rfl,sa,(show _=_ by simp),Below.refl _ _⟩
  case round=>
   obtain⟨s,rfl,rfl,hn,HS,hBr⟩:=hrel
   clear hne
   by_cases h0:gk=0
   ·subst h0
    rw[B_zero]
    have HE:Hid (s=⟨(decDigits A).toArray⟩):=by
     show _=_
     have:=HS.out
     rw[dg0,if_pos rfl,List.nil_append,HDA.out] at this
     apply ByteArray.ext
     apply Array.toList_inj.1
     rw[this]
    go_wp2
    go_ret
    exact⟨by rw[←HE.out];rfl,hBr⟩
   ·have hne:=B_full h0
    have hdv:=fun V=>rDiv_any (B gk) ⟨#[10]⟩ V hn (by show 1≤_;omega) (by rw[hN10];decide)
    rw[N_B,hN10] at hdv
    have HD:=hide hdv
    have hm10:gk % 10<10:=Nat.mod_lt _ (by decide)
    have hsm:(B (gk % 10)).size≤500000:=Nat.le_trans (sz_mono (Nat.mod_le _ _)) hn
    have hdg:=fun V=>digit_any (B (gk % 10)) 0 V (by omega) (by omega)
    rw[N_B,Nat.pow_zero,Nat.div_one,Nat.mod_eq_of_lt (show gk % 10<256 by omega)] at hdg
    have HG:=hide hdg
    have hq:=Nat.le_trans (sz_mono (Nat.div_le_self gk 10)) hn
    have hss:s.size≤1500001:=by
     have e:=congrArg List.length HS.out
     rw[List.length_append,bytes_len,HDA.out] at e
     omega
    have hlt:gk/10<gk:=Nat.div_lt_self (Nat.pos_of_ne_zero h0) (by decide)
    have hst:=dg0_step h0
    have HS2:Hid (dg0 (gk/10)++(strOfNums [48+((gk % 10:Nat):Int)]++s).data.toList=dg0 A):=by
     show _=_
     rw[←HS.out,hst,ByteArray.data_append,Array.toList_append,strOfNums_data,List.append_assoc]
     have this:(48+((gk % 10:Nat):Int)).toNat=48+gk % 10:=by omega
     rw[List.map_cons,List.map_nil,this]
    clear hst hdv hdg hn hsm
    generalize hd':gk % 10=d at *
    clear hd'
    have hconv:=fun V:World=>run_convert_bytes_arg (P:=Tryz.prog) (V.alloc (.cells #[.int .u8 (48+(d:Int))] 5)) 111 5 Tryz.underlying111 Tryz.underlying5 V.heap.size 0 1 1 [48+(d:Int)] rfl (fun i hi=>by
     obtain rfl:i=0:=by omega
     rw[cell_of_row _ V.heap.size (0+0) _ _ (0,0) (heap_alloc_new _ _)]
     rfl) 9 Tryz.underlying9
    have hs1:(strOfNums [48+(d:Int)]).size=1:=strOfNums_size _
    go_wp2_with fail
    refine(HD.out _).mono ?_
    rintro e w2 ⟨rfl,hb2⟩
    go_wp2_with fail
    refine(HG.out _).mono ?_
    rintro e w3 ⟨rfl,hw3⟩
    subst hw3
    have hconv2:=hconv w3
    clear hconv
    go_wp2
    go_roundg (gk/10)
    case measure=>exact hlt
    case rel=>exact⟨strOfNums [48+(d:Int)]++s,rfl,rfl,hq,HS2.out,(hBr.trans (hb2.mono hBr.size)).alloc (hBr.trans (hb2.mono hBr.size)).size _⟩
end Go.Proofs.YtgamblainfkiaaaGreatDoor

/- The document's answer: names of values, and rows of raw weights. -/
namespace Go.Proofs.YtgamblainfkiaaaGreatDoor
open Go.RowKit Go.Shelf Go.Lib
def dgB (i:Nat):ByteArray:=⟨(decDigits i).toArray⟩
theorem dgB_size {i:Nat} (h:i<10):(dgB i).size=1:=by
 rw[dgB,dec_small h]
 rfl
abbrev nmB (c:UInt8) (i:Nat):ByteArray:=⟨#[c]⟩++dgB i
def valsN (k:Nat):List ByteArray:=(List.range k).map (nmB 118)
theorem valsN_succ (k:Nat):valsN (k+1)=valsN k++[nmB 118 k]:=by simp[valsN,List.range_succ]
theorem valsN_length (k:Nat):(valsN k).length=k:=by simp[valsN]
theorem rNumText (i:Nat) (w:World) (hi:i≤1000):Calls Tryz.prog 60 #[.int .i64 (i:Nat)] w fun e w'=>e=.returned (.string (B i))∧Below w.heap.size w w':=by
 have:=rOf_any (i:Int) w (by omega) (by omega)
 rwa [Int.toNat_natCast] at this
theorem rTextOf (i:Nat) (w:World) (hi:i≤1000):Calls Tryz.prog 59 #[.string (B i)] w fun e w'=>e=.returned (.string (dgB i))∧Below w.heap.size w w':=by
 have:=rText_any (B i) w (by
  have h1:(B i).size≤1000:=by rw[B_size];exact Nat.le_trans (bn_fits 2 i (by omega)) (by omega)
  omega)
 rwa [N_B] at this
theorem RwS.empty (w:World) (B:Nat):RwS w B (.slice none 0 0) []:=⟨rfl,.inl ⟨rfl,rfl⟩⟩
theorem RwS.step {w w':World} {B:Nat} {v:Value} {l:List ByteArray} (h:RwS w B v l) (hb:Below w.heap.size w w'):RwS w' B v l:=by
 refine⟨h.1,?_⟩
 rcases h.2 with h1 |⟨g,cap,cur,h1,h2,h3,h4⟩
 ·exact .inl h1
 ·exact .inr ⟨g,cap,cur,h1,h2,(hb.block g (Array.getElem?_eq_some_iff.1 h3).1).trans h3,h4⟩
def rawF (Ls:List Nat):List Fr:=Ls.map fun a:Nat=>qF ((a:Rat)/(Ls.sum:Rat))
theorem rawF_length (Ls:List Nat):(rawF Ls).length=Ls.length:=by simp[rawF]
theorem qw_nat {n:Nat} (h:n<256):qw (n:Rat)≤2:=by
 have h1:(n:Rat).num.natAbs=n:=by simp
 have h2:(n:Rat).den=1:=rfl
 rw[qw,h1,h2,B_size,B_size]
 have h3:=bn_fits 1 n (by omega)
 have h4:=bn_fits 1 1 (by omega)
 omega
theorem sum_le6:∀ {Ls:List Nat},(∀a∈Ls,a≤6)→Ls.sum≤6*Ls.length
 |[],_=>Nat.le_refl _
 |a::l,h=>by
  have h1:=h a List.mem_cons_self
  have h2:=sum_le6 fun b hb=>h b (List.mem_cons_of_mem _ hb)
  simp only[List.sum_cons,List.length_cons]
  omega
theorem rawF_small {Ls:List Nat} (h:∀a∈Ls,a≤6) (hl:Ls.length≤3) (hs:1≤Ls.sum):∀f∈rawF Ls,f.2.1.size+f.2.2.size≤2:=by
 intro f hf
 obtain⟨a,ha,rfl⟩:=List.mem_map.1 hf
 have h6:=sum_le6 h
 have h1:=h a ha
 show (nu ((a:Rat)/(Ls.sum:Rat))).size+(de ((a:Rat)/(Ls.sum:Rat))).size≤2
 rw[own_size]
 have hfit:Fits 1 ((a:Rat)/(Ls.sum:Rat)):=⟨(a:Int),Ls.sum,by omega,by rw[Rat.mkRat_eq_div];rfl,by omega,by simp;omega⟩
 exact fits_qw hfit
end Go.Proofs.YtgamblainfkiaaaGreatDoor
