/- Lists of fractions that packages hidden and chain make: times, shown, moved; the first greatest. -/
import Derived.Test.YtgamblainfkiaaaGreatDoorFillBHxHidQ
namespace Go.Proofs.YtgamblainfkiaaaGreatDoor
open Go.RowKit Go.Shelf
def lF (n:Nat) (f:Nat→Rat):List Fr:=(List.range n).map fun i=>qF (f i)
theorem lF_length (n:Nat) (f:Nat→Rat):(lF n f).length=n:=by simp[lF]
theorem lF_get {n:Nat} {f:Nat→Rat} {i:Nat} (h:i<(lF n f).length):(lF n f)[i]=qF (f i):=by simp[lF]
theorem lF_get? {n:Nat} {f:Nat→Rat} {i:Nat} (h:i<n):(lF n f)[i]? =some (qF (f i)):=by
 rw[List.getElem?_eq_getElem (by rw[lF_length];exact h),lF_get]
theorem lF_congr {n:Nat} {f g:Nat→Rat} (h:∀i,i<n→f i=g i):lF n f=lF n g:=by
 refine List.ext_getElem (by rw[lF_length,lF_length]) fun i h1 h2=>?_
 rw[lF_get,lF_get,h i (by rw[lF_length] at h1;exact h1)]
theorem fsum_lF (f:Nat→Rat):∀n,fsum (lF n f)=sumR f n
 |0=>rfl
 |n+1=>by
  have e:lF (n+1) f=lF n f++[qF (f n)]:=by simp[lF,List.range_succ]
  rw[e,fsum_snoc,fsum_lF f n,sumR]
  congr 1
  exact frQ_qF _
structure Lst (n:Nat) (f:Nat→Rat) (l:List Fr):Prop where
 len:l.length=n
 is:∀i (h:i<l.length),frQ l[i]=f i
 size:∀i (h:i<l.length),l[i].2.1.size+l[i].2.2.size≤30010
theorem Lst.mk' {n:Nat} {f:Nat→Rat} (h:∀i,i<n→qw (f i)≤30010):Lst n f (lF n f):=by
 refine⟨lF_length n f,fun i hi=>by rw[lF_get];exact frQ_qF _,fun i hi=>?_⟩
 rw[lF_get]
 show (nu (f i)).size+(de (f i)).size≤30010
 rw[own_size]
 exact h i (by rw[lF_length] at hi;exact hi)
theorem HC.Sml.qw {D k:Nat} {h:HC} {q:Rat} (m:h.Sml D) (hq:Sm D k q) (hk:k≤3*h.L+1):qw q≤30010:=by
 have h1:=fits_qw (hq.fits m.d0)
 have h2:((B D).size+1)*k≤((B D).size+1)*(3*h.L+1):=Nat.mul_le_mul_left _ hk
 have h3:=m.sz
 omega
theorem Lst.fsum {n:Nat} {f:Nat→Rat}:∀ {l:List Fr},Lst n f l→fsum l=sumR f n:=by
 intro l h
 have key:∀(l:List Fr) (n:Nat),l.length=n→(∀i (h:i<l.length),frQ l[i]=f i)→Go.Proofs.YtgamblainfkiaaaGreatDoor.fsum l=sumR f n:=fun l=>by
  induction l using snoc_ind with
  |h0=>intro n hn _;subst hn;rfl
  |h1 l x ih=>
   intro n hn hi
   obtain rfl:n=l.length+1:=by rw[←hn];simp
   rw[fsum_snoc,sumR,ih l.length rfl fun i h=>?_]
   ·congr 1
    have:=hi l.length (by simp)
    rw[List.getElem_append_right (Nat.le_refl _)] at this
    exact(show frQ x=f l.length by simpa using this)
   ·have:=hi i (by simp;omega)
    rw[List.getElem_append_left h] at this
    exact this
 exact key l n h.len h.is
theorem fsum_isF {f:Nat→Rat}:∀(l:List Fr) (n:Nat),l.length=n→(∀i (h:i<l.length),frQ l[i]=f i)→fsum l=sumR f n:=fun l=>by
 induction l using snoc_ind with
 |h0=>intro n hn _;subst hn;rfl
 |h1 l x ih=>
  intro n hn hi
  obtain rfl:n=l.length+1:=by rw[←hn];simp
  rw[fsum_snoc,sumR,ih l.length rfl fun i h=>?_]
  ·congr 1
   have:=hi l.length (by simp)
   rw[List.getElem_append_right (Nat.le_refl _)] at this
   exact(show frQ x=f l.length by simpa using this)
  ·have:=hi i (by simp;omega)
   rw[List.getElem_append_left h] at this
   exact this
theorem Lst.fsumk {n k:Nat} {f:Nat→Rat} {l:List Fr} (h:Lst n f l) (hk:k≤n):Go.Proofs.YtgamblainfkiaaaGreatDoor.fsum (l.take k)=sumR f k:=by
 refine fsum_isF _ k (by rw[List.length_take,h.len];omega) fun i hi=>?_
 rw[List.getElem_take]
 exact h.is i (by rw[List.length_take] at hi;omega)
structure MF (w:World) (G:Nat) (l:List Fr) (U:World):Prop where
 row:RowF U G l
 bel:Below w.heap.size w U
theorem MF.step {w U U':World} {G:Nat} {l:List Fr} (h:MF w G l U) (hb:Below U.heap.size U U'):MF w G l U':=⟨h.row.below hb h.row.lt,h.bel.trans (hb.mono h.bel.size)⟩
theorem MF.drew {w U:World} {G:Nat} {l:List Fr} (h:MF w G l U):MF w G l U.drew:=⟨h.row,h.bel.drew⟩
theorem MF.put {w U:World} {G:Nat} {l:List Fr} (h:MF w G l U) (hg:w.heap.size≤G) (i:Nat) (f:Fr):MF w G (l.set i f) (((U.setCell ⟨G,i*3,none⟩ (.bool f.1)).setCell ⟨G,i*3+1,none⟩ (.string f.2.1)).setCell ⟨G,i*3+2,none⟩ (.string f.2.2)):=
 ⟨h.row.put i f,((h.bel.setCell (p:=⟨G,i*3,none⟩) hg _).setCell (p:=⟨G,i*3+1,none⟩) hg _).setCell (p:=⟨G,i*3+2,none⟩) hg _⟩
set_option maxRecDepth 100000 in
set_option maxHeartbeats 1000000 in
theorem hTimes_any (a b:Option Addr) (ca cb n:Nat) (la lb:List Fr) (f g:Nat→Rat) (w:World) (ha:FrS w a la) (hb:FrS w b lb) (hf:Lst n f la) (hg:Lst n g lb) (hn:n≤100):
  Calls Tryz.prog 47 #[.slice a n ca,.slice b n cb] w fun e w'=>∃G,e=.returned (.slice (some ⟨G,0,none⟩) n n)∧w.heap.size≤G∧RowF w' G (lF n fun i=>f i*g i)∧Below w.heap.size w w':=by
 obtain⟨i0,hi0,hz0,hz1,hz2⟩:=info_parts Tryz.infoFrac
 have HFA:=hid ha
 have HFB:=hid hb
 have HLA:=hid hf
 have HLB:=hid hg
 clear ha hb hf hg
 have hfl:=lF_length n fun i=>f i*g i
 have HFG:=hid (fun i (hi:i<n)=>lF_get? (f:=fun i=>f i*g i) hi)
 generalize (lF n fun i=>f i*g i)=FL at *
 go_enter Tryz.func47,Tryz.ntmps47
 go_upto_region 2 with (at_make;refine wpList_make_full _ rfl _ _ 22 rfl w.heap.size 30 i0 (.agg #[.bool false,.string ⟨#[]⟩,.string ⟨#[]⟩]) 3 Tryz.underlying22 hi0 hz0 hz1 .i64 .i64 _ _ n rfl rfl (by go_num) (by go_num) (by rw[hz2];omega) (by unfold maxLen;omega) (Nat.le_refl _) ?_;intro w2 hown2 hgrow2)
 have hb2:=block_of_own3 hown2
 rw[made_frs] at hb2
 have hB2:Below w.heap.size w w2:=(Below.refl _ w).grown hgrow2 (Nat.le_refl _) (fun k e=>by cases e)
 have HK0:Hid (MF w w.heap.size (partF FL 0) w2):=⟨by rw[partF_zero,hfl];exact hb2,hB2⟩
 have hG:w.heap.size≤w.heap.size:=Nat.le_refl _
 clear hown2 hgrow2 hb2 hB2
 go_wp2_with fail
 go_loopw [12] (fun iv wr=>∃i:Nat,i≤n∧iv=.int .i64 i∧Hid (MF w w.heap.size (partF FL i) wr)) (fun iv _=>n - (intOf iv).toNat)
 case atStart=>exact⟨0,Nat.zero_le _,rfl,HK0⟩
 case round=>
  obtain⟨i,hi,rfl,HK⟩:=hrel
  clear HK0
  by_cases hlt:i<n
  ·have hia:i<la.length:=by rw[HLA.out.len];exact hlt
   have hib:i<lb.length:=by rw[HLB.out.len];exact hlt
   obtain⟨ga,oa,rfl,hga,a0,a1,a2⟩:=HFA.out i hia
   obtain⟨gb,ob,rfl,hgb,b0,b1,b2⟩:=HFB.out i hib
   obtain⟨hd1,hd2⟩:=List.getElem?_eq_some_iff.1 (HFG.out i hlt)
   have HPS:=hid (partF_set FL hd1)
   rw[hd2] at HPS
   have HMU:Hid (∀V:World,Calls Tryz.prog 54 #[.agg #[.bool la[i].1,.string la[i].2.1,.string la[i].2.2],.agg #[.bool lb[i].1,.string lb[i].2.1,.string lb[i].2.2]] V fun e w'=>e=.returned (.agg #[.bool (qF (f i*g i)).1,.string (qF (f i*g i)).2.1,.string (qF (f i*g i)).2.2])∧Below V.heap.size V w'):=fun V=>by
    have h1:=HLA.out.size i hia
    have h2:=HLB.out.size i hib
    exact fMul_q (f i*g i) (HLA.out.is i hia) (HLB.out.is i hib) rfl (by omega) (by omega)
   clear hd1 hd2
   generalize qF (f i*g i)=qf at *
   generalize la[i].1=an at *
   generalize la[i].2.1=ax at *
   generalize la[i].2.2=ay at *
   generalize lb[i].1=bn at *
   generalize lb[i].2.1=bx at *
   generalize lb[i].2.2=by_ at *
   go_upto_region 5 with fail
   have HELD:Hid (∀u,Below w.heap.size w u→u.cell? ⟨ga,oa+i*3,none⟩=some (.bool an)∧u.cell? ⟨ga,oa+i*3+1,none⟩=some (.string ax)∧u.cell? ⟨ga,oa+i*3+2,none⟩=some (.string ay)∧u.cell? ⟨gb,ob+i*3,none⟩=some (.bool bn)∧u.cell? ⟨gb,ob+i*3+1,none⟩=some (.string bx)∧u.cell? ⟨gb,ob+i*3+2,none⟩=some (.string by_)):=fun u h=>⟨(h.cell (p:=⟨ga,_,none⟩) hga).trans a0,(h.cell (p:=⟨ga,_,none⟩) hga).trans a1,(h.cell (p:=⟨ga,_,none⟩) hga).trans a2,(h.cell (p:=⟨gb,_,none⟩) hgb).trans b0,(h.cell (p:=⟨gb,_,none⟩) hgb).trans b1,(h.cell (p:=⟨gb,_,none⟩) hgb).trans b2⟩
   clear a0 a1 a2 b0 b1 b2
   replace HK:=hid HK.out.drew
   refine wp_region_held_drew (S:=fun u=>u.cell? ⟨ga,oa+i*3,none⟩=some (.bool an)∧u.cell? ⟨ga,oa+i*3+1,none⟩=some (.string ax)∧u.cell? ⟨ga,oa+i*3+2,none⟩=some (.string ay)∧u.cell? ⟨gb,ob+i*3,none⟩=some (.bool bn)∧u.cell? ⟨gb,ob+i*3+1,none⟩=some (.string bx)∧u.cell? ⟨gb,ob+i*3+2,none⟩=some (.string by_)) (by kernel_rfl) (HELD.out _ HK.out.bel) (fun hSd=>?_)
   generalize wr.drew=u0 at *
   refine wpAnyH_take (i:=0) (oi:=_) (v:=.slice (some ⟨w.heap.size,0,none⟩) n n) rfl (by kernel_rfl) (by kernel_rfl) (by kernel_rfl) (fun _ _ _ h=>h) (Or.inl ⟨by rfl,?_⟩) (by assumption) ?_
   ·intro u' hSu
    (try simp only[List.getElem_toArray,List.getElem_cons_zero])
    go_simp
   (try simp only[List.getElem_toArray,List.getElem_cons_zero])
   (try simp only[Act.put,List.setIfInBounds_toArray,List.set_cons_zero,List.set_cons_succ])
   refine wpAnyH_take (i:=1) (oi:=_) (v:=.int .i64 (i:Nat)) rfl (by kernel_rfl) (by kernel_rfl) (by kernel_rfl) (fun _ _ _ h=>h) (Or.inl ⟨by rfl,?_⟩) (by assumption) ?_
   ·intro u' hSu
    (try simp only[List.getElem_toArray,List.getElem_cons_zero,List.getElem_cons_succ])
    go_simp
   (try simp only[List.getElem_toArray,List.getElem_cons_zero,List.getElem_cons_succ])
   (try simp only[Act.put,List.setIfInBounds_toArray,List.set_cons_zero,List.set_cons_succ])
   refine wpAnyH_take (i:=2) (oi:=_) (v:=.slice (some ⟨ga,oa,none⟩) n ca) rfl (by kernel_rfl) (by kernel_rfl) (by kernel_rfl) (fun _ _ _ h=>h) (Or.inl ⟨by rfl,?_⟩) (by assumption) ?_
   ·intro u' hSu
    (try simp only[List.getElem_toArray,List.getElem_cons_zero,List.getElem_cons_succ])
    go_simp
   (try simp only[List.getElem_toArray,List.getElem_cons_zero,List.getElem_cons_succ])
   (try simp only[Act.put,List.setIfInBounds_toArray,List.set_cons_zero,List.set_cons_succ])
   refine wpAnyH_take (i:=3) (oi:=_) (v:=.int .i64 (i:Nat)) rfl (by kernel_rfl) (by kernel_rfl) (by kernel_rfl) (fun _ _ _ h=>h) (Or.inl ⟨by rfl,?_⟩) (by assumption) ?_
   ·intro u' hSu
    (try simp only[List.getElem_toArray,List.getElem_cons_zero,List.getElem_cons_succ])
    go_simp
   (try simp only[List.getElem_toArray,List.getElem_cons_zero,List.getElem_cons_succ])
   (try simp only[Act.put,List.setIfInBounds_toArray,List.set_cons_zero,List.set_cons_succ])
   refine wpAnyH_take (i:=4) (oi:=_) (v:=.pointer (some ⟨ga,oa+i*3,none⟩)) rfl (by kernel_rfl) (by kernel_rfl) (by kernel_rfl) (fun _ _ _ h=>h) (Or.inl ⟨by rfl,?_⟩) (by assumption) ?_
   ·intro u' hSu
    (try simp only[List.getElem_toArray,List.getElem_cons_zero,List.getElem_cons_succ])
    go_simp
   (try simp only[List.getElem_toArray,List.getElem_cons_zero,List.getElem_cons_succ])
   (try simp only[Act.put,List.setIfInBounds_toArray,List.set_cons_zero,List.set_cons_succ])
   refine wpAnyH_take (i:=5) (oi:=_) (v:=.agg #[.bool an,.string ax,.string ay]) rfl (by kernel_rfl) (by kernel_rfl) (by kernel_rfl) (fun _ _ _ h=>h) (Or.inl ⟨by rfl,?_⟩) (by assumption) ?_
   ·intro u' hSu
    (try simp only[List.getElem_toArray,List.getElem_cons_zero,List.getElem_cons_succ])
    obtain⟨s0,s1,s2,s3,s4,s5⟩:=hSu
    go_simp
   (try simp only[List.getElem_toArray,List.getElem_cons_zero,List.getElem_cons_succ])
   (try simp only[Act.put,List.setIfInBounds_toArray,List.set_cons_zero,List.set_cons_succ])
   refine wpAnyH_take (i:=6) (oi:=_) (v:=.slice (some ⟨gb,ob,none⟩) n cb) rfl (by kernel_rfl) (by kernel_rfl) (by kernel_rfl) (fun _ _ _ h=>h) (Or.inl ⟨by rfl,?_⟩) (by assumption) ?_
   ·intro u' hSu
    (try simp only[List.getElem_toArray,List.getElem_cons_zero,List.getElem_cons_succ])
    go_simp
   (try simp only[List.getElem_toArray,List.getElem_cons_zero,List.getElem_cons_succ])
   (try simp only[Act.put,List.setIfInBounds_toArray,List.set_cons_zero,List.set_cons_succ])
   refine wpAnyH_take (i:=7) (oi:=_) (v:=.int .i64 (i:Nat)) rfl (by kernel_rfl) (by kernel_rfl) (by kernel_rfl) (fun _ _ _ h=>h) (Or.inl ⟨by rfl,?_⟩) (by assumption) ?_
   ·intro u' hSu
    (try simp only[List.getElem_toArray,List.getElem_cons_zero,List.getElem_cons_succ])
    go_simp
   (try simp only[List.getElem_toArray,List.getElem_cons_zero,List.getElem_cons_succ])
   (try simp only[Act.put,List.setIfInBounds_toArray,List.set_cons_zero,List.set_cons_succ])
   refine wpAnyH_take (i:=8) (oi:=_) (v:=.pointer (some ⟨gb,ob+i*3,none⟩)) rfl (by kernel_rfl) (by kernel_rfl) (by kernel_rfl) (fun _ _ _ h=>h) (Or.inl ⟨by rfl,?_⟩) (by assumption) ?_
   ·intro u' hSu
    (try simp only[List.getElem_toArray,List.getElem_cons_zero,List.getElem_cons_succ])
    go_simp
   (try simp only[List.getElem_toArray,List.getElem_cons_zero,List.getElem_cons_succ])
   (try simp only[Act.put,List.setIfInBounds_toArray,List.set_cons_zero,List.set_cons_succ])
   refine wpAnyH_take (i:=9) (oi:=_) (v:=.agg #[.bool bn,.string bx,.string by_]) rfl (by kernel_rfl) (by kernel_rfl) (by kernel_rfl) (fun _ _ _ h=>h) (Or.inl ⟨by rfl,?_⟩) (by assumption) ?_
   ·intro u' hSu
    (try simp only[List.getElem_toArray,List.getElem_cons_zero,List.getElem_cons_succ])
    obtain⟨s0,s1,s2,s3,s4,s5⟩:=hSu
    go_simp
   (try simp only[List.getElem_toArray,List.getElem_cons_zero,List.getElem_cons_succ])
   (try simp only[Act.put,List.setIfInBounds_toArray,List.set_cons_zero,List.set_cons_succ])
   refine wpAnyH_ready (rs:=[10]) (by kernel_rfl) (by simp) (AllReadyH.cons rfl ?_ (AllReadyH.nil))
   ·intro K' hK'
    (try simp only[List.getElem_toArray,List.getElem_cons_zero,List.getElem_cons_succ])
    go_simp
    refine(HMU.out _).mono ?_
    rintro e u1 ⟨rfl,hb⟩
    replace HK:=hid (HK.out.step hb)
    refine hK'.out _ _ (HELD.out _ HK.out.bel) (fun hSe=>?_)
    clear hK' K' hSd
    have hSd:=hSe
    clear hSe hb
    (try simp only[List.getElem_toArray,List.getElem_cons_zero,List.getElem_cons_succ])
    (try simp only[Act.put,List.setIfInBounds_toArray,List.set_cons_zero,List.set_cons_succ])
    refine wpAnyH_take (i:=11) (oi:=_) (v:=.pointer (some ⟨w.heap.size,i*3,none⟩)) rfl (by kernel_rfl) (by kernel_rfl) (by kernel_rfl) (fun _ _ _ h=>h) (Or.inl ⟨by rfl,?_⟩) (by assumption) ?_
    ·intro u' hSu
     (try simp only[List.getElem_toArray,List.getElem_cons_zero,List.getElem_cons_succ])
     go_simp
    (try simp only[List.getElem_toArray,List.getElem_cons_zero,List.getElem_cons_succ])
    (try simp only[Act.put,List.setIfInBounds_toArray,List.set_cons_zero,List.set_cons_succ])
    obtain⟨k0,k1,k2⟩:=HK.out.row.cells i (by rw[partF_length _ (by omega)];omega)
    have f0:=HK.out.row.fz (i*3)
    have f1:=HK.out.row.fz (i*3+1)
    have f2:=HK.out.row.fz (i*3+2)
    generalize (partF FL i)[i]'(by rw[partF_length _ (by omega)];omega)=z at *
    obtain⟨zn,zx,zy⟩:=z
    simp only at k0 k1 k2
    refine wpAnyH_ready (rs:=[12]) (by kernel_rfl) (by simp) (AllReadyH.cons rfl ?_ (AllReadyH.nil))
    ·intro K' hK'
     (try simp only[List.getElem_toArray,List.getElem_cons_zero,List.getElem_cons_succ])
     go_simp
     refine hK'.out _ _ (HELD.out _ (HK.out.put hG i qf).bel) (fun _=>wpAnyH_done (by kernel_rfl) ?_ _)
     clear hK' K' hSd
     replace HK:=hid (HK.out.put hG i qf)
     rw[HPS.out] at HK
     clear k0 k1 k2 f0 f1 f2
     go_wp2
     go_roundw
     case rel=>exact⟨i+1,by omega,by go_num,HK⟩
     case measure=>simp[intOf];omega
  ·obtain rfl:i=n:=by omega
   have hfin:=HK.out.row
   rw[←hfl,partF_all] at hfin
   have HFI:=hid hfin
   clear hfin
   go_wp2
   go_ret
   exact⟨w.heap.size,rfl,Nat.le_refl _,HFI.out,HK.out.bel⟩
set_option maxRecDepth 100000 in
set_option maxHeartbeats 1000000 in
theorem hFirst_any (a:Option Addr) (ca n:Nat) (l:List Fr) (f:Nat→Rat) (w:World) (ha:FrS w a l) (hf:Lst n f l) (h1:1≤n) (hn:n≤100):
  Calls Tryz.prog 53 #[.slice a n ca] w fun e w'=>e=.returned (.int .i64 (bstR f (n - 1):Nat))∧Below w.heap.size w w':=by
 have HFA:=hid ha
 have HLA:=hid hf
 clear ha hf
 have HBL:=hid (fun k=>bstR_le f k)
 go_enter Tryz.func53,Tryz.ntmps53
 go_wp2_with fail
 go_loopw [3,7] (fun bv iv wr=>∃i:Nat,i≤n∧iv=.int .i64 i∧bv=.int .i64 (bstR f (i - 1):Nat)∧Hid (Below w.heap.size w wr)) (fun _ iv _=>n - (intOf iv).toNat)
 case atStart=>exact⟨0,Nat.zero_le _,rfl,rfl,Below.refl _ _⟩
 case round=>
  obtain⟨i,hi,rfl,rfl,HB⟩:=hrel
  by_cases hlt:i<n
  ·have hble:=HBL.out (i - 1)
   obtain⟨bi,hbi⟩:∃bi,bstR f (i - 1)=bi:=⟨_,rfl⟩
   have hbn:bi<n:=by omega
   have hia:i<l.length:=by rw[HLA.out.len];exact hlt
   have hib:bi<l.length:=by rw[HLA.out.len];exact hbn
   obtain⟨g,o,rfl,hg,b0,b1,b2⟩:=HFA.out bi hib
   obtain⟨g',o',e',hg',a0,a1,a2⟩:=HFA.out i hia
   cases e'
   have HCM:Hid (∀V:World,Calls Tryz.prog 55 #[.agg #[.bool l[bi].1,.string l[bi].2.1,.string l[bi].2.2],.agg #[.bool l[i].1,.string l[i].2.1,.string l[i].2.2]] V fun e w'=>e=.returned (.int .i64 (cmpQ (f bi) (f i)))∧Below V.heap.size V w'):=fun V=>by
    have h1:=HLA.out.size i hia
    have h2:=HLA.out.size bi hib
    exact fCmp_q (cmpQ (f bi) (f i)) (HLA.out.is bi hib) (HLA.out.is i hia) rfl (by omega) (by omega)
   have hnx:bstR f i=if f bi<f i then i else bi:=by
    rw[←hbi]
    rcases Nat.eq_zero_or_pos i with h0 |h0
    ·subst h0
     by_cases hh:f (bstR f (0 - 1))<f 0
     ·rw[if_pos hh];rfl
     ·rw[if_neg hh]
    ·obtain⟨j,rfl⟩:∃j,i=j+1:=⟨i - 1,by omega⟩
     rfl
   rw[hbi]
   clear hbi hble hg'
   generalize l[bi].1=bn at *
   generalize l[bi].2.1=bx at *
   generalize l[bi].2.2=by_ at *
   generalize l[i].1=an at *
   generalize l[i].2.1=ax at *
   generalize l[i].2.2=ay at *
   by_cases hcmp:f bi<f i
   ·have hc:cmpQ (f bi) (f i)<0:=by rw[cmpQ,if_pos hcmp];decide
    rw[if_pos hcmp] at hnx
    have HNX:=hid hnx
    clear hcmp hnx
    generalize cmpQ (f bi) (f i)=c at *
    go_upto_region 5 with fail
    have HELD:Hid (∀u,Below w.heap.size w u→u.cell? ⟨g,o+bi*3,none⟩=some (.bool bn)∧u.cell? ⟨g,o+bi*3+1,none⟩=some (.string bx)∧u.cell? ⟨g,o+bi*3+2,none⟩=some (.string by_)∧u.cell? ⟨g,o+i*3,none⟩=some (.bool an)∧u.cell? ⟨g,o+i*3+1,none⟩=some (.string ax)∧u.cell? ⟨g,o+i*3+2,none⟩=some (.string ay)):=fun u h=>⟨(h.cell (p:=⟨g,_,none⟩) hg).trans b0,(h.cell (p:=⟨g,_,none⟩) hg).trans b1,(h.cell (p:=⟨g,_,none⟩) hg).trans b2,(h.cell (p:=⟨g,_,none⟩) hg).trans a0,(h.cell (p:=⟨g,_,none⟩) hg).trans a1,(h.cell (p:=⟨g,_,none⟩) hg).trans a2⟩
    clear a0 a1 a2 b0 b1 b2
    replace HB:=hid HB.out.drew
    refine wp_region_held_drew (S:=fun u=>u.cell? ⟨g,o+bi*3,none⟩=some (.bool bn)∧u.cell? ⟨g,o+bi*3+1,none⟩=some (.string bx)∧u.cell? ⟨g,o+bi*3+2,none⟩=some (.string by_)∧u.cell? ⟨g,o+i*3,none⟩=some (.bool an)∧u.cell? ⟨g,o+i*3+1,none⟩=some (.string ax)∧u.cell? ⟨g,o+i*3+2,none⟩=some (.string ay)) (by kernel_rfl) (HELD.out _ HB.out) (fun hSd=>?_)
    generalize wr.drew=u0 at *
    refine wpAnyH_take (i:=0) (oi:=_) (v:=.slice (some ⟨g,o,none⟩) n ca) rfl (by kernel_rfl) (by kernel_rfl) (by kernel_rfl) (fun _ _ _ h=>h) (Or.inl ⟨by rfl,?_⟩) (by assumption) ?_
    ·intro u' hSu
     (try simp only[List.getElem_toArray,List.getElem_cons_zero])
     go_simp
    (try simp only[List.getElem_toArray,List.getElem_cons_zero])
    (try simp only[Act.put,List.setIfInBounds_toArray,List.set_cons_zero,List.set_cons_succ])
    refine wpAnyH_take (i:=1) (oi:=_) (v:=.int .i64 (bi:Nat)) rfl (by kernel_rfl) (by kernel_rfl) (by kernel_rfl) (fun _ _ _ h=>h) (Or.inl ⟨by rfl,?_⟩) (by assumption) ?_
    ·intro u' hSu
     (try simp only[List.getElem_toArray,List.getElem_cons_zero,List.getElem_cons_succ])
     go_simp
    (try simp only[List.getElem_toArray,List.getElem_cons_zero,List.getElem_cons_succ])
    (try simp only[Act.put,List.setIfInBounds_toArray,List.set_cons_zero,List.set_cons_succ])
    refine wpAnyH_take (i:=2) (oi:=_) (v:=.pointer (some ⟨g,o+bi*3,none⟩)) rfl (by kernel_rfl) (by kernel_rfl) (by kernel_rfl) (fun _ _ _ h=>h) (Or.inl ⟨by rfl,?_⟩) (by assumption) ?_
    ·intro u' hSu
     (try simp only[List.getElem_toArray,List.getElem_cons_zero,List.getElem_cons_succ])
     go_simp
    (try simp only[List.getElem_toArray,List.getElem_cons_zero,List.getElem_cons_succ])
    (try simp only[Act.put,List.setIfInBounds_toArray,List.set_cons_zero,List.set_cons_succ])
    refine wpAnyH_take (i:=3) (oi:=_) (v:=.agg #[.bool bn,.string bx,.string by_]) rfl (by kernel_rfl) (by kernel_rfl) (by kernel_rfl) (fun _ _ _ h=>h) (Or.inl ⟨by rfl,?_⟩) (by assumption) ?_
    ·intro u' hSu
     (try simp only[List.getElem_toArray,List.getElem_cons_zero,List.getElem_cons_succ])
     obtain⟨s0,s1,s2,s3,s4,s5⟩:=hSu
     go_simp
    (try simp only[List.getElem_toArray,List.getElem_cons_zero,List.getElem_cons_succ])
    (try simp only[Act.put,List.setIfInBounds_toArray,List.set_cons_zero,List.set_cons_succ])
    refine wpAnyH_take (i:=4) (oi:=_) (v:=.slice (some ⟨g,o,none⟩) n ca) rfl (by kernel_rfl) (by kernel_rfl) (by kernel_rfl) (fun _ _ _ h=>h) (Or.inl ⟨by rfl,?_⟩) (by assumption) ?_
    ·intro u' hSu
     (try simp only[List.getElem_toArray,List.getElem_cons_zero,List.getElem_cons_succ])
     go_simp
    (try simp only[List.getElem_toArray,List.getElem_cons_zero,List.getElem_cons_succ])
    (try simp only[Act.put,List.setIfInBounds_toArray,List.set_cons_zero,List.set_cons_succ])
    refine wpAnyH_take (i:=5) (oi:=_) (v:=.int .i64 (i:Nat)) rfl (by kernel_rfl) (by kernel_rfl) (by kernel_rfl) (fun _ _ _ h=>h) (Or.inl ⟨by rfl,?_⟩) (by assumption) ?_
    ·intro u' hSu
     (try simp only[List.getElem_toArray,List.getElem_cons_zero,List.getElem_cons_succ])
     go_simp
    (try simp only[List.getElem_toArray,List.getElem_cons_zero,List.getElem_cons_succ])
    (try simp only[Act.put,List.setIfInBounds_toArray,List.set_cons_zero,List.set_cons_succ])
    refine wpAnyH_take (i:=6) (oi:=_) (v:=.pointer (some ⟨g,o+i*3,none⟩)) rfl (by kernel_rfl) (by kernel_rfl) (by kernel_rfl) (fun _ _ _ h=>h) (Or.inl ⟨by rfl,?_⟩) (by assumption) ?_
    ·intro u' hSu
     (try simp only[List.getElem_toArray,List.getElem_cons_zero,List.getElem_cons_succ])
     go_simp
    (try simp only[List.getElem_toArray,List.getElem_cons_zero,List.getElem_cons_succ])
    (try simp only[Act.put,List.setIfInBounds_toArray,List.set_cons_zero,List.set_cons_succ])
    refine wpAnyH_take (i:=7) (oi:=_) (v:=.agg #[.bool an,.string ax,.string ay]) rfl (by kernel_rfl) (by kernel_rfl) (by kernel_rfl) (fun _ _ _ h=>h) (Or.inl ⟨by rfl,?_⟩) (by assumption) ?_
    ·intro u' hSu
     (try simp only[List.getElem_toArray,List.getElem_cons_zero,List.getElem_cons_succ])
     obtain⟨s0,s1,s2,s3,s4,s5⟩:=hSu
     go_simp
    (try simp only[List.getElem_toArray,List.getElem_cons_zero,List.getElem_cons_succ])
    (try simp only[Act.put,List.setIfInBounds_toArray,List.set_cons_zero,List.set_cons_succ])
    refine wpAnyH_ready (rs:=[8]) (by kernel_rfl) (by simp) (AllReadyH.cons rfl ?_ (AllReadyH.nil))
    ·intro K' hK'
     (try simp only[List.getElem_toArray,List.getElem_cons_zero,List.getElem_cons_succ])
     go_simp
     refine(HCM.out _).mono ?_
     rintro e u1 ⟨rfl,hb⟩
     replace HB:=hid (HB.out.trans (hb.mono HB.out.size))
     refine hK'.out _ _ (HELD.out _ HB.out) (fun hSe=>?_)
     clear hK' K' hSd
     have hSd:=hSe
     clear hSe hb
     (try simp only[List.getElem_toArray,List.getElem_cons_zero,List.getElem_cons_succ])
     (try simp only[Act.put,List.setIfInBounds_toArray,List.set_cons_zero,List.set_cons_succ])
     refine wpAnyH_take (i:=9) (oi:=_) (v:=.bool true) rfl (by kernel_rfl) (by kernel_rfl) (by kernel_rfl) (fun _ _ _ h=>h) (Or.inl ⟨by rfl,?_⟩) (by assumption) ?_
     ·intro u' hSu
      (try simp only[List.getElem_toArray,List.getElem_cons_zero,List.getElem_cons_succ])
      go_simp
     (try simp only[List.getElem_toArray,List.getElem_cons_zero,List.getElem_cons_succ])
     (try simp only[Act.put,List.setIfInBounds_toArray,List.set_cons_zero,List.set_cons_succ])
     refine wpAnyH_done (by kernel_rfl) ?_ _
     clear hSd
     go_wp2
     go_roundw
     case rel=>exact⟨i+1,by omega,by go_num,by rw[Nat.add_sub_cancel,HNX.out],HB⟩
     case measure=>simp[intOf];omega
   ·have hc:0≤cmpQ (f bi) (f i):=by rw[cmpQ,if_neg hcmp];by_cases hh:f bi=f i;(rw[if_pos hh];decide);(rw[if_neg hh];decide)
    rw[if_neg hcmp] at hnx
    have HNX:=hid hnx
    clear hcmp hnx
    generalize cmpQ (f bi) (f i)=c at *
    go_upto_region 5 with fail
    have HELD:Hid (∀u,Below w.heap.size w u→u.cell? ⟨g,o+bi*3,none⟩=some (.bool bn)∧u.cell? ⟨g,o+bi*3+1,none⟩=some (.string bx)∧u.cell? ⟨g,o+bi*3+2,none⟩=some (.string by_)∧u.cell? ⟨g,o+i*3,none⟩=some (.bool an)∧u.cell? ⟨g,o+i*3+1,none⟩=some (.string ax)∧u.cell? ⟨g,o+i*3+2,none⟩=some (.string ay)):=fun u h=>⟨(h.cell (p:=⟨g,_,none⟩) hg).trans b0,(h.cell (p:=⟨g,_,none⟩) hg).trans b1,(h.cell (p:=⟨g,_,none⟩) hg).trans b2,(h.cell (p:=⟨g,_,none⟩) hg).trans a0,(h.cell (p:=⟨g,_,none⟩) hg).trans a1,(h.cell (p:=⟨g,_,none⟩) hg).trans a2⟩
    clear a0 a1 a2 b0 b1 b2
    replace HB:=hid HB.out.drew
    refine wp_region_held_drew (S:=fun u=>u.cell? ⟨g,o+bi*3,none⟩=some (.bool bn)∧u.cell? ⟨g,o+bi*3+1,none⟩=some (.string bx)∧u.cell? ⟨g,o+bi*3+2,none⟩=some (.string by_)∧u.cell? ⟨g,o+i*3,none⟩=some (.bool an)∧u.cell? ⟨g,o+i*3+1,none⟩=some (.string ax)∧u.cell? ⟨g,o+i*3+2,none⟩=some (.string ay)) (by kernel_rfl) (HELD.out _ HB.out) (fun hSd=>?_)
    generalize wr.drew=u0 at *
    refine wpAnyH_take (i:=0) (oi:=_) (v:=.slice (some ⟨g,o,none⟩) n ca) rfl (by kernel_rfl) (by kernel_rfl) (by kernel_rfl) (fun _ _ _ h=>h) (Or.inl ⟨by rfl,?_⟩) (by assumption) ?_
    ·intro u' hSu
     (try simp only[List.getElem_toArray,List.getElem_cons_zero])
     go_simp
    (try simp only[List.getElem_toArray,List.getElem_cons_zero])
    (try simp only[Act.put,List.setIfInBounds_toArray,List.set_cons_zero,List.set_cons_succ])
    refine wpAnyH_take (i:=1) (oi:=_) (v:=.int .i64 (bi:Nat)) rfl (by kernel_rfl) (by kernel_rfl) (by kernel_rfl) (fun _ _ _ h=>h) (Or.inl ⟨by rfl,?_⟩) (by assumption) ?_
    ·intro u' hSu
     (try simp only[List.getElem_toArray,List.getElem_cons_zero,List.getElem_cons_succ])
     go_simp
    (try simp only[List.getElem_toArray,List.getElem_cons_zero,List.getElem_cons_succ])
    (try simp only[Act.put,List.setIfInBounds_toArray,List.set_cons_zero,List.set_cons_succ])
    refine wpAnyH_take (i:=2) (oi:=_) (v:=.pointer (some ⟨g,o+bi*3,none⟩)) rfl (by kernel_rfl) (by kernel_rfl) (by kernel_rfl) (fun _ _ _ h=>h) (Or.inl ⟨by rfl,?_⟩) (by assumption) ?_
    ·intro u' hSu
     (try simp only[List.getElem_toArray,List.getElem_cons_zero,List.getElem_cons_succ])
     go_simp
    (try simp only[List.getElem_toArray,List.getElem_cons_zero,List.getElem_cons_succ])
    (try simp only[Act.put,List.setIfInBounds_toArray,List.set_cons_zero,List.set_cons_succ])
    refine wpAnyH_take (i:=3) (oi:=_) (v:=.agg #[.bool bn,.string bx,.string by_]) rfl (by kernel_rfl) (by kernel_rfl) (by kernel_rfl) (fun _ _ _ h=>h) (Or.inl ⟨by rfl,?_⟩) (by assumption) ?_
    ·intro u' hSu
     (try simp only[List.getElem_toArray,List.getElem_cons_zero,List.getElem_cons_succ])
     obtain⟨s0,s1,s2,s3,s4,s5⟩:=hSu
     go_simp
    (try simp only[List.getElem_toArray,List.getElem_cons_zero,List.getElem_cons_succ])
    (try simp only[Act.put,List.setIfInBounds_toArray,List.set_cons_zero,List.set_cons_succ])
    refine wpAnyH_take (i:=4) (oi:=_) (v:=.slice (some ⟨g,o,none⟩) n ca) rfl (by kernel_rfl) (by kernel_rfl) (by kernel_rfl) (fun _ _ _ h=>h) (Or.inl ⟨by rfl,?_⟩) (by assumption) ?_
    ·intro u' hSu
     (try simp only[List.getElem_toArray,List.getElem_cons_zero,List.getElem_cons_succ])
     go_simp
    (try simp only[List.getElem_toArray,List.getElem_cons_zero,List.getElem_cons_succ])
    (try simp only[Act.put,List.setIfInBounds_toArray,List.set_cons_zero,List.set_cons_succ])
    refine wpAnyH_take (i:=5) (oi:=_) (v:=.int .i64 (i:Nat)) rfl (by kernel_rfl) (by kernel_rfl) (by kernel_rfl) (fun _ _ _ h=>h) (Or.inl ⟨by rfl,?_⟩) (by assumption) ?_
    ·intro u' hSu
     (try simp only[List.getElem_toArray,List.getElem_cons_zero,List.getElem_cons_succ])
     go_simp
    (try simp only[List.getElem_toArray,List.getElem_cons_zero,List.getElem_cons_succ])
    (try simp only[Act.put,List.setIfInBounds_toArray,List.set_cons_zero,List.set_cons_succ])
    refine wpAnyH_take (i:=6) (oi:=_) (v:=.pointer (some ⟨g,o+i*3,none⟩)) rfl (by kernel_rfl) (by kernel_rfl) (by kernel_rfl) (fun _ _ _ h=>h) (Or.inl ⟨by rfl,?_⟩) (by assumption) ?_
    ·intro u' hSu
     (try simp only[List.getElem_toArray,List.getElem_cons_zero,List.getElem_cons_succ])
     go_simp
    (try simp only[List.getElem_toArray,List.getElem_cons_zero,List.getElem_cons_succ])
    (try simp only[Act.put,List.setIfInBounds_toArray,List.set_cons_zero,List.set_cons_succ])
    refine wpAnyH_take (i:=7) (oi:=_) (v:=.agg #[.bool an,.string ax,.string ay]) rfl (by kernel_rfl) (by kernel_rfl) (by kernel_rfl) (fun _ _ _ h=>h) (Or.inl ⟨by rfl,?_⟩) (by assumption) ?_
    ·intro u' hSu
     (try simp only[List.getElem_toArray,List.getElem_cons_zero,List.getElem_cons_succ])
     obtain⟨s0,s1,s2,s3,s4,s5⟩:=hSu
     go_simp
    (try simp only[List.getElem_toArray,List.getElem_cons_zero,List.getElem_cons_succ])
    (try simp only[Act.put,List.setIfInBounds_toArray,List.set_cons_zero,List.set_cons_succ])
    refine wpAnyH_ready (rs:=[8]) (by kernel_rfl) (by simp) (AllReadyH.cons rfl ?_ (AllReadyH.nil))
    ·intro K' hK'
     (try simp only[List.getElem_toArray,List.getElem_cons_zero,List.getElem_cons_succ])
     go_simp
     refine(HCM.out _).mono ?_
     rintro e u1 ⟨rfl,hb⟩
     replace HB:=hid (HB.out.trans (hb.mono HB.out.size))
     refine hK'.out _ _ (HELD.out _ HB.out) (fun hSe=>?_)
     clear hK' K' hSd
     have hSd:=hSe
     clear hSe hb
     (try simp only[List.getElem_toArray,List.getElem_cons_zero,List.getElem_cons_succ])
     (try simp only[Act.put,List.setIfInBounds_toArray,List.set_cons_zero,List.set_cons_succ])
     refine wpAnyH_take (i:=9) (oi:=_) (v:=.bool false) rfl (by kernel_rfl) (by kernel_rfl) (by kernel_rfl) (fun _ _ _ h=>h) (Or.inl ⟨by rfl,?_⟩) (by assumption) ?_
     ·intro u' hSu
      (try simp only[List.getElem_toArray,List.getElem_cons_zero,List.getElem_cons_succ])
      go_simp
     (try simp only[List.getElem_toArray,List.getElem_cons_zero,List.getElem_cons_succ])
     (try simp only[Act.put,List.setIfInBounds_toArray,List.set_cons_zero,List.set_cons_succ])
     refine wpAnyH_done (by kernel_rfl) ?_ _
     clear hSd
     go_wp2
     go_roundw
     case rel=>exact⟨i+1,by omega,by go_num,by rw[Nat.add_sub_cancel,HNX.out],HB⟩
     case measure=>simp[intOf];omega
  ·obtain rfl:i=n:=by omega
   go_wp2
   go_ret
   exact⟨rfl,HB.out⟩
set_option maxRecDepth 100000 in
set_option maxHeartbeats 400000 in
theorem hGreat_any (a:Option Addr) (ca n:Nat) (l:List Fr) (f:Nat→Rat) (w:World) (ha:FrS w a l) (hf:Lst n f l) (hq:∀i (h:i<l.length),l[i]=qF (f i)) (h1:1≤n) (hn:n≤100):
  Calls Tryz.prog 51 #[.slice a n ca] w fun e w'=>e=.returned (frV (qF (f (bstR f (n - 1)))))∧Below w.heap.size w w':=by
 have hA:=(Below.refl w.heap.size w).alloc (Nat.le_refl _) (FC false ⟨#[]⟩ ⟨#[]⟩)
 have HC:=hid (hFirst_any a ca n l f _ (ha.below hA) hf h1 hn)
 have hbl:=bstR_le f (n - 1)
 have hll:=hf.len
 have hbi:bstR f (n - 1)<l.length:=by omega
 obtain⟨g,o,rfl,hg,a0,a1,a2⟩:=ha _ hbi
 rw[hq _ hbi] at a0 a1 a2
 generalize f (bstR f (n - 1))=q at *
 generalize bstR f (n - 1)=bi at *
 have HX:=hid (Box.new w false ⟨#[]⟩ ⟨#[]⟩)
 have HA:=hid hA
 clear ha hA
 go_enter Tryz.func51,Tryz.ntmps51
 go_wp2_with fail
 refine HC.out.mono ?_
 rintro e w2 ⟨rfl,hb2⟩
 have hx2:=HX.out.below hb2 HX.out.lt
 have HB:=hid (HA.out.trans (hb2.mono HA.out.size))
 have a0':=(HB.out.cell (p:=⟨g,_,none⟩) hg).trans a0
 have a1':=(HB.out.cell (p:=⟨g,_,none⟩) hg).trans a1
 have a2':=(HB.out.cell (p:=⟨g,_,none⟩) hg).trans a2
 clear a0 a1 a2
 obtain⟨k0,k1,k2,f0,f1,f2⟩:=hx2.facts
 go_wp2
 refine bodyPost_ret ((hx2.put _ _ _).result rfl _ rfl) rfl ?_
 exact⟨rfl,below_put HB.out (Nat.le_refl _) _ _ _⟩
end Go.Proofs.YtgamblainfkiaaaGreatDoor
