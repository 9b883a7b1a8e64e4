/- moved and Step of package chain, for longer numbers. -/
import Derived.Test.YtmbjmiioggfneaaGreatDoorTrnDCxStlE
import Derived.Test.YtmbjmiioggfneaaGreatDoorRefSCxDicP
import Derived.Test.YtmbjmiioggfneaaGreatDoorChnFCx
namespace Go.Proofs.YtmbjmiioggfneaaGreatDoor
open Go.RowKit Go.Shelf
structure LsW (n:Nat) (f:Nat→Rat) (l:List Fr):Prop where
 len:l.length=n
 is:∀i (h:i<l.length),frQ l[i]=f i
 size:∀i (h:i<l.length),l[i].2.1.size+l[i].2.2.size≤20000
theorem LsW.mk' {n:Nat} {f:Nat→Rat} (h:∀i,i<n→qw (f i)≤20000):LsW n f (lF n f):=by
 refine⟨lF_length n f,fun i hi=>by rw[lF_get];exact frQ_qF _,fun i hi=>?_⟩
 rw[lF_get]
 show (nu (f i)).size+(de (f i)).size≤20000
 rw[own_size]
 exact h i (by rw[lF_length] at hi;exact hi)
theorem fsum_is {f:Nat→Rat}:∀(l:List Fr) (n:Nat),l.length=n→(∀i (h:i<l.length),frQ l[i]=f i)→fsum l=sumR f n:=fun l=>by
 induction l using snoc_ind with
 |h0=>intro n hn _;subst hn;rfl
 |h1 l x ih=>
  intro n hn hi
  obtain rfl:n=l.length+1:=by rw[←hn];simp
  rw[fsum_snoc,sumR,ih l.length rfl fun i h=>?_]
  ·congr 1
   have:=hi l.length (by simp)
   rw[List.getElem_append_right (Nat.le_refl _)] at this
   exact(show frQ x=f l.length by simpa using this)
  ·have:=hi i (by simp;omega)
   rw[List.getElem_append_left h] at this
   exact this
theorem LsW.fsum {n:Nat} {f:Nat→Rat} {l:List Fr} (h:LsW n f l):fsum l=sumR f n:=fsum_is l n h.len h.is
theorem LsW.fsumk {n k:Nat} {f:Nat→Rat} {l:List Fr} (h:LsW n f l) (hk:k≤n):Go.Proofs.YtmbjmiioggfneaaGreatDoor.fsum (l.take k)=sumR f k:=by
 refine fsum_is _ k (by rw[List.length_take,h.len];omega) fun i hi=>?_
 rw[List.getElem_take]
 exact h.is i (by rw[List.length_take] at hi;omega)
set_option maxRecDepth 100000 in
set_option maxHeartbeats 2000000 in
theorem chMoved_long (a c:Option Addr) (ca cc n:Nat) (l:List Fr) (R:List (List Fr)) (f:Nat→Rat) (g:Nat→Nat→Rat) (w:World) (ha:FrS w a l) (hR:FsS w c R) (hf:LsW n f l) (hRl:R.length=n) (hg:∀i (h:i<R.length),LsW n (g i) R[i]) (hsz:∀i j,i<n→j<n→qw (f i*g i j)≤20000) (hps:∀j k,j<n→k≤n→qw (sumR (fun i=>f i*g i j) k)≤40000) (hn:n≤6):
  Calls Tryz.prog 30 #[.slice a n ca,.slice c n cc] w fun e w'=>∃G,e=.returned (.slice (some ⟨G,0,none⟩) n n)∧w.heap.size≤G∧RowF w' G (lF n fun j=>sumR (fun i=>f i*g i j) n)∧Below w.heap.size w w':=by
 obtain⟨i0,hi0,hz0,hz1,hz2⟩:=info_parts Tryz.infoFrac
 have HFA:=hid ha
 have HFR:=hid hR
 have HLA:=hid hf
 have HG:=hid hg
 have HSZ:=hid hsz
 have HPQ:=hid hps
 have HRL:=hid hRl
 clear ha hR hf hg hsz hRl hps
 have hfl:=lF_length n fun j=>sumR (fun i=>f i*g i j) n
 have HFG:=hid (fun j (hj:j<n)=>lF_get? (f:=fun j=>sumR (fun i=>f i*g i j) n) hj)
 generalize (lF n fun j=>sumR (fun i=>f i*g i j) n)=FL at *
 go_enter Tryz.func30,Tryz.ntmps30
 go_upto_region 2 with (at_make;refine wpList_make_full _ rfl _ _ 23 rfl w.heap.size 44 i0 (.agg #[.bool false,.string ⟨#[]⟩,.string ⟨#[]⟩]) 3 Tryz.underlying23 hi0 hz0 hz1 .i64 .i64 _ _ n rfl rfl (by go_num) (by go_num) (by rw[hz2];omega) (by unfold maxLen;omega) (Nat.le_refl _) ?_;intro w2 hown2 hgrow2)
 have hb2:=block_of_own3 hown2
 rw[made_frs] at hb2
 have hB2:Below w.heap.size w w2:=(Below.refl _ w).grown hgrow2 (Nat.le_refl _) (fun k e=>by cases e)
 have HK0:Hid (MF w w.heap.size (partF FL 0) w2):=⟨by rw[partF_zero,hfl];exact hb2,hB2⟩
 clear hown2 hgrow2 hb2 hB2
 go_wp2_with fail
 go_loopw [14] (fun jv wr=>∃j:Nat,j≤n∧jv=.int .i64 j∧Hid (MF w w.heap.size (partF FL j) wr)) (fun jv _=>n - (intOf jv).toNat)
 case atStart=>exact⟨0,Nat.zero_le _,rfl,HK0⟩
 case round=>
  obtain⟨j,hj,rfl,HK⟩:=hrel
  clear HK0
  by_cases hjl:j<n
  ·have htl:=lF_length n fun i=>f i*g i j
   have HTG:=hid (fun i (hi:i<n)=>lF_get? (f:=fun i=>f i*g i j) hi)
   have HTL:Hid (LsW n (fun i=>f i*g i j) (lF n fun i=>f i*g i j)):=LsW.mk' fun i hi=>HSZ.out i j hi hjl
   generalize (lF n fun i=>f i*g i j)=TL at *
   generalize wr=W at *
   go_upto_region 6 with (at_make;refine wpList_make_full _ rfl _ _ 23 rfl W.heap.size 44 i0 (.agg #[.bool false,.string ⟨#[]⟩,.string ⟨#[]⟩]) 3 Tryz.underlying23 hi0 hz0 hz1 .i64 .i64 _ _ n rfl rfl (by go_num) (by go_num) (by rw[hz2];omega) (by unfold maxLen;omega) (Nat.le_refl _) ?_;intro w2 hown2 hgrow2)
   have hb2:=block_of_own3 hown2
   rw[made_frs] at hb2
   have hB2:Below W.heap.size W w2:=(Below.refl _ W).grown hgrow2 (Nat.le_refl _) (fun k e=>by cases e)
   have HI0:Hid (MF W W.heap.size (partF TL 0) w2):=⟨by rw[partF_zero,htl];exact hb2,hB2⟩
   clear hown2 hgrow2 hb2 hB2
   go_wp2_with fail
   go_loopw [22] (fun iv wr=>∃i:Nat,i≤n∧iv=.int .i64 i∧Hid (MF W W.heap.size (partF TL i) wr)) (fun iv _=>n - (intOf iv).toNat)
   case atStart=>exact⟨0,Nat.zero_le _,rfl,HI0⟩
   case round=>
    obtain⟨i,hi,rfl,HI⟩:=hrel
    clear HI0
    by_cases hlt:i<n
    ·have hia:i<l.length:=by rw[HLA.out.len];exact hlt
     have hiR:i<R.length:=by rw[HRL.out];exact hlt
     have hjr:j<R[i].length:=by rw[(HG.out i hiR).len];exact hjl
     obtain⟨ga,oa,rfl,hga,a0,a1,a2⟩:=HFA.out i hia
     obtain⟨gc,oc,bc,cr,rfl,hgc,c0,hrow,hcr⟩:=HFR.out i hiR
     obtain⟨gr,or_,rfl,hgr,b0,b1,b2⟩:=hrow j hjr
     obtain⟨hd1,hd2⟩:=List.getElem?_eq_some_iff.1 (HTG.out i hlt)
     have HPS:=hid (partF_set TL hd1)
     rw[hd2] at HPS
     have hrl:=(HG.out i hiR).len
     have HMU:Hid (∀V:World,Calls Tryz.prog 61 #[.agg #[.bool l[i].1,.string l[i].2.1,.string l[i].2.2],.agg #[.bool R[i][j].1,.string R[i][j].2.1,.string R[i][j].2.2]] V fun e w'=>e=.returned (.agg #[.bool (qF (f i*g i j)).1,.string (qF (f i*g i j)).2.1,.string (qF (f i*g i j)).2.2])∧Below V.heap.size V w'):=fun V=>by
      have h1:=HLA.out.size i hia
      have h2:=(HG.out i hiR).size j hjr
      exact fMul_q (f i*g i j) (HLA.out.is i hia) ((HG.out i hiR).is j hjr) rfl (by omega) (by omega)
     clear hd1 hd2 hrow
     generalize qF (f i*g i j)=qf at *
     generalize l[i].1=an at *
     generalize l[i].2.1=ax at *
     generalize l[i].2.2=ay at *
     generalize R[i][j].1=bn at *
     generalize R[i][j].2.1=bx at *
     generalize R[i][j].2.2=by_ at *
     generalize R[i].length=rn at *
     go_upto_region 9 with fail
     have HELD:Hid (∀u,Below W.heap.size W u→u.cell? ⟨ga,oa+i*3,none⟩=some (.bool an)∧u.cell? ⟨ga,oa+i*3+1,none⟩=some (.string ax)∧u.cell? ⟨ga,oa+i*3+2,none⟩=some (.string ay)∧u.cell? ⟨gc,oc+i,none⟩=some (.slice (some ⟨gr,or_,none⟩) rn cr)∧u.cell? ⟨gr,or_+j*3,none⟩=some (.bool bn)∧u.cell? ⟨gr,or_+j*3+1,none⟩=some (.string bx)∧u.cell? ⟨gr,or_+j*3+2,none⟩=some (.string by_)):=fun u h0=>by
      have h:=HK.out.bel.trans (h0.mono HK.out.bel.size)
      exact⟨(h.cell (p:=⟨ga,_,none⟩) hga).trans a0,(h.cell (p:=⟨ga,_,none⟩) hga).trans a1,(h.cell (p:=⟨ga,_,none⟩) hga).trans a2,(h.cell (p:=⟨gc,_,none⟩) hgc).trans c0,(h.cell (p:=⟨gr,_,none⟩) hgr).trans b0,(h.cell (p:=⟨gr,_,none⟩) hgr).trans b1,(h.cell (p:=⟨gr,_,none⟩) hgr).trans b2⟩
     clear a0 a1 a2 c0 b0 b1 b2
     replace HI:=hid HI.out.drew
     refine wp_region_held_drew (S:=fun u=>u.cell? ⟨ga,oa+i*3,none⟩=some (.bool an)∧u.cell? ⟨ga,oa+i*3+1,none⟩=some (.string ax)∧u.cell? ⟨ga,oa+i*3+2,none⟩=some (.string ay)∧u.cell? ⟨gc,oc+i,none⟩=some (.slice (some ⟨gr,or_,none⟩) rn cr)∧u.cell? ⟨gr,or_+j*3,none⟩=some (.bool bn)∧u.cell? ⟨gr,or_+j*3+1,none⟩=some (.string bx)∧u.cell? ⟨gr,or_+j*3+2,none⟩=some (.string by_)) (by kernel_rfl) (HELD.out _ HI.out.bel) (fun hSd=>?_)
     generalize wr.drew=u0 at *
     refine wpAnyH_take (i:=0) (oi:=_) (v:=.slice (some ⟨W.heap.size,0,none⟩) n n) rfl (by kernel_rfl) (by kernel_rfl) (by kernel_rfl) (fun _ _ _ h=>h) (Or.inl ⟨by rfl,?_⟩) (by assumption) ?_
     ·intro u' hSu
      (try simp only[List.getElem_toArray,List.getElem_cons_zero])
      go_simp
     (try simp only[List.getElem_toArray,List.getElem_cons_zero])
     (try simp only[Act.put,List.setIfInBounds_toArray,List.set_cons_zero,List.set_cons_succ])
     refine wpAnyH_take (i:=1) (oi:=_) (v:=.int .i64 (i:Nat)) rfl (by kernel_rfl) (by kernel_rfl) (by kernel_rfl) (fun _ _ _ h=>h) (Or.inl ⟨by rfl,?_⟩) (by assumption) ?_
     ·intro u' hSu
      (try simp only[List.getElem_toArray,List.getElem_cons_zero,List.getElem_cons_succ])
      go_simp
     (try simp only[List.getElem_toArray,List.getElem_cons_zero,List.getElem_cons_succ])
     (try simp only[Act.put,List.setIfInBounds_toArray,List.set_cons_zero,List.set_cons_succ])
     refine wpAnyH_take (i:=2) (oi:=_) (v:=.slice (some ⟨ga,oa,none⟩) n ca) rfl (by kernel_rfl) (by kernel_rfl) (by kernel_rfl) (fun _ _ _ h=>h) (Or.inl ⟨by rfl,?_⟩) (by assumption) ?_
     ·intro u' hSu
      (try simp only[List.getElem_toArray,List.getElem_cons_zero,List.getElem_cons_succ])
      go_simp
     (try simp only[List.getElem_toArray,List.getElem_cons_zero,List.getElem_cons_succ])
     (try simp only[Act.put,List.setIfInBounds_toArray,List.set_cons_zero,List.set_cons_succ])
     refine wpAnyH_take (i:=3) (oi:=_) (v:=.int .i64 (i:Nat)) rfl (by kernel_rfl) (by kernel_rfl) (by kernel_rfl) (fun _ _ _ h=>h) (Or.inl ⟨by rfl,?_⟩) (by assumption) ?_
     ·intro u' hSu
      (try simp only[List.getElem_toArray,List.getElem_cons_zero,List.getElem_cons_succ])
      go_simp
     (try simp only[List.getElem_toArray,List.getElem_cons_zero,List.getElem_cons_succ])
     (try simp only[Act.put,List.setIfInBounds_toArray,List.set_cons_zero,List.set_cons_succ])
     refine wpAnyH_take (i:=4) (oi:=_) (v:=.pointer (some ⟨ga,oa+i*3,none⟩)) rfl (by kernel_rfl) (by kernel_rfl) (by kernel_rfl) (fun _ _ _ h=>h) (Or.inl ⟨by rfl,?_⟩) (by assumption) ?_
     ·intro u' hSu
      (try simp only[List.getElem_toArray,List.getElem_cons_zero,List.getElem_cons_succ])
      go_simp
     (try simp only[List.getElem_toArray,List.getElem_cons_zero,List.getElem_cons_succ])
     (try simp only[Act.put,List.setIfInBounds_toArray,List.set_cons_zero,List.set_cons_succ])
     refine wpAnyH_take (i:=5) (oi:=_) (v:=.agg #[.bool an,.string ax,.string ay]) rfl (by kernel_rfl) (by kernel_rfl) (by kernel_rfl) (fun _ _ _ h=>h) (Or.inl ⟨by rfl,?_⟩) (by assumption) ?_
     ·intro u' hSu
      (try simp only[List.getElem_toArray,List.getElem_cons_zero,List.getElem_cons_succ])
      obtain⟨s0,s1,s2,s3,s4,s5,s6⟩:=hSu
      go_simp
     (try simp only[List.getElem_toArray,List.getElem_cons_zero,List.getElem_cons_succ])
     (try simp only[Act.put,List.setIfInBounds_toArray,List.set_cons_zero,List.set_cons_succ])
     refine wpAnyH_take (i:=6) (oi:=_) (v:=.slice (some ⟨gc,oc,none⟩) n cc) rfl (by kernel_rfl) (by kernel_rfl) (by kernel_rfl) (fun _ _ _ h=>h) (Or.inl ⟨by rfl,?_⟩) (by assumption) ?_
     ·intro u' hSu
      (try simp only[List.getElem_toArray,List.getElem_cons_zero,List.getElem_cons_succ])
      go_simp
     (try simp only[List.getElem_toArray,List.getElem_cons_zero,List.getElem_cons_succ])
     (try simp only[Act.put,List.setIfInBounds_toArray,List.set_cons_zero,List.set_cons_succ])
     refine wpAnyH_take (i:=7) (oi:=_) (v:=.int .i64 (i:Nat)) rfl (by kernel_rfl) (by kernel_rfl) (by kernel_rfl) (fun _ _ _ h=>h) (Or.inl ⟨by rfl,?_⟩) (by assumption) ?_
     ·intro u' hSu
      (try simp only[List.getElem_toArray,List.getElem_cons_zero,List.getElem_cons_succ])
      go_simp
     (try simp only[List.getElem_toArray,List.getElem_cons_zero,List.getElem_cons_succ])
     (try simp only[Act.put,List.setIfInBounds_toArray,List.set_cons_zero,List.set_cons_succ])
     refine wpAnyH_take (i:=8) (oi:=_) (v:=.pointer (some ⟨gc,oc+i,none⟩)) rfl (by kernel_rfl) (by kernel_rfl) (by kernel_rfl) (fun _ _ _ h=>h) (Or.inl ⟨by rfl,?_⟩) (by assumption) ?_
     ·intro u' hSu
      (try simp only[List.getElem_toArray,List.getElem_cons_zero,List.getElem_cons_succ])
      go_simp
     (try simp only[List.getElem_toArray,List.getElem_cons_zero,List.getElem_cons_succ])
     (try simp only[Act.put,List.setIfInBounds_toArray,List.set_cons_zero,List.set_cons_succ])
     refine wpAnyH_take (i:=9) (oi:=_) (v:=.slice (some ⟨gr,or_,none⟩) rn cr) rfl (by kernel_rfl) (by kernel_rfl) (by kernel_rfl) (fun _ _ _ h=>h) (Or.inl ⟨by rfl,?_⟩) (by assumption) ?_
     ·intro u' hSu
      (try simp only[List.getElem_toArray,List.getElem_cons_zero,List.getElem_cons_succ])
      obtain⟨s0,s1,s2,s3,s4,s5,s6⟩:=hSu
      go_simp
     (try simp only[List.getElem_toArray,List.getElem_cons_zero,List.getElem_cons_succ])
     (try simp only[Act.put,List.setIfInBounds_toArray,List.set_cons_zero,List.set_cons_succ])
     refine wpAnyH_take (i:=10) (oi:=_) (v:=.int .i64 (j:Nat)) rfl (by kernel_rfl) (by kernel_rfl) (by kernel_rfl) (fun _ _ _ h=>h) (Or.inl ⟨by rfl,?_⟩) (by assumption) ?_
     ·intro u' hSu
      (try simp only[List.getElem_toArray,List.getElem_cons_zero,List.getElem_cons_succ])
      go_simp
     (try simp only[List.getElem_toArray,List.getElem_cons_zero,List.getElem_cons_succ])
     (try simp only[Act.put,List.setIfInBounds_toArray,List.set_cons_zero,List.set_cons_succ])
     refine wpAnyH_take (i:=11) (oi:=_) (v:=.pointer (some ⟨gr,or_+j*3,none⟩)) rfl (by kernel_rfl) (by kernel_rfl) (by kernel_rfl) (fun _ _ _ h=>h) (Or.inl ⟨by rfl,?_⟩) (by assumption) ?_
     ·intro u' hSu
      (try simp only[List.getElem_toArray,List.getElem_cons_zero,List.getElem_cons_succ])
      go_simp
     (try simp only[List.getElem_toArray,List.getElem_cons_zero,List.getElem_cons_succ])
     (try simp only[Act.put,List.setIfInBounds_toArray,List.set_cons_zero,List.set_cons_succ])
     refine wpAnyH_take (i:=12) (oi:=_) (v:=.agg #[.bool bn,.string bx,.string by_]) rfl (by kernel_rfl) (by kernel_rfl) (by kernel_rfl) (fun _ _ _ h=>h) (Or.inl ⟨by rfl,?_⟩) (by assumption) ?_
     ·intro u' hSu
      (try simp only[List.getElem_toArray,List.getElem_cons_zero,List.getElem_cons_succ])
      obtain⟨s0,s1,s2,s3,s4,s5,s6⟩:=hSu
      go_simp
     (try simp only[List.getElem_toArray,List.getElem_cons_zero,List.getElem_cons_succ])
     (try simp only[Act.put,List.setIfInBounds_toArray,List.set_cons_zero,List.set_cons_succ])
     refine wpAnyH_ready (rs:=[13]) (by kernel_rfl) (by simp) (AllReadyH.cons rfl ?_ (AllReadyH.nil))
     ·intro K' hK'
      (try simp only[List.getElem_toArray,List.getElem_cons_zero,List.getElem_cons_succ])
      go_simp
      refine(HMU.out _).mono ?_
      rintro e u1 ⟨rfl,hb⟩
      replace HI:=hid (HI.out.step hb)
      refine hK'.out _ _ (HELD.out _ HI.out.bel) (fun hSe=>?_)
      clear hK' K' hSd
      have hSd:=hSe
      clear hSe hb
      (try simp only[List.getElem_toArray,List.getElem_cons_zero,List.getElem_cons_succ])
      (try simp only[Act.put,List.setIfInBounds_toArray,List.set_cons_zero,List.set_cons_succ])
      refine wpAnyH_take (i:=14) (oi:=_) (v:=.pointer (some ⟨W.heap.size,i*3,none⟩)) rfl (by kernel_rfl) (by kernel_rfl) (by kernel_rfl) (fun _ _ _ h=>h) (Or.inl ⟨by rfl,?_⟩) (by assumption) ?_
      ·intro u' hSu
       (try simp only[List.getElem_toArray,List.getElem_cons_zero,List.getElem_cons_succ])
       go_simp
      (try simp only[List.getElem_toArray,List.getElem_cons_zero,List.getElem_cons_succ])
      (try simp only[Act.put,List.setIfInBounds_toArray,List.set_cons_zero,List.set_cons_succ])
      obtain⟨k0,k1,k2⟩:=HI.out.row.cells i (by rw[partF_length _ (by omega)];omega)
      have f0:=HI.out.row.fz (i*3)
      have f1:=HI.out.row.fz (i*3+1)
      have f2:=HI.out.row.fz (i*3+2)
      generalize (partF TL i)[i]'(by rw[partF_length _ (by omega)];omega)=z at *
      obtain⟨zn,zx,zy⟩:=z
      simp only at k0 k1 k2
      refine wpAnyH_ready (rs:=[15]) (by kernel_rfl) (by simp) (AllReadyH.cons rfl ?_ (AllReadyH.nil))
      ·intro K' hK'
       (try simp only[List.getElem_toArray,List.getElem_cons_zero,List.getElem_cons_succ])
       go_simp
       refine hK'.out _ _ (HELD.out _ (HI.out.put (Nat.le_refl _) i qf).bel) (fun _=>wpAnyH_done (by kernel_rfl) ?_ _)
       clear hK' K' hSd
       replace HI:=hid (HI.out.put (Nat.le_refl _) i qf)
       rw[HPS.out] at HI
       clear k0 k1 k2 f0 f1 f2
       go_wp2
       go_roundw
       case rel=>exact⟨i+1,by omega,by go_num,HI⟩
       case measure=>simp[intOf];omega
    ·obtain rfl:i=n:=by omega
     have hfin:=HI.out.row
     rw[←htl,partF_all] at hfin
     obtain⟨hd1,hd2⟩:=List.getElem?_eq_some_iff.1 (HFG.out j hjl)
     have HPS:=hid (partF_set FL hd1)
     rw[hd2] at HPS
     have HSU:Hid (Calls Tryz.prog 64 #[.slice (some ⟨W.heap.size,0,none⟩) i i] wr fun e w'=>e=.returned (.agg #[.bool (qF (sumR (fun k=>f k*g k j) i)).1,.string (qF (sumR (fun k=>f k*g k j) i)).2.1,.string (qF (sumR (fun k=>f k*g k j) i)).2.2])∧Below wr.heap.size wr w'):=by
      have h:=fSum_cw (some ⟨W.heap.size,0,none⟩) i TL wr hfin.fr (fun q hq=>Nat.le_trans (HTL.out.size q hq) (by omega)) (fun q hq=>by rw[HTL.out.fsumk (by rw[HTL.out.len] at hq;exact hq)];exact HPQ.out j q hjl (by rw[HTL.out.len] at hq;exact hq)) (by rw[HTL.out.len];omega)
      rw[HTL.out.len,HTL.out.fsum] at h
      exact h
     have HB:=hid HI.out.bel
     clear hfin hd1 hd2 HI
     generalize qF (sumR (fun k=>f k*g k j) i)=qf at *
     go_wp2_with fail
     refine HSU.out.mono ?_
     rintro e w5 ⟨rfl,hb5⟩
     replace HK:=hid (HK.out.step (HB.out.trans (hb5.mono HB.out.size)))
     clear hb5
     obtain⟨k0,k1,k2⟩:=HK.out.row.cells j (by rw[partF_length _ (by omega)];omega)
     have f0:=HK.out.row.fz (j*3)
     have f1:=HK.out.row.fz (j*3+1)
     have f2:=HK.out.row.fz (j*3+2)
     generalize (partF FL j)[j]'(by rw[partF_length _ (by omega)];omega)=z at *
     obtain⟨zn,zx,zy⟩:=z
     simp only at k0 k1 k2
     have HK2:=hid (HK.out.put (Nat.le_refl _) j qf)
     rw[HPS.out] at HK2
     go_wp2
     go_roundw
     case rel=>exact⟨j+1,by omega,by go_num,HK2⟩
     case measure=>simp[intOf];omega
  ·obtain rfl:j=n:=by omega
   have hfin:=HK.out.row
   rw[←hfl,partF_all] at hfin
   have HFI:=hid hfin
   clear hfin
   go_wp2
   go_ret
   exact⟨w.heap.size,rfl,Nat.le_refl _,HFI.out,HK.out.bel⟩
set_option maxRecDepth 100000 in
set_option maxHeartbeats 400000 in
theorem chStep_long (a c:Option Addr) (ca cc n:Nat) (l:List Fr) (R:List (List Fr)) (f:Nat→Rat) (g:Nat→Nat→Rat) (w:World) (ha:FrS w a l) (hR:FsS w c R) (hf:LsW n f l) (hO:RwsOK n n R) (h1:1≤n) (hg:∀i (h:i<R.length),LsW n (g i) R[i]) (hsz:∀i j,i<n→j<n→qw (f i*g i j)≤20000) (hps:∀j k,j<n→k≤n→qw (sumR (fun i=>f i*g i j) k)≤40000) (h5:n≤6):
  Calls Tryz.prog 7 #[.slice a n ca,.slice c n cc] w fun e w'=>∃G,e=.returned (.tuple #[.slice (some ⟨G,0,none⟩) n n,.int .i64 0])∧w.heap.size≤G∧RowF w' G (lF n fun j=>sumR (fun i=>f i*g i j) n)∧Below w.heap.size w w':=by
 have HC:=hid (chCheck_yes c cc n R w hR hO h1 h5)
 have HM:=hid (fun (U:World) (hU:Below w.heap.size w U)=>chMoved_long a c ca cc n l R f g U (ha.below hU) (hR.below hU) hf hO.len hg hsz hps h5)
 clear ha hR hO hf hg hsz hps
 go_enter Tryz.func7,Tryz.ntmps7
 go_wp2_with fail
 refine HC.out.mono ?_
 rintro e w1 ⟨rfl,hb1⟩
 have HB1:=hid hb1
 clear hb1
 go_wp2_with fail
 refine(HM.out _ HB1.out).mono ?_
 rintro e w2 ⟨G,rfl,hG,hr,hb2⟩
 have HB2:=hid (HB1.out.trans (hb2.mono HB1.out.size))
 have HRR:=hid hr
 have hGw:w.heap.size≤G:=Nat.le_trans HB1.out.size hG
 clear hr hb2 hG
 go_wp2
 go_ret2
 exact⟨G,rfl,hGw,HRR.out,HB2.out⟩
end Go.Proofs.YtmbjmiioggfneaaGreatDoor

/- Powers of a chain, plainly: by fractions, and by whole numbers over one that all share. -/
namespace Go.Proofs.YtmbjmiioggfneaaGreatDoor
def powQ (n:Nat) (P:Nat→Nat→Rat):Nat→Nat→Nat→Rat
 |0,i,j=>if i=j then 1 else 0
 |k+1,i,j=>sumR (fun t=>powQ n P k i t*P t j) n
theorem pow_chn {n:Nat} {P:Nat→Nat→Rat} (h:Chn n P):∀k,Chn n (powQ n P k)
 |0=>⟨fun i j _ _=>by show (0:Rat)≤if i=j then 1 else 0;split<;>decide,fun i hi=>sumR_delta hi⟩
 |k+1=>by
  have ih:=pow_chn h k
  refine⟨fun i j hi hj=>sumR_low fun t ht=>Rat.mul_nonneg (ih.low i t hi ht) (h.low t j ht hj),fun i hi=>?_⟩
  show sumR (fun j=>sumR (fun t=>powQ n P k i t*P t j) n) n=1
  rw[sumR_swap (fun j t=>powQ n P k i t*P t j),←ih.one i hi]
  refine sumR_congr fun t ht=>?_
  rw[sumR_mul,h.one t ht,Rat.mul_one]
def sumN (f:Nat→Nat):Nat→Nat
 |0=>0
 |n+1=>sumN f n+f n
theorem sumN_rat (f:Nat→Nat):∀n,((sumN f n:Nat):Rat)=sumR (fun i=>((f i:Nat):Rat)) n
 |0=>rfl
 |n+1=>by
  show (((sumN f n+f n:Nat)):Rat)=sumR _ n+_
  rw[Rat.natCast_add,sumN_rat f n]
theorem sumN_part {f:Nat→Nat}:∀ {n i:Nat},i≤n→sumN f i≤sumN f n
 |0,i,h=>by obtain rfl:=Nat.le_zero.1 h;exact Nat.le_refl _
 |n+1,i,h=>by
  rcases Nat.lt_or_ge i (n+1) with h1 |h1
  ·exact Nat.le_trans (sumN_part (Nat.lt_succ_iff.1 h1)) (Nat.le_add_right _ _)
  ·obtain rfl:i=n+1:=by omega
   exact Nat.le_refl _
def goN (n:Nat) (Cn:Nat→Nat→Nat) (r:Nat→Nat) (j:Nat):Nat:=sumN (fun t=>r t*Cn t j) n
def rowN (n:Nat) (Cn:Nat→Nat→Nat):Nat→Nat→Nat→Nat
 |0,i,j=>if j=i then 1 else 0
 |k+1,i,j=>goN n Cn (rowN n Cn k i) j
theorem row_pow {n D:Nat} {P:Nat→Nat→Rat} {Cn:Nat→Nat→Nat} (h:∀i j,i<n→j<n→((Cn i j:Nat):Rat)=P i j*(D:Rat)) {i:Nat} (hi:i<n):∀k j,j<n→((rowN n Cn k i j:Nat):Rat)=powQ n P k i j*((D^k:Nat):Rat)
 |0,j,_=>by
  show (((if j=i then 1 else 0:Nat)):Rat)=(if i=j then 1 else 0)*((1:Nat):Rat)
  by_cases e:j=i
  ·subst e;simp
  ·simp[e,Ne.symm e]
 |k+1,j,hj=>by
  show ((sumN (fun t=>rowN n Cn k i t*Cn t j) n:Nat):Rat)=sumR (fun t=>powQ n P k i t*P t j) n*((D^(k+1):Nat):Rat)
  rw[sumN_rat,←sumR_mulR]
  refine sumR_congr fun t ht=>?_
  rw[Rat.natCast_mul,row_pow h hi k t ht,h t j ht hj,Nat.pow_succ,Rat.natCast_mul]
  grind
theorem row_is {n D:Nat} {P:Nat→Nat→Rat} {Cn:Nat→Nat→Nat} (hD:D≠0) (h:∀i j,i<n→j<n→((Cn i j:Nat):Rat)=P i j*(D:Rat)) {i j:Nat} (hi:i<n) (hj:j<n) (k:Nat):mkRat ((rowN n Cn k i j:Nat):Int) (D^k)=powQ n P k i j:=by
 have hd:((D^k:Nat):Rat)≠0:=by
  have:D^k≠0:=Nat.ne_of_gt (Nat.pow_pos (Nat.pos_of_ne_zero hD))
  exact fun e=>this (by exact_mod_cast e)
 have h1:=row_pow h hi k j hj
 rw[Rat.mkRat_eq_div]
 rw[show (((rowN n Cn k i j:Nat):Int):Rat)=((rowN n Cn k i j:Nat):Rat) from rfl,h1,Rat.div_def,Rat.mul_assoc,Rat.mul_inv_cancel _ hd,Rat.mul_one]
theorem row_le {n D:Nat} {P:Nat→Nat→Rat} {Cn:Nat→Nat→Nat} (hc:Chn n P) (h:∀i j,i<n→j<n→((Cn i j:Nat):Rat)=P i j*(D:Rat)) {i j:Nat} (hi:i<n) (hj:j<n) (k:Nat):rowN n Cn k i j≤D^k:=by
 have h1:=row_pow h hi k j hj
 have h2:powQ n P k i j≤1:=by
  rw[←(pow_chn hc k).one i hi]
  exact sumR_part (f:=powQ n P k i) (fun t ht=>(pow_chn hc k).low i t hi ht) j hj
 have h3:((rowN n Cn k i j:Nat):Rat)≤((D^k:Nat):Rat):=by
  rw[h1]
  have h4:(0:Rat)≤((D^k:Nat):Rat):=Rat.natCast_nonneg
  have:=Rat.mul_le_mul_of_nonneg_right h2 h4
  rwa [Rat.one_mul] at this
 exact_mod_cast h3
def lcmS (o d:Nat):Nat:=o*(d/Nat.gcd o d)
theorem lcmS_left (o d:Nat):o∣lcmS o d:=⟨_,rfl⟩
theorem lcmS_right (o d:Nat):d∣lcmS o d:=by
 have h1:Nat.gcd o d∣d:=Nat.gcd_dvd_right o d
 have h2:Nat.gcd o d∣o:=Nat.gcd_dvd_left o d
 obtain⟨x,hx⟩:=h2
 refine⟨x,?_⟩
 show o*(d/Nat.gcd o d)=d*x
 obtain⟨y,hy⟩:=h1
 by_cases e:Nat.gcd o d=0
 ·have h3:=Nat.gcd_eq_zero_iff.1 e
  rw[h3.1,h3.2];simp
 ·have e1:d/Nat.gcd o d=y:=Nat.div_eq_of_eq_mul_right (Nat.pos_of_ne_zero e) hy
  rw[e1]
  have h4:o*y=Nat.gcd o d*x*y:=by rw[←hx]
  rw[h4,Nat.mul_assoc,Nat.mul_comm x y,←Nat.mul_assoc,←hy]
theorem lcmS_pos {o d:Nat} (ho:0<o) (hd:0<d):0<lcmS o d:=Nat.mul_pos ho (Nat.div_pos (Nat.le_of_dvd hd (Nat.gcd_dvd_right o d)) (Nat.gcd_pos_of_pos_left _ ho))
end Go.Proofs.YtmbjmiioggfneaaGreatDoor

/- Rows of whole numbers in memory; goOn of package chain. -/
namespace Go.Proofs.YtmbjmiioggfneaaGreatDoor
open Go.RowKit Go.Shelf
theorem Tryz.infoNat:(Tryz.prog.info? 42).map (fun i=>(i.zero,i.size,i.bytes))=some (some (.string ⟨#[]⟩),1,16):=by kernel_rfl
theorem Tryz.infoNats:(Tryz.prog.info? 91).map (fun i=>(i.zero,i.size,i.bytes))=some (some (.slice none 0 0),1,24):=by kernel_rfl
def stC (l:List Nat):List Value:=l.map fun x=>.string (B x)
theorem stC_snoc (l:List Nat) (x:Nat):stC (l++[x])=stC l++[.string (B x)]:=by simp[stC]
def NtS (w:World) (a:Option Addr) (l:List Nat):Prop:=∀k (h:k<l.length),∃g o,a=some ⟨g,o,none⟩∧g<w.heap.size∧w.cell? ⟨g,o+k,none⟩=some (.string (B l[k]))
theorem NtS.below {w w':World} {a:Option Addr} {l:List Nat} (h:NtS w a l) (hb:Below w.heap.size w w'):NtS w' a l:=fun k hk=>by
 obtain⟨g,o,h1,h2,h3⟩:=h k hk
 exact⟨g,o,h1,Nat.lt_of_lt_of_le h2 hb.size,(hb.cell (p:=⟨g,_,none⟩) h2).trans h3⟩
def lN (n:Nat) (f:Nat→Nat):List Nat:=(List.range n).map f
theorem lN_length (n:Nat) (f:Nat→Nat):(lN n f).length=n:=by simp[lN]
theorem lN_get {n:Nat} {f:Nat→Nat} {i:Nat} (h:i<(lN n f).length):(lN n f)[i]=f i:=by simp[lN]
theorem lN_snoc (n:Nat) (f:Nat→Nat):lN (n+1) f=lN n f++[f n]:=by simp[lN,List.range_succ]
theorem lN_congr {n:Nat} {f g:Nat→Nat} (h:∀i,i<n→f i=g i):lN n f=lN n g:=List.map_congr_left fun i hi=>h i (List.mem_range.1 hi)
theorem lN_set {n:Nat} (f:Nat→Nat) (j v:Nat):(lN n f).set j v=lN n fun i=>if i=j then v else f i:=by
 refine List.ext_getElem (by simp[lN]) fun k h1 h2=>?_
 rw[List.getElem_set]
 simp only[lN,List.getElem_map,List.getElem_range]
 by_cases e:j=k
 ·rw[if_pos e,if_pos e.symm]
 ·rw[if_neg e,if_neg (Ne.symm e)]
def NtR (w:World) (a:Option Addr) (n:Nat) (M:Nat→Nat→Nat):Prop:=∀i,i<n→∃g o b c,a=some ⟨g,o,none⟩∧g<w.heap.size∧w.cell? ⟨g,o+i,none⟩=some (.slice b n c)∧NtS w b (lN n (M i))
theorem NtR.below {w w':World} {a:Option Addr} {n:Nat} {M:Nat→Nat→Nat} (h:NtR w a n M) (hb:Below w.heap.size w w'):NtR w' a n M:=fun i hi=>by
 obtain⟨g,o,b,c,h1,h2,h3,h4⟩:=h i hi
 exact⟨g,o,b,c,h1,Nat.lt_of_lt_of_le h2 hb.size,(hb.cell (p:=⟨g,_,none⟩) h2).trans h3,h4.below hb⟩
theorem NtR.at {w:World} {a:Option Addr} {n:Nat} {M:Nat→Nat→Nat} (h:NtR w a n M) {i j:Nat} (hi:i<n) (hj:j<n):∃g o gr or_ cr,a=some ⟨g,o,none⟩∧g<w.heap.size∧gr<w.heap.size∧w.cell? ⟨g,o+i,none⟩=some (.slice (some ⟨gr,or_,none⟩) n cr)∧w.cell? ⟨gr,or_+j,none⟩=some (.string (B (M i j))):=by
 obtain⟨g,o,b,c,h1,h2,h3,h4⟩:=h i hi
 obtain⟨gr,or_,rfl,h5,h6⟩:=h4 j (by rw[lN_length];exact hj)
 rw[lN_get] at h6
 exact⟨g,o,gr,or_,c,h1,h2,h5,h3,h6⟩
def RwN (w:World) (g:Nat) (l:List Nat):Prop:=w.heap[g]? =some (.cells (stC l).toArray 42 (0,0))
theorem RwN.lt {w:World} {g:Nat} {l:List Nat} (h:RwN w g l):g<w.heap.size:=(Array.getElem?_eq_some_iff.1 h).1
theorem RwN.cell {w:World} {g:Nat} {l:List Nat} (h:RwN w g l) (j:Nat) (hj:j<l.length):w.cell? ⟨g,j,none⟩=some (.string (B l[j])):=by
 rw[cell_of_row w g j _ _ (0,0) h]
 simp[stC,hj]
theorem RwN.fz {w:World} {g:Nat} {l:List Nat} (h:RwN w g l) (j:Nat):w.frozen? ⟨g,j,none⟩=false:=frozen_of_row w g j _ _ h
theorem RwN.below {w w':World} {g b:Nat} {l:List Nat} (h:RwN w g l) (hb:Below b w w') (hg:g<b):RwN w' g l:=(hb.block g hg).trans h
theorem RwN.set {w:World} {g:Nat} {l:List Nat} (h:RwN w g l) (j v:Nat):RwN (w.setCell ⟨g,j,none⟩ (.string (B v))) g (l.set j v):=by
 have h1:(w.setCell ⟨g,j,none⟩ (.string (B v))).heap[g]? =some (.cells ((stC l).toArray.setIfInBounds j (.string (B v))) 42 (0,0)):=heap_setCell_same w g j _ _ _ h
 rw[RwN,h1]
 simp[stC,List.map_set]
theorem RwN.st {w:World} {g:Nat} {l:List Nat} (h:RwN w g l):NtS w (some ⟨g,0,none⟩) l:=fun k hk=>⟨g,0,rfl,h.lt,by rw[Nat.zero_add];exact h.cell k hk⟩
theorem made_nats (n:Nat):(madeCells (Value.string ⟨#[]⟩).cells (n*1)).toList=stC (lN n fun _=>0):=by
 rw[show (Value.string ⟨#[]⟩).cells= #[Value.string ⟨#[]⟩] from rfl,toList_madeCells_one,Nat.mul_one]
 refine List.ext_getElem (by simp[stC,lN]) fun k h1 h2=>?_
 simp[stC,lN,B_zero]
structure MN (w:World) (G:Nat) (l:List Nat) (U:World):Prop where
 row:RwN U G l
 bel:Below w.heap.size w U
theorem MN.step {w U U':World} {G:Nat} {l:List Nat} (h:MN w G l U) (hb:Below U.heap.size U U'):MN w G l U':=⟨h.row.below hb h.row.lt,h.bel.trans (hb.mono h.bel.size)⟩
theorem MN.drew {w U:World} {G:Nat} {l:List Nat} (h:MN w G l U):MN w G l U.drew:=⟨h.row,h.bel.drew⟩
theorem MN.put {w U:World} {G:Nat} {l:List Nat} (h:MN w G l U) (hg:w.heap.size≤G) (i x:Nat):MN w G (l.set i x) (U.setCell ⟨G,i,none⟩ (.string (B x))):=⟨h.row.set i x,h.bel.setCell (p:=⟨G,i,none⟩) hg _⟩
def goP (Cn:Nat→Nat→Nat) (r:Nat→Nat) (i j:Nat) (k:Nat):Nat:=sumN (fun t=>r t*Cn t k) (if k<j then i+1 else i)
theorem goP_set {n:Nat} {Cn:Nat→Nat→Nat} {r:Nat→Nat} {i j:Nat}:(lN n (goP Cn r i j)).set j (sumN (fun t=>r t*Cn t j) (i+1))=lN n (goP Cn r i (j+1)):=by
 rw[lN_set]
 refine lN_congr fun k _=>?_
 by_cases e:k=j
 ·subst e
  rw[if_pos rfl,goP,if_pos (by omega)]
 ·rw[if_neg e,goP,goP]
  by_cases h:k<j
  ·rw[if_pos h,if_pos (by omega)]
  ·rw[if_neg h,if_neg (by omega)]
theorem goP_next {n:Nat} {Cn:Nat→Nat→Nat} {r:Nat→Nat} {i:Nat}:lN n (goP Cn r i n)=lN n (goP Cn r (i+1) 0):=lN_congr fun k hk=>by rw[goP,goP,if_pos hk,if_neg (Nat.not_lt_zero k)]
theorem goP_done {n:Nat} {Cn:Nat→Nat→Nat} {r:Nat→Nat}:lN n (goP Cn r n 0)=lN n (goN n Cn r):=lN_congr fun k _=>by rw[goP,goN,if_neg (Nat.not_lt_zero k)]
theorem goP_start {n:Nat} {Cn:Nat→Nat→Nat} {r:Nat→Nat}:lN n (goP Cn r 0 0)=lN n fun _=>0:=lN_congr fun k _=>by rw[goP,if_neg (Nat.not_lt_zero k)];rfl
set_option maxRecDepth 100000 in
set_option maxHeartbeats 4000000 in
theorem chGoOn_any (a c:Option Addr) (ca cc n:Nat) (r:Nat→Nat) (Cn:Nat→Nat→Nat) (w:World) (ha:NtS w a (lN n r)) (hc:NtR w c n Cn) (hn:n≤100) (hr:∀i,i<n→(B (r i)).size≤1000000) (hC:∀i j,i<n→j<n→(B (Cn i j)).size≤1000000) (hs:∀i j,i≤n→j<n→(B (sumN (fun t=>r t*Cn t j) i)).size≤1000000):
  Calls Tryz.prog 71 #[.slice a n ca,.slice c n cc] w fun e w'=>∃G,e=.returned (.slice (some ⟨G,0,none⟩) n n)∧w.heap.size≤G∧RwN w' G (lN n (goN n Cn r))∧Below w.heap.size w w':=by
 obtain⟨i0,hi0,hz0,hz1,hz2⟩:=info_parts Tryz.infoNat
 have HA:=hid ha
 have HC:=hid hc
 have HR:=hid hr
 have HCS:=hid hC
 have HSS:=hid hs
 clear ha hc hr hC hs
 go_enter Tryz.func71,Tryz.ntmps71
 go_upto_region 2 with (at_make;refine wpList_make_full _ rfl _ _ 91 rfl w.heap.size 42 i0 (.string ⟨#[]⟩) 1 Tryz.underlying91 hi0 hz0 hz1 .i64 .i64 _ _ n rfl rfl (by go_num) (by go_num) (by rw[hz2];omega) (by unfold maxLen;omega) (Nat.le_refl _) ?_;intro w2 hown2 hgrow2)
 have hb2:=block_of_own hown2
 rw[made_nats] at hb2
 have hB2:Below w.heap.size w w2:=(Below.refl _ w).grown hgrow2 (Nat.le_refl _) (fun k e=>by cases e)
 have HK0:Hid (MN w w.heap.size (lN n (goP Cn r 0 0)) w2):=⟨by rw[goP_start];exact hb2,hB2⟩
 clear hown2 hgrow2 hb2 hB2
 have hGw:w.heap.size≤w.heap.size:=Nat.le_refl _
 obtain⟨G,hG⟩:∃x,w.heap.size=x:=⟨_,rfl⟩
 have HG:=hid hG
 have HK0':Hid (MN w G (lN n (goP Cn r 0 0)) w2):=by rw[←hG];exact HK0.out
 rw[show w.heap.size=G from hG] at hGw
 clear HK0
 go_wp2_with fail
 simp only[hG]
 have hGw:w.heap.size≤G:=Nat.le_of_eq hG
 clear hG
 go_loopw [14] (fun iv wr=>∃i:Nat,i≤n∧iv=.int .i64 i∧Hid (MN w G (lN n (goP Cn r i 0)) wr)) (fun iv _=>n - (intOf iv).toNat)
 case atStart=>exact⟨0,Nat.zero_le _,rfl,HK0'⟩
 case round=>
  obtain⟨i,hi,rfl,HKi⟩:=hrel
  clear HK0'
  by_cases hlt:i<n
  ·obtain⟨ga,oa,rfl,hga,a0⟩:=(HA.out.below HKi.out.bel) i (by rw[lN_length];exact hlt)
   rw[lN_get] at a0
   have hri:=HR.out i hlt
   obtain⟨rb,hrb⟩:∃x,B (r i)=x:=⟨_,rfl⟩
   have HRB:=hid hrb
   rw[hrb] at a0
   clear hrb
   go_wp2_with fail
   clear a0
   go_loopw [21] (fun jv wr=>∃j:Nat,j≤n∧jv=.int .i64 j∧Hid (MN w G (lN n (goP Cn r i j)) wr)) (fun jv _=>n - (intOf jv).toNat)
   case atStart=>exact⟨0,Nat.zero_le _,rfl,HKi⟩
   case round=>
    obtain⟨j,hj,rfl,HK⟩:=hrel
    clear HKi
    by_cases hlj:j<n
    ·obtain⟨g,o,gr,or_,cr,rfl,hg,hgr,c0,c1⟩:=HC.out.at hlt hlj
     have hcj:=HCS.out i j hlt hlj
     have hsj:=HSS.out i j hi hlj
     have hmj:=sz_mul (r i) (Cn i j)
     have HMU:Hid (∀U:World,Calls Tryz.prog 70 #[.string rb,.string (B (Cn i j))] U fun e w'=>e=.returned (.string (B (r i*Cn i j)))∧Below U.heap.size U w'):=fun U=>by
      rw[←HRB.out]
      have h9:=Mul_any (B (r i)) (B (Cn i j)) U (by omega) (by omega)
      rw[N_B,N_B] at h9
      exact h9
     have HAD:Hid (∀U:World,Calls Tryz.prog 84 #[.string (B (sumN (fun t=>r t*Cn t j) i)),.string (B (r i*Cn i j))] U fun e w'=>e=.returned (.string (B (sumN (fun t=>r t*Cn t j) (i+1))))∧Below U.heap.size U w'):=fun U=>by
      have h9:=Add_any (B (sumN (fun t=>r t*Cn t j) i)) (B (r i*Cn i j)) U (by omega) (by omega)
      rw[N_B,N_B] at h9
      exact h9
     have HCJ:Hid (∀u:World,RwN u G (lN n (goP Cn r i j))→u.cell? ⟨G,j,none⟩=some (.string (B (sumN (fun t=>r t*Cn t j) i)))):=fun u h=>by
      rw[h.cell j (by rw[lN_length];exact hlj),lN_get,goP,if_neg (Nat.lt_irrefl j)]
     generalize hcb:B (Cn i j)=cb at *
     generalize hbb:B (sumN (fun t=>r t*Cn t j) i)=bb at *
     generalize hpb:B (r i*Cn i j)=pb at *
     have HELD:Hid (∀u,Below w.heap.size w u→u.cell? ⟨g,o+i,none⟩=some (.slice (some ⟨gr,or_,none⟩) n cr)∧u.cell? ⟨gr,or_+j,none⟩=some (.string cb)):=fun u h=>⟨(h.cell (p:=⟨g,_,none⟩) hg).trans c0,(h.cell (p:=⟨gr,_,none⟩) hgr).trans c1⟩
     clear hcj hsj hmj hcb hbb hpb c0 c1 hg hgr
     go_upto_region 8 with fail
     replace HK:=hid HK.out.drew
     refine wp_region_until 17 (fun (b:Bool) (u:World)=>(u.cell? ⟨g,o+i,none⟩=some (.slice (some ⟨gr,or_,none⟩) n cr)∧u.cell? ⟨gr,or_+j,none⟩=some (.string cb))∧(b=false→u.cell? ⟨G,j,none⟩=some (.string bb))) (by kernel_rfl) ⟨HELD.out _ HK.out.bel,fun _=>HCJ.out _ HK.out.row⟩ (fun hSd=>?_)
     generalize wr.drew=u0 at *
     refine wpU_take (i:=0) (oi:=_) (v:=.slice (some ⟨G,0,none⟩) n n) (b:=false) rfl (by kernel_rfl) (by kernel_rfl) (by kernel_rfl) (by decide) (fun _ _ _ h=>h) (Or.inl ⟨by rfl,?_⟩) (by kernel_rfl) (by assumption) ?_
     ·intro u' hSu
      (try simp only[List.getElem_toArray,List.getElem_cons_zero])
      go_simp
     (try simp only[List.getElem_toArray,List.getElem_cons_zero])
     (try simp only[Act.put,List.setIfInBounds_toArray,List.set_cons_zero,List.set_cons_succ])
     refine wpU_take (i:=1) (oi:=_) (v:=.int .i64 (j:Nat)) (b:=false) rfl (by kernel_rfl) (by kernel_rfl) (by kernel_rfl) (by decide) (fun _ _ _ h=>h) (Or.inl ⟨by rfl,?_⟩) (by kernel_rfl) (by assumption) ?_
     ·intro u' hSu
      (try simp only[List.getElem_toArray,List.getElem_cons_zero,List.getElem_cons_succ])
      go_simp
     (try simp only[List.getElem_toArray,List.getElem_cons_zero,List.getElem_cons_succ])
     (try simp only[Act.put,List.setIfInBounds_toArray,List.set_cons_zero,List.set_cons_succ])
     refine wpU_take (i:=2) (oi:=_) (v:=.slice (some ⟨G,0,none⟩) n n) (b:=false) rfl (by kernel_rfl) (by kernel_rfl) (by kernel_rfl) (by decide) (fun _ _ _ h=>h) (Or.inl ⟨by rfl,?_⟩) (by kernel_rfl) (by assumption) ?_
     ·intro u' hSu
      (try simp only[List.getElem_toArray,List.getElem_cons_zero,List.getElem_cons_succ])
      go_simp
     (try simp only[List.getElem_toArray,List.getElem_cons_zero,List.getElem_cons_succ])
     (try simp only[Act.put,List.setIfInBounds_toArray,List.set_cons_zero,List.set_cons_succ])
     refine wpU_take (i:=3) (oi:=_) (v:=.int .i64 (j:Nat)) (b:=false) rfl (by kernel_rfl) (by kernel_rfl) (by kernel_rfl) (by decide) (fun _ _ _ h=>h) (Or.inl ⟨by rfl,?_⟩) (by kernel_rfl) (by assumption) ?_
     ·intro u' hSu
      (try simp only[List.getElem_toArray,List.getElem_cons_zero,List.getElem_cons_succ])
      go_simp
     (try simp only[List.getElem_toArray,List.getElem_cons_zero,List.getElem_cons_succ])
     (try simp only[Act.put,List.setIfInBounds_toArray,List.set_cons_zero,List.set_cons_succ])
     refine wpU_take (i:=4) (oi:=_) (v:=.pointer (some ⟨G,j,none⟩)) (b:=false) rfl (by kernel_rfl) (by kernel_rfl) (by kernel_rfl) (by decide) (fun _ _ _ h=>h) (Or.inl ⟨by rfl,?_⟩) (by kernel_rfl) (by assumption) ?_
     ·intro u' hSu
      (try simp only[List.getElem_toArray,List.getElem_cons_zero,List.getElem_cons_succ])
      go_simp
     (try simp only[List.getElem_toArray,List.getElem_cons_zero,List.getElem_cons_succ])
     (try simp only[Act.put,List.setIfInBounds_toArray,List.set_cons_zero,List.set_cons_succ])
     refine wpU_ahead (i:=5) (oi:=_) (v:=.string bb) rfl (by kernel_rfl) (by kernel_rfl) (by kernel_rfl) (by decide) rfl (by kernel_rfl) (fun _ _ _ h=>h) (Or.inl ⟨by rfl,?_⟩) (by kernel_rfl) (by assumption) ?_
     ·intro u' hSu
      (try simp only[List.getElem_toArray,List.getElem_cons_zero,List.getElem_cons_succ])
      obtain⟨⟨s0,s1⟩,s2⟩:=hSu
      have s3:=s2 rfl
      go_simp
     (try simp only[List.getElem_toArray,List.getElem_cons_zero,List.getElem_cons_succ])
     (try simp only[Act.put,List.setIfInBounds_toArray,List.set_cons_zero,List.set_cons_succ])
     refine wpU_take (i:=6) (oi:=_) (v:=.string rb) (b:=false) rfl (by kernel_rfl) (by kernel_rfl) (by kernel_rfl) (by decide) (fun _ _ _ h=>h) (Or.inl ⟨by rfl,?_⟩) (by kernel_rfl) (by assumption) ?_
     ·intro u' hSu
      (try simp only[List.getElem_toArray,List.getElem_cons_zero,List.getElem_cons_succ])
      go_simp
     (try simp only[List.getElem_toArray,List.getElem_cons_zero,List.getElem_cons_succ])
     (try simp only[Act.put,List.setIfInBounds_toArray,List.set_cons_zero,List.set_cons_succ])
     refine wpU_take (i:=7) (oi:=_) (v:=.slice (some ⟨g,o,none⟩) n cc) (b:=false) rfl (by kernel_rfl) (by kernel_rfl) (by kernel_rfl) (by decide) (fun _ _ _ h=>h) (Or.inl ⟨by rfl,?_⟩) (by kernel_rfl) (by assumption) ?_
     ·intro u' hSu
      (try simp only[List.getElem_toArray,List.getElem_cons_zero,List.getElem_cons_succ])
      go_simp
     (try simp only[List.getElem_toArray,List.getElem_cons_zero,List.getElem_cons_succ])
     (try simp only[Act.put,List.setIfInBounds_toArray,List.set_cons_zero,List.set_cons_succ])
     refine wpU_take (i:=8) (oi:=_) (v:=.int .i64 (i:Nat)) (b:=false) rfl (by kernel_rfl) (by kernel_rfl) (by kernel_rfl) (by decide) (fun _ _ _ h=>h) (Or.inl ⟨by rfl,?_⟩) (by kernel_rfl) (by assumption) ?_
     ·intro u' hSu
      (try simp only[List.getElem_toArray,List.getElem_cons_zero,List.getElem_cons_succ])
      go_simp
     (try simp only[List.getElem_toArray,List.getElem_cons_zero,List.getElem_cons_succ])
     (try simp only[Act.put,List.setIfInBounds_toArray,List.set_cons_zero,List.set_cons_succ])
     refine wpU_take (i:=9) (oi:=_) (v:=.pointer (some ⟨g,o+i,none⟩)) (b:=false) rfl (by kernel_rfl) (by kernel_rfl) (by kernel_rfl) (by decide) (fun _ _ _ h=>h) (Or.inl ⟨by rfl,?_⟩) (by kernel_rfl) (by assumption) ?_
     ·intro u' hSu
      (try simp only[List.getElem_toArray,List.getElem_cons_zero,List.getElem_cons_succ])
      go_simp
     (try simp only[List.getElem_toArray,List.getElem_cons_zero,List.getElem_cons_succ])
     (try simp only[Act.put,List.setIfInBounds_toArray,List.set_cons_zero,List.set_cons_succ])
     refine wpU_take (i:=10) (oi:=_) (v:=.slice (some ⟨gr,or_,none⟩) n cr) (b:=false) rfl (by kernel_rfl) (by kernel_rfl) (by kernel_rfl) (by decide) (fun _ _ _ h=>h) (Or.inl ⟨by rfl,?_⟩) (by kernel_rfl) (by assumption) ?_
     ·intro u' hSu
      (try simp only[List.getElem_toArray,List.getElem_cons_zero,List.getElem_cons_succ])
      obtain⟨_,⟨s0,s1⟩,_⟩:=hSu
      go_simp
     (try simp only[List.getElem_toArray,List.getElem_cons_zero,List.getElem_cons_succ])
     (try simp only[Act.put,List.setIfInBounds_toArray,List.set_cons_zero,List.set_cons_succ])
     refine wpU_take (i:=11) (oi:=_) (v:=.int .i64 (j:Nat)) (b:=false) rfl (by kernel_rfl) (by kernel_rfl) (by kernel_rfl) (by decide) (fun _ _ _ h=>h) (Or.inl ⟨by rfl,?_⟩) (by kernel_rfl) (by assumption) ?_
     ·intro u' hSu
      (try simp only[List.getElem_toArray,List.getElem_cons_zero,List.getElem_cons_succ])
      go_simp
     (try simp only[List.getElem_toArray,List.getElem_cons_zero,List.getElem_cons_succ])
     (try simp only[Act.put,List.setIfInBounds_toArray,List.set_cons_zero,List.set_cons_succ])
     refine wpU_take (i:=12) (oi:=_) (v:=.pointer (some ⟨gr,or_+j,none⟩)) (b:=false) rfl (by kernel_rfl) (by kernel_rfl) (by kernel_rfl) (by decide) (fun _ _ _ h=>h) (Or.inl ⟨by rfl,?_⟩) (by kernel_rfl) (by assumption) ?_
     ·intro u' hSu
      (try simp only[List.getElem_toArray,List.getElem_cons_zero,List.getElem_cons_succ])
      go_simp
     (try simp only[List.getElem_toArray,List.getElem_cons_zero,List.getElem_cons_succ])
     (try simp only[Act.put,List.setIfInBounds_toArray,List.set_cons_zero,List.set_cons_succ])
     refine wpU_take (i:=13) (oi:=_) (v:=.string cb) (b:=false) rfl (by kernel_rfl) (by kernel_rfl) (by kernel_rfl) (by decide) (fun _ _ _ h=>h) (Or.inl ⟨by rfl,?_⟩) (by kernel_rfl) (by assumption) ?_
     ·intro u' hSu
      (try simp only[List.getElem_toArray,List.getElem_cons_zero,List.getElem_cons_succ])
      obtain⟨_,⟨s0,s1⟩,_⟩:=hSu
      go_simp
     (try simp only[List.getElem_toArray,List.getElem_cons_zero,List.getElem_cons_succ])
     (try simp only[Act.put,List.setIfInBounds_toArray,List.set_cons_zero,List.set_cons_succ])
     refine wpU_ready (rs:=[14]) (by kernel_rfl) (by simp) (AllU.cons (b:=false) rfl (by kernel_rfl) ?_ (AllU.nil))
     ·intro K' hK'
      (try simp only[List.getElem_toArray,List.getElem_cons_zero,List.getElem_cons_succ])
      go_simp
      refine(HMU.out _).mono ?_
      rintro e u1 ⟨rfl,hb⟩
      replace HK:=hid (HK.out.step hb)
      refine hK'.out _ _ ⟨HELD.out _ HK.out.bel,fun _=>HCJ.out _ HK.out.row⟩ (fun hSe=>?_)
      clear hK' K' hSd
      have hSd:=hSe
      clear hSe
      clear hb
      (try simp only[List.getElem_toArray,List.getElem_cons_zero,List.getElem_cons_succ])
      (try simp only[Act.put,List.setIfInBounds_toArray,List.set_cons_zero,List.set_cons_succ])
      refine wpU_ready (rs:=[15]) (by kernel_rfl) (by simp) (AllU.cons (b:=false) rfl (by kernel_rfl) ?_ (AllU.nil))
      ·intro K' hK'
       (try simp only[List.getElem_toArray,List.getElem_cons_zero,List.getElem_cons_succ])
       go_simp
       refine(HAD.out _).mono ?_
       rintro e u2 ⟨rfl,hb⟩
       replace HK:=hid (HK.out.step hb)
       refine hK'.out _ _ ⟨HELD.out _ HK.out.bel,fun _=>HCJ.out _ HK.out.row⟩ (fun hSe=>?_)
       clear hK' K' hSd
       have hSd:=hSe
       clear hSe
       clear hb
       (try simp only[List.getElem_toArray,List.getElem_cons_zero,List.getElem_cons_succ])
       (try simp only[Act.put,List.setIfInBounds_toArray,List.set_cons_zero,List.set_cons_succ])
       refine wpU_take (i:=16) (oi:=_) (v:=.pointer (some ⟨G,j,none⟩)) (b:=false) rfl (by kernel_rfl) (by kernel_rfl) (by kernel_rfl) (by decide) (fun _ _ _ h=>h) (Or.inl ⟨by rfl,?_⟩) (by kernel_rfl) (by assumption) ?_
       ·intro u' hSu
        (try simp only[List.getElem_toArray,List.getElem_cons_zero,List.getElem_cons_succ])
        go_simp
       (try simp only[List.getElem_toArray,List.getElem_cons_zero,List.getElem_cons_succ])
       (try simp only[Act.put,List.setIfInBounds_toArray,List.set_cons_zero,List.set_cons_succ])
       have q0:=HCJ.out _ HK.out.row
       have q1:=HK.out.row.fz j
       refine wpU_ready (rs:=[17]) (by kernel_rfl) (by simp) (AllU.cons (b:=true) rfl (by kernel_rfl) ?_ (AllU.nil))
       ·intro K' hK'
        (try simp only[List.getElem_toArray,List.getElem_cons_zero,List.getElem_cons_succ])
        go_simp
        have HKN:=hid (HK.out.put hGw j (sumN (fun t=>r t*Cn t j) (i+1)))
        refine hK'.out _ _ ⟨HELD.out _ HKN.out.bel,fun e=>by cases e⟩ (fun _=>wpU_done (by kernel_rfl) ?_ _)
        clear hK' K' hSd q0 q1 HK
        rw[goP_set] at HKN
        go_wp2
        go_roundw
        case rel=>exact⟨j+1,by omega,by go_num,HKN⟩
        case measure=>simp[intOf];omega
    ·obtain rfl:n=j:=by omega
     rw[goP_next] at HK
     go_wp2
     go_roundw
     case rel=>exact⟨i+1,by omega,by go_num,HK⟩
     case measure=>simp[intOf];omega
  ·obtain rfl:n=i:=by omega
   rw[goP_done] at HKi
   go_wp2
   go_ret
   exact⟨G,rfl,hGw,HKi.out.row,HKi.out.bel⟩
end Go.Proofs.YtmbjmiioggfneaaGreatDoor
