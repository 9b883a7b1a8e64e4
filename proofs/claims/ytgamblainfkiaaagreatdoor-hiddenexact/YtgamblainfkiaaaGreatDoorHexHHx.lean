/- The answer's Forward. -/
import Derived.Test.YtgamblainfkiaaaGreatDoorHexEHxHexG
import Derived.Test.YtgamblainfkiaaaGreatDoorHexKHxChnM
import Derived.Test.YtgamblainfkiaaaGreatDoorUnrBHxAnyU
namespace Go.Proofs.YtgamblainfkiaaaGreatDoor
open Go.RowKit Go.Shelf
theorem grown_setH (U:World) (S j:Nat) (v:Value):U.grownBy (U.setCell ⟨S,j,none⟩ v) (some S):=⟨rfl,rfl,rfl,by simp[World.setCell],fun k _ hk=>Below.heap_setCell U ⟨S,j,none⟩ v k fun e=>hk (by rw[e])⟩
theorem EqR.apart {U:World} {B g m c:Nat} {f:Nat→Rat} (h:EqR U B g m c f) {b:Nat} (hb:g≠b) (x y z:Value):EqR (((U.setCell ⟨b,0,none⟩ x).setCell ⟨b,1,none⟩ y).setCell ⟨b,2,none⟩ z) B g m c f:=((h.kept (grown_setH _ b 0 x) hb).kept (grown_setH _ b 1 y) hb).kept (grown_setH _ b 2 z) hb
theorem way_row {vt i:Nat} {q:Rat} {F:Nat→Nat→Rat} (hF:∀j,F j i=if vt=j then q else 0):∀j,(if j=vt then sumR (F vt) i+q else sumR (F j) i)=sumR (F j) (i+1):=fun j=>by
 show _=sumR (F j) i+F j i
 rw[hF j]
 by_cases e:j=vt
 ·subst e
  rw[if_pos rfl,if_pos rfl]
 ·rw[if_neg e,if_neg (Ne.symm e),Rat.add_zero]
set_option maxRecDepth 100000 in
set_option maxHeartbeats 4000000 in
theorem rForward_ok {D:Nat} (a b c d:Option Addr) (ca cb cc cd n L m:Nat) (l:List Fr) (R1 R2:List (List Fr)) (Q:List Nat) (h:HC) (w:World) (hI:HidI w a b c n m l R1 R2) (hV:HidV D h m l R1 R2 Q) (hsn:h.s=n) (hL:h.L=L) (hS:HidS l R1 R2) (hQ:IntS w d (iL Q)) (hse:SeeE l R1 R2 (iL Q) 0) (hNN:n^L≤300):
  Calls Tryz.prog 12 #[.agg #[.slice a n ca,.slice b n cb,.slice c n cc],.slice d L cd] w fun e w'=>∃x k,e=.returned (.tuple #[.slice x L k,.int .i64 0])∧FsS w' x ((List.range L).map fun t=>lF n (h.alp t))∧Below w.heap.size w w':=by
 have hok:=hV.okn hsn
 have hn1:=hok.n1
 have hn4:=hok.n4
 have hL8:L≤8:=by rw[←hL];exact hV.sm.L8
 obtain⟨el,er1,er2,eq⟩:=hV.toM hsn
 have eqL:(iL Q).length=L:=by rw[iL_length,eq,hL]
 have HSEE:Hid (∀U:World,Below w.heap.size w U→Calls Tryz.prog 32 #[.agg #[.slice a n ca,.slice b n cb,.slice c n cc],.slice d L cd] U fun e w'=>e=.returned (.int .i64 0)∧Below U.heap.size U w'):=fun U hU=>by
  have h9:=rSeen_any a b c d ca cb cc cd l R1 R2 (iL Q) U ⟨hI.st.below hU,hI.mv.below hU,hI.sh.below hU⟩ hS (hQ.below hU) (by rw[eqL];omega)
  rw[el,er1,er2,eqL] at h9
  refine h9.mono ?_
  rintro e w' ⟨⟨x,rfl,hx⟩,hb⟩
  rw[hx.uniq hse]
  exact⟨rfl,hb⟩
 have HPOW:Hid (∀t,t≤L→n^t≤300):=fun t ht=>Nat.le_trans (Nat.pow_le_pow_right hn1 ht) hNN
 have HWS:=hid (fun (t:Nat) (ht:t≤L) (U:World)=>ways_any n t U hn1 hn4 (by omega) (HPOW.out t ht))
 have HNO:=hid (fun U:World=>noughts_any n U hn1 (by omega))
 have HWO:=hid (fun (t i:Nat) (ht:t≤L) (dq:Option Addr) (cq:Nat) (U:World) (hU:Below w.heap.size w U) (hW:IntS U dq (iL (wyL n t i)))=>rWay_of a b c d dq ca cb cc cd cq n L t i m l R1 R2 Q h U ⟨hI.st.below hU,hI.mv.below hU,hI.sh.below hU⟩ hV hsn hL (hQ.below hU) ht hW)
 have HLK:Hid (∀t i,t≤L→Sm D (2*t) (h.lik (wyF n t i) t)):=fun t i ht=>hV.sm.lik (fun k=>by rw[hsn];exact wyF_lt hn1 t i k) t (by omega)
 have HQW:Hid (∀k q,Sm D k q→k≤3*L+1→qw q≤30010):=fun k q hq hk=>hV.sm.qw hq (by omega)
 have HEND:Hid (∀tt j,j<n→sumR (fun i=>if wyF n (tt+1) i tt=j then h.lik (wyF n (tt+1) i) (tt+1) else 0) (n^(tt+1))=h.alp tt j):=fun tt j hj=>by
  have h9:=h.ends tt j (by omega)
  rw[hsn] at h9
  exact h9
 have HAH:Hid (∀tt j,tt<L→j<n→Sm D (3*L) (h.alp tt j)):=fun tt j ht hj=>(hV.sm.alp tt j (by omega) (by omega)).up (by omega)
 have hA:=(Below.refl w.heap.size w).alloc (Nat.le_refl _) (HC3 (.slice a n ca) (.slice b n cb) (.slice c n cc))
 have hHB:=HBox.new w (.slice a n ca) (.slice b n cb) (.slice c n cc)
 clear hI hV hsn hL hS hQ hse hok el er1 er2 eq eqL hNN
 obtain⟨e0,e1,e2⟩:=hHB.cells
 go_enter Tryz.func12,Tryz.ntmps12
 go_wp2_with fail
 generalize (w.alloc (HC3 (.slice a n ca) (.slice b n cb) (.slice c n cc)))=W1 at *
 refine(HSEE.out _ hA).mono ?_
 rintro e w1 ⟨rfl,hb⟩
 have HA1:=hid (hA.trans (hb.mono hA.size))
 have HH1:=hid (hHB.below hb hHB.lt)
 clear hA hHB hb e0 e1 e2
 go_wp2_with fail
 go_loopw [7,8] (fun ov tv wr=>∃(t:Nat) (P:List PR),1≤t∧t≤L+1∧tv=.int .i64 t∧Hid (OwR wr w.heap.size ov P)∧Hid (P.map (·.2)=(List.range (t - 1)).map fun k=>lF n (h.alp k))∧Hid (HBox wr w.heap.size (.slice a n ca) (.slice b n cb) (.slice c n cc))∧Hid (Below w.heap.size w wr)) (fun _ tv _=>L+1 - (intOf tv).toNat)
 case atStart=>exact⟨1,[],Nat.le_refl _,by omega,rfl,OwR.nil _ _,rfl,HH1,HA1⟩
 case round=>
  obtain⟨t,Ps,ht1,htL,rfl,HO,HPO,HHW,HAW⟩:=hrel
  clear HH1 HA1
  by_cases hlt:t≤L
  ·obtain⟨tt,htt⟩:∃tt,tt+1=t:=⟨t - 1,by omega⟩
   have HTT:=hid htt
   have htti:(t:Int) - 1=(tt:Int):=by omega
   have httL:tt<L:=by omega
   have htw:IntKind.i64.wrap (tt:Int)=(tt:Int):=by rw[IntKind.wrap_i64];omega
   have htlt:tt<t:=by omega
   clear htt
   obtain⟨W,hW⟩:∃x,x=wr:=⟨_,rfl⟩
   rw[←hW] at HO HHW HAW
   obtain⟨e0,e1,e2⟩:=HHW.out.cells
   have HBW:Hid (Below W.heap.size W wr):=by rw[hW];exact Below.refl _ _
   rw[←hW]
   clear hW HBW
   obtain⟨dO,cO,rfl, -⟩:=owns_slice HO.out.1
   go_wp2_with fail
   refine(HNO.out _).mono ?_
   rintro e w2 ⟨g,c1,rfl,hE,hb⟩
   have HE2:=hid hE
   have HB2:=hid hb
   have HH2:=hid (HHW.out.below hb HHW.out.lt)
   clear hE hb e0 e1 e2
   obtain⟨e0,e1,e2⟩:=HH2.out.cells
   have hgW:=HE2.out.block.1
   have HG2:Hid (g<w2.heap.size):=HE2.out.lt
   have HNEH:Hid (w.heap.size≠g):=Nat.ne_of_lt (Nat.lt_of_lt_of_le HHW.out.lt hgW)
   go_wp2_with fail
   refine(HWS.out t hlt _).mono ?_
   rintro e W0 ⟨x,P,rfl,hOw,hPV,hb⟩
   have HOW:=hid hOw
   have HPV:=hid hPV
   have HE0:=hid (HE2.out.below hb)
   have HH0:=hid (HH2.out.below hb HH2.out.lt)
   have HB0:=hid (HB2.out.trans (hb.mono HB2.out.size))
   have HGL:Hid (g<W0.heap.size):=HE0.out.lt
   have HPB:=hid (HPOW.out t hlt)
   clear hOw hPV hb HE2 HB2 HH2 e0 e1 e2
   have HPL:Hid (P.length=n^t):=by
    have h9:=congrArg List.length HPV.out
    rw[wyI_length,List.length_map] at h9
    exact h9
   obtain⟨N,hN⟩:∃N,n^t=N:=⟨_,rfl⟩
   have HNE:=hid hN
   rw[hN] at HPL HPV HPB
   have hN1:0<N:=by rw[←hN];exact Nat.pow_pos hn1
   have hN300:=HPB.out
   clear hN HPB
   obtain⟨gx,cx,d0,cd0,hxe,hgx0, -, -, -⟩:=HOW.out.atB (show 0<P.length by rw[HPL.out];exact hN1)
   rw[HPL.out] at hxe
   subst hxe
   obtain⟨FJ,hFJ⟩:∃F:Nat→Nat→Rat,F=fun j i=>if wyF n t i tt=j then h.lik (wyF n t i) t else 0:=⟨_,rfl⟩
   have HFJ:Hid (∀j i,FJ j i=if wyF n t i tt=j then h.lik (wyF n t i) t else 0):=fun j i=>by rw[hFJ]
   have HFT:Hid (∀j,j<n→sumR (FJ j) N=h.alp tt j):=fun j hj=>by
    rw[hFJ,←HNE.out,←HTT.out]
    exact HEND.out tt j hj
   have HFQ:Hid (∀j i,j<n→i≤N→qw (sumR (FJ j) i)≤30010):=fun j i hj hi=>by
    refine HQW.out _ _ (part_sm (D:=D) (k:=2*t) (K:=3*L) (N:=N) (fun k _=>?_) (by omega) (by rw[HFT.out j hj];exact(HAH.out tt j httL hj).high) i hi) (by omega)
    rw[HFJ.out]
    by_cases e:wyF n t k tt=j
    ·rw[if_pos e];exact HLK.out t k hlt
    ·rw[if_neg e];exact Sm.zero.up (by omega)
   clear hFJ
   have HEZ:Hid (EqR W0 W.heap.size g n c1 fun j=>sumR (FJ j) 0):=HE0.out
   clear HE0
   go_wp2_with fail
   go_loopw [11] (fun iv wr=>∃i:Nat,i≤N∧iv=.int .i64 i∧Hid (EqR wr W.heap.size g n c1 fun j=>sumR (FJ j) i)∧Hid (BtS W0 g wr)) (fun iv _=>N - (intOf iv).toNat)
   case atStart=>exact⟨0,Nat.zero_le _,rfl,HEZ,BtS.refl _ _⟩
   case round=>
    obtain⟨i,hi,rfl,HQ,HS⟩:=hrel
    clear HEZ
    by_cases hlti:i<N
    ·have hiP:i<P.length:=by rw[HPL.out];exact hlti
     obtain⟨gx',cx',dq,cq,hxe,hgx,hgxB',c0,hints⟩:=HOW.out.atB hiP
     rw[HPL.out] at hxe
     cases hxe
     have HPI:Hid (P[i].2=iL (wyL n t i)):=by
      have h9:(P.map (·.2))[i]? =(wyI n t N)[i]?:=by rw[HPV.out]
      rw[List.getElem?_map,List.getElem?_eq_getElem hiP] at h9
      simp[wyI,hlti] at h9
      exact h9
     have HLT:Hid (P[i].2.length=t):=by show _=_;rw[HPI.out,iL_length,wyL_length]
     rw[HLT.out] at c0
     have HINT:Hid (∀u,BtS W0 g u→IntS u dq (iL (wyL n t i))):=fun u hu=>by
      rw[←HPI.out]
      intro k hk
      obtain⟨g',o,f1,f2,f3,f4⟩:=hints k hk
      exact⟨g',o,f1,Nat.lt_of_lt_of_le f2 hu.size,(hu.cell (p:=⟨g',_,none⟩) f2 (by show g'≠g;have:=HG2.out;omega)).trans f4⟩
     obtain⟨gq,oq,rfl,hgq,hgqB,v0⟩:=hints tt (by rw[HLT.out];exact htlt)
     obtain⟨vt,hvt⟩:∃x,wyF n t i tt=x:=⟨_,rfl⟩
     have HVE:Hid (P[i].2[tt]'(by rw[HLT.out];exact htlt)=((vt:Nat):Int)):=by
      have e9:(P[i].2)[tt]? =some ((vt:Nat):Int):=by
       rw[HPI.out,iL,List.getElem?_map,←hvt,wyF,List.getD_eq_getElem?_getD,List.getElem?_eq_getElem (by rw[wyL_length];exact htlt)]
       rfl
      rw[List.getElem?_eq_getElem (by rw[HLT.out];exact htlt)] at e9
      exact Option.some.inj e9
     rw[HVE.out] at v0
     have hvn:vt<n:=by rw[←hvt];exact wyF_lt hn1 t i tt
     obtain⟨lk,hlk⟩:∃q,h.lik (wyF n t i) t=q:=⟨_,rfl⟩
     obtain⟨rq,hrq⟩:∃q,sumR (FJ vt) i=q:=⟨_,rfl⟩
     have HWR:Hid (∀j,(if j=vt then rq+lk else sumR (FJ j) i)=sumR (FJ j) (i+1)):=fun j=>by
      rw[←hrq]
      exact way_row (fun j=>by rw[HFJ.out,hvt,hlk]) j
     have hql:qw lk≤30010:=by rw[←hlk];exact HQW.out _ _ (HLK.out t i hlt) (by omega)
     have hqr:qw rq≤30010:=by rw[←hrq];exact HFQ.out vt i hvn hi
     have HELD:Hid (∀u,BtS W0 g u→(u.cell? ⟨w.heap.size,0,none⟩=some (.slice a n ca)∧u.cell? ⟨w.heap.size,1,none⟩=some (.slice b n cb)∧u.cell? ⟨w.heap.size,2,none⟩=some (.slice c n cc))∧u.cell? ⟨gx,i,none⟩=some (.slice (some ⟨gq,oq,none⟩) t cq)):=fun u hu=>⟨(hu.hbox HH0.out HNEH.out).cells,(hu.cell (p:=⟨gx,_,none⟩) hgx (by show gx≠g;have:=HG2.out;omega)).trans c0⟩
     have HVT:Hid (∀u,BtS W0 g u→u.cell? ⟨gq,oq+tt,none⟩=some (.int .i64 (vt:Nat))):=fun u hu=>(hu.cell (p:=⟨gq,_,none⟩) hgq (by show gq≠g;have:=HG2.out;omega)).trans v0
     have HWY:Hid (∀u,BtS W0 g u→Calls Tryz.prog 35 #[.agg #[.slice a n ca,.slice b n cb,.slice c n cc],.slice (some ⟨gq,oq,none⟩) t cq,.slice d L cd] u fun e w'=>e=.returned (.agg #[.bool (qF lk).1,.string (qF lk).2.1,.string (qF lk).2.2])∧Below u.heap.size u w'):=fun u hu=>by
      have h9:=HWO.out t i hlt (some ⟨gq,oq,none⟩) cq u (hu.below (HAW.out.trans (HB0.out.mono HAW.out.size)) (Nat.le_trans HAW.out.size hgW)) (HINT.out u hu)
      rw[hlk] at h9
      exact h9
     have HAD:Hid (∀U:World,Calls Tryz.prog 36 #[.agg #[.bool (qF rq).1,.string (qF rq).2.1,.string (qF rq).2.2],.agg #[.bool (qF lk).1,.string (qF lk).2.1,.string (qF lk).2.2]] U fun e w'=>e=.returned (.agg #[.bool (qF (rq+lk)).1,.string (qF (rq+lk)).2.1,.string (qF (rq+lk)).2.2])∧Below U.heap.size U w'):=fun U=>by
      have h8:=rAddF_any (sgn rq) (sgn lk) (nu rq) (de rq) (nu lk) (de lk) U (by rw[own_size];omega) (by rw[own_size];omega)
      rw[val_own,val_own] at h8
      exact h8
     have HQC:Hid (EqR wr W.heap.size g n c1 fun j=>if j=vt then rq else sumR (FJ j) i):=HQ.out.congr fun j _=>by
      by_cases e:j=vt
      ·rw[if_pos e,e,hrq]
      ·rw[if_neg e]
     clear HQ
     have HQ:=HQC
     clear HQC
     have HWR2:Hid (∀j,(if j=vt then rq+lk else if j=vt then rq else sumR (FJ j) i)=sumR (FJ j) (i+1)):=fun j=>by
      rw[←HWR.out j]
      by_cases e:j=vt
      ·rw[if_pos e,if_pos e]
      ·rw[if_neg e,if_neg e,if_neg e]
     clear HWR
     have HWR:=HWR2
     have HRC:Hid (∀u,EqR u W.heap.size g n c1 (fun j=>if j=vt then rq else sumR (FJ j) i)→(u.cell? ⟨g,vt*3,none⟩=some (.bool (qF rq).1)∧u.cell? ⟨g,vt*3+1,none⟩=some (.string (qF rq).2.1)∧u.cell? ⟨g,vt*3+2,none⟩=some (.string (qF rq).2.2))):=fun u hu=>by
      have h9:=hu.cells hvn
      rw[if_pos rfl] at h9
      exact h9
     clear HWR2 c0 hints v0 HINT HPI HLT HVE hvt hlk hrq hql hqr
     go_upto_region 13 with fail
     replace HS:=hid (HS.out.step (Below.refl _ _).drew)
     replace HQ:=hid (HQ.out.below (Below.refl _ _).drew)
     refine wp_region_held_drew (S:=fun u=>(u.cell? ⟨w.heap.size,0,none⟩=some (.slice a n ca)∧u.cell? ⟨w.heap.size,1,none⟩=some (.slice b n cb)∧u.cell? ⟨w.heap.size,2,none⟩=some (.slice c n cc))∧u.cell? ⟨gx,i,none⟩=some (.slice (some ⟨gq,oq,none⟩) t cq)) (by kernel_rfl) (HELD.out _ HS.out) (fun hSd=>?_)
     generalize wr.drew=u0 at *
     refine wpAnyH_take (i:=0) (oi:=_) (v:=.agg #[.slice a n ca,.slice b n cb,.slice c n cc]) rfl (by kernel_rfl) (by kernel_rfl) (by kernel_rfl) (fun _ _ _ h=>h) (Or.inl ⟨by rfl,?_⟩) (by assumption) ?_
     ·intro u' hSu
      (try simp only[List.getElem_toArray,List.getElem_cons_zero])
      obtain⟨⟨s0,s1,s2⟩,s3⟩:=hSu
      go_simp
     (try simp only[List.getElem_toArray,List.getElem_cons_zero])
     (try simp only[Act.put,List.setIfInBounds_toArray,List.set_cons_zero,List.set_cons_succ])
     refine wpAnyH_take (i:=1) (oi:=_) (v:=.slice (some ⟨gx,0,none⟩) N cx) rfl (by kernel_rfl) (by kernel_rfl) (by kernel_rfl) (fun _ _ _ h=>h) (Or.inl ⟨by rfl,?_⟩) (by assumption) ?_
     ·intro u' hSu
      (try simp only[List.getElem_toArray,List.getElem_cons_zero,List.getElem_cons_succ])
      go_simp
     (try simp only[List.getElem_toArray,List.getElem_cons_zero,List.getElem_cons_succ])
     (try simp only[Act.put,List.setIfInBounds_toArray,List.set_cons_zero,List.set_cons_succ])
     refine wpAnyH_take (i:=2) (oi:=_) (v:=.int .i64 (i:Nat)) rfl (by kernel_rfl) (by kernel_rfl) (by kernel_rfl) (fun _ _ _ h=>h) (Or.inl ⟨by rfl,?_⟩) (by assumption) ?_
     ·intro u' hSu
      (try simp only[List.getElem_toArray,List.getElem_cons_zero,List.getElem_cons_succ])
      go_simp
     (try simp only[List.getElem_toArray,List.getElem_cons_zero,List.getElem_cons_succ])
     (try simp only[Act.put,List.setIfInBounds_toArray,List.set_cons_zero,List.set_cons_succ])
     refine wpAnyH_take (i:=3) (oi:=_) (v:=.pointer (some ⟨gx,i,none⟩)) rfl (by kernel_rfl) (by kernel_rfl) (by kernel_rfl) (fun _ _ _ h=>h) (Or.inl ⟨by rfl,?_⟩) (by assumption) ?_
     ·intro u' hSu
      (try simp only[List.getElem_toArray,List.getElem_cons_zero,List.getElem_cons_succ])
      go_simp
     (try simp only[List.getElem_toArray,List.getElem_cons_zero,List.getElem_cons_succ])
     (try simp only[Act.put,List.setIfInBounds_toArray,List.set_cons_zero,List.set_cons_succ])
     refine wpAnyH_take (i:=4) (oi:=_) (v:=.slice (some ⟨gq,oq,none⟩) t cq) rfl (by kernel_rfl) (by kernel_rfl) (by kernel_rfl) (fun _ _ _ h=>h) (Or.inl ⟨by rfl,?_⟩) (by assumption) ?_
     ·intro u' hSu
      (try simp only[List.getElem_toArray,List.getElem_cons_zero,List.getElem_cons_succ])
      obtain⟨⟨s0,s1,s2⟩,s3⟩:=hSu
      go_simp
     (try simp only[List.getElem_toArray,List.getElem_cons_zero,List.getElem_cons_succ])
     (try simp only[Act.put,List.setIfInBounds_toArray,List.set_cons_zero,List.set_cons_succ])
     refine wpAnyH_take (i:=5) (oi:=_) (v:=.slice d L cd) rfl (by kernel_rfl) (by kernel_rfl) (by kernel_rfl) (fun _ _ _ h=>h) (Or.inl ⟨by rfl,?_⟩) (by assumption) ?_
     ·intro u' hSu
      (try simp only[List.getElem_toArray,List.getElem_cons_zero,List.getElem_cons_succ])
      go_simp
     (try simp only[List.getElem_toArray,List.getElem_cons_zero,List.getElem_cons_succ])
     (try simp only[Act.put,List.setIfInBounds_toArray,List.set_cons_zero,List.set_cons_succ])
     refine wpAnyH_ready (rs:=[6,7]) (by kernel_rfl) (by simp) (AllReadyH.cons rfl ?_ (AllReadyH.cons rfl ?_ (AllReadyH.nil)))
     ·intro K' hK'
      (try simp only[List.getElem_toArray,List.getElem_cons_zero,List.getElem_cons_succ])
      go_simp
      refine(HWY.out _ HS.out).mono ?_
      rintro e u1 ⟨rfl,hb⟩
      replace HS:=hid (HS.out.step hb)
      replace HQ:=hid (HQ.out.below hb)
      refine hK'.out _ _ (HELD.out _ HS.out) (fun hSe=>?_)
      clear hK' K' hSd
      have hSd:=hSe
      clear hSe hb
      (try simp only[List.getElem_toArray,List.getElem_cons_zero,List.getElem_cons_succ])
      (try simp only[Act.put,List.setIfInBounds_toArray,List.set_cons_zero,List.set_cons_succ])
      refine wpAnyH_ready (rs:=[7]) (by kernel_rfl) (by simp) (AllReadyH.cons rfl ?_ (AllReadyH.nil))
      ·intro K' hK'
       (try simp only[List.getElem_toArray,List.getElem_cons_zero,List.getElem_cons_succ])
       go_simp
       have hbn:=(Below.refl u1.heap.size u1).alloc (Nat.le_refl _) (FC false ⟨#[]⟩ ⟨#[]⟩)
       have HFX:=hid (Box.new u1 false ⟨#[]⟩ ⟨#[]⟩)
       have HGF:Hid (W0.heap.size≤u1.heap.size):=HS.out.size
       replace HS:=hid (HS.out.step hbn)
       replace HQ:=hid (HQ.out.below hbn)
       refine hK'.out _ _ (HELD.out _ HS.out) (fun hSe=>?_)
       clear hK' K' hSd hbn
       have hSd:=hSe
       clear hSe
       obtain⟨gf,hgfe⟩:∃x,u1.heap.size=x:=⟨_,rfl⟩
       obtain⟨u2,hV⟩:∃x,u1.alloc (FC false ⟨#[]⟩ ⟨#[]⟩)=x:=⟨_,rfl⟩
       rw[hV] at HFX HS HQ hSd
       rw[hgfe] at HFX HGF
       simp only[hV]
       simp only[hgfe]
       clear hgfe hV
       (try simp only[List.getElem_toArray,List.getElem_cons_zero,List.getElem_cons_succ])
       (try simp only[Act.put,List.setIfInBounds_toArray,List.set_cons_zero,List.set_cons_succ])
       obtain⟨k0,k1,k2,f0,f1,f2⟩:=HFX.out.facts
       refine wpAnyH_ready (rs:=[8]) (by kernel_rfl) (by simp) (AllReadyH.cons rfl ?_ (AllReadyH.nil))
       ·intro K' hK'
        (try simp only[List.getElem_toArray,List.getElem_cons_zero,List.getElem_cons_succ])
        go_simp
        have HFN:=hid (HFX.out.put (qF lk).1 (qF lk).2.1 (qF lk).2.2)
        have HQN:=hid (HQ.out.apart (Nat.ne_of_lt (Nat.lt_of_lt_of_le HGL.out HGF.out)) (.bool (qF lk).1) (.string (qF lk).2.1) (.string (qF lk).2.2))
        have HSN:=hid (HS.out.put3 gf (.bool (qF lk).1) (.string (qF lk).2.1) (.string (qF lk).2.2) (.inr HGF.out))
        refine hK'.out _ _ (HELD.out _ HSN.out) (fun _=>wpAnyH_done (by kernel_rfl) ?_ _)
        clear hK' K' hSd k0 k1 k2 f0 f1 f2 HS HFX HQ
        generalize (((u2.setCell ⟨gf,0,none⟩ (.bool (qF lk).1)).setCell ⟨gf,1,none⟩ (.string (qF lk).2.1)).setCell ⟨gf,2,none⟩ (.string (qF lk).2.2))=Wb at *
        have HELD2:Hid (∀u,BtS W0 g u→Box u gf (qF lk).1 (qF lk).2.1 (qF lk).2.2→(u.cell? ⟨gx,i,none⟩=some (.slice (some ⟨gq,oq,none⟩) t cq)∧u.cell? ⟨gq,oq+tt,none⟩=some (.int .i64 (vt:Nat))∧u.cell? ⟨gf,0,none⟩=some (.bool (qF lk).1)∧u.cell? ⟨gf,1,none⟩=some (.string (qF lk).2.1)∧u.cell? ⟨gf,2,none⟩=some (.string (qF lk).2.2))):=fun u hu hx=>⟨(HELD.out u hu).2,(HVT.out u hu),hx.c0,hx.c1,hx.c2⟩
        go_upto_region 14 with fail
        replace HSN:=hid (HSN.out.step (Below.refl _ _).drew)
        replace HQN:=hid (HQN.out.below (Below.refl _ _).drew)
        replace HFN:=hid HFN.out.drew
        refine wp_region_until 23 (fun (b:Bool) (u:World)=>(u.cell? ⟨gx,i,none⟩=some (.slice (some ⟨gq,oq,none⟩) t cq)∧u.cell? ⟨gq,oq+tt,none⟩=some (.int .i64 (vt:Nat))∧u.cell? ⟨gf,0,none⟩=some (.bool (qF lk).1)∧u.cell? ⟨gf,1,none⟩=some (.string (qF lk).2.1)∧u.cell? ⟨gf,2,none⟩=some (.string (qF lk).2.2))∧(b=false→(u.cell? ⟨g,vt*3,none⟩=some (.bool (qF rq).1)∧u.cell? ⟨g,vt*3+1,none⟩=some (.string (qF rq).2.1)∧u.cell? ⟨g,vt*3+2,none⟩=some (.string (qF rq).2.2)))) (by kernel_rfl) ⟨HELD2.out _ HSN.out HFN.out,fun _=>HRC.out _ HQN.out⟩ (fun hSd=>?_)
        generalize Wb.drew=v0 at *
        refine wpU_take (i:=0) (oi:=_) (v:=.slice (some ⟨g,0,none⟩) n c1) (b:=false) rfl (by kernel_rfl) (by kernel_rfl) (by kernel_rfl) (by decide) (fun _ _ _ h=>h) (Or.inl ⟨by rfl,?_⟩) (by kernel_rfl) (by assumption) ?_
        ·intro u' hSu
         (try simp only[List.getElem_toArray,List.getElem_cons_zero])
         go_simp
        (try simp only[List.getElem_toArray,List.getElem_cons_zero])
        (try simp only[Act.put,List.setIfInBounds_toArray,List.set_cons_zero,List.set_cons_succ])
        refine wpU_take (i:=1) (oi:=_) (v:=.slice (some ⟨gx,0,none⟩) N cx) (b:=false) rfl (by kernel_rfl) (by kernel_rfl) (by kernel_rfl) (by decide) (fun _ _ _ h=>h) (Or.inl ⟨by rfl,?_⟩) (by kernel_rfl) (by assumption) ?_
        ·intro u' hSu
         (try simp only[List.getElem_toArray,List.getElem_cons_zero,List.getElem_cons_succ])
         go_simp
        (try simp only[List.getElem_toArray,List.getElem_cons_zero,List.getElem_cons_succ])
        (try simp only[Act.put,List.setIfInBounds_toArray,List.set_cons_zero,List.set_cons_succ])
        refine wpU_take (i:=2) (oi:=_) (v:=.int .i64 (i:Nat)) (b:=false) rfl (by kernel_rfl) (by kernel_rfl) (by kernel_rfl) (by decide) (fun _ _ _ h=>h) (Or.inl ⟨by rfl,?_⟩) (by kernel_rfl) (by assumption) ?_
        ·intro u' hSu
         (try simp only[List.getElem_toArray,List.getElem_cons_zero,List.getElem_cons_succ])
         go_simp
        (try simp only[List.getElem_toArray,List.getElem_cons_zero,List.getElem_cons_succ])
        (try simp only[Act.put,List.setIfInBounds_toArray,List.set_cons_zero,List.set_cons_succ])
        refine wpU_take (i:=3) (oi:=_) (v:=.pointer (some ⟨gx,i,none⟩)) (b:=false) rfl (by kernel_rfl) (by kernel_rfl) (by kernel_rfl) (by decide) (fun _ _ _ h=>h) (Or.inl ⟨by rfl,?_⟩) (by kernel_rfl) (by assumption) ?_
        ·intro u' hSu
         (try simp only[List.getElem_toArray,List.getElem_cons_zero,List.getElem_cons_succ])
         go_simp
        (try simp only[List.getElem_toArray,List.getElem_cons_zero,List.getElem_cons_succ])
        (try simp only[Act.put,List.setIfInBounds_toArray,List.set_cons_zero,List.set_cons_succ])
        refine wpU_take (i:=4) (oi:=_) (v:=.slice (some ⟨gq,oq,none⟩) t cq) (b:=false) rfl (by kernel_rfl) (by kernel_rfl) (by kernel_rfl) (by decide) (fun _ _ _ h=>h) (Or.inl ⟨by rfl,?_⟩) (by kernel_rfl) (by assumption) ?_
        ·intro u' hSu
         (try simp only[List.getElem_toArray,List.getElem_cons_zero,List.getElem_cons_succ])
         obtain⟨_,⟨s0,s1,s2,s3,s4⟩,_⟩:=hSu
         go_simp
        (try simp only[List.getElem_toArray,List.getElem_cons_zero,List.getElem_cons_succ])
        (try simp only[Act.put,List.setIfInBounds_toArray,List.set_cons_zero,List.set_cons_succ])
        refine wpU_take (i:=5) (oi:=_) (v:=.int .i64 (t:Nat)) (b:=false) rfl (by kernel_rfl) (by kernel_rfl) (by kernel_rfl) (by decide) (fun _ _ _ h=>h) (Or.inl ⟨by rfl,?_⟩) (by kernel_rfl) (by assumption) ?_
        ·intro u' hSu
         (try simp only[List.getElem_toArray,List.getElem_cons_zero,List.getElem_cons_succ])
         go_simp
        (try simp only[List.getElem_toArray,List.getElem_cons_zero,List.getElem_cons_succ])
        (try simp only[Act.put,List.setIfInBounds_toArray,List.set_cons_zero,List.set_cons_succ])
        refine wpU_take (i:=6) (oi:=_) (v:=.int .i64 (tt:Nat)) (b:=false) rfl (by kernel_rfl) (by kernel_rfl) (by kernel_rfl) (by decide) (fun _ _ _ h=>h) (Or.inl ⟨by rfl,?_⟩) (by kernel_rfl) (by assumption) ?_
        ·intro u' hSu
         (try simp only[List.getElem_toArray,List.getElem_cons_zero,List.getElem_cons_succ])
         go_simp
        (try simp only[List.getElem_toArray,List.getElem_cons_zero,List.getElem_cons_succ])
        (try simp only[Act.put,List.setIfInBounds_toArray,List.set_cons_zero,List.set_cons_succ])
        refine wpU_take (i:=7) (oi:=_) (v:=.pointer (some ⟨gq,oq+tt,none⟩)) (b:=false) rfl (by kernel_rfl) (by kernel_rfl) (by kernel_rfl) (by decide) (fun _ _ _ h=>h) (Or.inl ⟨by rfl,?_⟩) (by kernel_rfl) (by assumption) ?_
        ·intro u' hSu
         (try simp only[List.getElem_toArray,List.getElem_cons_zero,List.getElem_cons_succ])
         go_simp
        (try simp only[List.getElem_toArray,List.getElem_cons_zero,List.getElem_cons_succ])
        (try simp only[Act.put,List.setIfInBounds_toArray,List.set_cons_zero,List.set_cons_succ])
        refine wpU_take (i:=8) (oi:=_) (v:=.int .i64 (vt:Nat)) (b:=false) rfl (by kernel_rfl) (by kernel_rfl) (by kernel_rfl) (by decide) (fun _ _ _ h=>h) (Or.inl ⟨by rfl,?_⟩) (by kernel_rfl) (by assumption) ?_
        ·intro u' hSu
         (try simp only[List.getElem_toArray,List.getElem_cons_zero,List.getElem_cons_succ])
         obtain⟨_,⟨s0,s1,s2,s3,s4⟩,_⟩:=hSu
         go_simp
        (try simp only[List.getElem_toArray,List.getElem_cons_zero,List.getElem_cons_succ])
        (try simp only[Act.put,List.setIfInBounds_toArray,List.set_cons_zero,List.set_cons_succ])
        refine wpU_take (i:=9) (oi:=_) (v:=.slice (some ⟨g,0,none⟩) n c1) (b:=false) rfl (by kernel_rfl) (by kernel_rfl) (by kernel_rfl) (by decide) (fun _ _ _ h=>h) (Or.inl ⟨by rfl,?_⟩) (by kernel_rfl) (by assumption) ?_
        ·intro u' hSu
         (try simp only[List.getElem_toArray,List.getElem_cons_zero,List.getElem_cons_succ])
         go_simp
        (try simp only[List.getElem_toArray,List.getElem_cons_zero,List.getElem_cons_succ])
        (try simp only[Act.put,List.setIfInBounds_toArray,List.set_cons_zero,List.set_cons_succ])
        refine wpU_take (i:=10) (oi:=_) (v:=.slice (some ⟨gx,0,none⟩) N cx) (b:=false) rfl (by kernel_rfl) (by kernel_rfl) (by kernel_rfl) (by decide) (fun _ _ _ h=>h) (Or.inl ⟨by rfl,?_⟩) (by kernel_rfl) (by assumption) ?_
        ·intro u' hSu
         (try simp only[List.getElem_toArray,List.getElem_cons_zero,List.getElem_cons_succ])
         go_simp
        (try simp only[List.getElem_toArray,List.getElem_cons_zero,List.getElem_cons_succ])
        (try simp only[Act.put,List.setIfInBounds_toArray,List.set_cons_zero,List.set_cons_succ])
        refine wpU_take (i:=11) (oi:=_) (v:=.int .i64 (i:Nat)) (b:=false) rfl (by kernel_rfl) (by kernel_rfl) (by kernel_rfl) (by decide) (fun _ _ _ h=>h) (Or.inl ⟨by rfl,?_⟩) (by kernel_rfl) (by assumption) ?_
        ·intro u' hSu
         (try simp only[List.getElem_toArray,List.getElem_cons_zero,List.getElem_cons_succ])
         go_simp
        (try simp only[List.getElem_toArray,List.getElem_cons_zero,List.getElem_cons_succ])
        (try simp only[Act.put,List.setIfInBounds_toArray,List.set_cons_zero,List.set_cons_succ])
        refine wpU_take (i:=12) (oi:=_) (v:=.pointer (some ⟨gx,i,none⟩)) (b:=false) rfl (by kernel_rfl) (by kernel_rfl) (by kernel_rfl) (by decide) (fun _ _ _ h=>h) (Or.inl ⟨by rfl,?_⟩) (by kernel_rfl) (by assumption) ?_
        ·intro u' hSu
         (try simp only[List.getElem_toArray,List.getElem_cons_zero,List.getElem_cons_succ])
         go_simp
        (try simp only[List.getElem_toArray,List.getElem_cons_zero,List.getElem_cons_succ])
        (try simp only[Act.put,List.setIfInBounds_toArray,List.set_cons_zero,List.set_cons_succ])
        refine wpU_take (i:=13) (oi:=_) (v:=.slice (some ⟨gq,oq,none⟩) t cq) (b:=false) rfl (by kernel_rfl) (by kernel_rfl) (by kernel_rfl) (by decide) (fun _ _ _ h=>h) (Or.inl ⟨by rfl,?_⟩) (by kernel_rfl) (by assumption) ?_
        ·intro u' hSu
         (try simp only[List.getElem_toArray,List.getElem_cons_zero,List.getElem_cons_succ])
         obtain⟨_,⟨s0,s1,s2,s3,s4⟩,_⟩:=hSu
         go_simp
        (try simp only[List.getElem_toArray,List.getElem_cons_zero,List.getElem_cons_succ])
        (try simp only[Act.put,List.setIfInBounds_toArray,List.set_cons_zero,List.set_cons_succ])
        refine wpU_take (i:=14) (oi:=_) (v:=.int .i64 (t:Nat)) (b:=false) rfl (by kernel_rfl) (by kernel_rfl) (by kernel_rfl) (by decide) (fun _ _ _ h=>h) (Or.inl ⟨by rfl,?_⟩) (by kernel_rfl) (by assumption) ?_
        ·intro u' hSu
         (try simp only[List.getElem_toArray,List.getElem_cons_zero,List.getElem_cons_succ])
         go_simp
        (try simp only[List.getElem_toArray,List.getElem_cons_zero,List.getElem_cons_succ])
        (try simp only[Act.put,List.setIfInBounds_toArray,List.set_cons_zero,List.set_cons_succ])
        refine wpU_take (i:=15) (oi:=_) (v:=.int .i64 (tt:Nat)) (b:=false) rfl (by kernel_rfl) (by kernel_rfl) (by kernel_rfl) (by decide) (fun _ _ _ h=>h) (Or.inl ⟨by rfl,?_⟩) (by kernel_rfl) (by assumption) ?_
        ·intro u' hSu
         (try simp only[List.getElem_toArray,List.getElem_cons_zero,List.getElem_cons_succ])
         go_simp
        (try simp only[List.getElem_toArray,List.getElem_cons_zero,List.getElem_cons_succ])
        (try simp only[Act.put,List.setIfInBounds_toArray,List.set_cons_zero,List.set_cons_succ])
        refine wpU_take (i:=16) (oi:=_) (v:=.pointer (some ⟨gq,oq+tt,none⟩)) (b:=false) rfl (by kernel_rfl) (by kernel_rfl) (by kernel_rfl) (by decide) (fun _ _ _ h=>h) (Or.inl ⟨by rfl,?_⟩) (by kernel_rfl) (by assumption) ?_
        ·intro u' hSu
         (try simp only[List.getElem_toArray,List.getElem_cons_zero,List.getElem_cons_succ])
         go_simp
        (try simp only[List.getElem_toArray,List.getElem_cons_zero,List.getElem_cons_succ])
        (try simp only[Act.put,List.setIfInBounds_toArray,List.set_cons_zero,List.set_cons_succ])
        refine wpU_take (i:=17) (oi:=_) (v:=.int .i64 (vt:Nat)) (b:=false) rfl (by kernel_rfl) (by kernel_rfl) (by kernel_rfl) (by decide) (fun _ _ _ h=>h) (Or.inl ⟨by rfl,?_⟩) (by kernel_rfl) (by assumption) ?_
        ·intro u' hSu
         (try simp only[List.getElem_toArray,List.getElem_cons_zero,List.getElem_cons_succ])
         obtain⟨_,⟨s0,s1,s2,s3,s4⟩,_⟩:=hSu
         go_simp
        (try simp only[List.getElem_toArray,List.getElem_cons_zero,List.getElem_cons_succ])
        (try simp only[Act.put,List.setIfInBounds_toArray,List.set_cons_zero,List.set_cons_succ])
        refine wpU_take (i:=18) (oi:=_) (v:=.pointer (some ⟨g,vt*3,none⟩)) (b:=false) rfl (by kernel_rfl) (by kernel_rfl) (by kernel_rfl) (by decide) (fun _ _ _ h=>h) (Or.inl ⟨by rfl,?_⟩) (by kernel_rfl) (by assumption) ?_
        ·intro u' hSu
         (try simp only[List.getElem_toArray,List.getElem_cons_zero,List.getElem_cons_succ])
         go_simp
        (try simp only[List.getElem_toArray,List.getElem_cons_zero,List.getElem_cons_succ])
        (try simp only[Act.put,List.setIfInBounds_toArray,List.set_cons_zero,List.set_cons_succ])
        refine wpU_ahead (i:=19) (oi:=_) (v:=.agg #[.bool (qF rq).1,.string (qF rq).2.1,.string (qF rq).2.2]) rfl (by kernel_rfl) (by kernel_rfl) (by kernel_rfl) (by decide) rfl (by kernel_rfl) (fun _ _ _ h=>h) (Or.inl ⟨by rfl,?_⟩) (by kernel_rfl) (by assumption) ?_
        ·intro u' hSu
         (try simp only[List.getElem_toArray,List.getElem_cons_zero,List.getElem_cons_succ])
         obtain⟨_,s5⟩:=hSu
         obtain⟨s6,s7,s8⟩:=s5 rfl
         go_simp
        (try simp only[List.getElem_toArray,List.getElem_cons_zero,List.getElem_cons_succ])
        (try simp only[Act.put,List.setIfInBounds_toArray,List.set_cons_zero,List.set_cons_succ])
        refine wpU_take (i:=20) (oi:=_) (v:=.agg #[.bool (qF lk).1,.string (qF lk).2.1,.string (qF lk).2.2]) (b:=false) rfl (by kernel_rfl) (by kernel_rfl) (by kernel_rfl) (by decide) (fun _ _ _ h=>h) (Or.inl ⟨by rfl,?_⟩) (by kernel_rfl) (by assumption) ?_
        ·intro u' hSu
         (try simp only[List.getElem_toArray,List.getElem_cons_zero,List.getElem_cons_succ])
         obtain⟨_,⟨s0,s1,s2,s3,s4⟩,_⟩:=hSu
         go_simp
        (try simp only[List.getElem_toArray,List.getElem_cons_zero,List.getElem_cons_succ])
        (try simp only[Act.put,List.setIfInBounds_toArray,List.set_cons_zero,List.set_cons_succ])
        refine wpU_ready (rs:=[21]) (by kernel_rfl) (by simp) (AllU.cons (b:=false) rfl (by kernel_rfl) ?_ (AllU.nil))
        ·intro K' hK'
         (try simp only[List.getElem_toArray,List.getElem_cons_zero,List.getElem_cons_succ])
         go_simp
         refine(HAD.out _).mono ?_
         rintro e u3 ⟨rfl,hb⟩
         replace HSN:=hid (HSN.out.step hb)
         replace HQN:=hid (HQN.out.below hb)
         replace HFN:=hid (HFN.out.below hb HFN.out.lt)
         refine hK'.out _ _ ⟨HELD2.out _ HSN.out HFN.out,fun _=>HRC.out _ HQN.out⟩ (fun hSe=>?_)
         clear hK' K' hSd
         have hSd:=hSe
         clear hSe
         clear hb
         (try simp only[List.getElem_toArray,List.getElem_cons_zero,List.getElem_cons_succ])
         (try simp only[Act.put,List.setIfInBounds_toArray,List.set_cons_zero,List.set_cons_succ])
         refine wpU_take (i:=22) (oi:=_) (v:=.pointer (some ⟨g,vt*3,none⟩)) (b:=false) rfl (by kernel_rfl) (by kernel_rfl) (by kernel_rfl) (by decide) (fun _ _ _ h=>h) (Or.inl ⟨by rfl,?_⟩) (by kernel_rfl) (by assumption) ?_
         ·intro u' hSu
          (try simp only[List.getElem_toArray,List.getElem_cons_zero,List.getElem_cons_succ])
          go_simp
         (try simp only[List.getElem_toArray,List.getElem_cons_zero,List.getElem_cons_succ])
         (try simp only[Act.put,List.setIfInBounds_toArray,List.set_cons_zero,List.set_cons_succ])
         obtain⟨q0,q1,q2⟩:=HRC.out _ HQN.out
         have q3:=HQN.out.fz (vt*3)
         have q4:=HQN.out.fz (vt*3+1)
         have q5:=HQN.out.fz (vt*3+2)
         refine wpU_ready (rs:=[23]) (by kernel_rfl) (by simp) (AllU.cons (b:=true) rfl (by kernel_rfl) ?_ (AllU.nil))
         ·intro K' hK'
          (try simp only[List.getElem_toArray,List.getElem_cons_zero,List.getElem_cons_succ])
          go_simp
          obtain⟨hQ1,hQg⟩:=HQN.out.put vt (rq+lk)
          have HQM:=hid (hQ1.congr fun j _=>HWR.out j)
          have HSM:=hid (HSN.out.grown hQg)
          have HFM:Hid (Box (((u3.setCell ⟨g,vt*3,none⟩ (.bool (qF (rq+lk)).1)).setCell ⟨g,vt*3+1,none⟩ (.string (qF (rq+lk)).2.1)).setCell ⟨g,vt*3+2,none⟩ (.string (qF (rq+lk)).2.2)) gf (qF lk).1 (qF lk).2.1 (qF lk).2.2):=((HFN.out.far (Ne.symm (Nat.ne_of_lt (Nat.lt_of_lt_of_le HGL.out HGF.out))) _).far (Ne.symm (Nat.ne_of_lt (Nat.lt_of_lt_of_le HGL.out HGF.out))) _).far (Ne.symm (Nat.ne_of_lt (Nat.lt_of_lt_of_le HGL.out HGF.out))) _
          refine hK'.out _ _ ⟨HELD2.out _ HSM.out HFM.out,fun e=>by cases e⟩ (fun _=>wpU_done (by kernel_rfl) ?_ _)
          clear hK' K' hSd q0 q1 q2 q3 q4 q5 HQN HSN HFN hQ1 hQg HFM
          go_wp2
          go_roundw
          case rel=>exact⟨i+1,by omega,by go_num,HQM,HSM⟩
          case measure=>simp[intOf];omega
     ·intro K' hK'
      (try simp only[List.getElem_toArray,List.getElem_cons_zero,List.getElem_cons_succ])
      go_simp
      have hbn:=(Below.refl u0.heap.size u0).alloc (Nat.le_refl _) (FC false ⟨#[]⟩ ⟨#[]⟩)
      have HFX:=hid (Box.new u0 false ⟨#[]⟩ ⟨#[]⟩)
      have HGF:Hid (W0.heap.size≤u0.heap.size):=HS.out.size
      replace HS:=hid (HS.out.step hbn)
      replace HQ:=hid (HQ.out.below hbn)
      refine hK'.out _ _ (HELD.out _ HS.out) (fun hSe=>?_)
      clear hK' K' hSd hbn
      have hSd:=hSe
      clear hSe
      obtain⟨gf,hgfe⟩:∃x,u0.heap.size=x:=⟨_,rfl⟩
      obtain⟨u1,hV⟩:∃x,u0.alloc (FC false ⟨#[]⟩ ⟨#[]⟩)=x:=⟨_,rfl⟩
      rw[hV] at HFX HS HQ hSd
      rw[hgfe] at HFX HGF
      simp only[hV]
      simp only[hgfe]
      clear hgfe hV
      (try simp only[List.getElem_toArray,List.getElem_cons_zero,List.getElem_cons_succ])
      (try simp only[Act.put,List.setIfInBounds_toArray,List.set_cons_zero,List.set_cons_succ])
      refine wpAnyH_ready (rs:=[6]) (by kernel_rfl) (by simp) (AllReadyH.cons rfl ?_ (AllReadyH.nil))
      ·intro K' hK'
       (try simp only[List.getElem_toArray,List.getElem_cons_zero,List.getElem_cons_succ])
       go_simp
       refine(HWY.out _ HS.out).mono ?_
       rintro e u2 ⟨rfl,hb⟩
       replace HFX:=hid (HFX.out.below hb HFX.out.lt)
       replace HS:=hid (HS.out.step hb)
       replace HQ:=hid (HQ.out.below hb)
       refine hK'.out _ _ (HELD.out _ HS.out) (fun hSe=>?_)
       clear hK' K' hSd
       have hSd:=hSe
       clear hSe hb
       (try simp only[List.getElem_toArray,List.getElem_cons_zero,List.getElem_cons_succ])
       (try simp only[Act.put,List.setIfInBounds_toArray,List.set_cons_zero,List.set_cons_succ])
       obtain⟨k0,k1,k2,f0,f1,f2⟩:=HFX.out.facts
       refine wpAnyH_ready (rs:=[8]) (by kernel_rfl) (by simp) (AllReadyH.cons rfl ?_ (AllReadyH.nil))
       ·intro K' hK'
        (try simp only[List.getElem_toArray,List.getElem_cons_zero,List.getElem_cons_succ])
        go_simp
        have HFN:=hid (HFX.out.put (qF lk).1 (qF lk).2.1 (qF lk).2.2)
        have HQN:=hid (HQ.out.apart (Nat.ne_of_lt (Nat.lt_of_lt_of_le HGL.out HGF.out)) (.bool (qF lk).1) (.string (qF lk).2.1) (.string (qF lk).2.2))
        have HSN:=hid (HS.out.put3 gf (.bool (qF lk).1) (.string (qF lk).2.1) (.string (qF lk).2.2) (.inr HGF.out))
        refine hK'.out _ _ (HELD.out _ HSN.out) (fun _=>wpAnyH_done (by kernel_rfl) ?_ _)
        clear hK' K' hSd k0 k1 k2 f0 f1 f2 HS HFX HQ
        generalize (((u2.setCell ⟨gf,0,none⟩ (.bool (qF lk).1)).setCell ⟨gf,1,none⟩ (.string (qF lk).2.1)).setCell ⟨gf,2,none⟩ (.string (qF lk).2.2))=Wb at *
        have HELD2:Hid (∀u,BtS W0 g u→Box u gf (qF lk).1 (qF lk).2.1 (qF lk).2.2→(u.cell? ⟨gx,i,none⟩=some (.slice (some ⟨gq,oq,none⟩) t cq)∧u.cell? ⟨gq,oq+tt,none⟩=some (.int .i64 (vt:Nat))∧u.cell? ⟨gf,0,none⟩=some (.bool (qF lk).1)∧u.cell? ⟨gf,1,none⟩=some (.string (qF lk).2.1)∧u.cell? ⟨gf,2,none⟩=some (.string (qF lk).2.2))):=fun u hu hx=>⟨(HELD.out u hu).2,(HVT.out u hu),hx.c0,hx.c1,hx.c2⟩
        go_upto_region 14 with fail
        replace HSN:=hid (HSN.out.step (Below.refl _ _).drew)
        replace HQN:=hid (HQN.out.below (Below.refl _ _).drew)
        replace HFN:=hid HFN.out.drew
        refine wp_region_until 23 (fun (b:Bool) (u:World)=>(u.cell? ⟨gx,i,none⟩=some (.slice (some ⟨gq,oq,none⟩) t cq)∧u.cell? ⟨gq,oq+tt,none⟩=some (.int .i64 (vt:Nat))∧u.cell? ⟨gf,0,none⟩=some (.bool (qF lk).1)∧u.cell? ⟨gf,1,none⟩=some (.string (qF lk).2.1)∧u.cell? ⟨gf,2,none⟩=some (.string (qF lk).2.2))∧(b=false→(u.cell? ⟨g,vt*3,none⟩=some (.bool (qF rq).1)∧u.cell? ⟨g,vt*3+1,none⟩=some (.string (qF rq).2.1)∧u.cell? ⟨g,vt*3+2,none⟩=some (.string (qF rq).2.2)))) (by kernel_rfl) ⟨HELD2.out _ HSN.out HFN.out,fun _=>HRC.out _ HQN.out⟩ (fun hSd=>?_)
        generalize Wb.drew=v0 at *
        refine wpU_take (i:=0) (oi:=_) (v:=.slice (some ⟨g,0,none⟩) n c1) (b:=false) rfl (by kernel_rfl) (by kernel_rfl) (by kernel_rfl) (by decide) (fun _ _ _ h=>h) (Or.inl ⟨by rfl,?_⟩) (by kernel_rfl) (by assumption) ?_
        ·intro u' hSu
         (try simp only[List.getElem_toArray,List.getElem_cons_zero])
         go_simp
        (try simp only[List.getElem_toArray,List.getElem_cons_zero])
        (try simp only[Act.put,List.setIfInBounds_toArray,List.set_cons_zero,List.set_cons_succ])
        refine wpU_take (i:=1) (oi:=_) (v:=.slice (some ⟨gx,0,none⟩) N cx) (b:=false) rfl (by kernel_rfl) (by kernel_rfl) (by kernel_rfl) (by decide) (fun _ _ _ h=>h) (Or.inl ⟨by rfl,?_⟩) (by kernel_rfl) (by assumption) ?_
        ·intro u' hSu
         (try simp only[List.getElem_toArray,List.getElem_cons_zero,List.getElem_cons_succ])
         go_simp
        (try simp only[List.getElem_toArray,List.getElem_cons_zero,List.getElem_cons_succ])
        (try simp only[Act.put,List.setIfInBounds_toArray,List.set_cons_zero,List.set_cons_succ])
        refine wpU_take (i:=2) (oi:=_) (v:=.int .i64 (i:Nat)) (b:=false) rfl (by kernel_rfl) (by kernel_rfl) (by kernel_rfl) (by decide) (fun _ _ _ h=>h) (Or.inl ⟨by rfl,?_⟩) (by kernel_rfl) (by assumption) ?_
        ·intro u' hSu
         (try simp only[List.getElem_toArray,List.getElem_cons_zero,List.getElem_cons_succ])
         go_simp
        (try simp only[List.getElem_toArray,List.getElem_cons_zero,List.getElem_cons_succ])
        (try simp only[Act.put,List.setIfInBounds_toArray,List.set_cons_zero,List.set_cons_succ])
        refine wpU_take (i:=3) (oi:=_) (v:=.pointer (some ⟨gx,i,none⟩)) (b:=false) rfl (by kernel_rfl) (by kernel_rfl) (by kernel_rfl) (by decide) (fun _ _ _ h=>h) (Or.inl ⟨by rfl,?_⟩) (by kernel_rfl) (by assumption) ?_
        ·intro u' hSu
         (try simp only[List.getElem_toArray,List.getElem_cons_zero,List.getElem_cons_succ])
         go_simp
        (try simp only[List.getElem_toArray,List.getElem_cons_zero,List.getElem_cons_succ])
        (try simp only[Act.put,List.setIfInBounds_toArray,List.set_cons_zero,List.set_cons_succ])
        refine wpU_take (i:=4) (oi:=_) (v:=.slice (some ⟨gq,oq,none⟩) t cq) (b:=false) rfl (by kernel_rfl) (by kernel_rfl) (by kernel_rfl) (by decide) (fun _ _ _ h=>h) (Or.inl ⟨by rfl,?_⟩) (by kernel_rfl) (by assumption) ?_
        ·intro u' hSu
         (try simp only[List.getElem_toArray,List.getElem_cons_zero,List.getElem_cons_succ])
         obtain⟨_,⟨s0,s1,s2,s3,s4⟩,_⟩:=hSu
         go_simp
        (try simp only[List.getElem_toArray,List.getElem_cons_zero,List.getElem_cons_succ])
        (try simp only[Act.put,List.setIfInBounds_toArray,List.set_cons_zero,List.set_cons_succ])
        refine wpU_take (i:=5) (oi:=_) (v:=.int .i64 (t:Nat)) (b:=false) rfl (by kernel_rfl) (by kernel_rfl) (by kernel_rfl) (by decide) (fun _ _ _ h=>h) (Or.inl ⟨by rfl,?_⟩) (by kernel_rfl) (by assumption) ?_
        ·intro u' hSu
         (try simp only[List.getElem_toArray,List.getElem_cons_zero,List.getElem_cons_succ])
         go_simp
        (try simp only[List.getElem_toArray,List.getElem_cons_zero,List.getElem_cons_succ])
        (try simp only[Act.put,List.setIfInBounds_toArray,List.set_cons_zero,List.set_cons_succ])
        refine wpU_take (i:=6) (oi:=_) (v:=.int .i64 (tt:Nat)) (b:=false) rfl (by kernel_rfl) (by kernel_rfl) (by kernel_rfl) (by decide) (fun _ _ _ h=>h) (Or.inl ⟨by rfl,?_⟩) (by kernel_rfl) (by assumption) ?_
        ·intro u' hSu
         (try simp only[List.getElem_toArray,List.getElem_cons_zero,List.getElem_cons_succ])
         go_simp
        (try simp only[List.getElem_toArray,List.getElem_cons_zero,List.getElem_cons_succ])
        (try simp only[Act.put,List.setIfInBounds_toArray,List.set_cons_zero,List.set_cons_succ])
        refine wpU_take (i:=7) (oi:=_) (v:=.pointer (some ⟨gq,oq+tt,none⟩)) (b:=false) rfl (by kernel_rfl) (by kernel_rfl) (by kernel_rfl) (by decide) (fun _ _ _ h=>h) (Or.inl ⟨by rfl,?_⟩) (by kernel_rfl) (by assumption) ?_
        ·intro u' hSu
         (try simp only[List.getElem_toArray,List.getElem_cons_zero,List.getElem_cons_succ])
         go_simp
        (try simp only[List.getElem_toArray,List.getElem_cons_zero,List.getElem_cons_succ])
        (try simp only[Act.put,List.setIfInBounds_toArray,List.set_cons_zero,List.set_cons_succ])
        refine wpU_take (i:=8) (oi:=_) (v:=.int .i64 (vt:Nat)) (b:=false) rfl (by kernel_rfl) (by kernel_rfl) (by kernel_rfl) (by decide) (fun _ _ _ h=>h) (Or.inl ⟨by rfl,?_⟩) (by kernel_rfl) (by assumption) ?_
        ·intro u' hSu
         (try simp only[List.getElem_toArray,List.getElem_cons_zero,List.getElem_cons_succ])
         obtain⟨_,⟨s0,s1,s2,s3,s4⟩,_⟩:=hSu
         go_simp
        (try simp only[List.getElem_toArray,List.getElem_cons_zero,List.getElem_cons_succ])
        (try simp only[Act.put,List.setIfInBounds_toArray,List.set_cons_zero,List.set_cons_succ])
        refine wpU_take (i:=9) (oi:=_) (v:=.slice (some ⟨g,0,none⟩) n c1) (b:=false) rfl (by kernel_rfl) (by kernel_rfl) (by kernel_rfl) (by decide) (fun _ _ _ h=>h) (Or.inl ⟨by rfl,?_⟩) (by kernel_rfl) (by assumption) ?_
        ·intro u' hSu
         (try simp only[List.getElem_toArray,List.getElem_cons_zero,List.getElem_cons_succ])
         go_simp
        (try simp only[List.getElem_toArray,List.getElem_cons_zero,List.getElem_cons_succ])
        (try simp only[Act.put,List.setIfInBounds_toArray,List.set_cons_zero,List.set_cons_succ])
        refine wpU_take (i:=10) (oi:=_) (v:=.slice (some ⟨gx,0,none⟩) N cx) (b:=false) rfl (by kernel_rfl) (by kernel_rfl) (by kernel_rfl) (by decide) (fun _ _ _ h=>h) (Or.inl ⟨by rfl,?_⟩) (by kernel_rfl) (by assumption) ?_
        ·intro u' hSu
         (try simp only[List.getElem_toArray,List.getElem_cons_zero,List.getElem_cons_succ])
         go_simp
        (try simp only[List.getElem_toArray,List.getElem_cons_zero,List.getElem_cons_succ])
        (try simp only[Act.put,List.setIfInBounds_toArray,List.set_cons_zero,List.set_cons_succ])
        refine wpU_take (i:=11) (oi:=_) (v:=.int .i64 (i:Nat)) (b:=false) rfl (by kernel_rfl) (by kernel_rfl) (by kernel_rfl) (by decide) (fun _ _ _ h=>h) (Or.inl ⟨by rfl,?_⟩) (by kernel_rfl) (by assumption) ?_
        ·intro u' hSu
         (try simp only[List.getElem_toArray,List.getElem_cons_zero,List.getElem_cons_succ])
         go_simp
        (try simp only[List.getElem_toArray,List.getElem_cons_zero,List.getElem_cons_succ])
        (try simp only[Act.put,List.setIfInBounds_toArray,List.set_cons_zero,List.set_cons_succ])
        refine wpU_take (i:=12) (oi:=_) (v:=.pointer (some ⟨gx,i,none⟩)) (b:=false) rfl (by kernel_rfl) (by kernel_rfl) (by kernel_rfl) (by decide) (fun _ _ _ h=>h) (Or.inl ⟨by rfl,?_⟩) (by kernel_rfl) (by assumption) ?_
        ·intro u' hSu
         (try simp only[List.getElem_toArray,List.getElem_cons_zero,List.getElem_cons_succ])
         go_simp
        (try simp only[List.getElem_toArray,List.getElem_cons_zero,List.getElem_cons_succ])
        (try simp only[Act.put,List.setIfInBounds_toArray,List.set_cons_zero,List.set_cons_succ])
        refine wpU_take (i:=13) (oi:=_) (v:=.slice (some ⟨gq,oq,none⟩) t cq) (b:=false) rfl (by kernel_rfl) (by kernel_rfl) (by kernel_rfl) (by decide) (fun _ _ _ h=>h) (Or.inl ⟨by rfl,?_⟩) (by kernel_rfl) (by assumption) ?_
        ·intro u' hSu
         (try simp only[List.getElem_toArray,List.getElem_cons_zero,List.getElem_cons_succ])
         obtain⟨_,⟨s0,s1,s2,s3,s4⟩,_⟩:=hSu
         go_simp
        (try simp only[List.getElem_toArray,List.getElem_cons_zero,List.getElem_cons_succ])
        (try simp only[Act.put,List.setIfInBounds_toArray,List.set_cons_zero,List.set_cons_succ])
        refine wpU_take (i:=14) (oi:=_) (v:=.int .i64 (t:Nat)) (b:=false) rfl (by kernel_rfl) (by kernel_rfl) (by kernel_rfl) (by decide) (fun _ _ _ h=>h) (Or.inl ⟨by rfl,?_⟩) (by kernel_rfl) (by assumption) ?_
        ·intro u' hSu
         (try simp only[List.getElem_toArray,List.getElem_cons_zero,List.getElem_cons_succ])
         go_simp
        (try simp only[List.getElem_toArray,List.getElem_cons_zero,List.getElem_cons_succ])
        (try simp only[Act.put,List.setIfInBounds_toArray,List.set_cons_zero,List.set_cons_succ])
        refine wpU_take (i:=15) (oi:=_) (v:=.int .i64 (tt:Nat)) (b:=false) rfl (by kernel_rfl) (by kernel_rfl) (by kernel_rfl) (by decide) (fun _ _ _ h=>h) (Or.inl ⟨by rfl,?_⟩) (by kernel_rfl) (by assumption) ?_
        ·intro u' hSu
         (try simp only[List.getElem_toArray,List.getElem_cons_zero,List.getElem_cons_succ])
         go_simp
        (try simp only[List.getElem_toArray,List.getElem_cons_zero,List.getElem_cons_succ])
        (try simp only[Act.put,List.setIfInBounds_toArray,List.set_cons_zero,List.set_cons_succ])
        refine wpU_take (i:=16) (oi:=_) (v:=.pointer (some ⟨gq,oq+tt,none⟩)) (b:=false) rfl (by kernel_rfl) (by kernel_rfl) (by kernel_rfl) (by decide) (fun _ _ _ h=>h) (Or.inl ⟨by rfl,?_⟩) (by kernel_rfl) (by assumption) ?_
        ·intro u' hSu
         (try simp only[List.getElem_toArray,List.getElem_cons_zero,List.getElem_cons_succ])
         go_simp
        (try simp only[List.getElem_toArray,List.getElem_cons_zero,List.getElem_cons_succ])
        (try simp only[Act.put,List.setIfInBounds_toArray,List.set_cons_zero,List.set_cons_succ])
        refine wpU_take (i:=17) (oi:=_) (v:=.int .i64 (vt:Nat)) (b:=false) rfl (by kernel_rfl) (by kernel_rfl) (by kernel_rfl) (by decide) (fun _ _ _ h=>h) (Or.inl ⟨by rfl,?_⟩) (by kernel_rfl) (by assumption) ?_
        ·intro u' hSu
         (try simp only[List.getElem_toArray,List.getElem_cons_zero,List.getElem_cons_succ])
         obtain⟨_,⟨s0,s1,s2,s3,s4⟩,_⟩:=hSu
         go_simp
        (try simp only[List.getElem_toArray,List.getElem_cons_zero,List.getElem_cons_succ])
        (try simp only[Act.put,List.setIfInBounds_toArray,List.set_cons_zero,List.set_cons_succ])
        refine wpU_take (i:=18) (oi:=_) (v:=.pointer (some ⟨g,vt*3,none⟩)) (b:=false) rfl (by kernel_rfl) (by kernel_rfl) (by kernel_rfl) (by decide) (fun _ _ _ h=>h) (Or.inl ⟨by rfl,?_⟩) (by kernel_rfl) (by assumption) ?_
        ·intro u' hSu
         (try simp only[List.getElem_toArray,List.getElem_cons_zero,List.getElem_cons_succ])
         go_simp
        (try simp only[List.getElem_toArray,List.getElem_cons_zero,List.getElem_cons_succ])
        (try simp only[Act.put,List.setIfInBounds_toArray,List.set_cons_zero,List.set_cons_succ])
        refine wpU_ahead (i:=19) (oi:=_) (v:=.agg #[.bool (qF rq).1,.string (qF rq).2.1,.string (qF rq).2.2]) rfl (by kernel_rfl) (by kernel_rfl) (by kernel_rfl) (by decide) rfl (by kernel_rfl) (fun _ _ _ h=>h) (Or.inl ⟨by rfl,?_⟩) (by kernel_rfl) (by assumption) ?_
        ·intro u' hSu
         (try simp only[List.getElem_toArray,List.getElem_cons_zero,List.getElem_cons_succ])
         obtain⟨_,s5⟩:=hSu
         obtain⟨s6,s7,s8⟩:=s5 rfl
         go_simp
        (try simp only[List.getElem_toArray,List.getElem_cons_zero,List.getElem_cons_succ])
        (try simp only[Act.put,List.setIfInBounds_toArray,List.set_cons_zero,List.set_cons_succ])
        refine wpU_take (i:=20) (oi:=_) (v:=.agg #[.bool (qF lk).1,.string (qF lk).2.1,.string (qF lk).2.2]) (b:=false) rfl (by kernel_rfl) (by kernel_rfl) (by kernel_rfl) (by decide) (fun _ _ _ h=>h) (Or.inl ⟨by rfl,?_⟩) (by kernel_rfl) (by assumption) ?_
        ·intro u' hSu
         (try simp only[List.getElem_toArray,List.getElem_cons_zero,List.getElem_cons_succ])
         obtain⟨_,⟨s0,s1,s2,s3,s4⟩,_⟩:=hSu
         go_simp
        (try simp only[List.getElem_toArray,List.getElem_cons_zero,List.getElem_cons_succ])
        (try simp only[Act.put,List.setIfInBounds_toArray,List.set_cons_zero,List.set_cons_succ])
        refine wpU_ready (rs:=[21]) (by kernel_rfl) (by simp) (AllU.cons (b:=false) rfl (by kernel_rfl) ?_ (AllU.nil))
        ·intro K' hK'
         (try simp only[List.getElem_toArray,List.getElem_cons_zero,List.getElem_cons_succ])
         go_simp
         refine(HAD.out _).mono ?_
         rintro e u3 ⟨rfl,hb⟩
         replace HSN:=hid (HSN.out.step hb)
         replace HQN:=hid (HQN.out.below hb)
         replace HFN:=hid (HFN.out.below hb HFN.out.lt)
         refine hK'.out _ _ ⟨HELD2.out _ HSN.out HFN.out,fun _=>HRC.out _ HQN.out⟩ (fun hSe=>?_)
         clear hK' K' hSd
         have hSd:=hSe
         clear hSe
         clear hb
         (try simp only[List.getElem_toArray,List.getElem_cons_zero,List.getElem_cons_succ])
         (try simp only[Act.put,List.setIfInBounds_toArray,List.set_cons_zero,List.set_cons_succ])
         refine wpU_take (i:=22) (oi:=_) (v:=.pointer (some ⟨g,vt*3,none⟩)) (b:=false) rfl (by kernel_rfl) (by kernel_rfl) (by kernel_rfl) (by decide) (fun _ _ _ h=>h) (Or.inl ⟨by rfl,?_⟩) (by kernel_rfl) (by assumption) ?_
         ·intro u' hSu
          (try simp only[List.getElem_toArray,List.getElem_cons_zero,List.getElem_cons_succ])
          go_simp
         (try simp only[List.getElem_toArray,List.getElem_cons_zero,List.getElem_cons_succ])
         (try simp only[Act.put,List.setIfInBounds_toArray,List.set_cons_zero,List.set_cons_succ])
         obtain⟨q0,q1,q2⟩:=HRC.out _ HQN.out
         have q3:=HQN.out.fz (vt*3)
         have q4:=HQN.out.fz (vt*3+1)
         have q5:=HQN.out.fz (vt*3+2)
         refine wpU_ready (rs:=[23]) (by kernel_rfl) (by simp) (AllU.cons (b:=true) rfl (by kernel_rfl) ?_ (AllU.nil))
         ·intro K' hK'
          (try simp only[List.getElem_toArray,List.getElem_cons_zero,List.getElem_cons_succ])
          go_simp
          obtain⟨hQ1,hQg⟩:=HQN.out.put vt (rq+lk)
          have HQM:=hid (hQ1.congr fun j _=>HWR.out j)
          have HSM:=hid (HSN.out.grown hQg)
          have HFM:Hid (Box (((u3.setCell ⟨g,vt*3,none⟩ (.bool (qF (rq+lk)).1)).setCell ⟨g,vt*3+1,none⟩ (.string (qF (rq+lk)).2.1)).setCell ⟨g,vt*3+2,none⟩ (.string (qF (rq+lk)).2.2)) gf (qF lk).1 (qF lk).2.1 (qF lk).2.2):=((HFN.out.far (Ne.symm (Nat.ne_of_lt (Nat.lt_of_lt_of_le HGL.out HGF.out))) _).far (Ne.symm (Nat.ne_of_lt (Nat.lt_of_lt_of_le HGL.out HGF.out))) _).far (Ne.symm (Nat.ne_of_lt (Nat.lt_of_lt_of_le HGL.out HGF.out))) _
          refine hK'.out _ _ ⟨HELD2.out _ HSM.out HFM.out,fun e=>by cases e⟩ (fun _=>wpU_done (by kernel_rfl) ?_ _)
          clear hK' K' hSd q0 q1 q2 q3 q4 q5 HQN HSN HFN hQ1 hQg HFM
          go_wp2
          go_roundw
          case rel=>exact⟨i+1,by omega,by go_num,HQM,HSM⟩
          case measure=>simp[intOf];omega
    ·obtain rfl:N=i:=by omega
     have HRF:Hid (EqR wr W.heap.size g n c1 (h.alp tt)):=HQ.out.congr fun j hj=>HFT.out j hj
     have HBR:=hid (HS.out.below HB0.out hgW)
     clear HQ HS
     have HRV:Hid (RwF wr W.heap.size (.slice (some ⟨g,0,none⟩) n c1) (lF n (h.alp tt))):=by
      show World.ownsRow _ _ _ _ _ _ _
      rw[lF_length]
      exact HRF.out
     have HO3:=hid (HO.out.below HBR.out)
     have HB3:=hid (HAW.out.trans (HBR.out.mono HAW.out.size))
     have hszw:=HAW.out.size
     have hAL:=(Below.refl wr.heap.size wr).alloc (Nat.le_refl _) (.cells #[.slice (some ⟨g,0,none⟩) n c1] 22)
     have hone:(wr.alloc (.cells #[.slice (some ⟨g,0,none⟩) n c1] 22)).heap[wr.heap.size]? =some (.cells #[.slice (some ⟨g,0,none⟩) n c1] 22 (0,0)):=heap_alloc_new wr _
     have HC1:Hid ((wr.alloc (.cells #[.slice (some ⟨g,0,none⟩) n c1] 22)).cell? ⟨wr.heap.size,0,none⟩=some (.slice (some ⟨g,0,none⟩) n c1)):=by
      show _=_
      rw[cell_of_row _ _ _ _ _ (0,0) hone]
      rfl
     have HB4:=hid (HB3.out.alloc HB3.out.size (.cells #[.slice (some ⟨g,0,none⟩) n c1] 22))
     have HA4:=hid ((HRV.out.lower hszw).below hAL)
     have HK4:=hid (HO3.out.below hAL)
     have HHR:=hid (HHW.out.below HBR.out HHW.out.lt)
     have HH4:=hid (HHR.out.below hAL HHR.out.lt)
     have HL1:Hid (Ps.length+1≤100000):=by
      have h9:=congrArg List.length HPO.out
      rw[List.length_map,List.length_map,List.length_range] at h9
      show _≤_
      omega
     have HPN:Hid ((Ps++[((Value.slice (some ⟨g,0,none⟩) n c1,lF n (h.alp tt)):PR)]).map (·.2)=(List.range (t+1 - 1)).map fun k=>lF n (h.alp k)):=by
      show _=_
      rw[List.map_append,HPO.out,Nat.add_sub_cancel,←HTT.out,Nat.add_sub_cancel,List.range_succ,List.map_append]
      rfl
     clear hone hAL HRV HO3 HB3 hszw HHR HRF HBR
     go_wp2_with (at_builtin;refine wpList_append_rs rfl _ _ rfl w.heap.size _ Ps (.slice (some ⟨g,0,none⟩) n c1) ⟨_,_,_,rfl⟩ rfl HK4.out.1 wr.heap.size rfl HC1.out HL1.out HB4.out.size ?_;intro v5 w5 hr5 hg5;have HK5:=hid (HK4.out.push hr5 hg5 HA4.out);have HB5:=hid (HB4.out.grown hg5 HB4.out.size (fun k e=>owns_from HK4.out.1 k e));have HH5:Hid (HBox w5 w.heap.size (.slice a n ca) (.slice b n cb) (.slice c n cc)):=KeepT.grown hg5 (owns_typed HK4.out.1) (by decide) _ _ _ HH4.out)
     go_roundw
     case rel=>exact⟨t+1,_,by omega,by omega,by go_num,HK5,HPN,HH5,HB5⟩
     case measure=>simp[intOf];omega
  ·have HLE:Hid (t - 1=L):=by show _=_;omega
   rw[HLE.out] at HPO
   obtain⟨dy,cy,rfl,hfs⟩:=OwR.rows HO.out
   have hro:rOf Ps=(List.range L).map fun k=>lF n (h.alp k):=HPO.out
   rw[hro] at hfs
   rw[hro,List.length_map,List.length_range]
   have HFS:=hid hfs
   have hti:¬(t:Int)≤(L:Int):=by omega
   clear hfs hro HO
   go_wp2
   go_ret2
   exact⟨dy,⟨cy,rfl⟩,HFS.out,HAW.out⟩
end Go.Proofs.YtgamblainfkiaaaGreatDoor
