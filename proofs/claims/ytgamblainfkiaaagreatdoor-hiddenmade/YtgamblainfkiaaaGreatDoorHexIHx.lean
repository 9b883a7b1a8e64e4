/- The answer's Smooth. -/
import Derived.Test.YtgamblainfkiaaaGreatDoorHexHHx
import Derived.Test.YtgamblainfkiaaaGreatDoorHexSHx
namespace Go.Proofs.YtgamblainfkiaaaGreatDoor
open Go.RowKit Go.Shelf
theorem norm_lF (n:Nat) (f:Nat→Rat):normL (lF n f)=lF n fun j=>f j*(1/sumR f n):=by
 rw[normL,fsum_lF]
 simp only[lF,List.map_map]
 refine List.map_congr_left fun j _=>?_
 show qF (frQ (qF (f j))*_)=_
 rw[frQ_qF]
set_option maxRecDepth 100000 in
set_option maxHeartbeats 4000000 in
theorem rSmooth_ok {D:Nat} (a b c d:Option Addr) (ca cb cc cd n L m:Nat) (l:List Fr) (R1 R2:List (List Fr)) (Q:List Nat) (h:HC) (w:World) (hI:HidI w a b c n m l R1 R2) (hV:HidV D h m l R1 R2 Q) (hsn:h.s=n) (hL:h.L=L) (hS:HidS l R1 R2) (hQ:IntS w d (iL Q)) (hse:SeeE l R1 R2 (iL Q) 0) (hNN:n^L≤300):
  Calls Tryz.prog 17 #[.agg #[.slice a n ca,.slice b n cb,.slice c n cc],.slice d L cd] w fun e w'=>((h.seen=0∧e=.returned (.tuple #[.slice none 0 0,.int .i64 3]))∨(h.seen≠0∧∃x k,e=.returned (.tuple #[.slice x L k,.int .i64 0])∧FsS w' x ((List.range L).map fun t=>lF n fun j=>h.alp t j*h.behind t j*(1/h.seen))))∧Below w.heap.size w w':=by
 have HLIK:=hid (fun (U:World) (hU:Below w.heap.size w U)=>rLikely_ok a b c d ca cb cc cd n L m l R1 R2 Q h U ⟨hI.st.below hU,hI.mv.below hU,hI.sh.below hU⟩ hV hsn hL hS (hQ.below hU) hse hNN)
 have hok:=hV.okn hsn
 have hn1:=hok.n1
 have hn4:=hok.n4
 have hL8:L≤8:=by rw[←hL];exact hV.sm.L8
 have HWS:=hid (fun U:World=>ways_any n L U hn1 hn4 hL8 hNN)
 have HNO:=hid (fun U:World=>noughts_any n U hn1 (by omega))
 have HWO:=hid (fun (i:Nat) (dq:Option Addr) (cq:Nat) (U:World) (hU:Below w.heap.size w U) (hW:IntS U dq (iL (wyL n L i)))=>rWay_of a b c d dq ca cb cc cd cq n L L i m l R1 R2 Q h U ⟨hI.st.below hU,hI.mv.below hU,hI.sh.below hU⟩ hV hsn hL (hQ.below hU) (Nat.le_refl _) hW)
 have HLK:Hid (∀i,Sm D (2*L) (h.lik (wyF n L i) L)):=fun i=>hV.sm.lik (fun k=>by rw[hsn];exact wyF_lt hn1 L i k) L (by omega)
 have HQW:Hid (∀k q,Sm D k q→k≤3*L+1→qw q≤30010):=fun k q hq hk=>hV.sm.qw hq (by omega)
 have HEND:Hid (∀tt j,tt<L→j<n→sumR (fun i=>if wyF n L i tt=j then h.lik (wyF n L i) L else 0) (n^L)=h.alp tt j*h.behind tt j):=fun tt j ht hj=>by
  have h9:=h.through (t:=tt) (j:=j) (by omega) (by omega) (by omega)
  rw[hsn] at h9
  rw[HC.behind]
  simp only[hL] at h9⊢
  exact h9
 have HAH:Hid (∀tt j,tt<L→j<n→Sm D (3*L) (h.alp tt j*h.behind tt j)):=fun tt j ht hj=>((hV.sm.alp tt j (by omega) (by omega)).mul (hV.sm.behind (t:=tt) (by omega) (by omega))).up (by omega)
 have HMEET:Hid (∀tt,tt<L→sumR (fun j=>h.alp tt j*h.behind tt j) n=h.seen):=fun tt ht=>by
  have h9:=h.meets (h.L - 1 - tt) tt (by omega)
  rw[HC.seen,if_neg (by omega),HC.all,←h9,hsn]
  rfl
 have HPS:Hid (∀tt k,tt<L→k≤n→qw (sumR (fun j=>h.alp tt j*h.behind tt j) k)≤40000):=fun tt k ht hk=>Nat.le_trans (hV.sm.qw (Sm.sum (by omega) fun j hj=>(hV.sm.alp tt j (by omega) (by omega)).mul (hV.sm.behind (t:=tt) (by omega) (by omega))) (by omega)) (by omega)
 have HSQ:Hid (qw h.seen≤30010):=by
  show _≤_
  rw[HC.seen]
  by_cases h0:h.L=0
  ·rw[if_pos h0];exact hV.sm.qw (D:=D) Sm.one (by omega)
  ·rw[if_neg h0];exact hV.sm.qw (hV.sm.all (by omega)) (by omega)
 have HZE:Hid (∀U:World,Calls Tryz.prog 49 #[.agg #[.bool (qF h.seen).1,.string (qF h.seen).2.1,.string (qF h.seen).2.2]] U fun e w'=>e=.returned (.bool (decide (h.seen=0)))∧Below U.heap.size U w'):=fun U=>by
  have h9:=rZero_any (sgn h.seen) (nu h.seen) (de h.seen) U (by rw[own_size];have:=HSQ.out;omega)
  rw[val_own] at h9
  exact h9
 have hA:=(Below.refl w.heap.size w).alloc (Nat.le_refl _) (HC3 (.slice a n ca) (.slice b n cb) (.slice c n cc))
 have hHB:=HBox.new w (.slice a n ca) (.slice b n cb) (.slice c n cc)
 clear hI hV hsn hL hS hQ hse hok
 obtain⟨e0,e1,e2⟩:=hHB.cells
 obtain⟨sv,hsv⟩:∃q,h.seen=q:=⟨_,rfl⟩
 rw[hsv] at HMEET HZE HLIK⊢
 clear hsv HSQ
 go_enter Tryz.func17,Tryz.ntmps17
 go_wp2_with fail
 generalize (w.alloc (HC3 (.slice a n ca) (.slice b n cb) (.slice c n cc)))=W1 at *
 refine(HLIK.out _ hA).mono ?_
 rintro e w1 ⟨rfl,hb⟩
 have HA1:=hid (hA.trans (hb.mono hA.size))
 have HH1:=hid (hHB.below hb hHB.lt)
 clear hA hHB hb e0 e1 e2
 have hbn:=(Below.refl w1.heap.size w1).alloc (Nat.le_refl _) (FC (qF sv).1 (qF sv).2.1 (qF sv).2.2)
 obtain⟨k0,k1,k2, -⟩:=(Box.new w1 (qF sv).1 (qF sv).2.1 (qF sv).2.2).facts
 have HA2:=hid (HA1.out.trans (hbn.mono HA1.out.size))
 have HH2:=hid (HH1.out.below hbn HH1.out.lt)
 clear HA1 HH1 hbn
 go_wp2_with fail
 generalize (w1.alloc (FC (qF sv).1 (qF sv).2.1 (qF sv).2.2))=w2 at *
 refine(HZE.out _).mono ?_
 rintro e w3 ⟨rfl,hb⟩
 have HA3:=hid (HA2.out.trans (hb.mono HA2.out.size))
 have HH3:=hid (HH2.out.below hb HH2.out.lt)
 clear k0 k1 k2 hb HA2 HH2 HZE
 by_cases hz:sv=0
 ·rw[decide_eq_true hz]
  have HZ:=hid hz
  clear hz
  go_wp2
  go_ret2
  exact⟨.inl ⟨HZ.out,rfl⟩,HA3.out⟩
 rw[decide_eq_false hz]
 have HZ:=hid hz
 clear hz
 obtain⟨e0,e1,e2⟩:=HH3.out.cells
 go_wp2_with fail
 refine(HWS.out _).mono ?_
 rintro e Wl ⟨x,P,rfl,hOw,hPV,hb⟩
 have HOL:=hid hOw
 have HPV:=hid hPV
 have HAl:=hid (HA3.out.trans (hb.mono HA3.out.size))
 have HHl:=hid (HH3.out.below hb HH3.out.lt)
 clear hOw hPV hb HA3 HH3 e0 e1 e2
 have HPL:Hid (P.length=n^L):=by
  have h9:=congrArg List.length HPV.out
  rw[wyI_length,List.length_map] at h9
  exact h9
 obtain⟨N,hN⟩:∃N,n^L=N:=⟨_,rfl⟩
 have HNE:=hid hN
 rw[hN] at HPL HPV hNN HEND
 have hN1:0<N:=by rw[←hN];exact Nat.pow_pos hn1
 clear hN
 obtain⟨gx,cx,d0,cd0,hxe,hgx0, -, -, -⟩:=HOL.out.atB (show 0<P.length by rw[HPL.out];exact hN1)
 rw[HPL.out] at hxe
 subst hxe
 go_wp2_with fail
 go_loopw [9,11] (fun ov tv wr=>∃(t:Nat) (P:List PR),t≤L∧tv=.int .i64 t∧Hid (OwR wr Wl.heap.size ov P)∧Hid (P.map (·.2)=(List.range t).map fun k=>lF n fun j=>h.alp k j*h.behind k j*(1/sv))∧Hid (Below Wl.heap.size Wl wr)) (fun _ tv _=>L - (intOf tv).toNat)
 case atStart=>exact⟨0,[],Nat.zero_le _,rfl,OwR.nil _ _,rfl,Below.refl _ _⟩
 case round=>
  obtain⟨tt,Ps,htL,rfl,HO,HPO,HBL⟩:=hrel
  by_cases httL:tt<L
  ·obtain⟨W,hW⟩:∃x,x=wr:=⟨_,rfl⟩
   rw[←hW] at HO HBL
   have HHW:=hid (HHl.out.below HBL.out HHl.out.lt)
   have HAW:=hid (HAl.out.trans (HBL.out.mono HAl.out.size))
   obtain⟨e0,e1,e2⟩:=HHW.out.cells
   rw[←hW]
   clear hW
   obtain⟨dO,cO,rfl, -⟩:=owns_slice HO.out.1
   go_wp2_with fail
   refine(HNO.out _).mono ?_
   rintro e W0 ⟨g,c1,rfl,hE,hb⟩
   have HE0:=hid hE
   have HB0:=hid hb
   have HH0:=hid (HHW.out.below hb HHW.out.lt)
   clear hE hb e0 e1 e2
   have hgW:=HE0.out.block.1
   have HGL:Hid (g<W0.heap.size):=HE0.out.lt
   have HNEH:Hid (w.heap.size≠g):=Nat.ne_of_lt (Nat.lt_of_lt_of_le HHW.out.lt hgW)
   have HOW:=hid ((HOL.out.below HBL.out).below HB0.out)
   have HLg:Hid (Wl.heap.size≤g):=Nat.le_trans HBL.out.size hgW
   obtain⟨FJ,hFJ⟩:∃F:Nat→Nat→Rat,F=fun j i=>if wyF n L i tt=j then h.lik (wyF n L i) L else 0:=⟨_,rfl⟩
   have HFJ:Hid (∀j i,FJ j i=if wyF n L i tt=j then h.lik (wyF n L i) L else 0):=fun j i=>by rw[hFJ]
   have HFT:Hid (∀j,j<n→sumR (FJ j) N=h.alp tt j*h.behind tt j):=fun j hj=>by
    rw[hFJ]
    exact HEND.out tt j httL hj
   have HFQ:Hid (∀j i,j<n→i≤N→qw (sumR (FJ j) i)≤30010):=fun j i hj hi=>by
    refine HQW.out _ _ (part_sm (D:=D) (k:=2*L) (K:=3*L) (N:=N) (fun k _=>?_) (by omega) (by rw[HFT.out j hj];exact(HAH.out tt j httL hj).high) i hi) (by omega)
    rw[HFJ.out]
    by_cases e:wyF n L k tt=j
    ·rw[if_pos e];exact HLK.out k
    ·rw[if_neg e];exact Sm.zero.up (by omega)
   clear hFJ
   have HEZ:Hid (EqR W0 W.heap.size g n c1 fun j=>sumR (FJ j) 0):=HE0.out
   clear HE0
   go_wp2_with fail
   go_loopw [13] (fun iv wr=>∃i:Nat,i≤N∧iv=.int .i64 i∧Hid (EqR wr W.heap.size g n c1 fun j=>sumR (FJ j) i)∧Hid (BtS W0 g wr)) (fun iv _=>N - (intOf iv).toNat)
   case atStart=>exact⟨0,Nat.zero_le _,rfl,HEZ,BtS.refl _ _⟩
   case round=>
    obtain⟨i,hi,rfl,HQ,HS⟩:=hrel
    clear HEZ
    by_cases hlti:i<N
    ·have hiP:i<P.length:=by rw[HPL.out];exact hlti
     obtain⟨gx1,cx1,dq1,cq1,hxe1,hgxl, -,cl0,hintsl⟩:=HOL.out.atB hiP
     rw[HPL.out] at hxe1
     cases hxe1
     have HWl0:=hid (HBL.out.trans (HB0.out.mono HBL.out.size))
     have HPI:Hid (P[i].2=iL (wyL n L i)):=by
      have h9:(P.map (·.2))[i]? =(wyI n L N)[i]?:=by rw[HPV.out]
      rw[List.getElem?_map,List.getElem?_eq_getElem hiP] at h9
      simp[wyI,hlti] at h9
      exact h9
     have HLT:Hid (P[i].2.length=L):=by show _=_;rw[HPI.out,iL_length,wyL_length]
     rw[HLT.out] at cl0
     have HINT:Hid (∀u,BtS W0 g u→IntS u dq1 (iL (wyL n L i))):=fun u hu=>by
      rw[←HPI.out]
      intro k hk
      obtain⟨g',o,f1,f2,f3,f4⟩:=hintsl k hk
      have h8:g'<W0.heap.size:=Nat.lt_of_lt_of_le f2 HWl0.out.size
      exact⟨g',o,f1,Nat.lt_of_lt_of_le h8 hu.size,(hu.cell (p:=⟨g',_,none⟩) h8 (by show g'≠g;have:=HLg.out;omega)).trans ((HWl0.out.cell (p:=⟨g',_,none⟩) f2).trans f4)⟩
     obtain⟨gq,oq,rfl,hgq,hgqB,v0⟩:=hintsl tt (by rw[HLT.out];exact httL)
     obtain⟨cq,hcq⟩:∃x,cq1=x:=⟨_,rfl⟩
     rw[hcq] at cl0
     clear hcq
     obtain⟨vt,hvt⟩:∃x,wyF n L i tt=x:=⟨_,rfl⟩
     have HVE:Hid (P[i].2[tt]'(by rw[HLT.out];exact httL)=((vt:Nat):Int)):=by
      have e9:(P[i].2)[tt]? =some ((vt:Nat):Int):=by
       rw[HPI.out,iL,List.getElem?_map,←hvt,wyF,List.getD_eq_getElem?_getD,List.getElem?_eq_getElem (by rw[wyL_length];exact httL)]
       rfl
      rw[List.getElem?_eq_getElem (by rw[HLT.out];exact httL)] at e9
      exact Option.some.inj e9
     rw[HVE.out] at v0
     have hvn:vt<n:=by rw[←hvt];exact wyF_lt hn1 L i tt
     obtain⟨lk,hlk⟩:∃q,h.lik (wyF n L i) L=q:=⟨_,rfl⟩
     obtain⟨rq,hrq⟩:∃q,sumR (FJ vt) i=q:=⟨_,rfl⟩
     have HWR1:Hid (∀j,(if j=vt then rq+lk else sumR (FJ j) i)=sumR (FJ j) (i+1)):=fun j=>by
      rw[←hrq]
      exact way_row (fun j=>by rw[HFJ.out,hvt,hlk]) j
     have hql:qw lk≤30010:=by rw[←hlk];exact HQW.out _ _ (HLK.out i) (by omega)
     have hqr:qw rq≤30010:=by rw[←hrq];exact HFQ.out vt i hvn hi
     have HELD:Hid (∀u,BtS W0 g u→(u.cell? ⟨w.heap.size,0,none⟩=some (.slice a n ca)∧u.cell? ⟨w.heap.size,1,none⟩=some (.slice b n cb)∧u.cell? ⟨w.heap.size,2,none⟩=some (.slice c n cc))∧u.cell? ⟨gx,i,none⟩=some (.slice (some ⟨gq,oq,none⟩) L cq)):=fun u hu=>⟨(hu.hbox HH0.out HNEH.out).cells,(hu.cell (p:=⟨gx,_,none⟩) (Nat.lt_of_lt_of_le hgxl HWl0.out.size) (by show gx≠g;have:=HLg.out;omega)).trans ((HWl0.out.cell (p:=⟨gx,_,none⟩) hgxl).trans cl0)⟩
     have HVT:Hid (∀u,BtS W0 g u→u.cell? ⟨gq,oq+tt,none⟩=some (.int .i64 (vt:Nat))):=fun u hu=>(hu.cell (p:=⟨gq,_,none⟩) (Nat.lt_of_lt_of_le hgq HWl0.out.size) (by show gq≠g;have:=HLg.out;omega)).trans ((HWl0.out.cell (p:=⟨gq,_,none⟩) hgq).trans v0)
     have HWY:Hid (∀u,BtS W0 g u→Calls Tryz.prog 35 #[.agg #[.slice a n ca,.slice b n cb,.slice c n cc],.slice (some ⟨gq,oq,none⟩) L cq,.slice d L cd] u fun e w'=>e=.returned (.agg #[.bool (qF lk).1,.string (qF lk).2.1,.string (qF lk).2.2])∧Below u.heap.size u w'):=fun u hu=>by
      have h9:=HWO.out i (some ⟨gq,oq,none⟩) cq u (hu.below (HAW.out.trans (HB0.out.mono HAW.out.size)) (Nat.le_trans HAW.out.size hgW)) (HINT.out u hu)
      rw[hlk] at h9
      exact h9
     have HAD:Hid (∀U:World,Calls Tryz.prog 36 #[.agg #[.bool (qF rq).1,.string (qF rq).2.1,.string (qF rq).2.2],.agg #[.bool (qF lk).1,.string (qF lk).2.1,.string (qF lk).2.2]] U fun e w'=>e=.returned (.agg #[.bool (qF (rq+lk)).1,.string (qF (rq+lk)).2.1,.string (qF (rq+lk)).2.2])∧Below U.heap.size U w'):=fun U=>by
      have h8:=rAddF_any (sgn rq) (sgn lk) (nu rq) (de rq) (nu lk) (de lk) U (by rw[own_size];omega) (by rw[own_size];omega)
      rw[val_own,val_own] at h8
      exact h8
     have HQC:Hid (EqR wr W.heap.size g n c1 fun j=>if j=vt then rq else sumR (FJ j) i):=HQ.out.congr fun j _=>by
      by_cases e:j=vt
      ·rw[if_pos e,e,hrq]
      ·rw[if_neg e]
     clear HQ
     have HQ:=HQC
     clear HQC
     have HWR:Hid (∀j,(if j=vt then rq+lk else if j=vt then rq else sumR (FJ j) i)=sumR (FJ j) (i+1)):=fun j=>by
      rw[←HWR1.out j]
      by_cases e:j=vt
      ·rw[if_pos e,if_pos e]
      ·rw[if_neg e,if_neg e,if_neg e]
     have HRC:Hid (∀u,EqR u W.heap.size g n c1 (fun j=>if j=vt then rq else sumR (FJ j) i)→(u.cell? ⟨g,vt*3,none⟩=some (.bool (qF rq).1)∧u.cell? ⟨g,vt*3+1,none⟩=some (.string (qF rq).2.1)∧u.cell? ⟨g,vt*3+2,none⟩=some (.string (qF rq).2.2))):=fun u hu=>by
      have h9:=hu.cells hvn
      rw[if_pos rfl] at h9
      exact h9
     clear HWR1 cl0 hintsl v0 HINT HPI HLT HVE hvt hlk hrq hql hqr
     go_upto_region 16 with fail
     replace HS:=hid (HS.out.step (Below.refl _ _).drew)
     replace HQ:=hid (HQ.out.below (Below.refl _ _).drew)
     refine wp_region_held_drew (S:=fun u=>(u.cell? ⟨w.heap.size,0,none⟩=some (.slice a n ca)∧u.cell? ⟨w.heap.size,1,none⟩=some (.slice b n cb)∧u.cell? ⟨w.heap.size,2,none⟩=some (.slice c n cc))∧u.cell? ⟨gx,i,none⟩=some (.slice (some ⟨gq,oq,none⟩) L cq)) (by kernel_rfl) (HELD.out _ HS.out) (fun hSd=>?_)
     generalize wr.drew=u0 at *
     refine wpAnyH_take (i:=0) (oi:=_) (v:=.agg #[.slice a n ca,.slice b n cb,.slice c n cc]) rfl (by kernel_rfl) (by kernel_rfl) (by kernel_rfl) (fun _ _ _ h=>h) (Or.inl ⟨by rfl,?_⟩) (by assumption) ?_
     ·intro u' hSu
      (try simp only[List.getElem_toArray,List.getElem_cons_zero])
      obtain⟨⟨s0,s1,s2⟩,s3⟩:=hSu
      go_simp
     (try simp only[List.getElem_toArray,List.getElem_cons_zero])
     (try simp only[Act.put,List.setIfInBounds_toArray,List.set_cons_zero,List.set_cons_succ])
     refine wpAnyH_take (i:=1) (oi:=_) (v:=.slice (some ⟨gx,0,none⟩) N cx) rfl (by kernel_rfl) (by kernel_rfl) (by kernel_rfl) (fun _ _ _ h=>h) (Or.inl ⟨by rfl,?_⟩) (by assumption) ?_
     ·intro u' hSu
      (try simp only[List.getElem_toArray,List.getElem_cons_zero,List.getElem_cons_succ])
      go_simp
     (try simp only[List.getElem_toArray,List.getElem_cons_zero,List.getElem_cons_succ])
     (try simp only[Act.put,List.setIfInBounds_toArray,List.set_cons_zero,List.set_cons_succ])
     refine wpAnyH_take (i:=2) (oi:=_) (v:=.int .i64 (i:Nat)) rfl (by kernel_rfl) (by kernel_rfl) (by kernel_rfl) (fun _ _ _ h=>h) (Or.inl ⟨by rfl,?_⟩) (by assumption) ?_
     ·intro u' hSu
      (try simp only[List.getElem_toArray,List.getElem_cons_zero,List.getElem_cons_succ])
      go_simp
     (try simp only[List.getElem_toArray,List.getElem_cons_zero,List.getElem_cons_succ])
     (try simp only[Act.put,List.setIfInBounds_toArray,List.set_cons_zero,List.set_cons_succ])
     refine wpAnyH_take (i:=3) (oi:=_) (v:=.pointer (some ⟨gx,i,none⟩)) rfl (by kernel_rfl) (by kernel_rfl) (by kernel_rfl) (fun _ _ _ h=>h) (Or.inl ⟨by rfl,?_⟩) (by assumption) ?_
     ·intro u' hSu
      (try simp only[List.getElem_toArray,List.getElem_cons_zero,List.getElem_cons_succ])
      go_simp
     (try simp only[List.getElem_toArray,List.getElem_cons_zero,List.getElem_cons_succ])
     (try simp only[Act.put,List.setIfInBounds_toArray,List.set_cons_zero,List.set_cons_succ])
     refine wpAnyH_take (i:=4) (oi:=_) (v:=.slice (some ⟨gq,oq,none⟩) L cq) rfl (by kernel_rfl) (by kernel_rfl) (by kernel_rfl) (fun _ _ _ h=>h) (Or.inl ⟨by rfl,?_⟩) (by assumption) ?_
     ·intro u' hSu
      (try simp only[List.getElem_toArray,List.getElem_cons_zero,List.getElem_cons_succ])
      obtain⟨⟨s0,s1,s2⟩,s3⟩:=hSu
      go_simp
     (try simp only[List.getElem_toArray,List.getElem_cons_zero,List.getElem_cons_succ])
     (try simp only[Act.put,List.setIfInBounds_toArray,List.set_cons_zero,List.set_cons_succ])
     refine wpAnyH_take (i:=5) (oi:=_) (v:=.slice d L cd) rfl (by kernel_rfl) (by kernel_rfl) (by kernel_rfl) (fun _ _ _ h=>h) (Or.inl ⟨by rfl,?_⟩) (by assumption) ?_
     ·intro u' hSu
      (try simp only[List.getElem_toArray,List.getElem_cons_zero,List.getElem_cons_succ])
      go_simp
     (try simp only[List.getElem_toArray,List.getElem_cons_zero,List.getElem_cons_succ])
     (try simp only[Act.put,List.setIfInBounds_toArray,List.set_cons_zero,List.set_cons_succ])
     refine wpAnyH_ready (rs:=[6,7]) (by kernel_rfl) (by simp) (AllReadyH.cons rfl ?_ (AllReadyH.cons rfl ?_ (AllReadyH.nil)))
     ·intro K' hK'
      (try simp only[List.getElem_toArray,List.getElem_cons_zero,List.getElem_cons_succ])
      go_simp
      refine(HWY.out _ HS.out).mono ?_
      rintro e u1 ⟨rfl,hb⟩
      replace HS:=hid (HS.out.step hb)
      replace HQ:=hid (HQ.out.below hb)
      refine hK'.out _ _ (HELD.out _ HS.out) (fun hSe=>?_)
      clear hK' K' hSd
      have hSd:=hSe
      clear hSe hb
      (try simp only[List.getElem_toArray,List.getElem_cons_zero,List.getElem_cons_succ])
      (try simp only[Act.put,List.setIfInBounds_toArray,List.set_cons_zero,List.set_cons_succ])
      refine wpAnyH_ready (rs:=[7]) (by kernel_rfl) (by simp) (AllReadyH.cons rfl ?_ (AllReadyH.nil))
      ·intro K' hK'
       (try simp only[List.getElem_toArray,List.getElem_cons_zero,List.getElem_cons_succ])
       go_simp
       have hbn:=(Below.refl u1.heap.size u1).alloc (Nat.le_refl _) (FC false ⟨#[]⟩ ⟨#[]⟩)
       have HFX:=hid (Box.new u1 false ⟨#[]⟩ ⟨#[]⟩)
       have HGF:Hid (W0.heap.size≤u1.heap.size):=HS.out.size
       replace HS:=hid (HS.out.step hbn)
       replace HQ:=hid (HQ.out.below hbn)
       refine hK'.out _ _ (HELD.out _ HS.out) (fun hSe=>?_)
       clear hK' K' hSd hbn
       have hSd:=hSe
       clear hSe
       obtain⟨gf,hgfe⟩:∃x,u1.heap.size=x:=⟨_,rfl⟩
       obtain⟨u2,hV⟩:∃x,u1.alloc (FC false ⟨#[]⟩ ⟨#[]⟩)=x:=⟨_,rfl⟩
       rw[hV] at HFX HS HQ hSd
       rw[hgfe] at HFX HGF
       simp only[hV]
       simp only[hgfe]
       clear hgfe hV
       (try simp only[List.getElem_toArray,List.getElem_cons_zero,List.getElem_cons_succ])
       (try simp only[Act.put,List.setIfInBounds_toArray,List.set_cons_zero,List.set_cons_succ])
       obtain⟨k0,k1,k2,f0,f1,f2⟩:=HFX.out.facts
       refine wpAnyH_ready (rs:=[8]) (by kernel_rfl) (by simp) (AllReadyH.cons rfl ?_ (AllReadyH.nil))
       ·intro K' hK'
        (try simp only[List.getElem_toArray,List.getElem_cons_zero,List.getElem_cons_succ])
        go_simp
        have HFN:=hid (HFX.out.put (qF lk).1 (qF lk).2.1 (qF lk).2.2)
        have HQN:=hid (HQ.out.apart (Nat.ne_of_lt (Nat.lt_of_lt_of_le HGL.out HGF.out)) (.bool (qF lk).1) (.string (qF lk).2.1) (.string (qF lk).2.2))
        have HSN:=hid (HS.out.put3 gf (.bool (qF lk).1) (.string (qF lk).2.1) (.string (qF lk).2.2) (.inr HGF.out))
        refine hK'.out _ _ (HELD.out _ HSN.out) (fun _=>wpAnyH_done (by kernel_rfl) ?_ _)
        clear hK' K' hSd k0 k1 k2 f0 f1 f2 HS HFX HQ
        generalize (((u2.setCell ⟨gf,0,none⟩ (.bool (qF lk).1)).setCell ⟨gf,1,none⟩ (.string (qF lk).2.1)).setCell ⟨gf,2,none⟩ (.string (qF lk).2.2))=Wb at *
        have HELD2:Hid (∀u,BtS W0 g u→Box u gf (qF lk).1 (qF lk).2.1 (qF lk).2.2→(u.cell? ⟨gx,i,none⟩=some (.slice (some ⟨gq,oq,none⟩) L cq)∧u.cell? ⟨gq,oq+tt,none⟩=some (.int .i64 (vt:Nat))∧u.cell? ⟨gf,0,none⟩=some (.bool (qF lk).1)∧u.cell? ⟨gf,1,none⟩=some (.string (qF lk).2.1)∧u.cell? ⟨gf,2,none⟩=some (.string (qF lk).2.2))):=fun u hu hx=>⟨(HELD.out u hu).2,(HVT.out u hu),hx.c0,hx.c1,hx.c2⟩
        go_upto_region 17 with fail
        replace HSN:=hid (HSN.out.step (Below.refl _ _).drew)
        replace HQN:=hid (HQN.out.below (Below.refl _ _).drew)
        replace HFN:=hid HFN.out.drew
        refine wp_region_until 21 (fun (b:Bool) (u:World)=>(u.cell? ⟨gx,i,none⟩=some (.slice (some ⟨gq,oq,none⟩) L cq)∧u.cell? ⟨gq,oq+tt,none⟩=some (.int .i64 (vt:Nat))∧u.cell? ⟨gf,0,none⟩=some (.bool (qF lk).1)∧u.cell? ⟨gf,1,none⟩=some (.string (qF lk).2.1)∧u.cell? ⟨gf,2,none⟩=some (.string (qF lk).2.2))∧(b=false→(u.cell? ⟨g,vt*3,none⟩=some (.bool (qF rq).1)∧u.cell? ⟨g,vt*3+1,none⟩=some (.string (qF rq).2.1)∧u.cell? ⟨g,vt*3+2,none⟩=some (.string (qF rq).2.2)))) (by kernel_rfl) ⟨HELD2.out _ HSN.out HFN.out,fun _=>HRC.out _ HQN.out⟩ (fun hSd=>?_)
        generalize Wb.drew=v0 at *
        refine wpU_take (i:=0) (oi:=_) (v:=.slice (some ⟨g,0,none⟩) n c1) (b:=false) rfl (by kernel_rfl) (by kernel_rfl) (by kernel_rfl) (by decide) (fun _ _ _ h=>h) (Or.inl ⟨by rfl,?_⟩) (by kernel_rfl) (by assumption) ?_
        ·intro u' hSu
         (try simp only[List.getElem_toArray,List.getElem_cons_zero])
         go_simp
        (try simp only[List.getElem_toArray,List.getElem_cons_zero])
        (try simp only[Act.put,List.setIfInBounds_toArray,List.set_cons_zero,List.set_cons_succ])
        refine wpU_take (i:=1) (oi:=_) (v:=.slice (some ⟨gx,0,none⟩) N cx) (b:=false) rfl (by kernel_rfl) (by kernel_rfl) (by kernel_rfl) (by decide) (fun _ _ _ h=>h) (Or.inl ⟨by rfl,?_⟩) (by kernel_rfl) (by assumption) ?_
        ·intro u' hSu
         (try simp only[List.getElem_toArray,List.getElem_cons_zero,List.getElem_cons_succ])
         go_simp
        (try simp only[List.getElem_toArray,List.getElem_cons_zero,List.getElem_cons_succ])
        (try simp only[Act.put,List.setIfInBounds_toArray,List.set_cons_zero,List.set_cons_succ])
        refine wpU_take (i:=2) (oi:=_) (v:=.int .i64 (i:Nat)) (b:=false) rfl (by kernel_rfl) (by kernel_rfl) (by kernel_rfl) (by decide) (fun _ _ _ h=>h) (Or.inl ⟨by rfl,?_⟩) (by kernel_rfl) (by assumption) ?_
        ·intro u' hSu
         (try simp only[List.getElem_toArray,List.getElem_cons_zero,List.getElem_cons_succ])
         go_simp
        (try simp only[List.getElem_toArray,List.getElem_cons_zero,List.getElem_cons_succ])
        (try simp only[Act.put,List.setIfInBounds_toArray,List.set_cons_zero,List.set_cons_succ])
        refine wpU_take (i:=3) (oi:=_) (v:=.pointer (some ⟨gx,i,none⟩)) (b:=false) rfl (by kernel_rfl) (by kernel_rfl) (by kernel_rfl) (by decide) (fun _ _ _ h=>h) (Or.inl ⟨by rfl,?_⟩) (by kernel_rfl) (by assumption) ?_
        ·intro u' hSu
         (try simp only[List.getElem_toArray,List.getElem_cons_zero,List.getElem_cons_succ])
         go_simp
        (try simp only[List.getElem_toArray,List.getElem_cons_zero,List.getElem_cons_succ])
        (try simp only[Act.put,List.setIfInBounds_toArray,List.set_cons_zero,List.set_cons_succ])
        refine wpU_take (i:=4) (oi:=_) (v:=.slice (some ⟨gq,oq,none⟩) L cq) (b:=false) rfl (by kernel_rfl) (by kernel_rfl) (by kernel_rfl) (by decide) (fun _ _ _ h=>h) (Or.inl ⟨by rfl,?_⟩) (by kernel_rfl) (by assumption) ?_
        ·intro u' hSu
         (try simp only[List.getElem_toArray,List.getElem_cons_zero,List.getElem_cons_succ])
         obtain⟨_,⟨s0,s1,s2,s3,s4⟩,_⟩:=hSu
         go_simp
        (try simp only[List.getElem_toArray,List.getElem_cons_zero,List.getElem_cons_succ])
        (try simp only[Act.put,List.setIfInBounds_toArray,List.set_cons_zero,List.set_cons_succ])
        refine wpU_take (i:=5) (oi:=_) (v:=.int .i64 (tt:Nat)) (b:=false) rfl (by kernel_rfl) (by kernel_rfl) (by kernel_rfl) (by decide) (fun _ _ _ h=>h) (Or.inl ⟨by rfl,?_⟩) (by kernel_rfl) (by assumption) ?_
        ·intro u' hSu
         (try simp only[List.getElem_toArray,List.getElem_cons_zero,List.getElem_cons_succ])
         go_simp
        (try simp only[List.getElem_toArray,List.getElem_cons_zero,List.getElem_cons_succ])
        (try simp only[Act.put,List.setIfInBounds_toArray,List.set_cons_zero,List.set_cons_succ])
        refine wpU_take (i:=6) (oi:=_) (v:=.pointer (some ⟨gq,oq+tt,none⟩)) (b:=false) rfl (by kernel_rfl) (by kernel_rfl) (by kernel_rfl) (by decide) (fun _ _ _ h=>h) (Or.inl ⟨by rfl,?_⟩) (by kernel_rfl) (by assumption) ?_
        ·intro u' hSu
         (try simp only[List.getElem_toArray,List.getElem_cons_zero,List.getElem_cons_succ])
         go_simp
        (try simp only[List.getElem_toArray,List.getElem_cons_zero,List.getElem_cons_succ])
        (try simp only[Act.put,List.setIfInBounds_toArray,List.set_cons_zero,List.set_cons_succ])
        refine wpU_take (i:=7) (oi:=_) (v:=.int .i64 (vt:Nat)) (b:=false) rfl (by kernel_rfl) (by kernel_rfl) (by kernel_rfl) (by decide) (fun _ _ _ h=>h) (Or.inl ⟨by rfl,?_⟩) (by kernel_rfl) (by assumption) ?_
        ·intro u' hSu
         (try simp only[List.getElem_toArray,List.getElem_cons_zero,List.getElem_cons_succ])
         obtain⟨_,⟨s0,s1,s2,s3,s4⟩,_⟩:=hSu
         go_simp
        (try simp only[List.getElem_toArray,List.getElem_cons_zero,List.getElem_cons_succ])
        (try simp only[Act.put,List.setIfInBounds_toArray,List.set_cons_zero,List.set_cons_succ])
        refine wpU_take (i:=8) (oi:=_) (v:=.slice (some ⟨g,0,none⟩) n c1) (b:=false) rfl (by kernel_rfl) (by kernel_rfl) (by kernel_rfl) (by decide) (fun _ _ _ h=>h) (Or.inl ⟨by rfl,?_⟩) (by kernel_rfl) (by assumption) ?_
        ·intro u' hSu
         (try simp only[List.getElem_toArray,List.getElem_cons_zero,List.getElem_cons_succ])
         go_simp
        (try simp only[List.getElem_toArray,List.getElem_cons_zero,List.getElem_cons_succ])
        (try simp only[Act.put,List.setIfInBounds_toArray,List.set_cons_zero,List.set_cons_succ])
        refine wpU_take (i:=9) (oi:=_) (v:=.slice (some ⟨gx,0,none⟩) N cx) (b:=false) rfl (by kernel_rfl) (by kernel_rfl) (by kernel_rfl) (by decide) (fun _ _ _ h=>h) (Or.inl ⟨by rfl,?_⟩) (by kernel_rfl) (by assumption) ?_
        ·intro u' hSu
         (try simp only[List.getElem_toArray,List.getElem_cons_zero,List.getElem_cons_succ])
         go_simp
        (try simp only[List.getElem_toArray,List.getElem_cons_zero,List.getElem_cons_succ])
        (try simp only[Act.put,List.setIfInBounds_toArray,List.set_cons_zero,List.set_cons_succ])
        refine wpU_take (i:=10) (oi:=_) (v:=.int .i64 (i:Nat)) (b:=false) rfl (by kernel_rfl) (by kernel_rfl) (by kernel_rfl) (by decide) (fun _ _ _ h=>h) (Or.inl ⟨by rfl,?_⟩) (by kernel_rfl) (by assumption) ?_
        ·intro u' hSu
         (try simp only[List.getElem_toArray,List.getElem_cons_zero,List.getElem_cons_succ])
         go_simp
        (try simp only[List.getElem_toArray,List.getElem_cons_zero,List.getElem_cons_succ])
        (try simp only[Act.put,List.setIfInBounds_toArray,List.set_cons_zero,List.set_cons_succ])
        refine wpU_take (i:=11) (oi:=_) (v:=.pointer (some ⟨gx,i,none⟩)) (b:=false) rfl (by kernel_rfl) (by kernel_rfl) (by kernel_rfl) (by decide) (fun _ _ _ h=>h) (Or.inl ⟨by rfl,?_⟩) (by kernel_rfl) (by assumption) ?_
        ·intro u' hSu
         (try simp only[List.getElem_toArray,List.getElem_cons_zero,List.getElem_cons_succ])
         go_simp
        (try simp only[List.getElem_toArray,List.getElem_cons_zero,List.getElem_cons_succ])
        (try simp only[Act.put,List.setIfInBounds_toArray,List.set_cons_zero,List.set_cons_succ])
        refine wpU_take (i:=12) (oi:=_) (v:=.slice (some ⟨gq,oq,none⟩) L cq) (b:=false) rfl (by kernel_rfl) (by kernel_rfl) (by kernel_rfl) (by decide) (fun _ _ _ h=>h) (Or.inl ⟨by rfl,?_⟩) (by kernel_rfl) (by assumption) ?_
        ·intro u' hSu
         (try simp only[List.getElem_toArray,List.getElem_cons_zero,List.getElem_cons_succ])
         obtain⟨_,⟨s0,s1,s2,s3,s4⟩,_⟩:=hSu
         go_simp
        (try simp only[List.getElem_toArray,List.getElem_cons_zero,List.getElem_cons_succ])
        (try simp only[Act.put,List.setIfInBounds_toArray,List.set_cons_zero,List.set_cons_succ])
        refine wpU_take (i:=13) (oi:=_) (v:=.int .i64 (tt:Nat)) (b:=false) rfl (by kernel_rfl) (by kernel_rfl) (by kernel_rfl) (by decide) (fun _ _ _ h=>h) (Or.inl ⟨by rfl,?_⟩) (by kernel_rfl) (by assumption) ?_
        ·intro u' hSu
         (try simp only[List.getElem_toArray,List.getElem_cons_zero,List.getElem_cons_succ])
         go_simp
        (try simp only[List.getElem_toArray,List.getElem_cons_zero,List.getElem_cons_succ])
        (try simp only[Act.put,List.setIfInBounds_toArray,List.set_cons_zero,List.set_cons_succ])
        refine wpU_take (i:=14) (oi:=_) (v:=.pointer (some ⟨gq,oq+tt,none⟩)) (b:=false) rfl (by kernel_rfl) (by kernel_rfl) (by kernel_rfl) (by decide) (fun _ _ _ h=>h) (Or.inl ⟨by rfl,?_⟩) (by kernel_rfl) (by assumption) ?_
        ·intro u' hSu
         (try simp only[List.getElem_toArray,List.getElem_cons_zero,List.getElem_cons_succ])
         go_simp
        (try simp only[List.getElem_toArray,List.getElem_cons_zero,List.getElem_cons_succ])
        (try simp only[Act.put,List.setIfInBounds_toArray,List.set_cons_zero,List.set_cons_succ])
        refine wpU_take (i:=15) (oi:=_) (v:=.int .i64 (vt:Nat)) (b:=false) rfl (by kernel_rfl) (by kernel_rfl) (by kernel_rfl) (by decide) (fun _ _ _ h=>h) (Or.inl ⟨by rfl,?_⟩) (by kernel_rfl) (by assumption) ?_
        ·intro u' hSu
         (try simp only[List.getElem_toArray,List.getElem_cons_zero,List.getElem_cons_succ])
         obtain⟨_,⟨s0,s1,s2,s3,s4⟩,_⟩:=hSu
         go_simp
        (try simp only[List.getElem_toArray,List.getElem_cons_zero,List.getElem_cons_succ])
        (try simp only[Act.put,List.setIfInBounds_toArray,List.set_cons_zero,List.set_cons_succ])
        refine wpU_take (i:=16) (oi:=_) (v:=.pointer (some ⟨g,vt*3,none⟩)) (b:=false) rfl (by kernel_rfl) (by kernel_rfl) (by kernel_rfl) (by decide) (fun _ _ _ h=>h) (Or.inl ⟨by rfl,?_⟩) (by kernel_rfl) (by assumption) ?_
        ·intro u' hSu
         (try simp only[List.getElem_toArray,List.getElem_cons_zero,List.getElem_cons_succ])
         go_simp
        (try simp only[List.getElem_toArray,List.getElem_cons_zero,List.getElem_cons_succ])
        (try simp only[Act.put,List.setIfInBounds_toArray,List.set_cons_zero,List.set_cons_succ])
        refine wpU_ahead (i:=17) (oi:=_) (v:=.agg #[.bool (qF rq).1,.string (qF rq).2.1,.string (qF rq).2.2]) rfl (by kernel_rfl) (by kernel_rfl) (by kernel_rfl) (by decide) rfl (by kernel_rfl) (fun _ _ _ h=>h) (Or.inl ⟨by rfl,?_⟩) (by kernel_rfl) (by assumption) ?_
        ·intro u' hSu
         (try simp only[List.getElem_toArray,List.getElem_cons_zero,List.getElem_cons_succ])
         obtain⟨_,s5⟩:=hSu
         obtain⟨s6,s7,s8⟩:=s5 rfl
         go_simp
        (try simp only[List.getElem_toArray,List.getElem_cons_zero,List.getElem_cons_succ])
        (try simp only[Act.put,List.setIfInBounds_toArray,List.set_cons_zero,List.set_cons_succ])
        refine wpU_take (i:=18) (oi:=_) (v:=.agg #[.bool (qF lk).1,.string (qF lk).2.1,.string (qF lk).2.2]) (b:=false) rfl (by kernel_rfl) (by kernel_rfl) (by kernel_rfl) (by decide) (fun _ _ _ h=>h) (Or.inl ⟨by rfl,?_⟩) (by kernel_rfl) (by assumption) ?_
        ·intro u' hSu
         (try simp only[List.getElem_toArray,List.getElem_cons_zero,List.getElem_cons_succ])
         obtain⟨_,⟨s0,s1,s2,s3,s4⟩,_⟩:=hSu
         go_simp
        (try simp only[List.getElem_toArray,List.getElem_cons_zero,List.getElem_cons_succ])
        (try simp only[Act.put,List.setIfInBounds_toArray,List.set_cons_zero,List.set_cons_succ])
        refine wpU_ready (rs:=[19]) (by kernel_rfl) (by simp) (AllU.cons (b:=false) rfl (by kernel_rfl) ?_ (AllU.nil))
        ·intro K' hK'
         (try simp only[List.getElem_toArray,List.getElem_cons_zero,List.getElem_cons_succ])
         go_simp
         refine(HAD.out _).mono ?_
         rintro e u3 ⟨rfl,hb⟩
         replace HSN:=hid (HSN.out.step hb)
         replace HQN:=hid (HQN.out.below hb)
         replace HFN:=hid (HFN.out.below hb HFN.out.lt)
         refine hK'.out _ _ ⟨HELD2.out _ HSN.out HFN.out,fun _=>HRC.out _ HQN.out⟩ (fun hSe=>?_)
         clear hK' K' hSd
         have hSd:=hSe
         clear hSe
         clear hb
         (try simp only[List.getElem_toArray,List.getElem_cons_zero,List.getElem_cons_succ])
         (try simp only[Act.put,List.setIfInBounds_toArray,List.set_cons_zero,List.set_cons_succ])
         refine wpU_take (i:=20) (oi:=_) (v:=.pointer (some ⟨g,vt*3,none⟩)) (b:=false) rfl (by kernel_rfl) (by kernel_rfl) (by kernel_rfl) (by decide) (fun _ _ _ h=>h) (Or.inl ⟨by rfl,?_⟩) (by kernel_rfl) (by assumption) ?_
         ·intro u' hSu
          (try simp only[List.getElem_toArray,List.getElem_cons_zero,List.getElem_cons_succ])
          go_simp
         (try simp only[List.getElem_toArray,List.getElem_cons_zero,List.getElem_cons_succ])
         (try simp only[Act.put,List.setIfInBounds_toArray,List.set_cons_zero,List.set_cons_succ])
         obtain⟨q0,q1,q2⟩:=HRC.out _ HQN.out
         have q3:=HQN.out.fz (vt*3)
         have q4:=HQN.out.fz (vt*3+1)
         have q5:=HQN.out.fz (vt*3+2)
         refine wpU_ready (rs:=[21]) (by kernel_rfl) (by simp) (AllU.cons (b:=true) rfl (by kernel_rfl) ?_ (AllU.nil))
         ·intro K' hK'
          (try simp only[List.getElem_toArray,List.getElem_cons_zero,List.getElem_cons_succ])
          go_simp
          obtain⟨hQ1,hQg⟩:=HQN.out.put vt (rq+lk)
          have HQM:=hid (hQ1.congr fun j _=>HWR.out j)
          have HSM:=hid (HSN.out.grown hQg)
          have HFM:Hid (Box (((u3.setCell ⟨g,vt*3,none⟩ (.bool (qF (rq+lk)).1)).setCell ⟨g,vt*3+1,none⟩ (.string (qF (rq+lk)).2.1)).setCell ⟨g,vt*3+2,none⟩ (.string (qF (rq+lk)).2.2)) gf (qF lk).1 (qF lk).2.1 (qF lk).2.2):=((HFN.out.far (Ne.symm (Nat.ne_of_lt (Nat.lt_of_lt_of_le HGL.out HGF.out))) _).far (Ne.symm (Nat.ne_of_lt (Nat.lt_of_lt_of_le HGL.out HGF.out))) _).far (Ne.symm (Nat.ne_of_lt (Nat.lt_of_lt_of_le HGL.out HGF.out))) _
          refine hK'.out _ _ ⟨HELD2.out _ HSM.out HFM.out,fun e=>by cases e⟩ (fun _=>wpU_done (by kernel_rfl) ?_ _)
          clear hK' K' hSd q0 q1 q2 q3 q4 q5 HQN HSN HFN hQ1 hQg HFM
          go_wp2
          go_roundw
          case rel=>exact⟨i+1,by omega,by go_num,HQM,HSM⟩
          case measure=>simp[intOf];omega
     ·intro K' hK'
      (try simp only[List.getElem_toArray,List.getElem_cons_zero,List.getElem_cons_succ])
      go_simp
      have hbn:=(Below.refl u0.heap.size u0).alloc (Nat.le_refl _) (FC false ⟨#[]⟩ ⟨#[]⟩)
      have HFX:=hid (Box.new u0 false ⟨#[]⟩ ⟨#[]⟩)
      have HGF:Hid (W0.heap.size≤u0.heap.size):=HS.out.size
      replace HS:=hid (HS.out.step hbn)
      replace HQ:=hid (HQ.out.below hbn)
      refine hK'.out _ _ (HELD.out _ HS.out) (fun hSe=>?_)
      clear hK' K' hSd hbn
      have hSd:=hSe
      clear hSe
      obtain⟨gf,hgfe⟩:∃x,u0.heap.size=x:=⟨_,rfl⟩
      obtain⟨u1,hV⟩:∃x,u0.alloc (FC false ⟨#[]⟩ ⟨#[]⟩)=x:=⟨_,rfl⟩
      rw[hV] at HFX HS HQ hSd
      rw[hgfe] at HFX HGF
      simp only[hV]
      simp only[hgfe]
      clear hgfe hV
      (try simp only[List.getElem_toArray,List.getElem_cons_zero,List.getElem_cons_succ])
      (try simp only[Act.put,List.setIfInBounds_toArray,List.set_cons_zero,List.set_cons_succ])
      refine wpAnyH_ready (rs:=[6]) (by kernel_rfl) (by simp) (AllReadyH.cons rfl ?_ (AllReadyH.nil))
      ·intro K' hK'
       (try simp only[List.getElem_toArray,List.getElem_cons_zero,List.getElem_cons_succ])
       go_simp
       refine(HWY.out _ HS.out).mono ?_
       rintro e u2 ⟨rfl,hb⟩
       replace HFX:=hid (HFX.out.below hb HFX.out.lt)
       replace HS:=hid (HS.out.step hb)
       replace HQ:=hid (HQ.out.below hb)
       refine hK'.out _ _ (HELD.out _ HS.out) (fun hSe=>?_)
       clear hK' K' hSd
       have hSd:=hSe
       clear hSe hb
       (try simp only[List.getElem_toArray,List.getElem_cons_zero,List.getElem_cons_succ])
       (try simp only[Act.put,List.setIfInBounds_toArray,List.set_cons_zero,List.set_cons_succ])
       obtain⟨k0,k1,k2,f0,f1,f2⟩:=HFX.out.facts
       refine wpAnyH_ready (rs:=[8]) (by kernel_rfl) (by simp) (AllReadyH.cons rfl ?_ (AllReadyH.nil))
       ·intro K' hK'
        (try simp only[List.getElem_toArray,List.getElem_cons_zero,List.getElem_cons_succ])
        go_simp
        have HFN:=hid (HFX.out.put (qF lk).1 (qF lk).2.1 (qF lk).2.2)
        have HQN:=hid (HQ.out.apart (Nat.ne_of_lt (Nat.lt_of_lt_of_le HGL.out HGF.out)) (.bool (qF lk).1) (.string (qF lk).2.1) (.string (qF lk).2.2))
        have HSN:=hid (HS.out.put3 gf (.bool (qF lk).1) (.string (qF lk).2.1) (.string (qF lk).2.2) (.inr HGF.out))
        refine hK'.out _ _ (HELD.out _ HSN.out) (fun _=>wpAnyH_done (by kernel_rfl) ?_ _)
        clear hK' K' hSd k0 k1 k2 f0 f1 f2 HS HFX HQ
        generalize (((u2.setCell ⟨gf,0,none⟩ (.bool (qF lk).1)).setCell ⟨gf,1,none⟩ (.string (qF lk).2.1)).setCell ⟨gf,2,none⟩ (.string (qF lk).2.2))=Wb at *
        have HELD2:Hid (∀u,BtS W0 g u→Box u gf (qF lk).1 (qF lk).2.1 (qF lk).2.2→(u.cell? ⟨gx,i,none⟩=some (.slice (some ⟨gq,oq,none⟩) L cq)∧u.cell? ⟨gq,oq+tt,none⟩=some (.int .i64 (vt:Nat))∧u.cell? ⟨gf,0,none⟩=some (.bool (qF lk).1)∧u.cell? ⟨gf,1,none⟩=some (.string (qF lk).2.1)∧u.cell? ⟨gf,2,none⟩=some (.string (qF lk).2.2))):=fun u hu hx=>⟨(HELD.out u hu).2,(HVT.out u hu),hx.c0,hx.c1,hx.c2⟩
        go_upto_region 17 with fail
        replace HSN:=hid (HSN.out.step (Below.refl _ _).drew)
        replace HQN:=hid (HQN.out.below (Below.refl _ _).drew)
        replace HFN:=hid HFN.out.drew
        refine wp_region_until 21 (fun (b:Bool) (u:World)=>(u.cell? ⟨gx,i,none⟩=some (.slice (some ⟨gq,oq,none⟩) L cq)∧u.cell? ⟨gq,oq+tt,none⟩=some (.int .i64 (vt:Nat))∧u.cell? ⟨gf,0,none⟩=some (.bool (qF lk).1)∧u.cell? ⟨gf,1,none⟩=some (.string (qF lk).2.1)∧u.cell? ⟨gf,2,none⟩=some (.string (qF lk).2.2))∧(b=false→(u.cell? ⟨g,vt*3,none⟩=some (.bool (qF rq).1)∧u.cell? ⟨g,vt*3+1,none⟩=some (.string (qF rq).2.1)∧u.cell? ⟨g,vt*3+2,none⟩=some (.string (qF rq).2.2)))) (by kernel_rfl) ⟨HELD2.out _ HSN.out HFN.out,fun _=>HRC.out _ HQN.out⟩ (fun hSd=>?_)
        generalize Wb.drew=v0 at *
        refine wpU_take (i:=0) (oi:=_) (v:=.slice (some ⟨g,0,none⟩) n c1) (b:=false) rfl (by kernel_rfl) (by kernel_rfl) (by kernel_rfl) (by decide) (fun _ _ _ h=>h) (Or.inl ⟨by rfl,?_⟩) (by kernel_rfl) (by assumption) ?_
        ·intro u' hSu
         (try simp only[List.getElem_toArray,List.getElem_cons_zero])
         go_simp
        (try simp only[List.getElem_toArray,List.getElem_cons_zero])
        (try simp only[Act.put,List.setIfInBounds_toArray,List.set_cons_zero,List.set_cons_succ])
        refine wpU_take (i:=1) (oi:=_) (v:=.slice (some ⟨gx,0,none⟩) N cx) (b:=false) rfl (by kernel_rfl) (by kernel_rfl) (by kernel_rfl) (by decide) (fun _ _ _ h=>h) (Or.inl ⟨by rfl,?_⟩) (by kernel_rfl) (by assumption) ?_
        ·intro u' hSu
         (try simp only[List.getElem_toArray,List.getElem_cons_zero,List.getElem_cons_succ])
         go_simp
        (try simp only[List.getElem_toArray,List.getElem_cons_zero,List.getElem_cons_succ])
        (try simp only[Act.put,List.setIfInBounds_toArray,List.set_cons_zero,List.set_cons_succ])
        refine wpU_take (i:=2) (oi:=_) (v:=.int .i64 (i:Nat)) (b:=false) rfl (by kernel_rfl) (by kernel_rfl) (by kernel_rfl) (by decide) (fun _ _ _ h=>h) (Or.inl ⟨by rfl,?_⟩) (by kernel_rfl) (by assumption) ?_
        ·intro u' hSu
         (try simp only[List.getElem_toArray,List.getElem_cons_zero,List.getElem_cons_succ])
         go_simp
        (try simp only[List.getElem_toArray,List.getElem_cons_zero,List.getElem_cons_succ])
        (try simp only[Act.put,List.setIfInBounds_toArray,List.set_cons_zero,List.set_cons_succ])
        refine wpU_take (i:=3) (oi:=_) (v:=.pointer (some ⟨gx,i,none⟩)) (b:=false) rfl (by kernel_rfl) (by kernel_rfl) (by kernel_rfl) (by decide) (fun _ _ _ h=>h) (Or.inl ⟨by rfl,?_⟩) (by kernel_rfl) (by assumption) ?_
        ·intro u' hSu
         (try simp only[List.getElem_toArray,List.getElem_cons_zero,List.getElem_cons_succ])
         go_simp
        (try simp only[List.getElem_toArray,List.getElem_cons_zero,List.getElem_cons_succ])
        (try simp only[Act.put,List.setIfInBounds_toArray,List.set_cons_zero,List.set_cons_succ])
        refine wpU_take (i:=4) (oi:=_) (v:=.slice (some ⟨gq,oq,none⟩) L cq) (b:=false) rfl (by kernel_rfl) (by kernel_rfl) (by kernel_rfl) (by decide) (fun _ _ _ h=>h) (Or.inl ⟨by rfl,?_⟩) (by kernel_rfl) (by assumption) ?_
        ·intro u' hSu
         (try simp only[List.getElem_toArray,List.getElem_cons_zero,List.getElem_cons_succ])
         obtain⟨_,⟨s0,s1,s2,s3,s4⟩,_⟩:=hSu
         go_simp
        (try simp only[List.getElem_toArray,List.getElem_cons_zero,List.getElem_cons_succ])
        (try simp only[Act.put,List.setIfInBounds_toArray,List.set_cons_zero,List.set_cons_succ])
        refine wpU_take (i:=5) (oi:=_) (v:=.int .i64 (tt:Nat)) (b:=false) rfl (by kernel_rfl) (by kernel_rfl) (by kernel_rfl) (by decide) (fun _ _ _ h=>h) (Or.inl ⟨by rfl,?_⟩) (by kernel_rfl) (by assumption) ?_
        ·intro u' hSu
         (try simp only[List.getElem_toArray,List.getElem_cons_zero,List.getElem_cons_succ])
         go_simp
        (try simp only[List.getElem_toArray,List.getElem_cons_zero,List.getElem_cons_succ])
        (try simp only[Act.put,List.setIfInBounds_toArray,List.set_cons_zero,List.set_cons_succ])
        refine wpU_take (i:=6) (oi:=_) (v:=.pointer (some ⟨gq,oq+tt,none⟩)) (b:=false) rfl (by kernel_rfl) (by kernel_rfl) (by kernel_rfl) (by decide) (fun _ _ _ h=>h) (Or.inl ⟨by rfl,?_⟩) (by kernel_rfl) (by assumption) ?_
        ·intro u' hSu
         (try simp only[List.getElem_toArray,List.getElem_cons_zero,List.getElem_cons_succ])
         go_simp
        (try simp only[List.getElem_toArray,List.getElem_cons_zero,List.getElem_cons_succ])
        (try simp only[Act.put,List.setIfInBounds_toArray,List.set_cons_zero,List.set_cons_succ])
        refine wpU_take (i:=7) (oi:=_) (v:=.int .i64 (vt:Nat)) (b:=false) rfl (by kernel_rfl) (by kernel_rfl) (by kernel_rfl) (by decide) (fun _ _ _ h=>h) (Or.inl ⟨by rfl,?_⟩) (by kernel_rfl) (by assumption) ?_
        ·intro u' hSu
         (try simp only[List.getElem_toArray,List.getElem_cons_zero,List.getElem_cons_succ])
         obtain⟨_,⟨s0,s1,s2,s3,s4⟩,_⟩:=hSu
         go_simp
        (try simp only[List.getElem_toArray,List.getElem_cons_zero,List.getElem_cons_succ])
        (try simp only[Act.put,List.setIfInBounds_toArray,List.set_cons_zero,List.set_cons_succ])
        refine wpU_take (i:=8) (oi:=_) (v:=.slice (some ⟨g,0,none⟩) n c1) (b:=false) rfl (by kernel_rfl) (by kernel_rfl) (by kernel_rfl) (by decide) (fun _ _ _ h=>h) (Or.inl ⟨by rfl,?_⟩) (by kernel_rfl) (by assumption) ?_
        ·intro u' hSu
         (try simp only[List.getElem_toArray,List.getElem_cons_zero,List.getElem_cons_succ])
         go_simp
        (try simp only[List.getElem_toArray,List.getElem_cons_zero,List.getElem_cons_succ])
        (try simp only[Act.put,List.setIfInBounds_toArray,List.set_cons_zero,List.set_cons_succ])
        refine wpU_take (i:=9) (oi:=_) (v:=.slice (some ⟨gx,0,none⟩) N cx) (b:=false) rfl (by kernel_rfl) (by kernel_rfl) (by kernel_rfl) (by decide) (fun _ _ _ h=>h) (Or.inl ⟨by rfl,?_⟩) (by kernel_rfl) (by assumption) ?_
        ·intro u' hSu
         (try simp only[List.getElem_toArray,List.getElem_cons_zero,List.getElem_cons_succ])
         go_simp
        (try simp only[List.getElem_toArray,List.getElem_cons_zero,List.getElem_cons_succ])
        (try simp only[Act.put,List.setIfInBounds_toArray,List.set_cons_zero,List.set_cons_succ])
        refine wpU_take (i:=10) (oi:=_) (v:=.int .i64 (i:Nat)) (b:=false) rfl (by kernel_rfl) (by kernel_rfl) (by kernel_rfl) (by decide) (fun _ _ _ h=>h) (Or.inl ⟨by rfl,?_⟩) (by kernel_rfl) (by assumption) ?_
        ·intro u' hSu
         (try simp only[List.getElem_toArray,List.getElem_cons_zero,List.getElem_cons_succ])
         go_simp
        (try simp only[List.getElem_toArray,List.getElem_cons_zero,List.getElem_cons_succ])
        (try simp only[Act.put,List.setIfInBounds_toArray,List.set_cons_zero,List.set_cons_succ])
        refine wpU_take (i:=11) (oi:=_) (v:=.pointer (some ⟨gx,i,none⟩)) (b:=false) rfl (by kernel_rfl) (by kernel_rfl) (by kernel_rfl) (by decide) (fun _ _ _ h=>h) (Or.inl ⟨by rfl,?_⟩) (by kernel_rfl) (by assumption) ?_
        ·intro u' hSu
         (try simp only[List.getElem_toArray,List.getElem_cons_zero,List.getElem_cons_succ])
         go_simp
        (try simp only[List.getElem_toArray,List.getElem_cons_zero,List.getElem_cons_succ])
        (try simp only[Act.put,List.setIfInBounds_toArray,List.set_cons_zero,List.set_cons_succ])
        refine wpU_take (i:=12) (oi:=_) (v:=.slice (some ⟨gq,oq,none⟩) L cq) (b:=false) rfl (by kernel_rfl) (by kernel_rfl) (by kernel_rfl) (by decide) (fun _ _ _ h=>h) (Or.inl ⟨by rfl,?_⟩) (by kernel_rfl) (by assumption) ?_
        ·intro u' hSu
         (try simp only[List.getElem_toArray,List.getElem_cons_zero,List.getElem_cons_succ])
         obtain⟨_,⟨s0,s1,s2,s3,s4⟩,_⟩:=hSu
         go_simp
        (try simp only[List.getElem_toArray,List.getElem_cons_zero,List.getElem_cons_succ])
        (try simp only[Act.put,List.setIfInBounds_toArray,List.set_cons_zero,List.set_cons_succ])
        refine wpU_take (i:=13) (oi:=_) (v:=.int .i64 (tt:Nat)) (b:=false) rfl (by kernel_rfl) (by kernel_rfl) (by kernel_rfl) (by decide) (fun _ _ _ h=>h) (Or.inl ⟨by rfl,?_⟩) (by kernel_rfl) (by assumption) ?_
        ·intro u' hSu
         (try simp only[List.getElem_toArray,List.getElem_cons_zero,List.getElem_cons_succ])
         go_simp
        (try simp only[List.getElem_toArray,List.getElem_cons_zero,List.getElem_cons_succ])
        (try simp only[Act.put,List.setIfInBounds_toArray,List.set_cons_zero,List.set_cons_succ])
        refine wpU_take (i:=14) (oi:=_) (v:=.pointer (some ⟨gq,oq+tt,none⟩)) (b:=false) rfl (by kernel_rfl) (by kernel_rfl) (by kernel_rfl) (by decide) (fun _ _ _ h=>h) (Or.inl ⟨by rfl,?_⟩) (by kernel_rfl) (by assumption) ?_
        ·intro u' hSu
         (try simp only[List.getElem_toArray,List.getElem_cons_zero,List.getElem_cons_succ])
         go_simp
        (try simp only[List.getElem_toArray,List.getElem_cons_zero,List.getElem_cons_succ])
        (try simp only[Act.put,List.setIfInBounds_toArray,List.set_cons_zero,List.set_cons_succ])
        refine wpU_take (i:=15) (oi:=_) (v:=.int .i64 (vt:Nat)) (b:=false) rfl (by kernel_rfl) (by kernel_rfl) (by kernel_rfl) (by decide) (fun _ _ _ h=>h) (Or.inl ⟨by rfl,?_⟩) (by kernel_rfl) (by assumption) ?_
        ·intro u' hSu
         (try simp only[List.getElem_toArray,List.getElem_cons_zero,List.getElem_cons_succ])
         obtain⟨_,⟨s0,s1,s2,s3,s4⟩,_⟩:=hSu
         go_simp
        (try simp only[List.getElem_toArray,List.getElem_cons_zero,List.getElem_cons_succ])
        (try simp only[Act.put,List.setIfInBounds_toArray,List.set_cons_zero,List.set_cons_succ])
        refine wpU_take (i:=16) (oi:=_) (v:=.pointer (some ⟨g,vt*3,none⟩)) (b:=false) rfl (by kernel_rfl) (by kernel_rfl) (by kernel_rfl) (by decide) (fun _ _ _ h=>h) (Or.inl ⟨by rfl,?_⟩) (by kernel_rfl) (by assumption) ?_
        ·intro u' hSu
         (try simp only[List.getElem_toArray,List.getElem_cons_zero,List.getElem_cons_succ])
         go_simp
        (try simp only[List.getElem_toArray,List.getElem_cons_zero,List.getElem_cons_succ])
        (try simp only[Act.put,List.setIfInBounds_toArray,List.set_cons_zero,List.set_cons_succ])
        refine wpU_ahead (i:=17) (oi:=_) (v:=.agg #[.bool (qF rq).1,.string (qF rq).2.1,.string (qF rq).2.2]) rfl (by kernel_rfl) (by kernel_rfl) (by kernel_rfl) (by decide) rfl (by kernel_rfl) (fun _ _ _ h=>h) (Or.inl ⟨by rfl,?_⟩) (by kernel_rfl) (by assumption) ?_
        ·intro u' hSu
         (try simp only[List.getElem_toArray,List.getElem_cons_zero,List.getElem_cons_succ])
         obtain⟨_,s5⟩:=hSu
         obtain⟨s6,s7,s8⟩:=s5 rfl
         go_simp
        (try simp only[List.getElem_toArray,List.getElem_cons_zero,List.getElem_cons_succ])
        (try simp only[Act.put,List.setIfInBounds_toArray,List.set_cons_zero,List.set_cons_succ])
        refine wpU_take (i:=18) (oi:=_) (v:=.agg #[.bool (qF lk).1,.string (qF lk).2.1,.string (qF lk).2.2]) (b:=false) rfl (by kernel_rfl) (by kernel_rfl) (by kernel_rfl) (by decide) (fun _ _ _ h=>h) (Or.inl ⟨by rfl,?_⟩) (by kernel_rfl) (by assumption) ?_
        ·intro u' hSu
         (try simp only[List.getElem_toArray,List.getElem_cons_zero,List.getElem_cons_succ])
         obtain⟨_,⟨s0,s1,s2,s3,s4⟩,_⟩:=hSu
         go_simp
        (try simp only[List.getElem_toArray,List.getElem_cons_zero,List.getElem_cons_succ])
        (try simp only[Act.put,List.setIfInBounds_toArray,List.set_cons_zero,List.set_cons_succ])
        refine wpU_ready (rs:=[19]) (by kernel_rfl) (by simp) (AllU.cons (b:=false) rfl (by kernel_rfl) ?_ (AllU.nil))
        ·intro K' hK'
         (try simp only[List.getElem_toArray,List.getElem_cons_zero,List.getElem_cons_succ])
         go_simp
         refine(HAD.out _).mono ?_
         rintro e u3 ⟨rfl,hb⟩
         replace HSN:=hid (HSN.out.step hb)
         replace HQN:=hid (HQN.out.below hb)
         replace HFN:=hid (HFN.out.below hb HFN.out.lt)
         refine hK'.out _ _ ⟨HELD2.out _ HSN.out HFN.out,fun _=>HRC.out _ HQN.out⟩ (fun hSe=>?_)
         clear hK' K' hSd
         have hSd:=hSe
         clear hSe
         clear hb
         (try simp only[List.getElem_toArray,List.getElem_cons_zero,List.getElem_cons_succ])
         (try simp only[Act.put,List.setIfInBounds_toArray,List.set_cons_zero,List.set_cons_succ])
         refine wpU_take (i:=20) (oi:=_) (v:=.pointer (some ⟨g,vt*3,none⟩)) (b:=false) rfl (by kernel_rfl) (by kernel_rfl) (by kernel_rfl) (by decide) (fun _ _ _ h=>h) (Or.inl ⟨by rfl,?_⟩) (by kernel_rfl) (by assumption) ?_
         ·intro u' hSu
          (try simp only[List.getElem_toArray,List.getElem_cons_zero,List.getElem_cons_succ])
          go_simp
         (try simp only[List.getElem_toArray,List.getElem_cons_zero,List.getElem_cons_succ])
         (try simp only[Act.put,List.setIfInBounds_toArray,List.set_cons_zero,List.set_cons_succ])
         obtain⟨q0,q1,q2⟩:=HRC.out _ HQN.out
         have q3:=HQN.out.fz (vt*3)
         have q4:=HQN.out.fz (vt*3+1)
         have q5:=HQN.out.fz (vt*3+2)
         refine wpU_ready (rs:=[21]) (by kernel_rfl) (by simp) (AllU.cons (b:=true) rfl (by kernel_rfl) ?_ (AllU.nil))
         ·intro K' hK'
          (try simp only[List.getElem_toArray,List.getElem_cons_zero,List.getElem_cons_succ])
          go_simp
          obtain⟨hQ1,hQg⟩:=HQN.out.put vt (rq+lk)
          have HQM:=hid (hQ1.congr fun j _=>HWR.out j)
          have HSM:=hid (HSN.out.grown hQg)
          have HFM:Hid (Box (((u3.setCell ⟨g,vt*3,none⟩ (.bool (qF (rq+lk)).1)).setCell ⟨g,vt*3+1,none⟩ (.string (qF (rq+lk)).2.1)).setCell ⟨g,vt*3+2,none⟩ (.string (qF (rq+lk)).2.2)) gf (qF lk).1 (qF lk).2.1 (qF lk).2.2):=((HFN.out.far (Ne.symm (Nat.ne_of_lt (Nat.lt_of_lt_of_le HGL.out HGF.out))) _).far (Ne.symm (Nat.ne_of_lt (Nat.lt_of_lt_of_le HGL.out HGF.out))) _).far (Ne.symm (Nat.ne_of_lt (Nat.lt_of_lt_of_le HGL.out HGF.out))) _
          refine hK'.out _ _ ⟨HELD2.out _ HSM.out HFM.out,fun e=>by cases e⟩ (fun _=>wpU_done (by kernel_rfl) ?_ _)
          clear hK' K' hSd q0 q1 q2 q3 q4 q5 HQN HSN HFN hQ1 hQg HFM
          go_wp2
          go_roundw
          case rel=>exact⟨i+1,by omega,by go_num,HQM,HSM⟩
          case measure=>simp[intOf];omega
    ·obtain rfl:N=i:=by omega
     have HRF:Hid (EqR wr W.heap.size g n c1 fun j=>h.alp tt j*h.behind tt j):=HQ.out.congr fun j hj=>HFT.out j hj
     have HBR:=hid (HS.out.below HB0.out hgW)
     clear HQ HS
     have HFRS:=hid HRF.out.fr
     have HSHR:=hid (rShare_own (some ⟨g,0,none⟩) c1 (lF n fun j=>h.alp tt j*h.behind tt j) wr HFRS.out (fun k hk=>by
      rw[lF_get]
      show (nu _).size+(de _).size≤_
      rw[own_size]
      have h8:=HQW.out _ _ (HAH.out tt k httL (by rw[lF_length] at hk;exact hk)) (by omega)
      omega) (fun k hk=>by
      rw[lF_length] at hk
      rw[(Lst.mk' (f:=fun j=>h.alp tt j*h.behind tt j) (n:=n) fun j hj=>HQW.out _ _ (HAH.out tt j httL hj) (by omega)).fsumk hk]
      exact HPS.out tt k httL hk) (by rw[lF_length];omega) (by rw[lF_length];exact hn1))
     rw[lF_length,norm_lF,fsum_lF,HMEET.out tt httL] at HSHR
     go_wp2_with fail
     refine HSHR.out.mono ?_
     rintro e w6 ⟨hcase,hb6⟩
     rcases hcase with ⟨h0, -⟩ |⟨-,v6,rfl,hrv⟩
     ·exact absurd h0 HZ.out
     have HO3:=hid ((HO.out.below HBR.out).below hb6)
     have HBR6:=hid (HBR.out.trans (hb6.mono HBR.out.size))
     have HB3:=hid (HBL.out.trans (HBR6.out.mono HBL.out.size))
     have hszw:=HBL.out.size
     have hszr:=HBR.out.size
     obtain⟨d6,c6,rfl, -⟩:=owns_slice hrv
     rw[lF_length] at hrv⊢
     have hAL:=(Below.refl w6.heap.size w6).alloc (Nat.le_refl _) (.cells #[.slice d6 n c6] 22)
     have hone:(w6.alloc (.cells #[.slice d6 n c6] 22)).heap[w6.heap.size]? =some (.cells #[.slice d6 n c6] 22 (0,0)):=heap_alloc_new w6 _
     have HC1:Hid ((w6.alloc (.cells #[.slice d6 n c6] 22)).cell? ⟨w6.heap.size,0,none⟩=some (.slice d6 n c6)):=by
      show _=_
      rw[cell_of_row _ _ _ _ _ (0,0) hone]
      rfl
     have HB4:=hid (HB3.out.alloc HB3.out.size (.cells #[.slice d6 n c6] 22))
     have HA4:Hid (RwF (w6.alloc (.cells #[.slice d6 n c6] 22)) Wl.heap.size (.slice d6 n c6) (lF n fun j=>h.alp tt j*h.behind tt j*(1/sv))):=(RwF.lower hrv (Nat.le_trans hszw hszr)).below hAL
     have HK4:=hid (HO3.out.below hAL)
     have HL1:Hid (Ps.length+1≤100000):=by
      have h9:=congrArg List.length HPO.out
      rw[List.length_map,List.length_map,List.length_range] at h9
      show _≤_
      omega
     have HPN:Hid ((Ps++[((Value.slice d6 n c6,lF n fun j=>h.alp tt j*h.behind tt j*(1/sv)):PR)]).map (·.2)=(List.range (tt+1)).map fun k=>lF n fun j=>h.alp k j*h.behind k j*(1/sv)):=by
      show _=_
      rw[List.map_append,HPO.out,List.range_succ,List.map_append]
      rfl
     clear hone hAL hrv HO3 HB3 hszw HRF HBR HFRS HSHR hb6 HBR6 hszr
     go_wp2_with (at_builtin;refine wpList_append_rs rfl _ _ rfl Wl.heap.size _ Ps (.slice d6 n c6) ⟨_,_,_,rfl⟩ rfl HK4.out.1 w6.heap.size rfl HC1.out HL1.out HB4.out.size ?_;intro v5 w5 hr5 hg5;have HK5:=hid (HK4.out.push hr5 hg5 HA4.out);have HB5:=hid (HB4.out.grown hg5 HB4.out.size (fun k e=>owns_from HK4.out.1 k e)))
     go_roundw
     case rel=>exact⟨tt+1,_,by omega,by go_num,HK5,HPN,HB5⟩
     case measure=>simp[intOf];omega
  ·obtain rfl:tt=L:=by omega
   obtain⟨dy,cy,rfl,hfs⟩:=OwR.rows HO.out
   have hro:rOf Ps=(List.range tt).map fun k=>lF n fun j=>h.alp k j*h.behind k j*(1/sv):=HPO.out
   rw[hro] at hfs
   rw[hro,List.length_map,List.length_range]
   have HFS:=hid hfs
   have HAE:=hid (HAl.out.trans (HBL.out.mono HAl.out.size))
   clear hfs hro HO
   go_wp2
   go_ret2
   exact⟨.inr ⟨HZ.out,dy,cy,rfl,HFS.out⟩,HAE.out⟩
end Go.Proofs.YtgamblainfkiaaaGreatDoor
