/- The answer's Path. -/
import Derived.Test.YtgamblainfkiaaaGreatDoorHexEHxHexG
import Derived.Test.YtgamblainfkiaaaGreatDoorHidHHx
import Derived.Test.YtgamblainfkiaaaGreatDoorHidEHx
import Derived.Test.YtgamblainfkiaaaGreatDoorHidDHxUnrA
import Derived.Test.YtgamblainfkiaaaGreatDoorHidCHxMadA
namespace Go.Proofs.YtgamblainfkiaaaGreatDoor
open Go.RowKit Go.Shelf
theorem pa_gt {p q:Rat} (h:q<p):cmpQ p q=1:=by rw[cmpQ,if_neg (Rat.not_lt.2 (Rat.le_of_lt h)),if_neg (fun e=>Rat.lt_irrefl (e▸h))]
theorem pa_le {p q:Rat} (h:¬q<p):cmpQ p q= -1∨cmpQ p q=0:=by
 rw[cmpQ]
 by_cases e:p<q
 ·exact .inl (if_pos e)
 ·refine .inr ?_
  rw[if_neg e,if_pos (Rat.le_antisymm (Rat.not_lt.1 h) (Rat.not_lt.1 e))]
structure PaB (F:Nat→Rat) (C:Nat→Option Value) (i:Nat) (q:Rat) (v:Value):Prop where
 at0:i=0→q= -1
 at1:0<i→q=F (bstR F (i - 1))∧C (bstR F (i - 1))=some v
theorem PaB.up {F:Nat→Rat} {C:Nat→Option Value} {i:Nat} {q:Rat} {v v':Value} (h:PaB F C i q v) (hq:q<F i) (hc:C i=some v'):PaB F C (i+1) (F i) v':=by
 refine⟨fun e=>by omega,fun _=>?_⟩
 have e:bstR F (i+1 - 1)=i:=by
  rw[Nat.add_sub_cancel]
  cases i with
  |zero=>rfl
  |succ k=>
   obtain⟨e1,_⟩:=h.at1 (Nat.succ_pos _)
   rw[Nat.add_sub_cancel] at e1
   rw[bstR,if_pos (e1▸hq)]
 rw[e]
 exact⟨rfl,hc⟩
theorem PaB.keep {F:Nat→Rat} {C:Nat→Option Value} {i:Nat} {q:Rat} {v:Value} (h:PaB F C i q v) (hq:¬q<F i) (h0:0≤F i):PaB F C (i+1) q v:=by
 refine⟨fun e=>by omega,fun _=>?_⟩
 rw[Nat.add_sub_cancel]
 cases i with
 |zero=>
  have h1:=h.at0 rfl
  have h2:(-1:Rat)<0:=by decide
  grind
 |succ k=>
  obtain⟨e1,e2⟩:=h.at1 (Nat.succ_pos _)
  rw[Nat.add_sub_cancel] at e1 e2
  rw[bstR,if_neg (fun e=>hq (by rw[e1];exact e))]
  exact⟨e1,e2⟩
theorem HC.Ok.path_end {h:HC} (o:h.Ok) (hp:h.seen≠0):h.lik (wyF h.s h.L (bstR (fun i=>h.lik (wyF h.s h.L i) h.L) (h.s^h.L - 1))) h.L=h.lik h.way h.L∧wyL h.s h.L (bstR (fun i=>h.lik (wyF h.s h.L i) h.L) (h.s^h.L - 1))=(List.range h.L).map h.way:=by
 have key:∀k,k<h.L→wyF h.s h.L (bstR (fun i=>h.lik (wyF h.s h.L i) h.L) (h.s^h.L - 1)) k=h.way k:=fun k hk=>by
  rw[HC.seen,if_neg (by omega)] at hp
  rw[o.path (by omega) hp]
  exact ixW_is o.way_lt h.L k hk
 refine⟨h.lik_like key,?_⟩
 generalize bstR (fun i=>h.lik (wyF h.s h.L i) h.L) (h.s^h.L - 1)=x at *
 refine List.ext_getElem (by simp[wyL_length]) fun k h1 h2=>?_
 rw[wyL_length] at h1
 have h3:=key k h1
 rw[wyF,List.getD_eq_getElem?_getD,List.getElem?_eq_getElem (by rw[wyL_length];exact h1)] at h3
 simp at h3⊢
 exact h3
set_option maxRecDepth 100000 in
set_option maxHeartbeats 4000000 in
theorem rPath_ok {D:Nat} (a b c d:Option Addr) (ca cb cc cd n L m:Nat) (l:List Fr) (R1 R2:List (List Fr)) (Q:List Nat) (h:HC) (w:World) (hI:HidI w a b c n m l R1 R2) (hV:HidV D h m l R1 R2 Q) (hsn:h.s=n) (hL:h.L=L) (hS:HidS l R1 R2) (hQ:IntS w d (iL Q)) (hse:SeeE l R1 R2 (iL Q) 0) (hNN:n^L≤300):
  Calls Tryz.prog 19 #[.agg #[.slice a n ca,.slice b n cb,.slice c n cc],.slice d L cd] w fun e w'=>((h.seen=0∧e=.returned (.tuple #[.slice none 0 0,.agg #[.bool false,.string ⟨#[]⟩,.string ⟨#[]⟩],.int .i64 3]))∨(h.seen≠0∧∃x k,e=.returned (.tuple #[.slice x L k,frV (qF (h.lik h.way L)),.int .i64 0])∧IntS w' x (iL ((List.range L).map h.way))))∧Below w.heap.size w w':=by
 have HLIK:=hid (fun (U:World) (hU:Below w.heap.size w U)=>rLikely_ok a b c d ca cb cc cd n L m l R1 R2 Q h U ⟨hI.st.below hU,hI.mv.below hU,hI.sh.below hU⟩ hV hsn hL hS (hQ.below hU) hse hNN)
 have hok:=hV.okn hsn
 have hn1:=hok.n1
 have hn4:=hok.n4
 have hL8:L≤8:=by rw[←hL];exact hV.sm.L8
 have HWS:=hid (fun U:World=>ways_any n L U hn1 hn4 hL8 hNN)
 have HWO:=hid (fun (i:Nat) (dq:Option Addr) (cq:Nat) (U:World) (hU:Below w.heap.size w U) (hW:IntS U dq (iL (wyL n L i)))=>rWay_of a b c d dq ca cb cc cd cq n L L i m l R1 R2 Q h U ⟨hI.st.below hU,hI.mv.below hU,hI.sh.below hU⟩ hV hsn hL (hQ.below hU) (Nat.le_refl _) hW)
 obtain⟨FW,hFW⟩:∃f:Nat→Rat,f=fun i=>h.lik (wyF n L i) L:=⟨_,rfl⟩
 have HFE:Hid (∀i,FW i=h.lik (wyF n L i) L):=fun i=>by rw[hFW]
 have HSF:Hid (∀i,Sm D (2*L) (FW i)):=fun i=>by
  rw[hFW]
  exact hV.sm.lik (fun t=>by rw[hsn];exact wyF_lt hn1 L i t) L (by omega)
 have HLOW:Hid (∀i,0≤FW i):=fun i=>(HSF.out i).low
 have HSQ:Hid (∀i,qw (FW i)≤30010):=fun i=>hV.sm.qw (HSF.out i) (by omega)
 have HFIN:Hid (h.seen≠0→FW (bstR FW (n^L - 1))=h.lik h.way L∧wyL n L (bstR FW (n^L - 1))=(List.range L).map h.way):=fun hp=>by
  have h9:=(hV.sm.ok hV.ok.n1).path_end hp
  rw[hsn,hL,←hFW] at h9
  rw[HFE.out]
  exact h9
 have HOM:Hid (∀U:World,Calls Tryz.prog 33 #[.int .i64 (-1)] U fun e w'=>e=.returned (.agg #[.bool (sgn (-1)),.string (nu (-1)),.string (de (-1))])∧Below U.heap.size U w'):=fun U=>by
  have h9:=rOfF_any (-1) U (by decide) (by decide)
  rw[show mkRat (-1) 1=(-1:Rat) by rfl] at h9
  exact h9
 have HSVQ:Hid (qw h.seen≤30010):=by
  show _≤_
  rw[HC.seen]
  by_cases h0:h.L=0
  ·rw[if_pos h0];exact hV.sm.qw (D:=D) Sm.one (by omega)
  ·rw[if_neg h0];exact hV.sm.qw (hV.sm.all (by omega)) (by omega)
 have HZE:Hid (∀U:World,Calls Tryz.prog 49 #[.agg #[.bool (qF h.seen).1,.string (qF h.seen).2.1,.string (qF h.seen).2.2]] U fun e w'=>e=.returned (.bool (decide (h.seen=0)))∧Below U.heap.size U w'):=fun U=>by
  have h9:=rZero_any (sgn h.seen) (nu h.seen) (de h.seen) U (by rw[own_size];have:=HSVQ.out;omega)
  rw[val_own] at h9
  exact h9
 have hA0:=(Below.refl w.heap.size w).alloc (Nat.le_refl _) (HC3 (.slice a n ca) (.slice b n cb) (.slice c n cc))
 have hHB0:=HBox.new w (.slice a n ca) (.slice b n cb) (.slice c n cc)
 have hA:=hA0.alloc hA0.size (FC false ⟨#[]⟩ ⟨#[]⟩)
 have hst:=(Below.refl (w.alloc (HC3 (.slice a n ca) (.slice b n cb) (.slice c n cc))).heap.size (w.alloc (HC3 (.slice a n ca) (.slice b n cb) (.slice c n cc)))).alloc (Nat.le_refl _) (FC false ⟨#[]⟩ ⟨#[]⟩)
 have hHB:=hHB0.below hst hHB0.lt
 have hX:Box ((w.alloc (HC3 (.slice a n ca) (.slice b n cb) (.slice c n cc))).alloc (FC false ⟨#[]⟩ ⟨#[]⟩)) (w.heap.size+1) false ⟨#[]⟩ ⟨#[]⟩:=by
  have h9:=Box.new (w.alloc (HC3 (.slice a n ca) (.slice b n cb) (.slice c n cc))) false ⟨#[]⟩ ⟨#[]⟩
  rwa [World.size_alloc] at h9
 clear hI hV hsn hL hS hQ hse hok hFW hA0 hHB0 hst HSF
 obtain⟨e0,e1,e2⟩:=hHB.cells
 obtain⟨sv,hsv⟩:∃q,h.seen=q:=⟨_,rfl⟩
 rw[hsv] at HZE HLIK HFIN⊢
 clear hsv HSVQ
 go_enter Tryz.func19,Tryz.ntmps19
 go_wp2_with fail
 generalize ((w.alloc (HC3 (.slice a n ca) (.slice b n cb) (.slice c n cc))).alloc (FC false ⟨#[]⟩ ⟨#[]⟩))=W at *
 refine(HLIK.out _ hA).mono ?_
 rintro e w1 ⟨rfl,hb⟩
 have HA1:=hid (hA.trans (hb.mono hA.size))
 have HH1:=hid (hHB.below hb hHB.lt)
 have HX1:=hid (hX.below hb hX.lt)
 clear hA hHB hX hb e0 e1 e2
 have hbn:=(Below.refl w1.heap.size w1).alloc (Nat.le_refl _) (FC (qF sv).1 (qF sv).2.1 (qF sv).2.2)
 obtain⟨k0,k1,k2, -⟩:=(Box.new w1 (qF sv).1 (qF sv).2.1 (qF sv).2.2).facts
 have HA2:=hid (HA1.out.trans (hbn.mono HA1.out.size))
 have HH2:=hid (HH1.out.below hbn HH1.out.lt)
 have HX2:=hid (HX1.out.below hbn HX1.out.lt)
 clear HA1 HH1 HX1 hbn
 go_wp2_with fail
 generalize (w1.alloc (FC (qF sv).1 (qF sv).2.1 (qF sv).2.2))=w2 at *
 refine(HZE.out _).mono ?_
 rintro e w3 ⟨rfl,hb⟩
 have HA3:=hid (HA2.out.trans (hb.mono HA2.out.size))
 have HH3:=hid (HH2.out.below hb HH2.out.lt)
 have HX3:=hid (HX2.out.below hb HX2.out.lt)
 clear k0 k1 k2 hb HA2 HH2 HX2 HZE
 by_cases hz:sv=0
 ·rw[decide_eq_true hz]
  have HZ:=hid hz
  clear hz
  obtain⟨k0,k1,k2,f0,f1,f2⟩:=HX3.out.facts
  go_wp2
  refine bodyPost_ret (results_tmp_cell_tmp (HX3.out.put false ⟨#[]⟩ ⟨#[]⟩) rfl _ rfl) rfl ?_
  exact⟨.inl ⟨HZ.out,rfl⟩,below_put HA3.out (by omega) _ _ _⟩
 rw[decide_eq_false hz]
 have HZ:=hid hz
 clear hz
 go_wp2_with fail
 refine(HOM.out _).mono ?_
 rintro e w4 ⟨rfl,hb⟩
 have HA4:=hid (HA3.out.trans (hb.mono HA3.out.size))
 have HH4:=hid (HH3.out.below hb HH3.out.lt)
 have HX4:=hid (HX3.out.below hb HX3.out.lt)
 clear HA3 HH3 HX3 hb
 have hbn:=(Below.refl w4.heap.size w4).alloc (Nat.le_refl _) (FC (sgn (-1)) (nu (-1)) (de (-1)))
 have HS5:=hid (Box.new w4 (sgn (-1)) (nu (-1)) (de (-1)))
 have HA5:=hid (HA4.out.trans (hbn.mono HA4.out.size))
 have HH5:=hid (HH4.out.below hbn HH4.out.lt)
 have HX5:=hid (HX4.out.below hbn HX4.out.lt)
 have HXS:Hid (w.heap.size+1<w4.heap.size):=HX4.out.lt
 obtain⟨e0,e1,e2⟩:=HH5.out.cells
 clear hbn HA4 HH4 HX4
 go_wp2_with fail
 generalize (w4.alloc (FC (sgn (-1)) (nu (-1)) (de (-1))))=w5 at *
 obtain⟨gS,hgS⟩:∃x,w4.heap.size=x:=⟨_,rfl⟩
 rw[hgS] at HS5 HXS
 simp only[hgS]
 clear hgS
 refine(HWS.out _).mono ?_
 rintro e W0 ⟨x,P,rfl,hO,hPV,hb⟩
 have HOW:=hid hO
 have HB3:Hid (gS<w5.heap.size):=HS5.out.lt
 have HPV:=hid hPV
 have HW0:=hid (HA5.out.trans (hb.mono HA5.out.size))
 have HHB:=hid (HH5.out.below hb HH5.out.lt)
 have HRB:=hid (HX5.out.below hb HX5.out.lt)
 have HQ0:=hid (HS5.out.below hb HS5.out.lt)
 clear hO hPV hb HA5 HH5 HX5 HS5 e0 e1 e2
 have HPL:Hid (P.length=n^L):=by
  have h9:=congrArg List.length HPV.out
  rw[wyI_length,List.length_map] at h9
  exact h9
 obtain⟨N,hN⟩:∃N,n^L=N:=⟨_,rfl⟩
 have HNE:=hid hN
 rw[hN] at HPL HPV HFIN hNN
 have hN1:0<N:=by rw[←hN];exact Nat.pow_pos hn1
 clear hN
 obtain⟨gx,cx,d0,cd0,hxe,hgx0,hgxB, -, -⟩:=HOW.out.atB (show 0<P.length by rw[HPL.out];exact hN1)
 rw[HPL.out] at hxe
 subst hxe
 have HGL:Hid (gS<W0.heap.size):=HQ0.out.lt
 have HM0:Hid (qw (-1:Rat)≤30010):=by show _≤_;rw[qw_neg];exact Nat.le_trans qw_one2 (by omega)
 go_wp2_with fail
 go_loopw [10,13] (fun bv iv wr=>∃(i:Nat) (mq:Rat),i≤N∧iv=.int .i64 i∧Hid (qw mq≤30010)∧Hid (PaB FW (fun k=>W0.cell? ⟨gx,k,none⟩) i mq bv)∧Hid (Box wr gS (sgn mq) (nu mq) (de mq))∧Hid (BtS W0 gS wr)) (fun _ iv _=>N - (intOf iv).toNat)
 case atStart=>exact⟨0, -1,Nat.zero_le _,rfl,HM0,⟨fun _=>rfl,fun e=>absurd e (Nat.lt_irrefl _)⟩,HQ0,BtS.refl _ _⟩
 case round=>
  obtain⟨i,mq,hi,rfl,HMQ,HPB,HQ,HS⟩:=hrel
  clear HQ0 HM0
  by_cases hlt:i<N
  ·have hiP:i<P.length:=by rw[HPL.out];exact hlt
   obtain⟨gx',cx',dq,cq,hxe,hgx,hgxB',c0,hints⟩:=HOW.out.atB hiP
   rw[HPL.out] at hxe
   cases hxe
   have HPI:Hid (P[i].2=iL (wyL n L i)):=by
    have h9:(P.map (·.2))[i]? =(wyI n L N)[i]?:=by rw[HPV.out]
    rw[List.getElem?_map,List.getElem?_eq_getElem hiP] at h9
    simp[wyI,hlt] at h9
    exact h9
   have HLT:Hid (P[i].2.length=L):=by show _=_;rw[HPI.out,iL_length,wyL_length]
   rw[HLT.out] at c0
   have HCI:Hid ((fun k=>W0.cell? ⟨gx,k,none⟩) i=some (.slice dq L cq)):=c0
   have HINT:Hid (∀u,BtS W0 gS u→IntS u dq (iL (wyL n L i))):=fun u hu=>by
    rw[←HPI.out]
    intro k hk
    obtain⟨g,o,f1,f2,f3,f4⟩:=hints k hk
    exact⟨g,o,f1,Nat.lt_of_lt_of_le f2 hu.size,(hu.cell (p:=⟨g,_,none⟩) f2 (by show g≠gS;have:=HB3.out;omega)).trans f4⟩
   have HELD:Hid (∀u,BtS W0 gS u→(u.cell? ⟨w.heap.size,0,none⟩=some (.slice a n ca)∧u.cell? ⟨w.heap.size,1,none⟩=some (.slice b n cb)∧u.cell? ⟨w.heap.size,2,none⟩=some (.slice c n cc))∧u.cell? ⟨gx,i,none⟩=some (.slice dq L cq)):=fun u hu=>⟨(hu.hbox HHB.out (Nat.ne_of_lt (Nat.lt_trans (Nat.lt_succ_self _) HXS.out))).cells,(hu.cell (p:=⟨gx,_,none⟩) hgx (by show gx≠gS;have:=HB3.out;omega)).trans c0⟩
   have HWY:Hid (∀u,BtS W0 gS u→Calls Tryz.prog 35 #[.agg #[.slice a n ca,.slice b n cb,.slice c n cc],.slice dq L cq,.slice d L cd] u fun e w'=>e=.returned (.agg #[.bool (qF (FW i)).1,.string (qF (FW i)).2.1,.string (qF (FW i)).2.2])∧Below u.heap.size u w'):=fun u hu=>by
    have h9:=HWO.out i dq cq u (hu.below HW0.out (by have:=HXS.out;omega)) (HINT.out u hu)
    rw[←HFE.out] at h9
    exact h9
   have HCP:Hid (∀U:World,Calls Tryz.prog 56 #[.agg #[.bool (qF (FW i)).1,.string (qF (FW i)).2.1,.string (qF (FW i)).2.2],.agg #[.bool (sgn mq),.string (nu mq),.string (de mq)]] U fun e w'=>e=.returned (.int .i64 (cmpQ (FW i) mq))∧Below U.heap.size U w'):=fun U=>by
    have h8:=rCmpF_any (sgn (FW i)) (sgn mq) (nu (FW i)) (de (FW i)) (nu mq) (de mq) U (by rw[own_size];have:=HSQ.out i;omega) (by rw[own_size];have:=HMQ.out;omega)
    rw[val_own,val_own] at h8
    exact h8
   clear c0 hints HINT HPI HLT
   go_upto_region 13 with fail
   replace HS:=hid (HS.out.step (Below.refl _ _).drew)
   replace HQ:=hid HQ.out.drew
   refine wp_region_held_drew (S:=fun u=>(u.cell? ⟨w.heap.size,0,none⟩=some (.slice a n ca)∧u.cell? ⟨w.heap.size,1,none⟩=some (.slice b n cb)∧u.cell? ⟨w.heap.size,2,none⟩=some (.slice c n cc))∧u.cell? ⟨gx,i,none⟩=some (.slice dq L cq)) (by kernel_rfl) (HELD.out _ HS.out) (fun hSd=>?_)
   generalize wr.drew=u0 at *
   refine wpAnyH_take (i:=0) (oi:=_) (v:=.agg #[.slice a n ca,.slice b n cb,.slice c n cc]) rfl (by kernel_rfl) (by kernel_rfl) (by kernel_rfl) (fun _ _ _ h=>h) (Or.inl ⟨by rfl,?_⟩) (by assumption) ?_
   ·intro u' hSu
    (try simp only[List.getElem_toArray,List.getElem_cons_zero])
    obtain⟨⟨s0,s1,s2⟩,s3⟩:=hSu
    go_simp
   (try simp only[List.getElem_toArray,List.getElem_cons_zero])
   (try simp only[Act.put,List.setIfInBounds_toArray,List.set_cons_zero,List.set_cons_succ])
   refine wpAnyH_take (i:=1) (oi:=_) (v:=.slice (some ⟨gx,0,none⟩) N cx) rfl (by kernel_rfl) (by kernel_rfl) (by kernel_rfl) (fun _ _ _ h=>h) (Or.inl ⟨by rfl,?_⟩) (by assumption) ?_
   ·intro u' hSu
    (try simp only[List.getElem_toArray,List.getElem_cons_zero,List.getElem_cons_succ])
    go_simp
   (try simp only[List.getElem_toArray,List.getElem_cons_zero,List.getElem_cons_succ])
   (try simp only[Act.put,List.setIfInBounds_toArray,List.set_cons_zero,List.set_cons_succ])
   refine wpAnyH_take (i:=2) (oi:=_) (v:=.int .i64 (i:Nat)) rfl (by kernel_rfl) (by kernel_rfl) (by kernel_rfl) (fun _ _ _ h=>h) (Or.inl ⟨by rfl,?_⟩) (by assumption) ?_
   ·intro u' hSu
    (try simp only[List.getElem_toArray,List.getElem_cons_zero,List.getElem_cons_succ])
    go_simp
   (try simp only[List.getElem_toArray,List.getElem_cons_zero,List.getElem_cons_succ])
   (try simp only[Act.put,List.setIfInBounds_toArray,List.set_cons_zero,List.set_cons_succ])
   refine wpAnyH_take (i:=3) (oi:=_) (v:=.pointer (some ⟨gx,i,none⟩)) rfl (by kernel_rfl) (by kernel_rfl) (by kernel_rfl) (fun _ _ _ h=>h) (Or.inl ⟨by rfl,?_⟩) (by assumption) ?_
   ·intro u' hSu
    (try simp only[List.getElem_toArray,List.getElem_cons_zero,List.getElem_cons_succ])
    go_simp
   (try simp only[List.getElem_toArray,List.getElem_cons_zero,List.getElem_cons_succ])
   (try simp only[Act.put,List.setIfInBounds_toArray,List.set_cons_zero,List.set_cons_succ])
   refine wpAnyH_take (i:=4) (oi:=_) (v:=.slice dq L cq) rfl (by kernel_rfl) (by kernel_rfl) (by kernel_rfl) (fun _ _ _ h=>h) (Or.inl ⟨by rfl,?_⟩) (by assumption) ?_
   ·intro u' hSu
    (try simp only[List.getElem_toArray,List.getElem_cons_zero,List.getElem_cons_succ])
    obtain⟨⟨s0,s1,s2⟩,s3⟩:=hSu
    go_simp
   (try simp only[List.getElem_toArray,List.getElem_cons_zero,List.getElem_cons_succ])
   (try simp only[Act.put,List.setIfInBounds_toArray,List.set_cons_zero,List.set_cons_succ])
   refine wpAnyH_take (i:=5) (oi:=_) (v:=.slice d L cd) rfl (by kernel_rfl) (by kernel_rfl) (by kernel_rfl) (fun _ _ _ h=>h) (Or.inl ⟨by rfl,?_⟩) (by assumption) ?_
   ·intro u' hSu
    (try simp only[List.getElem_toArray,List.getElem_cons_zero,List.getElem_cons_succ])
    go_simp
   (try simp only[List.getElem_toArray,List.getElem_cons_zero,List.getElem_cons_succ])
   (try simp only[Act.put,List.setIfInBounds_toArray,List.set_cons_zero,List.set_cons_succ])
   refine wpAnyH_ready (rs:=[6,7]) (by kernel_rfl) (by simp) (AllReadyH.cons rfl ?_ (AllReadyH.cons rfl ?_ (AllReadyH.nil)))
   ·intro K' hK'
    (try simp only[List.getElem_toArray,List.getElem_cons_zero,List.getElem_cons_succ])
    go_simp
    refine(HWY.out _ HS.out).mono ?_
    rintro e u1 ⟨rfl,hb⟩
    replace HS:=hid (HS.out.step hb)
    replace HQ:=hid (HQ.out.below hb HQ.out.lt)
    refine hK'.out _ _ (HELD.out _ HS.out) (fun hSe=>?_)
    clear hK' K' hSd
    have hSd:=hSe
    clear hSe hb
    (try simp only[List.getElem_toArray,List.getElem_cons_zero,List.getElem_cons_succ])
    (try simp only[Act.put,List.setIfInBounds_toArray,List.set_cons_zero,List.set_cons_succ])
    refine wpAnyH_ready (rs:=[7]) (by kernel_rfl) (by simp) (AllReadyH.cons rfl ?_ (AllReadyH.nil))
    ·intro K' hK'
     (try simp only[List.getElem_toArray,List.getElem_cons_zero,List.getElem_cons_succ])
     go_simp
     have hbn:=(Below.refl u1.heap.size u1).alloc (Nat.le_refl _) (FC false ⟨#[]⟩ ⟨#[]⟩)
     have HFX:=hid (Box.new u1 false ⟨#[]⟩ ⟨#[]⟩)
     have HGF:Hid (W0.heap.size≤u1.heap.size):=HS.out.size
     replace HS:=hid (HS.out.step hbn)
     replace HQ:=hid (HQ.out.below hbn HQ.out.lt)
     refine hK'.out _ _ (HELD.out _ HS.out) (fun hSe=>?_)
     clear hK' K' hSd hbn
     have hSd:=hSe
     clear hSe
     obtain⟨gf,hgfe⟩:∃x,u1.heap.size=x:=⟨_,rfl⟩
     obtain⟨u2,hV⟩:∃x,u1.alloc (FC false ⟨#[]⟩ ⟨#[]⟩)=x:=⟨_,rfl⟩
     rw[hV] at HFX HS HQ hSd
     rw[hgfe] at HFX HGF
     simp only[hV]
     simp only[hgfe]
     clear hgfe hV
     (try simp only[List.getElem_toArray,List.getElem_cons_zero,List.getElem_cons_succ])
     (try simp only[Act.put,List.setIfInBounds_toArray,List.set_cons_zero,List.set_cons_succ])
     obtain⟨k0,k1,k2,f0,f1,f2⟩:=HFX.out.facts
     refine wpAnyH_ready (rs:=[8]) (by kernel_rfl) (by simp) (AllReadyH.cons rfl ?_ (AllReadyH.nil))
     ·intro K' hK'
      (try simp only[List.getElem_toArray,List.getElem_cons_zero,List.getElem_cons_succ])
      go_simp
      have HFN:=hid (HFX.out.put (qF (FW i)).1 (qF (FW i)).2.1 (qF (FW i)).2.2)
      have HQN:=hid (HQ.out.far3 (Nat.ne_of_lt (Nat.lt_of_lt_of_le HGL.out HGF.out)) (.bool (qF (FW i)).1) (.string (qF (FW i)).2.1) (.string (qF (FW i)).2.2))
      have HSN:=hid (HS.out.put3 gf (.bool (qF (FW i)).1) (.string (qF (FW i)).2.1) (.string (qF (FW i)).2.2) (.inr HGF.out))
      refine hK'.out _ _ (HELD.out _ HSN.out) (fun _=>wpAnyH_done (by kernel_rfl) ?_ _)
      clear hK' K' hSd k0 k1 k2 f0 f1 f2 HS HFX HQ
      generalize (((u2.setCell ⟨gf,0,none⟩ (.bool (qF (FW i)).1)).setCell ⟨gf,1,none⟩ (.string (qF (FW i)).2.1)).setCell ⟨gf,2,none⟩ (.string (qF (FW i)).2.2))=Wb at *
      obtain⟨k0,k1,k2, -⟩:=HQN.out.facts
      obtain⟨j0,j1,j2, -⟩:=HFN.out.facts
      go_wp2_with fail
      refine(HCP.out _).mono ?_
      rintro e q1 ⟨rfl,hb⟩
      replace HSN:=hid (HSN.out.step hb)
      replace HQN:=hid (HQN.out.below hb HQN.out.lt)
      replace HFN:=hid (HFN.out.below hb HFN.out.lt)
      clear hb k0 k1 k2 j0 j1 j2
      by_cases hc:mq<FW i
      ·rw[pa_gt hc]
       have HPN:=hid (HPB.out.up hc HCI.out)
       have HQL:=hid (HSQ.out i)
       have s3:=(HELD.out _ HSN.out).2
       obtain⟨k0,k1,k2,f0,f1,f2⟩:=HQN.out.facts
       obtain⟨j0,j1,j2, -⟩:=HFN.out.facts
       have HQY:=hid (HQN.out.put (sgn (FW i)) (nu (FW i)) (de (FW i)))
       have HSY:=hid (HSN.out.put3 gS (.bool (sgn (FW i))) (.string (nu (FW i))) (.string (de (FW i))) (.inl rfl))
       clear HQN HSN HFN hc
       go_wp2
       go_roundw
       case rel=>exact⟨i+1,FW i,by omega,by go_num,HQL,HPN,HQY,HSY⟩
       case measure=>simp[intOf];omega
      ·have HPN:=hid (HPB.out.keep hc (HLOW.out i))
       rcases pa_le hc with e9 |e9
       ·rw[e9]
        clear e9 hc HFN
        go_wp2
        go_roundw
        case rel=>exact⟨i+1,mq,by omega,by go_num,HMQ,HPN,HQN,HSN⟩
        case measure=>simp[intOf];omega
       ·rw[e9]
        clear e9 hc HFN
        go_wp2
        go_roundw
        case rel=>exact⟨i+1,mq,by omega,by go_num,HMQ,HPN,HQN,HSN⟩
        case measure=>simp[intOf];omega
   ·intro K' hK'
    (try simp only[List.getElem_toArray,List.getElem_cons_zero,List.getElem_cons_succ])
    go_simp
    have hbn:=(Below.refl u0.heap.size u0).alloc (Nat.le_refl _) (FC false ⟨#[]⟩ ⟨#[]⟩)
    have HFX:=hid (Box.new u0 false ⟨#[]⟩ ⟨#[]⟩)
    have HGF:Hid (W0.heap.size≤u0.heap.size):=HS.out.size
    replace HS:=hid (HS.out.step hbn)
    replace HQ:=hid (HQ.out.below hbn HQ.out.lt)
    refine hK'.out _ _ (HELD.out _ HS.out) (fun hSe=>?_)
    clear hK' K' hSd hbn
    have hSd:=hSe
    clear hSe
    obtain⟨gf,hgfe⟩:∃x,u0.heap.size=x:=⟨_,rfl⟩
    obtain⟨u1,hV⟩:∃x,u0.alloc (FC false ⟨#[]⟩ ⟨#[]⟩)=x:=⟨_,rfl⟩
    rw[hV] at HFX HS HQ hSd
    rw[hgfe] at HFX HGF
    simp only[hV]
    simp only[hgfe]
    clear hgfe hV
    (try simp only[List.getElem_toArray,List.getElem_cons_zero,List.getElem_cons_succ])
    (try simp only[Act.put,List.setIfInBounds_toArray,List.set_cons_zero,List.set_cons_succ])
    refine wpAnyH_ready (rs:=[6]) (by kernel_rfl) (by simp) (AllReadyH.cons rfl ?_ (AllReadyH.nil))
    ·intro K' hK'
     (try simp only[List.getElem_toArray,List.getElem_cons_zero,List.getElem_cons_succ])
     go_simp
     refine(HWY.out _ HS.out).mono ?_
     rintro e u2 ⟨rfl,hb⟩
     replace HFX:=hid (HFX.out.below hb HFX.out.lt)
     replace HS:=hid (HS.out.step hb)
     replace HQ:=hid (HQ.out.below hb HQ.out.lt)
     refine hK'.out _ _ (HELD.out _ HS.out) (fun hSe=>?_)
     clear hK' K' hSd
     have hSd:=hSe
     clear hSe hb
     (try simp only[List.getElem_toArray,List.getElem_cons_zero,List.getElem_cons_succ])
     (try simp only[Act.put,List.setIfInBounds_toArray,List.set_cons_zero,List.set_cons_succ])
     obtain⟨k0,k1,k2,f0,f1,f2⟩:=HFX.out.facts
     refine wpAnyH_ready (rs:=[8]) (by kernel_rfl) (by simp) (AllReadyH.cons rfl ?_ (AllReadyH.nil))
     ·intro K' hK'
      (try simp only[List.getElem_toArray,List.getElem_cons_zero,List.getElem_cons_succ])
      go_simp
      have HFN:=hid (HFX.out.put (qF (FW i)).1 (qF (FW i)).2.1 (qF (FW i)).2.2)
      have HQN:=hid (HQ.out.far3 (Nat.ne_of_lt (Nat.lt_of_lt_of_le HGL.out HGF.out)) (.bool (qF (FW i)).1) (.string (qF (FW i)).2.1) (.string (qF (FW i)).2.2))
      have HSN:=hid (HS.out.put3 gf (.bool (qF (FW i)).1) (.string (qF (FW i)).2.1) (.string (qF (FW i)).2.2) (.inr HGF.out))
      refine hK'.out _ _ (HELD.out _ HSN.out) (fun _=>wpAnyH_done (by kernel_rfl) ?_ _)
      clear hK' K' hSd k0 k1 k2 f0 f1 f2 HS HFX HQ
      generalize (((u2.setCell ⟨gf,0,none⟩ (.bool (qF (FW i)).1)).setCell ⟨gf,1,none⟩ (.string (qF (FW i)).2.1)).setCell ⟨gf,2,none⟩ (.string (qF (FW i)).2.2))=Wb at *
      obtain⟨k0,k1,k2, -⟩:=HQN.out.facts
      obtain⟨j0,j1,j2, -⟩:=HFN.out.facts
      go_wp2_with fail
      refine(HCP.out _).mono ?_
      rintro e q1 ⟨rfl,hb⟩
      replace HSN:=hid (HSN.out.step hb)
      replace HQN:=hid (HQN.out.below hb HQN.out.lt)
      replace HFN:=hid (HFN.out.below hb HFN.out.lt)
      clear hb k0 k1 k2 j0 j1 j2
      by_cases hc:mq<FW i
      ·rw[pa_gt hc]
       have HPN:=hid (HPB.out.up hc HCI.out)
       have HQL:=hid (HSQ.out i)
       have s3:=(HELD.out _ HSN.out).2
       obtain⟨k0,k1,k2,f0,f1,f2⟩:=HQN.out.facts
       obtain⟨j0,j1,j2, -⟩:=HFN.out.facts
       have HQY:=hid (HQN.out.put (sgn (FW i)) (nu (FW i)) (de (FW i)))
       have HSY:=hid (HSN.out.put3 gS (.bool (sgn (FW i))) (.string (nu (FW i))) (.string (de (FW i))) (.inl rfl))
       clear HQN HSN HFN hc
       go_wp2
       go_roundw
       case rel=>exact⟨i+1,FW i,by omega,by go_num,HQL,HPN,HQY,HSY⟩
       case measure=>simp[intOf];omega
      ·have HPN:=hid (HPB.out.keep hc (HLOW.out i))
       rcases pa_le hc with e9 |e9
       ·rw[e9]
        clear e9 hc HFN
        go_wp2
        go_roundw
        case rel=>exact⟨i+1,mq,by omega,by go_num,HMQ,HPN,HQN,HSN⟩
        case measure=>simp[intOf];omega
       ·rw[e9]
        clear e9 hc HFN
        go_wp2
        go_roundw
        case rel=>exact⟨i+1,mq,by omega,by go_num,HMQ,HPN,HQN,HSN⟩
        case measure=>simp[intOf];omega
  ·obtain rfl:N=i:=by omega
   obtain⟨hm,hcell⟩:=HPB.out.at1 hN1
   obtain⟨hf1,hf2⟩:=HFIN.out HZ.out
   obtain⟨kb,hkb⟩:∃x,bstR FW (N - 1)=x:=⟨_,rfl⟩
   have hkN:kb<N:=by rw[←hkb];have:=bstR_le FW (N - 1);omega
   rw[hkb] at hm hcell hf1 hf2
   have HME:Hid (h.lik h.way L=mq):=by show _=_;rw[hm,hf1]
   have hkP:kb<P.length:=by rw[HPL.out];exact hkN
   obtain⟨gx',cx',dk,ck,hxe,hgx,hgxB',c0,hints⟩:=HOW.out.atB hkP
   rw[HPL.out] at hxe
   cases hxe
   have HPI:Hid (P[kb].2=iL ((List.range L).map h.way)):=by
    have h9:(P.map (·.2))[kb]? =(wyI n L N)[kb]?:=by rw[HPV.out]
    rw[List.getElem?_map,List.getElem?_eq_getElem hkP] at h9
    simp[wyI,hkN] at h9
    rw[←hf2]
    exact h9
   have HLT:Hid (P[kb].2.length=L):=by show _=_;rw[HPI.out,iL_length,List.length_map,List.length_range]
   rw[HLT.out] at c0
   obtain rfl:_=(Value.slice dk L ck):=Option.some.inj (hcell.symm.trans c0)
   have HINT:Hid (∀u,BtS W0 gS u→∀x y z:Value,IntS (((u.setCell ⟨w.heap.size+1,0,none⟩ x).setCell ⟨w.heap.size+1,1,none⟩ y).setCell ⟨w.heap.size+1,2,none⟩ z) dk (iL ((List.range L).map h.way))):=fun u hu x y z=>by
    rw[←HPI.out]
    intro k hk
    obtain⟨g,o,f1,f2,f3,f4⟩:=hints k hk
    have hb9:∀(U:World) (j:Nat) (v:Value),(U.setCell ⟨w.heap.size+1,j,none⟩ v).cell? ⟨g,o+k,none⟩=U.cell? ⟨g,o+k,none⟩:=fun U j v=>World.cell?_of_block (w:=U) (Below.heap_setCell U ⟨w.heap.size+1,j,none⟩ v g (by show g≠w.heap.size+1;have:=HXS.out;have:=HB3.out;omega))
    refine⟨g,o,f1,?_,?_⟩
    ·have h7:=below_put (Below.refl 0 u) (g:=w.heap.size+1) (Nat.zero_le _) x y z
     exact Nat.lt_of_lt_of_le (Nat.lt_of_lt_of_le f2 hu.size) h7.size
    ·rw[hb9,hb9,hb9]
     exact(hu.cell (p:=⟨g,_,none⟩) f2 (by show g≠gS;have:=HB3.out;omega)).trans f4
   have HRX:=hid (HS.out.box HRB.out (by have:=HXS.out;omega))
   have HBE:=hid (HS.out.below HW0.out (by have:=HXS.out;omega))
   clear hm hcell hf1 hf2 hkb hints HPI HLT c0
   go_upto_region 18 with fail
   replace HS:=hid (HS.out.step (Below.refl _ _).drew)
   replace HQ:=hid HQ.out.drew
   replace HRX:=hid HRX.out.drew
   replace HBE:=hid (HBE.out.trans ((Below.refl _ _).drew))
   refine wp_region_held_drew (S:=fun u=>u.cell? ⟨gS,0,none⟩=some (.bool (sgn mq))∧u.cell? ⟨gS,1,none⟩=some (.string (nu mq))∧u.cell? ⟨gS,2,none⟩=some (.string (de mq))) (by kernel_rfl) HQ.out.three' (fun hSd=>?_)
   generalize wr.drew=u0 at *
   refine wpAnyH_take (i:=0) (oi:=_) (v:=.slice dk L ck) rfl (by kernel_rfl) (by kernel_rfl) (by kernel_rfl) (fun _ _ _ h=>h) (Or.inl ⟨by rfl,?_⟩) (by assumption) ?_
   ·intro u' hSu
    (try simp only[List.getElem_toArray,List.getElem_cons_zero])
    go_simp
   (try simp only[List.getElem_toArray,List.getElem_cons_zero])
   (try simp only[Act.put,List.setIfInBounds_toArray,List.set_cons_zero,List.set_cons_succ])
   refine wpAnyH_take (i:=1) (oi:=_) (v:=.agg #[.bool (sgn mq),.string (nu mq),.string (de mq)]) rfl (by kernel_rfl) (by kernel_rfl) (by kernel_rfl) (fun _ _ _ h=>h) (Or.inl ⟨by rfl,?_⟩) (by assumption) ?_
   ·intro u' hSu
    (try simp only[List.getElem_toArray,List.getElem_cons_zero,List.getElem_cons_succ])
    obtain⟨s0,s1,s2⟩:=hSu
    go_simp
   (try simp only[List.getElem_toArray,List.getElem_cons_zero,List.getElem_cons_succ])
   (try simp only[Act.put,List.setIfInBounds_toArray,List.set_cons_zero,List.set_cons_succ])
   refine wpAnyH_take (i:=2) (oi:=_) (v:=.slice dk L ck) rfl (by kernel_rfl) (by kernel_rfl) (by kernel_rfl) (fun _ _ _ h=>h) (Or.inl ⟨by rfl,?_⟩) (by assumption) ?_
   ·intro u' hSu
    (try simp only[List.getElem_toArray,List.getElem_cons_zero,List.getElem_cons_succ])
    go_simp
   (try simp only[List.getElem_toArray,List.getElem_cons_zero,List.getElem_cons_succ])
   (try simp only[Act.put,List.setIfInBounds_toArray,List.set_cons_zero,List.set_cons_succ])
   obtain⟨k0,k1,k2,f0,f1,f2⟩:=HRX.out.facts
   refine wpAnyH_ready (rs:=[3]) (by kernel_rfl) (by simp) (AllReadyH.cons rfl ?_ (AllReadyH.nil))
   ·intro K' hK'
    (try simp only[List.getElem_toArray,List.getElem_cons_zero,List.getElem_cons_succ])
    go_simp
    have HRP:=hid (HRX.out.put (sgn mq) (nu mq) (de mq))
    have HLP:=hid (HQ.out.far3 (Nat.ne_of_gt HXS.out) (.bool (sgn mq)) (.string (nu mq)) (.string (de mq)))
    have HBP:=hid (below_put (g:=w.heap.size+1) HBE.out (by omega) (.bool (sgn mq)) (.string (nu mq)) (.string (de mq)))
    have HIP:=hid (HINT.out _ HS.out (.bool (sgn mq)) (.string (nu mq)) (.string (de mq)))
    refine hK'.out _ _ HLP.out.three' (fun hSe=>?_)
    clear hK' K' hSd k0 k1 k2 f0 f1 f2
    (try simp only[List.getElem_toArray,List.getElem_cons_zero,List.getElem_cons_succ])
    (try simp only[Act.put,List.setIfInBounds_toArray,List.set_cons_zero,List.set_cons_succ])
    refine wpAnyH_take (i:=4) (oi:=_) (v:=.int .i64 0) rfl (by kernel_rfl) (by kernel_rfl) (by kernel_rfl) (fun _ _ _ h=>h) (Or.inl ⟨by rfl,?_⟩) (by assumption) ?_
    ·intro u' hSu
     (try simp only[List.getElem_toArray,List.getElem_cons_zero,List.getElem_cons_succ])
     go_simp
    (try simp only[List.getElem_toArray,List.getElem_cons_zero,List.getElem_cons_succ])
    (try simp only[Act.put,List.setIfInBounds_toArray,List.set_cons_zero,List.set_cons_succ])
    refine wpAnyH_done (by kernel_rfl) ?_ _
    go_wp2
    refine bodyPost_ret (results_tmp_cell_tmp HRP.out rfl _ rfl) rfl ?_
    exact⟨.inr ⟨HZ.out,dk,ck,by rw[HME.out];rfl,HIP.out⟩,HBP.out⟩
end Go.Proofs.YtgamblainfkiaaaGreatDoor

/- The document's answer: a hidden chain of raw numbers; the law's signs. -/
namespace Go.Proofs.YtgamblainfkiaaaGreatDoor
open Go.RowKit Go.Shelf Go.Lib
theorem HBox.set1 {w:World} {g:Nat} {x y z:Value} (h:HBox w g x y z) (v:Value):HBox (w.setCell ⟨g,1,none⟩ v) g x v z:=by
 have h1:(w.setCell ⟨g,1,none⟩ v).heap[g]? =some (.cells (#[x,y,z].setIfInBounds 1 v) 25 (0,0)):=heap_setCell_same w g 1 _ _ _ h
 exact h1
theorem HBox.set2 {w:World} {g:Nat} {x y z:Value} (h:HBox w g x y z) (v:Value):HBox (w.setCell ⟨g,2,none⟩ v) g x y v:=by
 have h1:(w.setCell ⟨g,2,none⟩ v).heap[g]? =some (.cells (#[x,y,z].setIfInBounds 2 v) 25 (0,0)):=heap_setCell_same w g 2 _ _ _ h
 exact h1
theorem HBox.set3 {w:World} {g:Nat} {x y z:Value} (h:HBox w g x y z) (a b c:Value):HBox (((w.setCell ⟨g,0,none⟩ a).setCell ⟨g,1,none⟩ b).setCell ⟨g,2,none⟩ c) g a b c:=by
 have h1:(w.setCell ⟨g,0,none⟩ a).heap[g]? =some (.cells (#[x,y,z].setIfInBounds 0 a) 25 (0,0)):=heap_setCell_same w g 0 _ _ _ h
 have h2:HBox (w.setCell ⟨g,0,none⟩ a) g a y z:=h1
 exact(h2.set1 b).set2 c
theorem HBox.fz {w:World} {g:Nat} {x y z:Value} (h:HBox w g x y z) (j:Nat):w.frozen? ⟨g,j,none⟩=false:=frozen_of_row w g j _ _ h
theorem HBox.result {w:World} {g:Nat} {x y z:Value} (h:HBox w g x y z) {fn:Func} {p:Tmp} (hr:fn.results= #[.cell p 25]) (tmps:Array Value) (hp:tmps.getD p undef=.pointer (some ⟨g,0,none⟩)):
  (results fn tmps).run Tryz.prog w=.ok (.agg #[x,y,z]) w:=
 results_cell_row hr tmps w g _ _ _ _ hp h Tryz.underlying25 rfl (by kernel_rfl)
theorem owns_apart {w:World} {B B':Nat} {v v' x x':Value} {n n':Nat} {xs xs':List Value} (h:w.ownsRow B 22 1 v n (x::xs)) (h':w.ownsRow B' 22 1 v' n' (x'::xs')) (hne:x≠x'):∀g,v'.ownBlock=some g→v.ownBlock≠some g:=fun g hg hg'=>by
 rcases h.2 with ⟨h1,_⟩ |⟨g1,cap,cur,h1,_,h3,_,_,_,h7⟩
 ·rw[h1] at hg';cases hg'
 ·rcases h'.2 with ⟨k1,_⟩ |⟨g2,cap',cur',k1,_,k3,_,_,_,k7⟩
  ·rw[k1] at hg;cases hg
  ·rw[h1] at hg'
   rw[k1] at hg
   cases hg
   cases hg'
   rw[h3] at k3
   cases k3
   have e1:cur.toList[0]? =some x:=by
    have:(cur.toList.take (n*1))[0]? =some x:=by rw[h7];rfl
    rw[List.getElem?_take] at this
    by_cases hn:0<n*1
    ·rwa [if_pos hn] at this
    ·rw[if_neg hn] at this;cases this
   have e2:cur.toList[0]? =some x':=by
    have:(cur.toList.take (n'*1))[0]? =some x':=by rw[k7];rfl
    rw[List.getElem?_take] at this
    by_cases hn:0<n'*1
    ·rwa [if_pos hn] at this
    ·rw[if_neg hn] at this;cases this
   rw[e1] at e2
   cases e2
   exact hne rfl
structure HoS (w:World) (gB:Nat) (x y z:Value) (l:List Fr) (P1 P2:List PR) (U:World):Prop where
 bx:HBox U gB x y z
 rb:HBox U w.heap.size (.slice none 0 0) (.slice none 0 0) (.slice none 0 0)
 st:RwF U w.heap.size x l
 mv:OwR U w.heap.size y P1
 sh:OwR U w.heap.size z P2
 gb:w.heap.size<gB
 bel:Below w.heap.size w U
theorem HoS.step {w U U':World} {gB:Nat} {x y z:Value} {l:List Fr} {P1 P2:List PR} (h:HoS w gB x y z l P1 P2 U) (hb:Below U.heap.size U U'):HoS w gB x y z l P1 P2 U':=
 ⟨h.bx.below hb h.bx.lt,h.rb.below hb h.rb.lt,h.st.below hb,h.mv.keep (KeepT.below hb) (KeepT.below hb),h.sh.keep (KeepT.below hb) (KeepT.below hb),h.gb,h.bel.trans (hb.mono h.bel.size)⟩
theorem OwR.other {w w':World} {B:Nat} {y z:Value} {P:List PR} (h:OwR w B z P) (hg:w.grownBy w' y.ownBlock) (hk:KeepT 30 w w') (hd:∀g,z.ownBlock=some g→y.ownBlock≠some g):OwR w' B z P:=by
 refine⟨⟨h.1.1,?_⟩,fun p hp=>owns_keep (h.2 p hp) hk⟩
 rcases h.1.2 with h1 |⟨g,cap,cur,h1,h2,h3,h4⟩
 ·exact .inl h1
 ·exact .inr ⟨g,cap,cur,h1,h2,(hg.block g (Array.getElem?_eq_some_iff.1 h3).1 (fun e=>hd g (by rw[h1];rfl) e.symm)).trans h3,h4⟩
theorem HoS.pushM {w U U':World} {gB:Nat} {x y z:Value} {l:List Fr} {P1 P2:List PR} (h:HoS w gB x y z l P1 P2 U) {v' q:Value} {r:List Fr} (hr:U'.ownsRow w.heap.size 22 1 v' (P1.length+1) (P1.map (·.1)++[q])) (hg:U.grownBy U' y.ownBlock) (hq:RwF U w.heap.size q r) (hd:∀g,z.ownBlock=some g→y.ownBlock≠some g):
  HBox U' gB x y z∧HoS w gB x v' z l (P1++[(q,r)]) P2 (U'.setCell ⟨gB,1,none⟩ v'):=by
 have kk:∀tt:TypeId,tt≠22→KeepT tt U U':=fun tt hne=>KeepT.grown hg (owns_typed h.mv.1) hne
 have hbox:HBox U' gB x y z:=kk 25 (by decide) _ _ _ h.bx
 have ks:∀tt:TypeId,tt≠25→KeepT tt U' (U'.setCell ⟨gB,1,none⟩ v'):=fun tt hne=>KeepT.set hbox hne 1 v'
 have hgb:=h.gb
 refine⟨hbox,hbox.set1 v',?_,?_,⟨?_,?_⟩,?_,h.gb,?_⟩
 ·exact(Below.heap_setCell U' ⟨gB,1,none⟩ v' w.heap.size (by show w.heap.size≠gB;omega)).trans (kk 25 (by decide) _ _ _ h.rb)
 ·exact owns_keep h.st ((kk 30 (by decide)).trans (ks 30 (by decide)))
 ·rw[List.map_append,List.length_append]
  exact owns_keep hr (ks 22 (by decide))
 ·intro p hp
  have hk:=(kk 30 (by decide)).trans (ks 30 (by decide))
  rcases List.mem_append.1 hp with hp |hp
  ·exact owns_keep (h.mv.2 p hp) hk
  ·rw[List.mem_singleton.1 hp]
   exact owns_keep hq hk
 ·exact(h.sh.other hg (kk 30 (by decide)) hd).keep (ks 22 (by decide)) (ks 30 (by decide))
 ·exact(grown_low h.bel h.mv.1 hg).setCell (p:=⟨gB,1,none⟩) (by show w.heap.size≤gB;omega) _
theorem HoS.pushS {w U U':World} {gB:Nat} {x y z:Value} {l:List Fr} {P1 P2:List PR} (h:HoS w gB x y z l P1 P2 U) {v' q:Value} {r:List Fr} (hr:U'.ownsRow w.heap.size 22 1 v' (P2.length+1) (P2.map (·.1)++[q])) (hg:U.grownBy U' z.ownBlock) (hq:RwF U w.heap.size q r) (hd:∀g,y.ownBlock=some g→z.ownBlock≠some g):
  HBox U' gB x y z∧HoS w gB x y v' l P1 (P2++[(q,r)]) (U'.setCell ⟨gB,2,none⟩ v'):=by
 have kk:∀tt:TypeId,tt≠22→KeepT tt U U':=fun tt hne=>KeepT.grown hg (owns_typed h.sh.1) hne
 have hbox:HBox U' gB x y z:=kk 25 (by decide) _ _ _ h.bx
 have ks:∀tt:TypeId,tt≠25→KeepT tt U' (U'.setCell ⟨gB,2,none⟩ v'):=fun tt hne=>KeepT.set hbox hne 2 v'
 have hgb:=h.gb
 refine⟨hbox,hbox.set2 v',?_,?_,?_,⟨?_,?_⟩,h.gb,?_⟩
 ·exact(Below.heap_setCell U' ⟨gB,2,none⟩ v' w.heap.size (by show w.heap.size≠gB;omega)).trans (kk 25 (by decide) _ _ _ h.rb)
 ·exact owns_keep h.st ((kk 30 (by decide)).trans (ks 30 (by decide)))
 ·exact(h.mv.other hg (kk 30 (by decide)) hd).keep (ks 22 (by decide)) (ks 30 (by decide))
 ·rw[List.map_append,List.length_append]
  exact owns_keep hr (ks 22 (by decide))
 ·intro p hp
  have hk:=(kk 30 (by decide)).trans (ks 30 (by decide))
  rcases List.mem_append.1 hp with hp |hp
  ·exact owns_keep (h.sh.2 p hp) hk
  ·rw[List.mem_singleton.1 hp]
   exact owns_keep hq hk
 ·exact(grown_low h.bel h.sh.1 hg).setCell (p:=⟨gB,2,none⟩) (by show w.heap.size≤gB;omega) _
def Hd (y z:Value) (P1 P2:List PR):Prop:=(P1=[]∧P2=[]∧y=.slice none 0 0∧z=.slice none 0 0)∨∃p Q1 q Q2,P1=p::Q1∧P2=q::Q2∧p.1≠q.1
theorem Hd.first {w U:World} {gB:Nat} {x y z:Value} {l:List Fr} {P1 P2:List PR} (h:HoS w gB x y z l P1 P2 U) (hd:Hd y z P1 P2):∀g,z.ownBlock=some g→y.ownBlock≠some g:=by
 rcases hd with ⟨_,_,_,rfl⟩ |⟨p,Q1,q,Q2,rfl,rfl,hne⟩
 ·intro g hg;cases hg
 ·exact owns_apart h.mv.1 h.sh.1 hne
theorem Hd.second {w U:World} {gB:Nat} {x y z y':Value} {l:List Fr} {P1 P2:List PR} {a b:PR} (h:HoS w gB x y' z l (P1++[a]) P2 U) (hd:Hd y z P1 P2):(∀g,y'.ownBlock=some g→z.ownBlock≠some g)∧(a.1≠b.1→∀z',Hd y' z' (P1++[a]) (P2++[b])):=by
 rcases hd with ⟨rfl,rfl,_,rfl⟩ |⟨p,Q1,q,Q2,rfl,rfl,hne⟩
 ·refine⟨fun g _ hg=>(by cases hg),fun hab z'=>.inr ⟨a,[],b,[],rfl,rfl,hab⟩⟩
 ·refine⟨fun g h1 h2=>owns_apart h.mv.1 h.sh.1 hne g h2 h1,fun _ z'=>.inr ⟨p,Q1++[a],q,Q2++[b],rfl,rfl,hne⟩⟩
def RwP (i k:Nat) (P:List PR):Prop:=P.length=i∧∀p∈P,∃Ls,p.2=rawF Ls∧Wts Ls k∧1≤Ls.sum
theorem RwP.push {i k:Nat} {P:List PR} (h:RwP i k P) (q:Value) {Ls:List Nat} (h1:Wts Ls k) (h2:1≤Ls.sum):RwP (i+1) k (P++[(q,rawF Ls)]):=by
 refine⟨by rw[List.length_append,h.1];rfl,fun p hp=>?_⟩
 rcases List.mem_append.1 hp with hp |hp
 ·exact h.2 p hp
 ·rw[List.mem_singleton.1 hp]
  exact⟨Ls,rfl,h1,h2⟩
theorem RwF.apart {w:World} {B B':Nat} {v v':Value} {l l':List Fr} (h:RwF w B v l) (h':RwF w B' v' l') (h1:1≤l.length) (h2:1≤l'.length) (hb:∀g,v.ownBlock=some g→g<B'):v≠v':=fun e=>by
 subst e
 rcases h.2 with ⟨_,k⟩ |⟨g,cap,cur,e1,_⟩
 ·omega
 ·have h3:=hb g (by rw[e1];rfl)
  have h4:B'≤g:=by
   rcases h'.2 with ⟨_,k⟩ |⟨g',cap',cur',e2,k2,_⟩
   ·omega
   ·rw[e1] at e2
    injection e2 with e3 _ _
    injection e3 with e4
    injection e4 with e5 _ _
    rw[e5]
    exact k2
  omega
set_option maxRecDepth 100000 in
set_option maxHeartbeats 2000000 in
theorem hiddenOf_any (d:Option Addr) (cd n m:Nat) (W:List Int) (w:World) (hW:IntS w d W) (hr:∀x∈W, -9223372036854775808≤x∧x≤9223372036854775807) (hWl:W.length≤140737488355328) (hn1:1≤n) (hn:n≤4) (hm1:1≤m) (hm:m≤4):
  Calls Tryz.prog 25 #[.slice d W.length cd,.int .i64 (n:Nat),.int .i64 (m:Nat)] w fun e w'=>∃(x y z:Value) (Ls:List Nat) (P1 P2:List PR),e=.returned (.agg #[x,y,z])∧Wts Ls n∧1≤Ls.sum∧RwF w' w.heap.size x (rawF Ls)∧OwR w' w.heap.size y P1∧OwR w' w.heap.size z P2∧RwP n n P1∧RwP n m P2∧Below w.heap.size w w':=by
 have HROW:=hid (fun (k:Nat) (hk:k≤100000) (j:Nat) (h1:1≤j) (h4:j≤4) (U:World) (hU:IntS U d W)=>rowOf_any d cd k j W U hU hr hk h1 (by omega) hWl)
 have HW:=hid hW
 clear hW hr
 have hrb:=HBox.new w (.slice none 0 0) (.slice none 0 0) (.slice none 0 0)
 have hA:=(Below.refl w.heap.size w).alloc (Nat.le_refl _) (HC3 (.slice none 0 0) (.slice none 0 0) (.slice none 0 0))
 go_enter Tryz.func25,Tryz.ntmps25
 go_wp2_with fail
 generalize (w.alloc (HC3 (.slice none 0 0) (.slice none 0 0) (.slice none 0 0)))=w0 at *
 refine(HROW.out 0 (by omega) n hn1 hn _ (HW.out.below hA)).mono ?_
 rintro e w1 ⟨x,Ls,rfl,hx,hwt,hs1,hb1⟩
 obtain⟨dx,nx,cx,rfl⟩:=hx.slv
 have HWT:=hid hwt
 have HS1:=hid hs1
 have hA1:=hA.trans (hb1.mono hA.size)
 have hrb1:=hrb.below hb1 hrb.lt
 have hbl:w.heap.size<w1.heap.size:=hrb1.lt
 have HK0:Hid (HoS w w1.heap.size (.slice dx nx cx) (.slice none 0 0) (.slice none 0 0) (rawF Ls) [] [] (w1.alloc (HC3 (.slice dx nx cx) (.slice none 0 0) (.slice none 0 0)))):=by
  have hst:=(Below.refl w1.heap.size w1).alloc (Nat.le_refl _) (HC3 (.slice dx nx cx) (.slice none 0 0) (.slice none 0 0))
  exact⟨HBox.new w1 _ _ _,hrb1.below hst hrb1.lt,(hx.lower hA.size).below hst,OwR.nil _ _,OwR.nil _ _,hbl,hA1.trans (hst.mono hA1.size)⟩
 clear hx hwt hs1 hb1 hA hrb hA1 hrb1
 go_wp2_with fail
 generalize (w1.alloc (HC3 (.slice dx nx cx) (.slice none 0 0) (.slice none 0 0)))=w2 at *
 generalize w1.heap.size=gB at *
 go_loopw [8] (fun iv wr=>∃i:Nat,i≤n∧iv=.int .i64 i∧∃(y z:Value) (P1 P2:List PR),Hid (HoS w gB (.slice dx nx cx) y z (rawF Ls) P1 P2 wr)∧Hid (Hd y z P1 P2)∧Hid (RwP i n P1)∧Hid (RwP i m P2)) (fun iv _=>n - (intOf iv).toNat)
 case atStart=>exact⟨0,Nat.zero_le _,rfl,.slice none 0 0,.slice none 0 0,[],[],HK0,.inl ⟨rfl,rfl,rfl,rfl⟩,⟨rfl,fun p hp=>by cases hp⟩,⟨rfl,fun p hp=>by cases hp⟩⟩
 case round=>
  obtain⟨i,hi,rfl,y,z,P1,P2,HK,HD,HP1,HP2⟩:=hrel
  clear HK0
  by_cases hlt:i<n
  ·obtain⟨dy,ny,cy,rfl⟩:SlV y:=by
    obtain⟨a',c',e',_⟩:=owns_slice HK.out.mv.1
    exact⟨a',_,c',e'⟩
   obtain⟨dz,nz,cz,rfl⟩:SlV z:=by
    obtain⟨a',c',e',_⟩:=owns_slice HK.out.sh.1
    exact⟨a',_,c',e'⟩
   obtain⟨k1,hk1⟩:∃k1,k1=3+i*n:=⟨_,rfl⟩
   obtain⟨k2,hk2⟩:∃k2,k2=7+i*m:=⟨_,rfl⟩
   have hin:i*n≤16:=Nat.le_trans (Nat.mul_le_mul (by omega:i≤4) hn) (by decide)
   have him:i*m≤16:=Nat.le_trans (Nat.mul_le_mul (by omega:i≤4) hm) (by decide)
   have ein:(i:Int)*(n:Int)=((i*n:Nat):Int):=by push_cast;rfl
   have eim:(i:Int)*(m:Int)=((i*m:Nat):Int):=by push_cast;rfl
   have hw1:IntKind.i64.wrap ((i:Int)*(n:Int))=((i*n:Nat):Int):=by rw[ein,IntKind.wrap_i64];omega
   have hw2:IntKind.i64.wrap ((i:Int)*(m:Int))=((i*m:Nat):Int):=by rw[eim,IntKind.wrap_i64];omega
   have HE1:Hid ((3:Int)+((i*n:Nat):Int)=(k1:Int)):=by show _=_;omega
   have HE2:Hid ((7:Int)+((i*m:Nat):Int)=(k2:Int)):=by show _=_;omega
   have HL1:=hid HP1.out.1
   have HL2:=hid HP2.out.1
   generalize i*n=in_ at *
   generalize i*m=im_ at *
   clear ein eim
   go_wp2_with fail
   rw[HE1.out]
   refine(HROW.out k1 (by omega) n hn1 hn _ (HW.out.below HK.out.bel)).mono ?_
   rintro e w3 ⟨xa,La,rfl,hxa,hwa,hsa,hb3⟩
   obtain⟨da,na,ca,rfl⟩:=hxa.slv
   have hbs0:w.heap.size≤wr.heap.size:=HK.out.bel.size
   replace HK:=hid (HK.out.step hb3)
   have HA:=hid (hxa.lower hbs0)
   have HWA:=hid hwa
   have HSA:=hid hsa
   have hbs3:w.heap.size≤w3.heap.size:=HK.out.bel.size
   clear hb3 hxa hwa hsa hbs0
   go_wp2_with fail
   rw[HE2.out]
   refine(HROW.out k2 (by omega) m hm1 hm _ (HW.out.below HK.out.bel)).mono ?_
   rintro e w4 ⟨xb,Lb,rfl,hxb,hwb,hsb,hb4⟩
   obtain⟨db,nb,cb,rfl⟩:=hxb.slv
   have HAB:Hid ((Value.slice da na ca)≠.slice db nb cb):=(HA.out.below hb4).apart hxb (by rw[rawF_length,HWA.out.len];omega) (by rw[rawF_length,hwb.len];omega) (fun g hg=>by
    obtain⟨c,fr,h⟩:=owns_typed HA.out g hg
    exact(Array.getElem?_eq_some_iff.1 h).1)
   have HB:=hid (hxb.lower hbs3)
   have HWB:=hid hwb
   have HSB:=hid hsb
   replace HK:=hid (HK.out.step hb4)
   replace HA:=hid (HA.out.below hb4)
   clear hb4 hxb hwb hsb hbs3
   obtain⟨e0,e1,e2⟩:=HK.out.bx.cells
   have hAL:=(Below.refl w4.heap.size w4).alloc (Nat.le_refl _) (.cells #[.slice da na ca] 22)
   have hone:(w4.alloc (.cells #[.slice da na ca] 22)).heap[w4.heap.size]? =some (.cells #[.slice da na ca] 22 (0,0)):=heap_alloc_new w4 _
   have HC1:Hid ((w4.alloc (.cells #[.slice da na ca] 22)).cell? ⟨w4.heap.size,0,none⟩=some (.slice da na ca)):=by
    show _=_
    rw[cell_of_row _ _ _ _ _ (0,0) hone]
    rfl
   replace HK:=hid (HK.out.step hAL)
   replace HA:=hid (HA.out.below hAL)
   replace HB:=hid (HB.out.below hAL)
   have HBS:Hid (w.heap.size≤(w4.alloc (.cells #[.slice da na ca] 22)).heap.size):=HK.out.bel.size
   have HBLK:Hid (w4.heap.size<(w4.alloc (.cells #[.slice da na ca] 22)).heap.size):=by show _<_;simp
   clear hAL hone
   go_upto_region 8 with (at_builtin;refine wpList_append_rs rfl _ _ rfl w.heap.size (.slice dy ny cy) P1 (.slice da na ca) ⟨_,_,_,rfl⟩ rfl HK.out.mv.1 w4.heap.size rfl HC1.out (by rw[HL1.out];omega) HBS.out ?_;intro v5 w5 hr5 hg5;obtain⟨a5,c5,rfl, -⟩:=owns_slice hr5;obtain⟨hbx5,hk5⟩:=HK.out.pushM hr5 hg5 HA.out (Hd.first HK.out HD.out);obtain⟨q0,q1,q2⟩:=hbx5.cells;have qf:=hbx5.fz 1;have HK5:=hid hk5;have HB5:Hid (RwF (w5.setCell ⟨gB,1,none⟩ (.slice a5 (P1.length+1) c5)) w.heap.size (.slice db nb cb) (rawF Lb)):=owns_keep HB.out ((KeepT.grown hg5 (owns_typed HK.out.mv.1) (by decide)).trans (KeepT.set hbx5 (by decide) 1 _)))
   clear e0 e1 e2 q0 q1 q2 qf hbx5 hk5 hr5 hg5 HC1 HBS HBLK HA HB HK
   generalize (w5.setCell ⟨gB,1,none⟩ (.slice a5 (P1.length+1) c5))=w6 at *
   obtain⟨hdj,hdn⟩:=Hd.second (b:=(.slice db nb cb,rawF Lb)) HK5.out HD.out
   have HDN:=hid (hdn HAB.out)
   have HDJ:=hid hdj
   obtain⟨e0,e1,e2⟩:=HK5.out.bx.cells
   have hAL:=(Below.refl w6.heap.size w6).alloc (Nat.le_refl _) (.cells #[.slice db nb cb] 22)
   have hone:(w6.alloc (.cells #[.slice db nb cb] 22)).heap[w6.heap.size]? =some (.cells #[.slice db nb cb] 22 (0,0)):=heap_alloc_new w6 _
   have HC1:Hid ((w6.alloc (.cells #[.slice db nb cb] 22)).cell? ⟨w6.heap.size,0,none⟩=some (.slice db nb cb)):=by
    show _=_
    rw[cell_of_row _ _ _ _ _ (0,0) hone]
    rfl
   have HK6:=hid (HK5.out.step hAL)
   replace HB5:=hid (HB5.out.below hAL)
   have HBS:Hid (w.heap.size≤(w6.alloc (.cells #[.slice db nb cb] 22)).heap.size):=HK6.out.bel.size
   clear hAL hone hdj hdn HK5 HD
   go_wp2_with (at_builtin;refine wpList_append_rs rfl _ _ rfl w.heap.size (.slice dz nz cz) P2 (.slice db nb cb) ⟨_,_,_,rfl⟩ rfl HK6.out.sh.1 w6.heap.size rfl HC1.out (by rw[HL2.out];omega) HBS.out ?_;intro v7 w7 hr7 hg7;obtain⟨a7,c7,rfl, -⟩:=owns_slice hr7;obtain⟨hbx7,hk7⟩:=HK6.out.pushS hr7 hg7 HB5.out HDJ.out;obtain⟨q0,q1,q2⟩:=hbx7.cells;have qf:=hbx7.fz 2;have HK7:=hid hk7)
   go_roundw
   case rel=>exact⟨i+1,by omega,by go_num,_,_,_,_,HK7,HDN.out _,HP1.out.push _ HWA.out HSA.out,HP2.out.push _ HWB.out HSB.out⟩
   case measure=>simp[intOf];omega
  ·obtain rfl:i=n:=by omega
   obtain⟨dy,ny,cy,rfl⟩:SlV y:=by
    obtain⟨a',c',e',_⟩:=owns_slice HK.out.mv.1
    exact⟨a',_,c',e'⟩
   obtain⟨dz,nz,cz,rfl⟩:SlV z:=by
    obtain⟨a',c',e',_⟩:=owns_slice HK.out.sh.1
    exact⟨a',_,c',e'⟩
   obtain⟨e0,e1,e2⟩:=HK.out.bx.cells
   obtain⟨r0,r1,r2⟩:=HK.out.rb.cells
   have f0:=HK.out.rb.fz 0
   have f1:=HK.out.rb.fz 1
   have f2:=HK.out.rb.fz 2
   have HRS:=hid (HK.out.rb.set3 (.slice dx nx cx) (.slice dy ny cy) (.slice dz nz cz))
   have ks:∀tt:TypeId,tt≠25→KeepT tt wr (((wr.setCell ⟨w.heap.size,0,none⟩ (.slice dx nx cx)).setCell ⟨w.heap.size,1,none⟩ (.slice dy ny cy)).setCell ⟨w.heap.size,2,none⟩ (.slice dz nz cz)):=fun tt hne=>by
    have h1:HBox (wr.setCell ⟨w.heap.size,0,none⟩ (.slice dx nx cx)) w.heap.size (.slice dx nx cx) (.slice none 0 0) (.slice none 0 0):=heap_setCell_same wr w.heap.size 0 _ _ _ HK.out.rb
    exact((KeepT.set HK.out.rb hne 0 _).trans (KeepT.set h1 hne 1 _)).trans (KeepT.set (h1.set1 (.slice dy ny cy)) hne 2 _)
   have HF1:Hid (RwF (((wr.setCell ⟨w.heap.size,0,none⟩ (.slice dx nx cx)).setCell ⟨w.heap.size,1,none⟩ (.slice dy ny cy)).setCell ⟨w.heap.size,2,none⟩ (.slice dz nz cz)) w.heap.size (.slice dx nx cx) (rawF Ls)):=owns_keep HK.out.st (ks _ (by decide))
   have HF2:=hid (HK.out.mv.keep (ks 22 (by decide)) (ks 30 (by decide)))
   have HF3:=hid (HK.out.sh.keep (ks 22 (by decide)) (ks 30 (by decide)))
   have HFB:=hid (((HK.out.bel.setCell (p:=⟨w.heap.size,0,none⟩) (Nat.le_refl _) (.slice dx nx cx)).setCell (p:=⟨w.heap.size,1,none⟩) (Nat.le_refl _) (.slice dy ny cy)).setCell (p:=⟨w.heap.size,2,none⟩) (Nat.le_refl _) (.slice dz nz cz))
   clear ks HK
   go_wp2
   refine bodyPost_ret (HRS.out.result rfl _ rfl) rfl ?_
   exact⟨_,_,_,Ls,P1,P2,rfl,HWT.out,HS1.out,HF1.out,HF2.out,HF3.out,HP1.out,HP2.out,HFB.out⟩
end Go.Proofs.YtgamblainfkiaaaGreatDoor

/- MatrixOf of the document's answer: a chain of raw numbers. -/
namespace Go.Proofs.YtgamblainfkiaaaGreatDoor
open Go.RowKit Go.Shelf
theorem OwR.push {U U':World} {B:Nat} {y v' q:Value} {r:List Fr} {P:List PR} (h:OwR U B y P) (hr:U'.ownsRow B 22 1 v' (P.length+1) (P.map (·.1)++[q])) (hg:U.grownBy U' y.ownBlock) (hq:RwF U B q r):OwR U' B v' (P++[(q,r)]):=by
 have hk:KeepT 30 U U':=KeepT.grown hg (owns_typed h.1) (by decide)
 refine⟨by rw[List.length_append,List.map_append];exact hr,fun p hp=>?_⟩
 rcases List.mem_append.1 hp with hp |hp
 ·exact owns_keep (h.2 p hp) hk
 ·rw[List.mem_singleton.1 hp]
  exact owns_keep hq hk
theorem OwR.below {U U':World} {B:Nat} {y:Value} {P:List PR} (h:OwR U B y P) (hb:Below U.heap.size U U'):OwR U' B y P:=h.keep (KeepT.below hb) (KeepT.below hb)
end Go.Proofs.YtgamblainfkiaaaGreatDoor
