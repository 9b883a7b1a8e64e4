/- The answer's Backward. -/
import Derived.Test.YtgamblainfkiaaaGreatDoorHexHHx
namespace Go.Proofs.YtgamblainfkiaaaGreatDoor
open Go.RowKit Go.Shelf
theorem HBox.pt3 {w:World} {g:Nat} {x y z:Value} (h:HBox w g x y z) (a b c:Value):HBox (((w.setCell ⟨g,0,none⟩ a).setCell ⟨g,1,none⟩ b).setCell ⟨g,2,none⟩ c) g a b c:=by
 have h1:=heap_setCell_same w g 0 _ _ a h
 have h2:=heap_setCell_same _ g 1 _ _ b h1
 have h3:=heap_setCell_same _ g 2 _ _ c h2
 exact h3
theorem HBox.fzz {w:World} {g:Nat} {x y z:Value} (h:HBox w g x y z) (j:Nat):w.frozen? ⟨g,j,none⟩=false:=frozen_of_row w g j _ _ h
theorem BtS.trans {W V U:World} {g:Nat} (h:BtS W g V) (h':BtS V g U):BtS W g U:=⟨h'.os.trans h.os,h'.tape.trans h.tape,h'.output.trans h.output,Nat.le_trans h.size h'.size,fun k hk hn=>(h'.block k (Nat.lt_of_lt_of_le hk h.size) hn).trans (h.block k hk hn)⟩
theorem HidV.from {D:Nat} {h:HC} {m:Nat} {l:List Fr} {R1 R2:List (List Fr)} {Q:List Nat} (v:HidV D h m l R1 R2 Q) {t s:Nat} (ht:t<h.L) (hs:s<h.s) (hs':s<R1.length):HidV D (h.from t s) m R1[s] R1 R2 (Q.drop (t+1)) where
 ok:=⟨v.ok.n1,v.ok.n4,v.ok.m1,v.ok.m4,v.ok.mv.each s hs',v.ok.mv.fw s hs',v.ok.mv.row s hs',v.ok.mv,v.ok.sh⟩
 L:=by rw[List.length_drop,v.L];show _=h.L - 1 - t;omega
 q:=fun x hx=>v.q x (List.mem_of_mem_drop hx)
 st:=v.mv s hs'
 mv:=v.mv
 sh:=fun k hk i hi=>by
  rw[List.length_drop] at hk
  obtain⟨hx,e1,e2⟩:=v.sh (t+1+k) (by omega) i hi
  simp only[List.getElem_drop]
  exact⟨hx,e1,e2⟩
 sm:=⟨v.sm.s4,Nat.le_trans (show h.L - 1 - t≤h.L by omega) v.sm.L8,v.sm.d0,Nat.le_trans (Nat.mul_le_mul_left _ (show 3*(h.L - 1 - t)+1≤3*h.L+1 by omega)) v.sm.sz,fun i hi=>v.sm.mv s hs i hi,v.sm.mv,fun k hk i hi=>v.sm.sh (t+1+k) (by have:k<h.L - 1 - t:=hk;omega) i hi⟩
set_option maxRecDepth 100000 in
set_option maxHeartbeats 4000000 in
theorem rBackward_ok {D:Nat} (a b c d:Option Addr) (ca cb cc cd n L m:Nat) (l:List Fr) (R1 R2:List (List Fr)) (Q:List Nat) (h:HC) (w:World) (hI:HidI w a b c n m l R1 R2) (hV:HidV D h m l R1 R2 Q) (hsn:h.s=n) (hL:h.L=L) (hS:HidS l R1 R2) (hQ:IntS w d (iL Q)) (hse:SeeE l R1 R2 (iL Q) 0) (hNN:n^L≤300) (hcd:L≤cd):
  Calls Tryz.prog 15 #[.agg #[.slice a n ca,.slice b n cb,.slice c n cc],.slice d L cd] w fun e w'=>∃x k,e=.returned (.tuple #[.slice x L k,.int .i64 0])∧FsS w' x ((List.range L).map fun t=>lF n (h.behind t))∧Below w.heap.size w w':=by
 have hok:=hV.okn hsn
 have hn1:=hok.n1
 have hn4:=hok.n4
 have hL8:L≤8:=by rw[←hL];exact hV.sm.L8
 obtain⟨el,er1,er2,eq⟩:=hV.toM hsn
 have eqL:(iL Q).length=L:=by rw[iL_length,eq,hL]
 have HSEE:Hid (∀U:World,Below w.heap.size w U→Calls Tryz.prog 32 #[.agg #[.slice a n ca,.slice b n cb,.slice c n cc],.slice d L cd] U fun e w'=>e=.returned (.int .i64 0)∧Below U.heap.size U w'):=fun U hU=>by
  have h9:=rSeen_any a b c d ca cb cc cd l R1 R2 (iL Q) U ⟨hI.st.below hU,hI.mv.below hU,hI.sh.below hU⟩ hS (hQ.below hU) (by rw[eqL];omega)
  rw[el,er1,er2,eqL] at h9
  refine h9.mono ?_
  rintro e w' ⟨⟨x,rfl,hx⟩,hb⟩
  rw[hx.uniq hse]
  exact⟨rfl,hb⟩
 have HPOW:Hid (∀t,t≤L→n^t≤300):=fun t ht=>Nat.le_trans (Nat.pow_le_pow_right hn1 ht) hNN
 have HWS:=hid (fun (t:Nat) (ht:t≤L) (U:World)=>ways_any n t U hn1 hn4 (by omega) (HPOW.out t ht))
 have HNO:=hid (fun U:World=>noughts_any n U hn1 (by omega))
 have HWO:=hid (fun (t s i:Nat) (ht:t<L) (hs:s<R1.length) (ds dr dq:Option Addr) (cs cr cq:Nat) (U:World) (hU:Below w.heap.size w U) (hds:FrS w ds R1[s]) (hdr:IntS w dr (iL (Q.drop (t+1)))) (hW:IntS U dq (iL (wyL n (L - 1 - t) i)))=>rWay_of ds b c dr dq cs cb cc cr cq n (L - 1 - t) (L - 1 - t) i m R1[s] R1 R2 (Q.drop (t+1)) (h.from t s) U ⟨hds.below hU,hI.mv.below hU,hI.sh.below hU⟩ (hV.from (by omega) (by omega) hs) hsn (by show h.L - 1 - t=_;rw[hL]) (hdr.below hU) (Nat.le_refl _) hW)
 have HROW:Hid (∀s (hs:s<R1.length),∃gb ob ds cs,b=some ⟨gb,ob,none⟩∧gb<w.heap.size∧w.cell? ⟨gb,ob+s,none⟩=some (.slice ds n cs)∧FrS w ds R1[s]):=fun s hs=>by
  obtain⟨g,o,b',c',e1,e2,e3,e4,_⟩:=hI.mv s (by omega)
  rw[hok.mv.each s (by omega)] at e3
  exact⟨g,o,b',c',e1,e2,e3,e4⟩
 have HREST:Hid (∀t,t<L→∃gd od,d=some ⟨gd,od,none⟩∧∀dr,(dr=some ⟨gd,od+(t+1),none⟩∨t+1=L)→IntS w dr (iL (Q.drop (t+1)))):=fun t ht=>by
  obtain⟨gd,od,e1,e2,_⟩:=hQ t (by omega)
  refine⟨gd,od,e1,fun dr hdr k hk=>?_⟩
  rw[iL_length,List.length_drop] at hk
  rcases hdr with rfl |hdr
  ·obtain⟨g',o',f1,f2,f3⟩:=hQ (t+1+k) (by rw[iL_length];omega)
   rw[e1] at f1
   cases f1
   refine⟨gd,od+(t+1),rfl,f2,?_⟩
   rw[show od+(t+1)+k=od+(t+1+k) by omega,f3]
   simp[iL]
  ·omega
 have HLK:Hid (∀t s i,t<L→s<n→Sm D (2*(L - 1 - t)) ((h.from t s).lik (wyF n (L - 1 - t) i) (L - 1 - t))):=fun t s i ht hs=>(hV.from (t:=t) (s:=s) (by omega) (by omega) (by omega)).sm.lik (fun k=>by show _<h.s;rw[hsn];exact wyF_lt hn1 _ i k) (L - 1 - t) (by show _≤h.L - 1 - t;omega)
 have HQW:Hid (∀k q,Sm D k q→k≤3*L+1→qw q≤30010):=fun k q hq hk=>hV.sm.qw hq (by omega)
 have HEND:Hid (∀t s,t<L→s<n→sumR (fun i=>(h.from t s).lik (wyF n (L - 1 - t) i) (L - 1 - t)) (n^(L - 1 - t))=h.behind t s):=fun t s ht hs=>by
  have h9:=h.ahead (by omega) (t:=t) (i:=s) (by omega)
  rw[hsn,hL] at h9
  rw[h9,HC.behind,hL]
 have HAH:Hid (∀t s,t<L→s<n→Sm D (3*L) (h.behind t s)):=fun t s ht hs=>(hV.sm.behind (t:=t) (by omega) (by omega)).up (by omega)
 have HRL:Hid (R1.length=n):=er1
 have hA:=(Below.refl w.heap.size w).alloc (Nat.le_refl _) (HC3 (.slice a n ca) (.slice b n cb) (.slice c n cc))
 have hHB:=HBox.new w (.slice a n ca) (.slice b n cb) (.slice c n cc)
 clear hI hV hsn hL hS hQ hse hok el er1 er2 eq eqL hNN
 obtain⟨e0,e1,e2⟩:=hHB.cells
 go_enter Tryz.func15,Tryz.ntmps15
 go_wp2_with fail
 generalize (w.alloc (HC3 (.slice a n ca) (.slice b n cb) (.slice c n cc)))=W1 at *
 refine(HSEE.out _ hA).mono ?_
 rintro e w1 ⟨rfl,hb⟩
 have HA1:=hid (hA.trans (hb.mono hA.size))
 have HH1:=hid (hHB.below hb hHB.lt)
 clear hA hHB hb e0 e1 e2
 go_wp2_with fail
 go_loopw [7,8] (fun ov tv wr=>∃(t:Nat) (P:List PR),t≤L∧tv=.int .i64 t∧Hid (OwR wr w.heap.size ov P)∧Hid (P.map (·.2)=(List.range t).map fun k=>lF n (h.behind k))∧Hid (HBox wr w.heap.size (.slice a n ca) (.slice b n cb) (.slice c n cc))∧Hid (Below w.heap.size w wr)) (fun _ tv _=>L - (intOf tv).toNat)
 case atStart=>exact⟨0,[],Nat.zero_le _,rfl,OwR.nil _ _,rfl,HH1,HA1⟩
 case round=>
  obtain⟨tt,Ps,htL,rfl,HO,HPO,HHW,HAW⟩:=hrel
  clear HH1 HA1
  by_cases httL:tt<L
  ·obtain⟨W,hW⟩:∃x,x=wr:=⟨_,rfl⟩
   rw[←hW] at HO HHW HAW
   obtain⟨e0,e1,e2⟩:=HHW.out.cells
   rw[←hW]
   clear hW
   obtain⟨dO,cO,rfl, -⟩:=owns_slice HO.out.1
   obtain⟨gd,od,hd,hdr⟩:=HREST.out tt httL
   subst hd
   have HDR:=hid hdr
   clear hdr
   obtain⟨K,hK⟩:∃K,L - 1 - tt=K:=⟨_,rfl⟩
   have HKE:=hid hK
   have hKL:K≤L:=by omega
   have hK1:K+(tt+1)=L:=by omega
   clear hK
   obtain⟨dr,hif⟩:∃x,(if cd=tt+1 then(some ⟨gd,od,none⟩:Option Addr) else some ⟨gd,od+(tt+1),none⟩)=x:=⟨_,rfl⟩
   obtain⟨cr,hcr⟩:∃x,cd - (tt+1)=x:=⟨_,rfl⟩
   have hke:L - (tt+1)=K:=by omega
   have HDV:Hid (IntS w dr (iL (Q.drop (tt+1)))):=HDR.out dr (by
    rw[←hif]
    by_cases e:cd=tt+1
    ·exact .inr (by omega)
    ·rw[if_neg e];exact .inl rfl)
   go_wp2_with fail
   refine(HNO.out _).mono ?_
   rintro e w2 ⟨g,c1,rfl,hE,hb⟩
   have HE2:=hid hE
   have HB2:=hid hb
   have HH2:=hid (HHW.out.below hb HHW.out.lt)
   clear hE hb e0 e1 e2
   obtain⟨e0,e1,e2⟩:=HH2.out.cells
   have hgW:=HE2.out.block.1
   have HG2:Hid (g<w2.heap.size):=HE2.out.lt
   have HNEH:Hid (w.heap.size≠g):=Nat.ne_of_lt (Nat.lt_of_lt_of_le HHW.out.lt hgW)
   go_wp2_with fail
   refine(HWS.out K hKL _).mono ?_
   rintro e W0 ⟨x,P,rfl,hOw,hPV,hb⟩
   have HOW:=hid hOw
   have HPV:=hid hPV
   have HE0:=hid (HE2.out.below hb)
   have HH0:=hid (HH2.out.below hb HH2.out.lt)
   have HB0:=hid (HB2.out.trans (hb.mono HB2.out.size))
   have HGL:Hid (g<W0.heap.size):=HE0.out.lt
   have HPB:=hid (HPOW.out K hKL)
   clear hOw hPV hb HE2 HB2 HH2 e0 e1 e2 hif hcr hke HDR
   have HPL:Hid (P.length=n^K):=by
    have h9:=congrArg List.length HPV.out
    rw[wyI_length,List.length_map] at h9
    exact h9
   obtain⟨N,hN⟩:∃N,n^K=N:=⟨_,rfl⟩
   have HNE:=hid hN
   rw[hN] at HPL HPV HPB
   have hN1:0<N:=by rw[←hN];exact Nat.pow_pos hn1
   have hN300:=HPB.out
   clear hN HPB
   obtain⟨gx,cx,d0,cd0,hxe,hgx0, -, -, -⟩:=HOW.out.atB (show 0<P.length by rw[HPL.out];exact hN1)
   rw[HPL.out] at hxe
   subst hxe
   obtain⟨bh,hbh⟩:∃f,h.behind tt=f:=⟨_,rfl⟩
   have HBH:=hid hbh
   clear hbh
   have HEZ:Hid (EqR W0 W.heap.size g n c1 fun j=>if j<0 then bh j else 0):=HE0.out.congr fun j _=>by rw[if_neg (Nat.not_lt_zero _)]
   clear HE0
   obtain⟨e0,e1,e2⟩:=HH0.out.cells
   go_wp2_with fail
   clear e0 e1 e2
   go_loopw [12] (fun sv wr=>∃s:Nat,s≤n∧sv=.int .i64 s∧Hid (EqR wr W.heap.size g n c1 fun j=>if j<s then bh j else 0)∧Hid (BtS W0 g wr)) (fun sv _=>n - (intOf sv).toNat)
   case atStart=>exact⟨0,Nat.zero_le _,rfl,HEZ,BtS.refl _ _⟩
   case round=>
    obtain⟨vt,hvn',rfl,HQ,HS⟩:=hrel
    clear HEZ
    obtain⟨e0,e1,e2⟩:=(HS.out.hbox HH0.out HNEH.out).cells
    by_cases hvn:vt<n
    ·have hvR:vt<R1.length:=by rw[HRL.out];exact hvn
     obtain⟨gb,ob,ds,cs,hbe,hgb,hcb,hfr⟩:=HROW.out vt hvR
     subst hbe
     have HFR:=hid hfr
     have HBW:Hid (∀u,BtS W0 g u→Below w.heap.size w u):=fun u hu=>hu.below (HAW.out.trans (HB0.out.mono HAW.out.size)) (Nat.le_trans HAW.out.size hgW)
     have HELF:Hid (∀u,BtS W0 g u→(u.cell? ⟨w.heap.size,0,none⟩=some (.slice a n ca)∧u.cell? ⟨w.heap.size,1,none⟩=some (.slice (some ⟨gb,ob,none⟩) n cb)∧u.cell? ⟨w.heap.size,2,none⟩=some (.slice c n cc))∧u.cell? ⟨gb,ob+vt,none⟩=some (.slice ds n cs)):=fun u hu=>⟨(hu.hbox HH0.out HNEH.out).cells,((HBW.out u hu).cell (p:=⟨gb,_,none⟩) hgb).trans hcb⟩
     obtain⟨FW,hFW⟩:∃f:Nat→Rat,f=fun i=>(h.from tt vt).lik (wyF n K i) K:=⟨_,rfl⟩
     have HFE:Hid (∀i,FW i=(h.from tt vt).lik (wyF n K i) K):=fun i=>by rw[hFW]
     have HFT:Hid (sumR FW N=bh vt):=by
      show _=_
      have h9:=HEND.out tt vt httL hvn
      rw[HKE.out,HNE.out,HBH.out] at h9
      rw[hFW]
      exact h9
     have HFM:Hid (∀i,Sm D (2*K) (FW i)):=fun i=>by
      have h9:=HLK.out tt vt i httL hvn
      rw[HKE.out] at h9
      rw[hFW]
      exact h9
     have HFS:Hid (∀i,qw (FW i)≤30010):=fun i=>HQW.out _ _ (HFM.out i) (by omega)
     have HFQ:Hid (∀i,i≤N→qw (sumR FW i)≤30010):=fun i hi=>by
      refine HQW.out _ _ (part_sm (D:=D) (k:=2*K) (K:=3*L) (N:=N) (fun k _=>HFM.out k) (by omega) ?_ i hi) (by omega)
      rw[HFT.out,←HBH.out]
      exact(HAH.out tt vt httL hvn).high
     obtain⟨RB,hRB⟩:∃f:Nat→Rat,(fun j=>if j<vt then bh j else 0)=f:=⟨_,rfl⟩
     have HRB:Hid (∀j,RB j=if j<vt then bh j else 0):=fun j=>by rw[←hRB]
     rw[hRB] at HQ
     have HWAY:Hid (∀(i:Nat) (dq:Option Addr) (cq:Nat) (u:World),BtS W0 g u→IntS u dq (iL (wyL n K i))→Calls Tryz.prog 35 #[.agg #[.slice ds n cs,.slice (some ⟨gb,ob,none⟩) n cb,.slice c n cc],.slice dq K cq,.slice dr K cr] u fun e w'=>e=.returned (frV (qF ((h.from tt vt).lik (wyF n K i) K)))∧Below u.heap.size u w'):=fun i dq cq u hu hi=>by
      have h9:=HWO.out tt vt i httL hvR ds dr dq cs cr cq u (HBW.out u hu) HFR.out HDV.out
      rw[HKE.out] at h9
      exact h9 hi
     clear hFW hRB HFM hfr hcb HROW
     go_upto_region 14 with fail
     clear e0 e1 e2
     replace HS:=hid (HS.out.step (Below.refl _ _).drew)
     replace HQ:=hid (HQ.out.below (Below.refl _ _).drew)
     refine wp_region_held_drew (S:=fun u=>(u.cell? ⟨w.heap.size,0,none⟩=some (.slice a n ca)∧u.cell? ⟨w.heap.size,1,none⟩=some (.slice (some ⟨gb,ob,none⟩) n cb)∧u.cell? ⟨w.heap.size,2,none⟩=some (.slice c n cc))∧u.cell? ⟨gb,ob+vt,none⟩=some (.slice ds n cs)) (by kernel_rfl) (HELF.out _ HS.out) (fun hSd=>?_)
     generalize wr.drew=u0 at *
     refine wpAnyH_take (i:=0) (oi:=_) (v:=.pointer (some ⟨w.heap.size,1,none⟩)) rfl (by kernel_rfl) (by kernel_rfl) (by kernel_rfl) (fun _ _ _ h=>h) (Or.inl ⟨by rfl,?_⟩) (by assumption) ?_
     ·intro u' hSu
      (try simp only[List.getElem_toArray,List.getElem_cons_zero])
      go_simp
     (try simp only[List.getElem_toArray,List.getElem_cons_zero])
     (try simp only[Act.put,List.setIfInBounds_toArray,List.set_cons_zero,List.set_cons_succ])
     refine wpAnyH_take (i:=1) (oi:=_) (v:=.slice (some ⟨gb,ob,none⟩) n cb) rfl (by kernel_rfl) (by kernel_rfl) (by kernel_rfl) (fun _ _ _ h=>h) (Or.inl ⟨by rfl,?_⟩) (by assumption) ?_
     ·intro u' hSu
      (try simp only[List.getElem_toArray,List.getElem_cons_zero,List.getElem_cons_succ])
      obtain⟨⟨s0,s1,s2⟩,s3⟩:=hSu
      go_simp
     (try simp only[List.getElem_toArray,List.getElem_cons_zero,List.getElem_cons_succ])
     (try simp only[Act.put,List.setIfInBounds_toArray,List.set_cons_zero,List.set_cons_succ])
     refine wpAnyH_take (i:=2) (oi:=_) (v:=.int .i64 (vt:Nat)) rfl (by kernel_rfl) (by kernel_rfl) (by kernel_rfl) (fun _ _ _ h=>h) (Or.inl ⟨by rfl,?_⟩) (by assumption) ?_
     ·intro u' hSu
      (try simp only[List.getElem_toArray,List.getElem_cons_zero,List.getElem_cons_succ])
      go_simp
     (try simp only[List.getElem_toArray,List.getElem_cons_zero,List.getElem_cons_succ])
     (try simp only[Act.put,List.setIfInBounds_toArray,List.set_cons_zero,List.set_cons_succ])
     refine wpAnyH_take (i:=3) (oi:=_) (v:=.pointer (some ⟨gb,ob+vt,none⟩)) rfl (by kernel_rfl) (by kernel_rfl) (by kernel_rfl) (fun _ _ _ h=>h) (Or.inl ⟨by rfl,?_⟩) (by assumption) ?_
     ·intro u' hSu
      (try simp only[List.getElem_toArray,List.getElem_cons_zero,List.getElem_cons_succ])
      go_simp
     (try simp only[List.getElem_toArray,List.getElem_cons_zero,List.getElem_cons_succ])
     (try simp only[Act.put,List.setIfInBounds_toArray,List.set_cons_zero,List.set_cons_succ])
     refine wpAnyH_take (i:=4) (oi:=_) (v:=.slice ds n cs) rfl (by kernel_rfl) (by kernel_rfl) (by kernel_rfl) (fun _ _ _ h=>h) (Or.inl ⟨by rfl,?_⟩) (by assumption) ?_
     ·intro u' hSu
      (try simp only[List.getElem_toArray,List.getElem_cons_zero,List.getElem_cons_succ])
      obtain⟨⟨s0,s1,s2⟩,s3⟩:=hSu
      go_simp
     (try simp only[List.getElem_toArray,List.getElem_cons_zero,List.getElem_cons_succ])
     (try simp only[Act.put,List.setIfInBounds_toArray,List.set_cons_zero,List.set_cons_succ])
     refine wpAnyH_take (i:=5) (oi:=_) (v:=.pointer (some ⟨w.heap.size,1,none⟩)) rfl (by kernel_rfl) (by kernel_rfl) (by kernel_rfl) (fun _ _ _ h=>h) (Or.inl ⟨by rfl,?_⟩) (by assumption) ?_
     ·intro u' hSu
      (try simp only[List.getElem_toArray,List.getElem_cons_zero,List.getElem_cons_succ])
      go_simp
     (try simp only[List.getElem_toArray,List.getElem_cons_zero,List.getElem_cons_succ])
     (try simp only[Act.put,List.setIfInBounds_toArray,List.set_cons_zero,List.set_cons_succ])
     refine wpAnyH_take (i:=6) (oi:=_) (v:=.slice (some ⟨gb,ob,none⟩) n cb) rfl (by kernel_rfl) (by kernel_rfl) (by kernel_rfl) (fun _ _ _ h=>h) (Or.inl ⟨by rfl,?_⟩) (by assumption) ?_
     ·intro u' hSu
      (try simp only[List.getElem_toArray,List.getElem_cons_zero,List.getElem_cons_succ])
      obtain⟨⟨s0,s1,s2⟩,s3⟩:=hSu
      go_simp
     (try simp only[List.getElem_toArray,List.getElem_cons_zero,List.getElem_cons_succ])
     (try simp only[Act.put,List.setIfInBounds_toArray,List.set_cons_zero,List.set_cons_succ])
     refine wpAnyH_take (i:=7) (oi:=_) (v:=.pointer (some ⟨w.heap.size,2,none⟩)) rfl (by kernel_rfl) (by kernel_rfl) (by kernel_rfl) (fun _ _ _ h=>h) (Or.inl ⟨by rfl,?_⟩) (by assumption) ?_
     ·intro u' hSu
      (try simp only[List.getElem_toArray,List.getElem_cons_zero,List.getElem_cons_succ])
      go_simp
     (try simp only[List.getElem_toArray,List.getElem_cons_zero,List.getElem_cons_succ])
     (try simp only[Act.put,List.setIfInBounds_toArray,List.set_cons_zero,List.set_cons_succ])
     refine wpAnyH_take (i:=8) (oi:=_) (v:=.slice c n cc) rfl (by kernel_rfl) (by kernel_rfl) (by kernel_rfl) (fun _ _ _ h=>h) (Or.inl ⟨by rfl,?_⟩) (by assumption) ?_
     ·intro u' hSu
      (try simp only[List.getElem_toArray,List.getElem_cons_zero,List.getElem_cons_succ])
      obtain⟨⟨s0,s1,s2⟩,s3⟩:=hSu
      go_simp
     (try simp only[List.getElem_toArray,List.getElem_cons_zero,List.getElem_cons_succ])
     (try simp only[Act.put,List.setIfInBounds_toArray,List.set_cons_zero,List.set_cons_succ])
     refine wpAnyH_take (i:=9) (oi:=_) (v:=.agg #[.slice ds n cs,.slice (some ⟨gb,ob,none⟩) n cb,.slice c n cc]) rfl (by kernel_rfl) (by kernel_rfl) (by kernel_rfl) (fun _ _ _ h=>h) (Or.inl ⟨by rfl,?_⟩) (by assumption) ?_
     ·intro u' hSu
      (try simp only[List.getElem_toArray,List.getElem_cons_zero,List.getElem_cons_succ])
      go_simp
     (try simp only[List.getElem_toArray,List.getElem_cons_zero,List.getElem_cons_succ])
     (try simp only[Act.put,List.setIfInBounds_toArray,List.set_cons_zero,List.set_cons_succ])
     refine wpAnyH_ready (rs:=[10]) (by kernel_rfl) (by simp) (AllReadyH.cons rfl ?_ (AllReadyH.nil))
     ·intro K' hK'
      (try simp only[List.getElem_toArray,List.getElem_cons_zero,List.getElem_cons_succ])
      go_simp
      have hbn:=(Below.refl u0.heap.size u0).alloc (Nat.le_refl _) (HC3 (.slice none 0 0) (.slice none 0 0) (.slice none 0 0))
      have HFX:=hid (HBox.new u0 (.slice none 0 0) (.slice none 0 0) (.slice none 0 0))
      have HGF:Hid (W0.heap.size≤u0.heap.size):=HS.out.size
      replace HS:=hid (HS.out.step hbn)
      replace HQ:=hid (HQ.out.below hbn)
      refine hK'.out _ _ (HELF.out _ HS.out) (fun hSe=>?_)
      clear hK' K' hSd hbn
      have hSd:=hSe
      clear hSe
      obtain⟨gh,hghe⟩:∃x,u0.heap.size=x:=⟨_,rfl⟩
      obtain⟨u1,hV⟩:∃x,u0.alloc (HC3 (.slice none 0 0) (.slice none 0 0) (.slice none 0 0))=x:=⟨_,rfl⟩
      rw[hV] at HFX HS HQ hSd
      rw[hghe] at HFX HGF
      simp only[hV]
      simp only[hghe]
      clear hghe hV
      (try simp only[List.getElem_toArray,List.getElem_cons_zero,List.getElem_cons_succ])
      (try simp only[Act.put,List.setIfInBounds_toArray,List.set_cons_zero,List.set_cons_succ])
      obtain⟨k0,k1,k2⟩:=HFX.out.cells
      have f0:=HFX.out.fzz 0
      have f1:=HFX.out.fzz 1
      have f2:=HFX.out.fzz 2
      refine wpAnyH_ready (rs:=[11]) (by kernel_rfl) (by simp) (AllReadyH.cons rfl ?_ (AllReadyH.nil))
      ·intro K' hK'
       (try simp only[List.getElem_toArray,List.getElem_cons_zero,List.getElem_cons_succ])
       go_simp
       have HFN:=hid (HFX.out.pt3 (.slice ds n cs) (.slice (some ⟨gb,ob,none⟩) n cb) (.slice c n cc))
       have HQN:=hid (HQ.out.apart (Nat.ne_of_lt (Nat.lt_of_lt_of_le HGL.out HGF.out)) (.slice ds n cs) (.slice (some ⟨gb,ob,none⟩) n cb) (.slice c n cc))
       have HSN:=hid (HS.out.put3 gh (.slice ds n cs) (.slice (some ⟨gb,ob,none⟩) n cb) (.slice c n cc) (.inr HGF.out))
       refine hK'.out _ _ (HELF.out _ HSN.out) (fun _=>wpAnyH_done (by kernel_rfl) ?_ _)
       clear hK' K' hSd k0 k1 k2 f0 f1 f2 HS HFX HQ
       generalize (((u1.setCell ⟨gh,0,none⟩ (.slice ds n cs)).setCell ⟨gh,1,none⟩ (.slice (some ⟨gb,ob,none⟩) n cb)).setCell ⟨gh,2,none⟩ (.slice c n cc))=V0 at *
       have HHG:Hid (gh≠g):=Ne.symm (Nat.ne_of_lt (Nat.lt_of_lt_of_le HGL.out HGF.out))
       have HGL:Hid (g<V0.heap.size):=HQN.out.lt
       have HQZ:Hid (EqR V0 W.heap.size g n c1 fun j=>if j=vt then sumR FW 0 else RB j):=HQN.out.congr fun j _=>by
        by_cases e:j=vt
        ·rw[if_pos e,HRB.out,if_neg (by omega)]
         rfl
        ·rw[if_neg e]
       clear HQN HGF
       go_wp2_with fail
       go_loopw [14] (fun iv wr=>∃i:Nat,i≤N∧iv=.int .i64 i∧Hid (EqR wr W.heap.size g n c1 fun j=>if j=vt then sumR FW i else RB j)∧Hid (BtS V0 g wr)) (fun iv _=>N - (intOf iv).toNat)
       case atStart=>exact⟨0,Nat.zero_le _,rfl,HQZ,BtS.refl _ _⟩
       case round=>
        obtain⟨i,hi,rfl,HQ,HS⟩:=hrel
        clear HQZ
        by_cases hlti:i<N
        ·have hiP:i<P.length:=by rw[HPL.out];exact hlti
         obtain⟨gx',cx',dq,cq,hxe,hgx,hgxB',c0,hints⟩:=HOW.out.atB hiP
         rw[HPL.out] at hxe
         cases hxe
         have HPI:Hid (P[i].2=iL (wyL n K i)):=by
          have h9:(P.map (·.2))[i]? =(wyI n K N)[i]?:=by rw[HPV.out]
          rw[List.getElem?_map,List.getElem?_eq_getElem hiP] at h9
          simp[wyI,hlti] at h9
          exact h9
         have HLT:Hid (P[i].2.length=K):=by show _=_;rw[HPI.out,iL_length,wyL_length]
         rw[HLT.out] at c0
         have HINT:Hid (∀u,BtS V0 g u→IntS u dq (iL (wyL n K i))):=fun u hu=>by
          rw[←HPI.out]
          intro k hk
          obtain⟨g',o,f1,f2,f3,f4⟩:=hints k hk
          have h8:=HSN.out.trans hu
          exact⟨g',o,f1,Nat.lt_of_lt_of_le f2 h8.size,(h8.cell (p:=⟨g',_,none⟩) f2 (by show g'≠g;have:=HG2.out;omega)).trans f4⟩
         obtain⟨lk,hlk⟩:∃q,(h.from tt vt).lik (wyF n K i) K=q:=⟨_,rfl⟩
         obtain⟨rq,hrq⟩:∃q,sumR FW i=q:=⟨_,rfl⟩
         have HWR:Hid (∀j,(if j=vt then rq+lk else if j=vt then rq else RB j)=if j=vt then sumR FW (i+1) else RB j):=fun j=>by
          by_cases e:j=vt
          ·rw[if_pos e,if_pos e]
           show _=sumR FW i+FW i
           rw[hrq,HFE.out,hlk]
          ·rw[if_neg e,if_neg e,if_neg e]
         have hql:qw lk≤30010:=by rw[←hlk,←HFE.out];exact HFS.out i
         have hqr:qw rq≤30010:=by rw[←hrq];exact HFQ.out i hi
         have HELD:Hid (∀u,BtS V0 g u→(u.cell? ⟨gh,0,none⟩=some (.slice ds n cs)∧u.cell? ⟨gh,1,none⟩=some (.slice (some ⟨gb,ob,none⟩) n cb)∧u.cell? ⟨gh,2,none⟩=some (.slice c n cc))∧u.cell? ⟨gx,i,none⟩=some (.slice dq K cq)):=fun u hu=>⟨(hu.hbox HFN.out HHG.out).cells,((HSN.out.trans hu).cell (p:=⟨gx,_,none⟩) hgx (by show gx≠g;have:=HG2.out;omega)).trans c0⟩
         have HWY:Hid (∀u,BtS V0 g u→Calls Tryz.prog 35 #[.agg #[.slice ds n cs,.slice (some ⟨gb,ob,none⟩) n cb,.slice c n cc],.slice dq K cq,.slice dr K cr] u fun e w'=>e=.returned (.agg #[.bool (qF lk).1,.string (qF lk).2.1,.string (qF lk).2.2])∧Below u.heap.size u w'):=fun u hu=>by
          have h9:=HWAY.out i dq cq u (HSN.out.trans hu) (HINT.out u hu)
          rw[hlk] at h9
          exact h9
         have HAD:Hid (∀U:World,Calls Tryz.prog 36 #[.agg #[.bool (qF rq).1,.string (qF rq).2.1,.string (qF rq).2.2],.agg #[.bool (qF lk).1,.string (qF lk).2.1,.string (qF lk).2.2]] U fun e w'=>e=.returned (.agg #[.bool (qF (rq+lk)).1,.string (qF (rq+lk)).2.1,.string (qF (rq+lk)).2.2])∧Below U.heap.size U w'):=fun U=>by
          have h8:=rAddF_any (sgn rq) (sgn lk) (nu rq) (de rq) (nu lk) (de lk) U (by rw[own_size];omega) (by rw[own_size];omega)
          rw[val_own,val_own] at h8
          exact h8
         rw[hrq] at HQ
         have HRC:Hid (∀u,EqR u W.heap.size g n c1 (fun j=>if j=vt then rq else RB j)→(u.cell? ⟨g,vt*3,none⟩=some (.bool (qF rq).1)∧u.cell? ⟨g,vt*3+1,none⟩=some (.string (qF rq).2.1)∧u.cell? ⟨g,vt*3+2,none⟩=some (.string (qF rq).2.2))):=fun u hu=>by
          have h9:=hu.cells hvn
          rw[if_pos rfl] at h9
          exact h9
         clear c0 hints HINT HPI HLT hlk hrq hql hqr
         have HSV:=HSN
         have HBV:=HFN
         clear HSN HFN
         go_upto_region 18 with fail
         replace HS:=hid (HS.out.step (Below.refl _ _).drew)
         replace HQ:=hid (HQ.out.below (Below.refl _ _).drew)
         refine wp_region_held_drew (S:=fun u=>(u.cell? ⟨gh,0,none⟩=some (.slice ds n cs)∧u.cell? ⟨gh,1,none⟩=some (.slice (some ⟨gb,ob,none⟩) n cb)∧u.cell? ⟨gh,2,none⟩=some (.slice c n cc))∧u.cell? ⟨gx,i,none⟩=some (.slice dq K cq)) (by kernel_rfl) (HELD.out _ HS.out) (fun hSd=>?_)
         generalize wr.drew=u0 at *
         refine wpAnyH_take (i:=0) (oi:=_) (v:=.agg #[.slice ds n cs,.slice (some ⟨gb,ob,none⟩) n cb,.slice c n cc]) rfl (by kernel_rfl) (by kernel_rfl) (by kernel_rfl) (fun _ _ _ h=>h) (Or.inl ⟨by rfl,?_⟩) (by assumption) ?_
         ·intro u' hSu
          (try simp only[List.getElem_toArray,List.getElem_cons_zero])
          obtain⟨⟨s0,s1,s2⟩,s3⟩:=hSu
          go_simp
         (try simp only[List.getElem_toArray,List.getElem_cons_zero])
         (try simp only[Act.put,List.setIfInBounds_toArray,List.set_cons_zero,List.set_cons_succ])
         refine wpAnyH_take (i:=1) (oi:=_) (v:=.slice (some ⟨gx,0,none⟩) N cx) rfl (by kernel_rfl) (by kernel_rfl) (by kernel_rfl) (fun _ _ _ h=>h) (Or.inl ⟨by rfl,?_⟩) (by assumption) ?_
         ·intro u' hSu
          (try simp only[List.getElem_toArray,List.getElem_cons_zero,List.getElem_cons_succ])
          go_simp
         (try simp only[List.getElem_toArray,List.getElem_cons_zero,List.getElem_cons_succ])
         (try simp only[Act.put,List.setIfInBounds_toArray,List.set_cons_zero,List.set_cons_succ])
         refine wpAnyH_take (i:=2) (oi:=_) (v:=.int .i64 (i:Nat)) rfl (by kernel_rfl) (by kernel_rfl) (by kernel_rfl) (fun _ _ _ h=>h) (Or.inl ⟨by rfl,?_⟩) (by assumption) ?_
         ·intro u' hSu
          (try simp only[List.getElem_toArray,List.getElem_cons_zero,List.getElem_cons_succ])
          go_simp
         (try simp only[List.getElem_toArray,List.getElem_cons_zero,List.getElem_cons_succ])
         (try simp only[Act.put,List.setIfInBounds_toArray,List.set_cons_zero,List.set_cons_succ])
         refine wpAnyH_take (i:=3) (oi:=_) (v:=.pointer (some ⟨gx,i,none⟩)) rfl (by kernel_rfl) (by kernel_rfl) (by kernel_rfl) (fun _ _ _ h=>h) (Or.inl ⟨by rfl,?_⟩) (by assumption) ?_
         ·intro u' hSu
          (try simp only[List.getElem_toArray,List.getElem_cons_zero,List.getElem_cons_succ])
          go_simp
         (try simp only[List.getElem_toArray,List.getElem_cons_zero,List.getElem_cons_succ])
         (try simp only[Act.put,List.setIfInBounds_toArray,List.set_cons_zero,List.set_cons_succ])
         refine wpAnyH_take (i:=4) (oi:=_) (v:=.slice dq K cq) rfl (by kernel_rfl) (by kernel_rfl) (by kernel_rfl) (fun _ _ _ h=>h) (Or.inl ⟨by rfl,?_⟩) (by assumption) ?_
         ·intro u' hSu
          (try simp only[List.getElem_toArray,List.getElem_cons_zero,List.getElem_cons_succ])
          obtain⟨⟨s0,s1,s2⟩,s3⟩:=hSu
          go_simp
         (try simp only[List.getElem_toArray,List.getElem_cons_zero,List.getElem_cons_succ])
         (try simp only[Act.put,List.setIfInBounds_toArray,List.set_cons_zero,List.set_cons_succ])
         refine wpAnyH_take (i:=5) (oi:=_) (v:=.slice dr K cr) rfl (by kernel_rfl) (by kernel_rfl) (by kernel_rfl) (fun _ _ _ h=>h) (Or.inl ⟨by rfl,?_⟩) (by assumption) ?_
         ·intro u' hSu
          (try simp only[List.getElem_toArray,List.getElem_cons_zero,List.getElem_cons_succ])
          go_simp
         (try simp only[List.getElem_toArray,List.getElem_cons_zero,List.getElem_cons_succ])
         (try simp only[Act.put,List.setIfInBounds_toArray,List.set_cons_zero,List.set_cons_succ])
         refine wpAnyH_ready (rs:=[6,7]) (by kernel_rfl) (by simp) (AllReadyH.cons rfl ?_ (AllReadyH.cons rfl ?_ (AllReadyH.nil)))
         ·intro K' hK'
          (try simp only[List.getElem_toArray,List.getElem_cons_zero,List.getElem_cons_succ])
          go_simp
          refine(HWY.out _ HS.out).mono ?_
          rintro e u1 ⟨rfl,hb⟩
          replace HS:=hid (HS.out.step hb)
          replace HQ:=hid (HQ.out.below hb)
          refine hK'.out _ _ (HELD.out _ HS.out) (fun hSe=>?_)
          clear hK' K' hSd
          have hSd:=hSe
          clear hSe hb
          (try simp only[List.getElem_toArray,List.getElem_cons_zero,List.getElem_cons_succ])
          (try simp only[Act.put,List.setIfInBounds_toArray,List.set_cons_zero,List.set_cons_succ])
          refine wpAnyH_ready (rs:=[7]) (by kernel_rfl) (by simp) (AllReadyH.cons rfl ?_ (AllReadyH.nil))
          ·intro K' hK'
           (try simp only[List.getElem_toArray,List.getElem_cons_zero,List.getElem_cons_succ])
           go_simp
           have hbn:=(Below.refl u1.heap.size u1).alloc (Nat.le_refl _) (FC false ⟨#[]⟩ ⟨#[]⟩)
           have HFX:=hid (Box.new u1 false ⟨#[]⟩ ⟨#[]⟩)
           have HGF:Hid (V0.heap.size≤u1.heap.size):=HS.out.size
           replace HS:=hid (HS.out.step hbn)
           replace HQ:=hid (HQ.out.below hbn)
           refine hK'.out _ _ (HELD.out _ HS.out) (fun hSe=>?_)
           clear hK' K' hSd hbn
           have hSd:=hSe
           clear hSe
           obtain⟨gf,hgfe⟩:∃x,u1.heap.size=x:=⟨_,rfl⟩
           obtain⟨u2,hV⟩:∃x,u1.alloc (FC false ⟨#[]⟩ ⟨#[]⟩)=x:=⟨_,rfl⟩
           rw[hV] at HFX HS HQ hSd
           rw[hgfe] at HFX HGF
           simp only[hV]
           simp only[hgfe]
           clear hgfe hV
           (try simp only[List.getElem_toArray,List.getElem_cons_zero,List.getElem_cons_succ])
           (try simp only[Act.put,List.setIfInBounds_toArray,List.set_cons_zero,List.set_cons_succ])
           obtain⟨k0,k1,k2,f0,f1,f2⟩:=HFX.out.facts
           refine wpAnyH_ready (rs:=[8]) (by kernel_rfl) (by simp) (AllReadyH.cons rfl ?_ (AllReadyH.nil))
           ·intro K' hK'
            (try simp only[List.getElem_toArray,List.getElem_cons_zero,List.getElem_cons_succ])
            go_simp
            have HFN:=hid (HFX.out.put (qF lk).1 (qF lk).2.1 (qF lk).2.2)
            have HQN:=hid (HQ.out.apart (Nat.ne_of_lt (Nat.lt_of_lt_of_le HGL.out HGF.out)) (.bool (qF lk).1) (.string (qF lk).2.1) (.string (qF lk).2.2))
            have HSN:=hid (HS.out.put3 gf (.bool (qF lk).1) (.string (qF lk).2.1) (.string (qF lk).2.2) (.inr HGF.out))
            refine hK'.out _ _ (HELD.out _ HSN.out) (fun _=>wpAnyH_done (by kernel_rfl) ?_ _)
            clear hK' K' hSd k0 k1 k2 f0 f1 f2 HS HFX HQ
            generalize (((u2.setCell ⟨gf,0,none⟩ (.bool (qF lk).1)).setCell ⟨gf,1,none⟩ (.string (qF lk).2.1)).setCell ⟨gf,2,none⟩ (.string (qF lk).2.2))=Wb at *
            have HELD2:Hid (∀u,Box u gf (qF lk).1 (qF lk).2.1 (qF lk).2.2→(u.cell? ⟨gf,0,none⟩=some (.bool (qF lk).1)∧u.cell? ⟨gf,1,none⟩=some (.string (qF lk).2.1)∧u.cell? ⟨gf,2,none⟩=some (.string (qF lk).2.2))):=fun u hx=>⟨hx.c0,hx.c1,hx.c2⟩
            go_upto_region 19 with fail
            replace HSN:=hid (HSN.out.step (Below.refl _ _).drew)
            replace HQN:=hid (HQN.out.below (Below.refl _ _).drew)
            replace HFN:=hid HFN.out.drew
            refine wp_region_until 9 (fun (b:Bool) (u:World)=>(u.cell? ⟨gf,0,none⟩=some (.bool (qF lk).1)∧u.cell? ⟨gf,1,none⟩=some (.string (qF lk).2.1)∧u.cell? ⟨gf,2,none⟩=some (.string (qF lk).2.2))∧(b=false→(u.cell? ⟨g,vt*3,none⟩=some (.bool (qF rq).1)∧u.cell? ⟨g,vt*3+1,none⟩=some (.string (qF rq).2.1)∧u.cell? ⟨g,vt*3+2,none⟩=some (.string (qF rq).2.2)))) (by kernel_rfl) ⟨HELD2.out _ HFN.out,fun _=>HRC.out _ HQN.out⟩ (fun hSd=>?_)
            generalize Wb.drew=v0 at *
            refine wpU_take (i:=0) (oi:=_) (v:=.slice (some ⟨g,0,none⟩) n c1) (b:=false) rfl (by kernel_rfl) (by kernel_rfl) (by kernel_rfl) (by decide) (fun _ _ _ h=>h) (Or.inl ⟨by rfl,?_⟩) (by kernel_rfl) (by assumption) ?_
            ·intro u' hSu
             (try simp only[List.getElem_toArray,List.getElem_cons_zero])
             go_simp
            (try simp only[List.getElem_toArray,List.getElem_cons_zero])
            (try simp only[Act.put,List.setIfInBounds_toArray,List.set_cons_zero,List.set_cons_succ])
            refine wpU_take (i:=1) (oi:=_) (v:=.int .i64 (vt:Nat)) (b:=false) rfl (by kernel_rfl) (by kernel_rfl) (by kernel_rfl) (by decide) (fun _ _ _ h=>h) (Or.inl ⟨by rfl,?_⟩) (by kernel_rfl) (by assumption) ?_
            ·intro u' hSu
             (try simp only[List.getElem_toArray,List.getElem_cons_zero,List.getElem_cons_succ])
             go_simp
            (try simp only[List.getElem_toArray,List.getElem_cons_zero,List.getElem_cons_succ])
            (try simp only[Act.put,List.setIfInBounds_toArray,List.set_cons_zero,List.set_cons_succ])
            refine wpU_take (i:=2) (oi:=_) (v:=.slice (some ⟨g,0,none⟩) n c1) (b:=false) rfl (by kernel_rfl) (by kernel_rfl) (by kernel_rfl) (by decide) (fun _ _ _ h=>h) (Or.inl ⟨by rfl,?_⟩) (by kernel_rfl) (by assumption) ?_
            ·intro u' hSu
             (try simp only[List.getElem_toArray,List.getElem_cons_zero,List.getElem_cons_succ])
             go_simp
            (try simp only[List.getElem_toArray,List.getElem_cons_zero,List.getElem_cons_succ])
            (try simp only[Act.put,List.setIfInBounds_toArray,List.set_cons_zero,List.set_cons_succ])
            refine wpU_take (i:=3) (oi:=_) (v:=.int .i64 (vt:Nat)) (b:=false) rfl (by kernel_rfl) (by kernel_rfl) (by kernel_rfl) (by decide) (fun _ _ _ h=>h) (Or.inl ⟨by rfl,?_⟩) (by kernel_rfl) (by assumption) ?_
            ·intro u' hSu
             (try simp only[List.getElem_toArray,List.getElem_cons_zero,List.getElem_cons_succ])
             go_simp
            (try simp only[List.getElem_toArray,List.getElem_cons_zero,List.getElem_cons_succ])
            (try simp only[Act.put,List.setIfInBounds_toArray,List.set_cons_zero,List.set_cons_succ])
            refine wpU_take (i:=4) (oi:=_) (v:=.pointer (some ⟨g,vt*3,none⟩)) (b:=false) rfl (by kernel_rfl) (by kernel_rfl) (by kernel_rfl) (by decide) (fun _ _ _ h=>h) (Or.inl ⟨by rfl,?_⟩) (by kernel_rfl) (by assumption) ?_
            ·intro u' hSu
             (try simp only[List.getElem_toArray,List.getElem_cons_zero,List.getElem_cons_succ])
             go_simp
            (try simp only[List.getElem_toArray,List.getElem_cons_zero,List.getElem_cons_succ])
            (try simp only[Act.put,List.setIfInBounds_toArray,List.set_cons_zero,List.set_cons_succ])
            refine wpU_ahead (i:=5) (oi:=_) (v:=.agg #[.bool (qF rq).1,.string (qF rq).2.1,.string (qF rq).2.2]) rfl (by kernel_rfl) (by kernel_rfl) (by kernel_rfl) (by decide) rfl (by kernel_rfl) (fun _ _ _ h=>h) (Or.inl ⟨by rfl,?_⟩) (by kernel_rfl) (by assumption) ?_
            ·intro u' hSu
             (try simp only[List.getElem_toArray,List.getElem_cons_zero,List.getElem_cons_succ])
             obtain⟨_,s5⟩:=hSu
             obtain⟨s6,s7,s8⟩:=s5 rfl
             go_simp
            (try simp only[List.getElem_toArray,List.getElem_cons_zero,List.getElem_cons_succ])
            (try simp only[Act.put,List.setIfInBounds_toArray,List.set_cons_zero,List.set_cons_succ])
            refine wpU_take (i:=6) (oi:=_) (v:=.agg #[.bool (qF lk).1,.string (qF lk).2.1,.string (qF lk).2.2]) (b:=false) rfl (by kernel_rfl) (by kernel_rfl) (by kernel_rfl) (by decide) (fun _ _ _ h=>h) (Or.inl ⟨by rfl,?_⟩) (by kernel_rfl) (by assumption) ?_
            ·intro u' hSu
             (try simp only[List.getElem_toArray,List.getElem_cons_zero,List.getElem_cons_succ])
             obtain⟨_,⟨s0,s1,s2⟩,_⟩:=hSu
             go_simp
            (try simp only[List.getElem_toArray,List.getElem_cons_zero,List.getElem_cons_succ])
            (try simp only[Act.put,List.setIfInBounds_toArray,List.set_cons_zero,List.set_cons_succ])
            refine wpU_ready (rs:=[7]) (by kernel_rfl) (by simp) (AllU.cons (b:=false) rfl (by kernel_rfl) ?_ (AllU.nil))
            ·intro K' hK'
             (try simp only[List.getElem_toArray,List.getElem_cons_zero,List.getElem_cons_succ])
             go_simp
             refine(HAD.out _).mono ?_
             rintro e u3 ⟨rfl,hb⟩
             replace HSN:=hid (HSN.out.step hb)
             replace HQN:=hid (HQN.out.below hb)
             replace HFN:=hid (HFN.out.below hb HFN.out.lt)
             refine hK'.out _ _ ⟨HELD2.out _ HFN.out,fun _=>HRC.out _ HQN.out⟩ (fun hSe=>?_)
             clear hK' K' hSd
             have hSd:=hSe
             clear hSe
             clear hb
             (try simp only[List.getElem_toArray,List.getElem_cons_zero,List.getElem_cons_succ])
             (try simp only[Act.put,List.setIfInBounds_toArray,List.set_cons_zero,List.set_cons_succ])
             refine wpU_take (i:=8) (oi:=_) (v:=.pointer (some ⟨g,vt*3,none⟩)) (b:=false) rfl (by kernel_rfl) (by kernel_rfl) (by kernel_rfl) (by decide) (fun _ _ _ h=>h) (Or.inl ⟨by rfl,?_⟩) (by kernel_rfl) (by assumption) ?_
             ·intro u' hSu
              (try simp only[List.getElem_toArray,List.getElem_cons_zero,List.getElem_cons_succ])
              go_simp
             (try simp only[List.getElem_toArray,List.getElem_cons_zero,List.getElem_cons_succ])
             (try simp only[Act.put,List.setIfInBounds_toArray,List.set_cons_zero,List.set_cons_succ])
             obtain⟨q0,q1,q2⟩:=HRC.out _ HQN.out
             have q3:=HQN.out.fz (vt*3)
             have q4:=HQN.out.fz (vt*3+1)
             have q5:=HQN.out.fz (vt*3+2)
             refine wpU_ready (rs:=[9]) (by kernel_rfl) (by simp) (AllU.cons (b:=true) rfl (by kernel_rfl) ?_ (AllU.nil))
             ·intro K' hK'
              (try simp only[List.getElem_toArray,List.getElem_cons_zero,List.getElem_cons_succ])
              go_simp
              obtain⟨hQ1,hQg⟩:=HQN.out.put vt (rq+lk)
              have HQM:=hid (hQ1.congr fun j _=>HWR.out j)
              have HSM:=hid (HSN.out.grown hQg)
              have HFM:Hid (Box (((u3.setCell ⟨g,vt*3,none⟩ (.bool (qF (rq+lk)).1)).setCell ⟨g,vt*3+1,none⟩ (.string (qF (rq+lk)).2.1)).setCell ⟨g,vt*3+2,none⟩ (.string (qF (rq+lk)).2.2)) gf (qF lk).1 (qF lk).2.1 (qF lk).2.2):=((HFN.out.far (Ne.symm (Nat.ne_of_lt (Nat.lt_of_lt_of_le HGL.out HGF.out))) _).far (Ne.symm (Nat.ne_of_lt (Nat.lt_of_lt_of_le HGL.out HGF.out))) _).far (Ne.symm (Nat.ne_of_lt (Nat.lt_of_lt_of_le HGL.out HGF.out))) _
              refine hK'.out _ _ ⟨HELD2.out _ HFM.out,fun e=>by cases e⟩ (fun _=>wpU_done (by kernel_rfl) ?_ _)
              clear hK' K' hSd q0 q1 q2 q3 q4 q5 HQN HSN HFN hQ1 hQg HFM
              go_wp2
              go_roundw
              case rel=>exact⟨i+1,by omega,by go_num,HQM,HSM⟩
              case measure=>simp[intOf];omega
         ·intro K' hK'
          (try simp only[List.getElem_toArray,List.getElem_cons_zero,List.getElem_cons_succ])
          go_simp
          have hbn:=(Below.refl u0.heap.size u0).alloc (Nat.le_refl _) (FC false ⟨#[]⟩ ⟨#[]⟩)
          have HFX:=hid (Box.new u0 false ⟨#[]⟩ ⟨#[]⟩)
          have HGF:Hid (V0.heap.size≤u0.heap.size):=HS.out.size
          replace HS:=hid (HS.out.step hbn)
          replace HQ:=hid (HQ.out.below hbn)
          refine hK'.out _ _ (HELD.out _ HS.out) (fun hSe=>?_)
          clear hK' K' hSd hbn
          have hSd:=hSe
          clear hSe
          obtain⟨gf,hgfe⟩:∃x,u0.heap.size=x:=⟨_,rfl⟩
          obtain⟨u1,hV⟩:∃x,u0.alloc (FC false ⟨#[]⟩ ⟨#[]⟩)=x:=⟨_,rfl⟩
          rw[hV] at HFX HS HQ hSd
          rw[hgfe] at HFX HGF
          simp only[hV]
          simp only[hgfe]
          clear hgfe hV
          (try simp only[List.getElem_toArray,List.getElem_cons_zero,List.getElem_cons_succ])
          (try simp only[Act.put,List.setIfInBounds_toArray,List.set_cons_zero,List.set_cons_succ])
          refine wpAnyH_ready (rs:=[6]) (by kernel_rfl) (by simp) (AllReadyH.cons rfl ?_ (AllReadyH.nil))
          ·intro K' hK'
           (try simp only[List.getElem_toArray,List.getElem_cons_zero,List.getElem_cons_succ])
           go_simp
           refine(HWY.out _ HS.out).mono ?_
           rintro e u2 ⟨rfl,hb⟩
           replace HFX:=hid (HFX.out.below hb HFX.out.lt)
           replace HS:=hid (HS.out.step hb)
           replace HQ:=hid (HQ.out.below hb)
           refine hK'.out _ _ (HELD.out _ HS.out) (fun hSe=>?_)
           clear hK' K' hSd
           have hSd:=hSe
           clear hSe hb
           (try simp only[List.getElem_toArray,List.getElem_cons_zero,List.getElem_cons_succ])
           (try simp only[Act.put,List.setIfInBounds_toArray,List.set_cons_zero,List.set_cons_succ])
           obtain⟨k0,k1,k2,f0,f1,f2⟩:=HFX.out.facts
           refine wpAnyH_ready (rs:=[8]) (by kernel_rfl) (by simp) (AllReadyH.cons rfl ?_ (AllReadyH.nil))
           ·intro K' hK'
            (try simp only[List.getElem_toArray,List.getElem_cons_zero,List.getElem_cons_succ])
            go_simp
            have HFN:=hid (HFX.out.put (qF lk).1 (qF lk).2.1 (qF lk).2.2)
            have HQN:=hid (HQ.out.apart (Nat.ne_of_lt (Nat.lt_of_lt_of_le HGL.out HGF.out)) (.bool (qF lk).1) (.string (qF lk).2.1) (.string (qF lk).2.2))
            have HSN:=hid (HS.out.put3 gf (.bool (qF lk).1) (.string (qF lk).2.1) (.string (qF lk).2.2) (.inr HGF.out))
            refine hK'.out _ _ (HELD.out _ HSN.out) (fun _=>wpAnyH_done (by kernel_rfl) ?_ _)
            clear hK' K' hSd k0 k1 k2 f0 f1 f2 HS HFX HQ
            generalize (((u2.setCell ⟨gf,0,none⟩ (.bool (qF lk).1)).setCell ⟨gf,1,none⟩ (.string (qF lk).2.1)).setCell ⟨gf,2,none⟩ (.string (qF lk).2.2))=Wb at *
            have HELD2:Hid (∀u,Box u gf (qF lk).1 (qF lk).2.1 (qF lk).2.2→(u.cell? ⟨gf,0,none⟩=some (.bool (qF lk).1)∧u.cell? ⟨gf,1,none⟩=some (.string (qF lk).2.1)∧u.cell? ⟨gf,2,none⟩=some (.string (qF lk).2.2))):=fun u hx=>⟨hx.c0,hx.c1,hx.c2⟩
            go_upto_region 19 with fail
            replace HSN:=hid (HSN.out.step (Below.refl _ _).drew)
            replace HQN:=hid (HQN.out.below (Below.refl _ _).drew)
            replace HFN:=hid HFN.out.drew
            refine wp_region_until 9 (fun (b:Bool) (u:World)=>(u.cell? ⟨gf,0,none⟩=some (.bool (qF lk).1)∧u.cell? ⟨gf,1,none⟩=some (.string (qF lk).2.1)∧u.cell? ⟨gf,2,none⟩=some (.string (qF lk).2.2))∧(b=false→(u.cell? ⟨g,vt*3,none⟩=some (.bool (qF rq).1)∧u.cell? ⟨g,vt*3+1,none⟩=some (.string (qF rq).2.1)∧u.cell? ⟨g,vt*3+2,none⟩=some (.string (qF rq).2.2)))) (by kernel_rfl) ⟨HELD2.out _ HFN.out,fun _=>HRC.out _ HQN.out⟩ (fun hSd=>?_)
            generalize Wb.drew=v0 at *
            refine wpU_take (i:=0) (oi:=_) (v:=.slice (some ⟨g,0,none⟩) n c1) (b:=false) rfl (by kernel_rfl) (by kernel_rfl) (by kernel_rfl) (by decide) (fun _ _ _ h=>h) (Or.inl ⟨by rfl,?_⟩) (by kernel_rfl) (by assumption) ?_
            ·intro u' hSu
             (try simp only[List.getElem_toArray,List.getElem_cons_zero])
             go_simp
            (try simp only[List.getElem_toArray,List.getElem_cons_zero])
            (try simp only[Act.put,List.setIfInBounds_toArray,List.set_cons_zero,List.set_cons_succ])
            refine wpU_take (i:=1) (oi:=_) (v:=.int .i64 (vt:Nat)) (b:=false) rfl (by kernel_rfl) (by kernel_rfl) (by kernel_rfl) (by decide) (fun _ _ _ h=>h) (Or.inl ⟨by rfl,?_⟩) (by kernel_rfl) (by assumption) ?_
            ·intro u' hSu
             (try simp only[List.getElem_toArray,List.getElem_cons_zero,List.getElem_cons_succ])
             go_simp
            (try simp only[List.getElem_toArray,List.getElem_cons_zero,List.getElem_cons_succ])
            (try simp only[Act.put,List.setIfInBounds_toArray,List.set_cons_zero,List.set_cons_succ])
            refine wpU_take (i:=2) (oi:=_) (v:=.slice (some ⟨g,0,none⟩) n c1) (b:=false) rfl (by kernel_rfl) (by kernel_rfl) (by kernel_rfl) (by decide) (fun _ _ _ h=>h) (Or.inl ⟨by rfl,?_⟩) (by kernel_rfl) (by assumption) ?_
            ·intro u' hSu
             (try simp only[List.getElem_toArray,List.getElem_cons_zero,List.getElem_cons_succ])
             go_simp
            (try simp only[List.getElem_toArray,List.getElem_cons_zero,List.getElem_cons_succ])
            (try simp only[Act.put,List.setIfInBounds_toArray,List.set_cons_zero,List.set_cons_succ])
            refine wpU_take (i:=3) (oi:=_) (v:=.int .i64 (vt:Nat)) (b:=false) rfl (by kernel_rfl) (by kernel_rfl) (by kernel_rfl) (by decide) (fun _ _ _ h=>h) (Or.inl ⟨by rfl,?_⟩) (by kernel_rfl) (by assumption) ?_
            ·intro u' hSu
             (try simp only[List.getElem_toArray,List.getElem_cons_zero,List.getElem_cons_succ])
             go_simp
            (try simp only[List.getElem_toArray,List.getElem_cons_zero,List.getElem_cons_succ])
            (try simp only[Act.put,List.setIfInBounds_toArray,List.set_cons_zero,List.set_cons_succ])
            refine wpU_take (i:=4) (oi:=_) (v:=.pointer (some ⟨g,vt*3,none⟩)) (b:=false) rfl (by kernel_rfl) (by kernel_rfl) (by kernel_rfl) (by decide) (fun _ _ _ h=>h) (Or.inl ⟨by rfl,?_⟩) (by kernel_rfl) (by assumption) ?_
            ·intro u' hSu
             (try simp only[List.getElem_toArray,List.getElem_cons_zero,List.getElem_cons_succ])
             go_simp
            (try simp only[List.getElem_toArray,List.getElem_cons_zero,List.getElem_cons_succ])
            (try simp only[Act.put,List.setIfInBounds_toArray,List.set_cons_zero,List.set_cons_succ])
            refine wpU_ahead (i:=5) (oi:=_) (v:=.agg #[.bool (qF rq).1,.string (qF rq).2.1,.string (qF rq).2.2]) rfl (by kernel_rfl) (by kernel_rfl) (by kernel_rfl) (by decide) rfl (by kernel_rfl) (fun _ _ _ h=>h) (Or.inl ⟨by rfl,?_⟩) (by kernel_rfl) (by assumption) ?_
            ·intro u' hSu
             (try simp only[List.getElem_toArray,List.getElem_cons_zero,List.getElem_cons_succ])
             obtain⟨_,s5⟩:=hSu
             obtain⟨s6,s7,s8⟩:=s5 rfl
             go_simp
            (try simp only[List.getElem_toArray,List.getElem_cons_zero,List.getElem_cons_succ])
            (try simp only[Act.put,List.setIfInBounds_toArray,List.set_cons_zero,List.set_cons_succ])
            refine wpU_take (i:=6) (oi:=_) (v:=.agg #[.bool (qF lk).1,.string (qF lk).2.1,.string (qF lk).2.2]) (b:=false) rfl (by kernel_rfl) (by kernel_rfl) (by kernel_rfl) (by decide) (fun _ _ _ h=>h) (Or.inl ⟨by rfl,?_⟩) (by kernel_rfl) (by assumption) ?_
            ·intro u' hSu
             (try simp only[List.getElem_toArray,List.getElem_cons_zero,List.getElem_cons_succ])
             obtain⟨_,⟨s0,s1,s2⟩,_⟩:=hSu
             go_simp
            (try simp only[List.getElem_toArray,List.getElem_cons_zero,List.getElem_cons_succ])
            (try simp only[Act.put,List.setIfInBounds_toArray,List.set_cons_zero,List.set_cons_succ])
            refine wpU_ready (rs:=[7]) (by kernel_rfl) (by simp) (AllU.cons (b:=false) rfl (by kernel_rfl) ?_ (AllU.nil))
            ·intro K' hK'
             (try simp only[List.getElem_toArray,List.getElem_cons_zero,List.getElem_cons_succ])
             go_simp
             refine(HAD.out _).mono ?_
             rintro e u3 ⟨rfl,hb⟩
             replace HSN:=hid (HSN.out.step hb)
             replace HQN:=hid (HQN.out.below hb)
             replace HFN:=hid (HFN.out.below hb HFN.out.lt)
             refine hK'.out _ _ ⟨HELD2.out _ HFN.out,fun _=>HRC.out _ HQN.out⟩ (fun hSe=>?_)
             clear hK' K' hSd
             have hSd:=hSe
             clear hSe
             clear hb
             (try simp only[List.getElem_toArray,List.getElem_cons_zero,List.getElem_cons_succ])
             (try simp only[Act.put,List.setIfInBounds_toArray,List.set_cons_zero,List.set_cons_succ])
             refine wpU_take (i:=8) (oi:=_) (v:=.pointer (some ⟨g,vt*3,none⟩)) (b:=false) rfl (by kernel_rfl) (by kernel_rfl) (by kernel_rfl) (by decide) (fun _ _ _ h=>h) (Or.inl ⟨by rfl,?_⟩) (by kernel_rfl) (by assumption) ?_
             ·intro u' hSu
              (try simp only[List.getElem_toArray,List.getElem_cons_zero,List.getElem_cons_succ])
              go_simp
             (try simp only[List.getElem_toArray,List.getElem_cons_zero,List.getElem_cons_succ])
             (try simp only[Act.put,List.setIfInBounds_toArray,List.set_cons_zero,List.set_cons_succ])
             obtain⟨q0,q1,q2⟩:=HRC.out _ HQN.out
             have q3:=HQN.out.fz (vt*3)
             have q4:=HQN.out.fz (vt*3+1)
             have q5:=HQN.out.fz (vt*3+2)
             refine wpU_ready (rs:=[9]) (by kernel_rfl) (by simp) (AllU.cons (b:=true) rfl (by kernel_rfl) ?_ (AllU.nil))
             ·intro K' hK'
              (try simp only[List.getElem_toArray,List.getElem_cons_zero,List.getElem_cons_succ])
              go_simp
              obtain⟨hQ1,hQg⟩:=HQN.out.put vt (rq+lk)
              have HQM:=hid (hQ1.congr fun j _=>HWR.out j)
              have HSM:=hid (HSN.out.grown hQg)
              have HFM:Hid (Box (((u3.setCell ⟨g,vt*3,none⟩ (.bool (qF (rq+lk)).1)).setCell ⟨g,vt*3+1,none⟩ (.string (qF (rq+lk)).2.1)).setCell ⟨g,vt*3+2,none⟩ (.string (qF (rq+lk)).2.2)) gf (qF lk).1 (qF lk).2.1 (qF lk).2.2):=((HFN.out.far (Ne.symm (Nat.ne_of_lt (Nat.lt_of_lt_of_le HGL.out HGF.out))) _).far (Ne.symm (Nat.ne_of_lt (Nat.lt_of_lt_of_le HGL.out HGF.out))) _).far (Ne.symm (Nat.ne_of_lt (Nat.lt_of_lt_of_le HGL.out HGF.out))) _
              refine hK'.out _ _ ⟨HELD2.out _ HFM.out,fun e=>by cases e⟩ (fun _=>wpU_done (by kernel_rfl) ?_ _)
              clear hK' K' hSd q0 q1 q2 q3 q4 q5 HQN HSN HFN hQ1 hQg HFM
              go_wp2
              go_roundw
              case rel=>exact⟨i+1,by omega,by go_num,HQM,HSM⟩
              case measure=>simp[intOf];omega
        ·obtain rfl:N=i:=by omega
         have HQE:Hid (EqR wr W.heap.size g n c1 fun j=>if j<vt+1 then bh j else 0):=HQ.out.congr fun j _=>by
          rw[HRB.out,HFT.out]
          by_cases e:j=vt
          ·rw[if_pos e,if_pos (by omega),e]
          ·rw[if_neg e]
           by_cases e2:j<vt
           ·rw[if_pos e2,if_pos (by omega)]
           ·rw[if_neg e2,if_neg (by omega)]
         have HSE:=hid (HSN.out.trans HS.out)
         clear HQ HS
         go_wp2
         go_roundw
         case rel=>exact⟨vt+1,by omega,by go_num,HQE,HSE⟩
         case measure=>simp[intOf];omega
    ·obtain rfl:n=vt:=by omega
     have HRF:Hid (EqR wr W.heap.size g n c1 (h.behind tt)):=HQ.out.congr fun j hj=>by rw[if_pos hj,HBH.out]
     have HBR:=hid (HS.out.below HB0.out hgW)
     clear HQ HS
     have HRV:Hid (RwF wr W.heap.size (.slice (some ⟨g,0,none⟩) n c1) (lF n (h.behind tt))):=by
      show World.ownsRow _ _ _ _ _ _ _
      rw[lF_length]
      exact HRF.out
     have HO3:=hid (HO.out.below HBR.out)
     have HB3:=hid (HAW.out.trans (HBR.out.mono HAW.out.size))
     have hszw:=HAW.out.size
     have hAL:=(Below.refl wr.heap.size wr).alloc (Nat.le_refl _) (.cells #[.slice (some ⟨g,0,none⟩) n c1] 22)
     have hone:(wr.alloc (.cells #[.slice (some ⟨g,0,none⟩) n c1] 22)).heap[wr.heap.size]? =some (.cells #[.slice (some ⟨g,0,none⟩) n c1] 22 (0,0)):=heap_alloc_new wr _
     have HC1:Hid ((wr.alloc (.cells #[.slice (some ⟨g,0,none⟩) n c1] 22)).cell? ⟨wr.heap.size,0,none⟩=some (.slice (some ⟨g,0,none⟩) n c1)):=by
      show _=_
      rw[cell_of_row _ _ _ _ _ (0,0) hone]
      rfl
     have HB4:=hid (HB3.out.alloc HB3.out.size (.cells #[.slice (some ⟨g,0,none⟩) n c1] 22))
     have HA4:=hid ((HRV.out.lower hszw).below hAL)
     have HK4:=hid (HO3.out.below hAL)
     have HHR:=hid (HHW.out.below HBR.out HHW.out.lt)
     have HH4:=hid (HHR.out.below hAL HHR.out.lt)
     have HL1:Hid (Ps.length+1≤100000):=by
      have h9:=congrArg List.length HPO.out
      rw[List.length_map,List.length_map,List.length_range] at h9
      show _≤_
      omega
     have HPN:Hid ((Ps++[((Value.slice (some ⟨g,0,none⟩) n c1,lF n (h.behind tt)):PR)]).map (·.2)=(List.range (tt+1)).map fun k=>lF n (h.behind k)):=by
      show _=_
      rw[List.map_append,HPO.out,List.range_succ,List.map_append]
      rfl
     clear hone hAL HRV HO3 HB3 hszw HHR HRF HBR
     go_wp2_with (at_builtin;refine wpList_append_rs rfl _ _ rfl w.heap.size _ Ps (.slice (some ⟨g,0,none⟩) n c1) ⟨_,_,_,rfl⟩ rfl HK4.out.1 wr.heap.size rfl HC1.out HL1.out HB4.out.size ?_;intro v5 w5 hr5 hg5;have HK5:=hid (HK4.out.push hr5 hg5 HA4.out);have HB5:=hid (HB4.out.grown hg5 HB4.out.size (fun k e=>owns_from HK4.out.1 k e));have HH5:Hid (HBox w5 w.heap.size (.slice a n ca) (.slice b n cb) (.slice c n cc)):=KeepT.grown hg5 (owns_typed HK4.out.1) (by decide) _ _ _ HH4.out)
     go_roundw
     case rel=>exact⟨tt+1,_,by omega,by go_num,HK5,HPN,HH5,HB5⟩
     case measure=>simp[intOf];omega
  ·obtain rfl:L=tt:=by omega
   obtain⟨dy,cy,rfl,hfs⟩:=OwR.rows HO.out
   have hro:rOf Ps=(List.range L).map fun k=>lF n (h.behind k):=HPO.out
   rw[hro] at hfs
   rw[hro,List.length_map,List.length_range]
   have HFS:=hid hfs
   clear hfs hro HO
   go_wp2
   go_ret2
   exact⟨dy,cy,rfl,HFS.out,HAW.out⟩
end Go.Proofs.YtgamblainfkiaaaGreatDoor
