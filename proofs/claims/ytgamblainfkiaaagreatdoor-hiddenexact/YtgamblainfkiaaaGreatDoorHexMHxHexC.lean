/- What the program's Smooth holds: forward's lists, in which it stores, and backward's. -/
import Derived.Test.YtgamblainfkiaaaGreatDoorHidFHxHidG
import Derived.Test.YtgamblainfkiaaaGreatDoorRegTHxHexB
import Derived.Test.YtgamblainfkiaaaGreatDoorMadBHxCofI
namespace Go.Proofs.YtgamblainfkiaaaGreatDoor
open Go.RowKit Go.Shelf
theorem lF_setM {n i:Nat} (f:Nat→Rat) (q:Rat):(lF n f).set i (qF q)=lF n fun j=>if j=i then q else f j:=by
 refine List.ext_getElem (by simp[lF]) fun k h1 h2=>?_
 rw[List.getElem_set]
 by_cases e:i=k
 ·rw[if_pos e]
  simp[lF,e]
 ·rw[if_neg e]
  simp[lF,Ne.symm e]
structure SmS (w:World) (n L G H M:Nat) (F B:Nat→Nat→Rat) (U:World):Prop where
 sm:∃X:List Value,X.length=L∧RowV U G X∧∀k (hk:k<X.length),(∃g,X[k]=.slice (some ⟨g,0,none⟩) n n∧G<g∧g<M∧RowF U g (lF n (F k)))∧∀k' (hk':k'<X.length),k'<k→X[k']≠X[k]
 bk:∃Y:List Value,Y.length=L∧RowV U H Y∧∀k (hk:k<Y.length),∃g c,Y[k]=.slice (some ⟨g,0,none⟩) n c∧H<g∧g<U.heap.size∧FrS U (some ⟨g,0,none⟩) (lF n (B k))
 Gw:w.heap.size≤G
 GM:G<M
 MH:M≤H
 bel:Below w.heap.size w U
theorem SmS.start {w W U:World} {n L G H:Nat} {F B:Nat→Nat→Rat} (h:FwS w n L G L F W) (hG:w.heap.size≤G) (hb:BoS W n L H L B U):SmS w n L G H W.heap.size F B U:=by
 obtain⟨X,h1,h2,h3⟩:=h.ex
 obtain⟨Y,y1,y2,_,y4⟩:=hb.ex
 refine⟨⟨X,h1,h2.below hb.bel h2.lt,fun k hk=>?_⟩,⟨Y,y1,y2,fun k hk=>?_⟩,hG,h2.lt,Nat.le_of_lt hb.Gw,h.bel.trans (hb.bel.mono h.bel.size)⟩
 ·obtain⟨⟨g,e1,e2,e3⟩,e4⟩:=h3 k hk (by omega)
  exact⟨⟨g,e1,e2,e3.lt,e3.below hb.bel e3.lt⟩,e4⟩
 ·obtain⟨g,c,e1,_,e3,e4,e5⟩:=y4 k hk (by omega)
  exact⟨g,c,e1,e4,e3,e5⟩
theorem SmS.step {w U U':World} {n L G H M:Nat} {F B:Nat→Nat→Rat} (h:SmS w n L G H M F B U) (hb:Below U.heap.size U U'):SmS w n L G H M F B U':=by
 obtain⟨X,h1,h2,h3⟩:=h.sm
 obtain⟨Y,y1,y2,y3⟩:=h.bk
 refine⟨⟨X,h1,h2.below hb h2.lt,fun k hk=>?_⟩,⟨Y,y1,y2.below hb y2.lt,fun k hk=>?_⟩,h.Gw,h.GM,h.MH,h.bel.trans (hb.mono h.bel.size)⟩
 ·obtain⟨⟨g,e1,e2,e3,e5⟩,e4⟩:=h3 k hk
  exact⟨⟨g,e1,e2,e3,e5.below hb e5.lt⟩,e4⟩
 ·obtain⟨g,c,e1,e2,e3,e5⟩:=y3 k hk
  exact⟨g,c,e1,e2,Nat.lt_of_lt_of_le e3 hb.size,e5.below hb⟩
theorem SmS.at {w U:World} {n L G H M:Nat} {F B:Nat→Nat→Rat} (h:SmS w n L G H M F B U) {t:Nat} (ht:t<L):∃g gb cb,U.cell? ⟨G,t,none⟩=some (.slice (some ⟨g,0,none⟩) n n)∧U.cell? ⟨H,t,none⟩=some (.slice (some ⟨gb,0,none⟩) n cb)∧G<g∧g<M∧RowF U g (lF n (F t))∧FrS U (some ⟨gb,0,none⟩) (lF n (B t)):=by
 obtain⟨X,h1,h2,h3⟩:=h.sm
 obtain⟨Y,y1,y2,y3⟩:=h.bk
 obtain⟨⟨g,e1,e2,e3,e5⟩,_⟩:=h3 t (by omega)
 obtain⟨gb,cb,f1,_,_,f4⟩:=y3 t (by omega)
 exact⟨g,gb,cb,by rw[h2.cell t (by omega),e1],by rw[y2.cell t (by omega),f1],e2,e3,e5,f4⟩
theorem FrS.off3 {w:World} {g b i:Nat} {l:List Fr} (h:FrS w (some ⟨g,0,none⟩) l) (x y z:Value) (hne:g≠b):FrS (((w.setCell ⟨b,i*3,none⟩ x).setCell ⟨b,i*3+1,none⟩ y).setCell ⟨b,i*3+2,none⟩ z) (some ⟨g,0,none⟩) l:=((h.setOff x hne).setOff y hne).setOff z hne
theorem RowV.off3 {w:World} {g b i:Nat} {X:List Value} (h:RowV w g X) (x y z:Value) (hne:g≠b):RowV (((w.setCell ⟨b,i*3,none⟩ x).setCell ⟨b,i*3+1,none⟩ y).setCell ⟨b,i*3+2,none⟩ z) g X:=(Below.heap_setCell _ ⟨b,i*3+2,none⟩ z g hne).trans ((Below.heap_setCell _ ⟨b,i*3+1,none⟩ y g hne).trans ((Below.heap_setCell w ⟨b,i*3,none⟩ x g hne).trans h))
theorem SmS.put {w U:World} {n L G H M:Nat} {F B:Nat→Nat→Rat} (h:SmS w n L G H M F B U) {t:Nat} (ht:t<L) (i g:Nat) (q:Rat) (hg:U.cell? ⟨G,t,none⟩=some (.slice (some ⟨g,0,none⟩) n n)):SmS w n L G H M (fun k j=>if k=t∧j=i then q else F k j) B (((U.setCell ⟨g,i*3,none⟩ (.bool (qF q).1)).setCell ⟨g,i*3+1,none⟩ (.string (qF q).2.1)).setCell ⟨g,i*3+2,none⟩ (.string (qF q).2.2)):=by
 obtain⟨X,h1,h2,h3⟩:=h.sm
 obtain⟨Y,y1,y2,y3⟩:=h.bk
 have hGM:=h.GM
 have hMH:=h.MH
 have hGw:=h.Gw
 have hXt:X[t]'(by omega)=.slice (some ⟨g,0,none⟩) n n:=by
  rw[h2.cell t (by omega)] at hg
  exact Option.some.inj hg
 obtain⟨⟨g',e1,e2,e3,e5⟩,e4⟩:=h3 t (by omega)
 have hgg:g'=g:=by
  rw[hXt] at e1
  cases e1
  rfl
 subst hgg
 refine⟨⟨X,h1,h2.off3 _ _ _ (by omega),fun k hk=>?_⟩,⟨Y,y1,y2.off3 _ _ _ (by omega),fun k hk=>?_⟩,h.Gw,h.GM,h.MH,?_⟩
 ·obtain⟨⟨gk,f1,f2,f3,f5⟩,f4⟩:=h3 k hk
  refine⟨?_,f4⟩
  by_cases hkt:k=t
  ·subst hkt
   refine⟨g',hXt,e2,e3,?_⟩
   have h9:=e5.put i (qF q)
   rw[lF_setM] at h9
   have e9:(fun j=>if j=i then q else F k j)=fun j=>if k=k∧j=i then q else F k j:=funext fun j=>by simp
   rw[e9] at h9
   exact h9
  ·have hne:gk≠g':=fun e=>by
    subst e
    rcases Nat.lt_or_ge k t with hlt |hge
    ·exact e4 k hk hlt (f1.trans hXt.symm)
    ·exact f4 t (by omega) (by omega) (hXt.trans f1.symm)
   refine⟨gk,f1,f2,f3,?_⟩
   have e9:(fun j=>if k=t∧j=i then q else F k j)=F k:=funext fun j=>by simp[hkt]
   rw[e9]
   exact((f5.off g' _ _ hne).off g' _ _ hne).off g' _ _ hne
 ·obtain⟨gb,c,f1,f2,f3,f5⟩:=y3 k hk
  refine⟨gb,c,f1,f2,?_,f5.off3 _ _ _ (by omega)⟩
  simp only[World.size_setCell]
  exact f3
 ·exact((h.bel.setCell (p:=⟨g',i*3,none⟩) (by show _≤g';omega) _).setCell (p:=⟨g',i*3+1,none⟩) (by show _≤g';omega) _).setCell (p:=⟨g',i*3+2,none⟩) (by show _≤g';omega) _
end Go.Proofs.YtgamblainfkiaaaGreatDoor

/- The program's Smooth. -/
namespace Go.Proofs.YtgamblainfkiaaaGreatDoor
open Go.RowKit Go.Shelf
theorem SmS.congr {w U:World} {n L G H M:Nat} {F F' B:Nat→Nat→Rat} (h:SmS w n L G H M F B U) (e:∀k j,k<L→j<n→F k j=F' k j):SmS w n L G H M F' B U:=by
 obtain⟨X,h1,h2,h3⟩:=h.sm
 refine⟨⟨X,h1,h2,fun k hk=>?_⟩,h.bk,h.Gw,h.GM,h.MH,h.bel⟩
 obtain⟨⟨g,e1,e2,e3,e5⟩,e4⟩:=h3 k hk
 refine⟨⟨g,e1,e2,e3,?_⟩,e4⟩
 have e9:lF n (F k)=lF n (F' k):=List.map_congr_left fun j hj=>by rw[e k j (by omega) (List.mem_range.1 hj)]
 rwa [e9] at e5
theorem SmS.rows {w U:World} {n L G H M:Nat} {F B:Nat→Nat→Rat} (h:SmS w n L G H M F B U):FsS U (some ⟨G,0,none⟩) ((List.range L).map fun t=>lF n (F t)):=fun k hk=>by
 obtain⟨X,h1,h2,h3⟩:=h.sm
 have hk':k<L:=by simpa using hk
 obtain⟨⟨g,e1,e2,e3,e5⟩,e4⟩:=h3 k (by omega)
 have e:((List.range L).map fun t=>lF n (F t))[k]=lF n (F k):=by simp
 rw[e,lF_length]
 exact⟨G,0,_,n,rfl,h2.lt,by rw[Nat.zero_add,h2.cell k (by omega),e1],e5.fr,Nat.le_refl _⟩
theorem Box.tri {w:World} {g:Nat} {neg:Bool} {num den:ByteArray} (h:Box w g neg num den):w.cell? ⟨g,0,none⟩=some (.bool neg)∧w.cell? ⟨g,1,none⟩=some (.string num)∧w.cell? ⟨g,2,none⟩=some (.string den):=⟨h.c0,h.c1,h.c2⟩
theorem cell_off3 (v:World) (g i G t:Nat) (hne:G≠g) (x y z:Value):(((v.setCell ⟨g,i*3,none⟩ x).setCell ⟨g,i*3+1,none⟩ y).setCell ⟨g,i*3+2,none⟩ z).cell? ⟨G,t,none⟩=v.cell? ⟨G,t,none⟩:=by
 rw[World.cell?_setCell_other _ _ _ _ (fun e=>hne (congrArg Addr.block e).symm),World.cell?_setCell_other _ _ _ _ (fun e=>hne (congrArg Addr.block e).symm),World.cell?_setCell_other _ _ _ _ (fun e=>hne (congrArg Addr.block e).symm)]
theorem Box.far9 {w:World} {g b i:Nat} {neg:Bool} {num den:ByteArray} (h:Box w g neg num den) (hne:g≠b) (x y z:Value):Box (((w.setCell ⟨b,i*3,none⟩ x).setCell ⟨b,i*3+1,none⟩ y).setCell ⟨b,i*3+2,none⟩ z) g neg num den:=((h.far hne x).far hne y).far hne z
theorem RowF.far9 {w:World} {g b i:Nat} {l:List Fr} (h:RowF w g l) (hne:g≠b) (x y z:Value):RowF (((w.setCell ⟨b,i*3,none⟩ x).setCell ⟨b,i*3+1,none⟩ y).setCell ⟨b,i*3+2,none⟩ z) g l:=((h.off b _ x hne).off b _ y hne).off b _ z hne
set_option maxRecDepth 100000 in
set_option maxHeartbeats 4000000 in
theorem hiSmooth_yes {D:Nat} (a b c d:Option Addr) (ca cb cc cd n L m:Nat) (l:List Fr) (R1 R2:List (List Fr)) (Q:List Nat) (h:HC) (w:World) (hI:HidI w a b c n m l R1 R2) (hV:HidV D h m l R1 R2 Q) (hsn:h.s=n) (hL:h.L=L) (hb0:b=none→cb=0) (hc0:c=none→cc=0) (hQ:IntS w d (iL Q)):
  Calls Tryz.prog 16 #[.agg #[.slice a n ca,.slice b n cb,.slice c n cc],.slice d L cd] w fun e w'=>((h.seen=0∧e=.returned (.tuple #[.slice none 0 0,.int .i64 3]))∨(h.seen≠0∧∃x k,e=.returned (.tuple #[.slice x L k,.int .i64 0])∧FsS w' x ((List.range L).map fun t=>lF n fun j=>h.alp t j*h.behind t j/h.seen)))∧Below w.heap.size w w':=by
 have HLIK:=hid (fun (U:World) (hU:Below w.heap.size w U)=>hiLikely_yes a b c d ca cb cc cd n L m l R1 R2 Q h U (hI.below hU) hV hsn hL hb0 hc0 (hQ.below hU))
 have HFW:=hid (fun (U:World) (hU:Below w.heap.size w U)=>hiForward_own a b c d ca cb cc cd n L m l R1 R2 Q h U (hI.below hU) hV hsn hL (hQ.below hU))
 have HBW:=hid (fun (U:World) (hU:Below w.heap.size w U)=>hiBackSum_own a b c d ca cb cc cd n L m l R1 R2 Q h U (hI.below hU) hV hsn hL (hQ.below hU))
 have hok:=hV.okn hsn
 have hn1:=hok.n1
 have hn4:=hok.n4
 have hL8:L≤8:=by rw[←hL];exact hV.sm.L8
 have HLA:Hid (∀t,t<L→Lst n (h.alp t) (lF n (h.alp t))∧Lst n (h.behind t) (lF n (h.behind t))):=fun t ht=>⟨Lst.mk' fun i hi=>hV.sm.qw (hV.sm.alp t i (by omega) (by omega)) (by omega),Lst.mk' fun i hi=>hV.sm.qw (hV.sm.behind (t:=t) (by omega) (by omega)) (by omega)⟩
 have HPQ:Hid (∀t i,t<L→i<n→qw (h.alp t i*h.behind t i)≤30010):=fun t i ht hi=>hV.sm.qw ((hV.sm.alp t i (by omega) (by omega)).mul (hV.sm.behind (t:=t) (by omega) (by omega))) (by omega)
 have HSQ:Hid (qw h.seen≤30010):=by
  show _≤_
  rw[HC.seen]
  by_cases h0:h.L=0
  ·rw[if_pos h0];exact hV.sm.qw (D:=D) Sm.one (by omega)
  ·rw[if_neg h0];exact hV.sm.qw ((Sm.sum hV.sm.s4 fun i hi=>hV.sm.alp (h.L - 1) i (by omega) hi).up (j:=3*h.L) (by omega)) (by omega)
 have HS0:Hid (L=0→h.seen≠0):=fun e=>by rw[HC.seen,if_pos (by omega)];decide
 have hA:=(Below.refl w.heap.size w).alloc (Nat.le_refl _) (HC3 (.slice a n ca) (.slice b n cb) (.slice c n cc))
 have hHB:=HBox.new w (.slice a n ca) (.slice b n cb) (.slice c n cc)
 clear hI hV hsn hL hb0 hc0 hQ hok
 obtain⟨e0,e1,e2⟩:=hHB.cells
 obtain⟨sv,hsv⟩:∃q,h.seen=q:=⟨_,rfl⟩
 rw[hsv] at HLIK HSQ HS0⊢
 clear hsv
 go_enter Tryz.func16,Tryz.ntmps16
 go_wp2_with fail
 generalize (w.alloc (HC3 (.slice a n ca) (.slice b n cb) (.slice c n cc)))=W1 at *
 refine(HLIK.out _ hA).mono ?_
 rintro e w1 ⟨rfl,hb⟩
 have HA1:=hid (hA.trans (hb.mono hA.size))
 have HH1:=hid (hHB.below hb hHB.lt)
 clear hA hHB hb e0 e1 e2
 have hbn:=(Below.refl w1.heap.size w1).alloc (Nat.le_refl _) (FC (qF sv).1 (qF sv).2.1 (qF sv).2.2)
 have HP:=hid (Box.new w1 (qF sv).1 (qF sv).2.1 (qF sv).2.2)
 have HB:=hid (HA1.out.trans (hbn.mono HA1.out.size))
 have HH:=hid (HH1.out.below hbn HH1.out.lt)
 clear HA1 HH1 hbn
 go_upto_region 4 with fail
 generalize (w1.alloc (FC (qF sv).1 (qF sv).2.1 (qF sv).2.2))=w2 at *
 obtain⟨gp,hgp⟩:∃x,w1.heap.size=x:=⟨_,rfl⟩
 rw[hgp] at HP
 simp only[hgp]
 clear hgp
 replace HH:=hid HH.out
 have hdr:Below w2.heap.size w2 w2.drew:=(Below.refl _ w2).drew
 replace HB:=hid (HB.out.trans (hdr.mono HB.out.size))
 replace HH:=hid (HH.out.below hdr HH.out.lt)
 replace HP:=hid (HP.out.below hdr HP.out.lt)
 clear hdr
 refine wp_region_held_drew (S:=fun u=>u.cell? ⟨w.heap.size,0,none⟩=some (.slice a n ca)∧u.cell? ⟨w.heap.size,1,none⟩=some (.slice b n cb)∧u.cell? ⟨w.heap.size,2,none⟩=some (.slice c n cc)) (by kernel_rfl) HH.out.cells (fun hSd=>?_)
 generalize w2.drew=u0 at *
 refine wpAnyH_take (i:=0) (oi:=_) (v:=.agg #[.slice a n ca,.slice b n cb,.slice c n cc]) rfl (by kernel_rfl) (by kernel_rfl) (by kernel_rfl) (fun _ _ _ h=>h) (Or.inl ⟨by rfl,?_⟩) (by assumption) ?_
 ·intro u' hSu
  (try simp only[List.getElem_toArray,List.getElem_cons_zero])
  obtain⟨s0,s1,s2⟩:=hSu
  go_simp
 (try simp only[List.getElem_toArray,List.getElem_cons_zero])
 (try simp only[Act.put,List.setIfInBounds_toArray,List.set_cons_zero,List.set_cons_succ])
 refine wpAnyH_take (i:=1) (oi:=_) (v:=.slice d L cd) rfl (by kernel_rfl) (by kernel_rfl) (by kernel_rfl) (fun _ _ _ h=>h) (Or.inl ⟨by rfl,?_⟩) (by assumption) ?_
 ·intro u' hSu
  (try simp only[List.getElem_toArray,List.getElem_cons_zero,List.getElem_cons_succ])
  go_simp
 (try simp only[List.getElem_toArray,List.getElem_cons_zero,List.getElem_cons_succ])
 (try simp only[Act.put,List.setIfInBounds_toArray,List.set_cons_zero,List.set_cons_succ])
 refine wpAnyH_take (i:=3) (oi:=_) (v:=.agg #[.slice a n ca,.slice b n cb,.slice c n cc]) rfl (by kernel_rfl) (by kernel_rfl) (by kernel_rfl) (fun _ _ _ h=>h) (Or.inl ⟨by rfl,?_⟩) (by assumption) ?_
 ·intro u' hSu
  (try simp only[List.getElem_toArray,List.getElem_cons_zero,List.getElem_cons_succ])
  obtain⟨s0,s1,s2⟩:=hSu
  go_simp
 (try simp only[List.getElem_toArray,List.getElem_cons_zero,List.getElem_cons_succ])
 (try simp only[Act.put,List.setIfInBounds_toArray,List.set_cons_zero,List.set_cons_succ])
 refine wpAnyH_take (i:=4) (oi:=_) (v:=.slice d L cd) rfl (by kernel_rfl) (by kernel_rfl) (by kernel_rfl) (fun _ _ _ h=>h) (Or.inl ⟨by rfl,?_⟩) (by assumption) ?_
 ·intro u' hSu
  (try simp only[List.getElem_toArray,List.getElem_cons_zero,List.getElem_cons_succ])
  go_simp
 (try simp only[List.getElem_toArray,List.getElem_cons_zero,List.getElem_cons_succ])
 (try simp only[Act.put,List.setIfInBounds_toArray,List.set_cons_zero,List.set_cons_succ])
 refine wpAnyH_ready (rs:=[2]) (by kernel_rfl) (by simp) (AllReadyH.cons rfl ?_ (AllReadyH.nil))
 ·intro K' hK'
  (try simp only[List.getElem_toArray,List.getElem_cons_zero,List.getElem_cons_succ])
  go_simp
  refine(HFW.out _ HB.out).mono ?_
  rintro e u1 ⟨G,rfl,hG,hFw⟩
  have HFw:=hid hFw
  have hGp:gp<G:=Nat.lt_of_lt_of_le HP.out.lt hG
  have HB1:=hid (HB.out.trans (hFw.bel.mono HB.out.size))
  have HH1:=hid (HH.out.below hFw.bel HH.out.lt)
  have HP1:=hid (HP.out.below hFw.bel HP.out.lt)
  clear hFw
  refine hK'.out _ _ HH1.out.cells (fun hSe=>?_)
  clear hK' K' hSd
  have hSd:=hSe
  clear hSe
  (try simp only[List.getElem_toArray,List.getElem_cons_zero,List.getElem_cons_succ])
  (try simp only[Act.put,List.setIfInBounds_toArray,List.set_cons_zero,List.set_cons_succ])
  refine wpAnyH_ready (rs:=[5]) (by kernel_rfl) (by simp) (AllReadyH.cons rfl ?_ (AllReadyH.nil))
  ·intro K' hK'
   (try simp only[List.getElem_toArray,List.getElem_cons_zero,List.getElem_cons_succ])
   go_simp
   refine(HBW.out _ HB1.out).mono ?_
   rintro e u2 ⟨H,rfl,hBo⟩
   have HSM0:=hid (SmS.start HFw.out hG hBo)
   have HH2:=hid (HH1.out.below hBo.bel HH1.out.lt)
   have HP2:=hid (HP1.out.below hBo.bel HP1.out.lt)
   have HB2:=hid (HB1.out.trans (hBo.bel.mono HB1.out.size))
   clear hBo
   refine hK'.out _ _ HH2.out.cells (fun hSe=>?_)
   clear hK' K' hSd
   have hSd:=hSe
   clear hSe
   (try simp only[List.getElem_toArray,List.getElem_cons_zero,List.getElem_cons_succ])
   (try simp only[Act.put,List.setIfInBounds_toArray,List.set_cons_zero,List.set_cons_succ])
   refine wpAnyH_take (i:=6) (oi:=_) (v:=.slice (some ⟨G,0,none⟩) L L) rfl (by kernel_rfl) (by kernel_rfl) (by kernel_rfl) (fun _ _ _ h=>h) (Or.inl ⟨by rfl,?_⟩) (by assumption) ?_
   ·intro u' hSu
    (try simp only[List.getElem_toArray,List.getElem_cons_zero,List.getElem_cons_succ])
    go_simp
   (try simp only[List.getElem_toArray,List.getElem_cons_zero,List.getElem_cons_succ])
   (try simp only[Act.put,List.setIfInBounds_toArray,List.set_cons_zero,List.set_cons_succ])
   refine wpAnyH_take (i:=7) (oi:=_) (v:=.slice (some ⟨H,0,none⟩) L L) rfl (by kernel_rfl) (by kernel_rfl) (by kernel_rfl) (fun _ _ _ h=>h) (Or.inl ⟨by rfl,?_⟩) (by assumption) ?_
   ·intro u' hSu
    (try simp only[List.getElem_toArray,List.getElem_cons_zero,List.getElem_cons_succ])
    go_simp
   (try simp only[List.getElem_toArray,List.getElem_cons_zero,List.getElem_cons_succ])
   (try simp only[Act.put,List.setIfInBounds_toArray,List.set_cons_zero,List.set_cons_succ])
   refine wpAnyH_done (by kernel_rfl) ?_ _
   clear hSd
   obtain⟨M,hM⟩:∃x,u1.heap.size=x:=⟨_,rfl⟩
   rw[hM] at HSM0
   clear hM HFw HB1 HH1 HP1 HFW HBW HH HP HH2 HB2
   obtain⟨SF,hSF⟩:∃f:Nat→Nat→Rat,f=fun k j=>h.alp k j*h.behind k j/sv:=⟨_,rfl⟩
   have HSF:Hid (∀k j,SF k j=h.alp k j*h.behind k j/sv):=fun k j=>by rw[hSF]
   have HRE:Hid ((fun t=>lF n fun j=>h.alp t j*h.behind t j/sv)=fun t=>lF n (SF t)):=by show _=_;rw[hSF]
   clear hSF
   have HS0':Hid (SmS u0 n L G H M (fun k j=>if k<0 then SF k j else h.alp k j) h.behind u2):=HSM0.out.congr fun k j _ _=>by rw[if_neg (Nat.not_lt_zero _)]
   clear HSM0
   go_wp2_with fail
   go_loopw [30] (fun iv wr=>∃t:Nat,t≤L∧iv=.int .i64 t∧Hid (0<t→sv≠0)∧Hid (SmS u0 n L G H M (fun k j=>if k<t then SF k j else h.alp k j) h.behind wr)∧Hid (Box wr gp (qF sv).1 (qF sv).2.1 (qF sv).2.2)) (fun iv _=>L - (intOf iv).toNat)
   case atStart=>exact⟨0,Nat.zero_le _,rfl,fun e=>absurd e (Nat.lt_irrefl _),HS0',HP2⟩
   case round=>
    obtain⟨t,ht',rfl,HZT,HSM,HPX⟩:=hrel
    clear HS0' HP2
    by_cases ht:t<L
    ·obtain⟨g,gb,cb',c0,c1,hGg,hgM,hrow,hfb⟩:=HSM.out.at ht
     have e9:lF n (fun j=>if t<t then SF t j else h.alp t j)=lF n (h.alp t):=List.map_congr_left fun j _=>by simp
     rw[e9] at hrow
     clear e9
     have HLT:Hid (g<wr.heap.size):=hrow.lt
     have hla:=HLA.out t ht
     have hMH:=HSM.out.MH
     have HTM:Hid (∀u,Below wr.heap.size wr u→Calls Tryz.prog 47 #[.slice (some ⟨g,0,none⟩) n n,.slice (some ⟨gb,0,none⟩) n cb'] u fun e w'=>∃G',e=.returned (.slice (some ⟨G',0,none⟩) n n)∧u.heap.size≤G'∧RowF w' G' (lF n fun i=>h.alp t i*h.behind t i)∧Below u.heap.size u w'):=fun u hu=>hTimes_any _ _ n cb' n _ _ (h.alp t) (h.behind t) u (hrow.fr.below hu) (hfb.below hu) hla.1 hla.2 (by omega)
     have HGS:Hid (G<wr.heap.size∧H<wr.heap.size):=by
      obtain⟨X,_,h2,_⟩:=HSM.out.sm
      obtain⟨Y,_,y2,_⟩:=HSM.out.bk
      exact⟨h2.lt,y2.lt⟩
     have HELD:Hid (∀u,Below wr.heap.size wr u→u.cell? ⟨G,t,none⟩=some (.slice (some ⟨g,0,none⟩) n n)∧u.cell? ⟨H,t,none⟩=some (.slice (some ⟨gb,0,none⟩) n cb')):=fun u hu=>⟨(hu.cell (p:=⟨G,t,none⟩) HGS.out.1).trans c0,(hu.cell (p:=⟨H,t,none⟩) HGS.out.2).trans c1⟩
     have HV0:Hid (Below wr.heap.size wr wr.drew):=(Below.refl _ _).drew
     replace HSM:=hid (HSM.out.step HV0.out)
     replace HPX:=hid (HPX.out.below HV0.out HPX.out.lt)
     clear c0 c1 hrow hfb hla
     go_upto_region 8 with fail
     refine wp_region_held_drew (S:=fun u=>u.cell? ⟨G,t,none⟩=some (.slice (some ⟨g,0,none⟩) n n)∧u.cell? ⟨H,t,none⟩=some (.slice (some ⟨gb,0,none⟩) n cb')) (by kernel_rfl) (HELD.out _ HV0.out) (fun hSd=>?_)
     generalize wr.drew=v0 at *
     refine wpAnyH_take (i:=0) (oi:=_) (v:=.slice (some ⟨G,0,none⟩) L L) rfl (by kernel_rfl) (by kernel_rfl) (by kernel_rfl) (fun _ _ _ h=>h) (Or.inl ⟨by rfl,?_⟩) (by assumption) ?_
     ·intro u' hSu
      (try simp only[List.getElem_toArray,List.getElem_cons_zero])
      go_simp
     (try simp only[List.getElem_toArray,List.getElem_cons_zero])
     (try simp only[Act.put,List.setIfInBounds_toArray,List.set_cons_zero,List.set_cons_succ])
     refine wpAnyH_take (i:=1) (oi:=_) (v:=.int .i64 (t:Nat)) rfl (by kernel_rfl) (by kernel_rfl) (by kernel_rfl) (fun _ _ _ h=>h) (Or.inl ⟨by rfl,?_⟩) (by assumption) ?_
     ·intro u' hSu
      (try simp only[List.getElem_toArray,List.getElem_cons_zero,List.getElem_cons_succ])
      go_simp
     (try simp only[List.getElem_toArray,List.getElem_cons_zero,List.getElem_cons_succ])
     (try simp only[Act.put,List.setIfInBounds_toArray,List.set_cons_zero,List.set_cons_succ])
     refine wpAnyH_take (i:=2) (oi:=_) (v:=.pointer (some ⟨G,t,none⟩)) rfl (by kernel_rfl) (by kernel_rfl) (by kernel_rfl) (fun _ _ _ h=>h) (Or.inl ⟨by rfl,?_⟩) (by assumption) ?_
     ·intro u' hSu
      (try simp only[List.getElem_toArray,List.getElem_cons_zero,List.getElem_cons_succ])
      go_simp
     (try simp only[List.getElem_toArray,List.getElem_cons_zero,List.getElem_cons_succ])
     (try simp only[Act.put,List.setIfInBounds_toArray,List.set_cons_zero,List.set_cons_succ])
     refine wpAnyH_take (i:=3) (oi:=_) (v:=.slice (some ⟨g,0,none⟩) n n) rfl (by kernel_rfl) (by kernel_rfl) (by kernel_rfl) (fun _ _ _ h=>h) (Or.inl ⟨by rfl,?_⟩) (by assumption) ?_
     ·intro u' hSu
      (try simp only[List.getElem_toArray,List.getElem_cons_zero,List.getElem_cons_succ])
      obtain⟨s0,s1⟩:=hSu
      go_simp
     (try simp only[List.getElem_toArray,List.getElem_cons_zero,List.getElem_cons_succ])
     (try simp only[Act.put,List.setIfInBounds_toArray,List.set_cons_zero,List.set_cons_succ])
     refine wpAnyH_take (i:=4) (oi:=_) (v:=.slice (some ⟨H,0,none⟩) L L) rfl (by kernel_rfl) (by kernel_rfl) (by kernel_rfl) (fun _ _ _ h=>h) (Or.inl ⟨by rfl,?_⟩) (by assumption) ?_
     ·intro u' hSu
      (try simp only[List.getElem_toArray,List.getElem_cons_zero,List.getElem_cons_succ])
      go_simp
     (try simp only[List.getElem_toArray,List.getElem_cons_zero,List.getElem_cons_succ])
     (try simp only[Act.put,List.setIfInBounds_toArray,List.set_cons_zero,List.set_cons_succ])
     refine wpAnyH_take (i:=5) (oi:=_) (v:=.int .i64 (t:Nat)) rfl (by kernel_rfl) (by kernel_rfl) (by kernel_rfl) (fun _ _ _ h=>h) (Or.inl ⟨by rfl,?_⟩) (by assumption) ?_
     ·intro u' hSu
      (try simp only[List.getElem_toArray,List.getElem_cons_zero,List.getElem_cons_succ])
      go_simp
     (try simp only[List.getElem_toArray,List.getElem_cons_zero,List.getElem_cons_succ])
     (try simp only[Act.put,List.setIfInBounds_toArray,List.set_cons_zero,List.set_cons_succ])
     refine wpAnyH_take (i:=6) (oi:=_) (v:=.pointer (some ⟨H,t,none⟩)) rfl (by kernel_rfl) (by kernel_rfl) (by kernel_rfl) (fun _ _ _ h=>h) (Or.inl ⟨by rfl,?_⟩) (by assumption) ?_
     ·intro u' hSu
      (try simp only[List.getElem_toArray,List.getElem_cons_zero,List.getElem_cons_succ])
      go_simp
     (try simp only[List.getElem_toArray,List.getElem_cons_zero,List.getElem_cons_succ])
     (try simp only[Act.put,List.setIfInBounds_toArray,List.set_cons_zero,List.set_cons_succ])
     refine wpAnyH_take (i:=7) (oi:=_) (v:=.slice (some ⟨gb,0,none⟩) n cb') rfl (by kernel_rfl) (by kernel_rfl) (by kernel_rfl) (fun _ _ _ h=>h) (Or.inl ⟨by rfl,?_⟩) (by assumption) ?_
     ·intro u' hSu
      (try simp only[List.getElem_toArray,List.getElem_cons_zero,List.getElem_cons_succ])
      obtain⟨s0,s1⟩:=hSu
      go_simp
     (try simp only[List.getElem_toArray,List.getElem_cons_zero,List.getElem_cons_succ])
     (try simp only[Act.put,List.setIfInBounds_toArray,List.set_cons_zero,List.set_cons_succ])
     refine wpAnyH_take (i:=10) (oi:=_) (v:=.int .i64 0) rfl (by kernel_rfl) (by kernel_rfl) (by kernel_rfl) (fun _ _ _ h=>h) (Or.inl ⟨by rfl,?_⟩) (by assumption) ?_
     ·intro u' hSu
      (try simp only[List.getElem_toArray,List.getElem_cons_zero,List.getElem_cons_succ])
      go_simp
     (try simp only[List.getElem_toArray,List.getElem_cons_zero,List.getElem_cons_succ])
     (try simp only[Act.put,List.setIfInBounds_toArray,List.set_cons_zero,List.set_cons_succ])
     refine wpAnyH_ready (rs:=[8]) (by kernel_rfl) (by simp) (AllReadyH.cons rfl ?_ (AllReadyH.nil))
     ·intro K' hK'
      (try simp only[List.getElem_toArray,List.getElem_cons_zero,List.getElem_cons_succ])
      go_simp
      refine(HTM.out _ HV0.out).mono ?_
      rintro e v1 ⟨gm,rfl,hgm,hRm,hb⟩
      have HRM:=hid hRm
      have HS1:=hid (HSM.out.step hb)
      have HP1:=hid (HPX.out.below hb HPX.out.lt)
      have HC1:=hid (HELD.out _ (HV0.out.trans (hb.mono HV0.out.size)))
      have hgmH:H<gm:=by have h8:=HGS.out.2;have h9:=HV0.out.size;omega
      clear hRm hb
      refine hK'.out _ _ HC1.out (fun hSe=>?_)
      clear hK' K' hSd
      have hSd:=hSe
      clear hSe
      (try simp only[List.getElem_toArray,List.getElem_cons_zero,List.getElem_cons_succ])
      (try simp only[Act.put,List.setIfInBounds_toArray,List.set_cons_zero,List.set_cons_succ])
      refine wpAnyH_take (i:=9) (oi:=_) (v:=.int .i64 (n:Nat)) rfl (by kernel_rfl) (by kernel_rfl) (by kernel_rfl) (fun _ _ _ h=>h) (Or.inl ⟨by rfl,?_⟩) (by assumption) ?_
      ·intro u' hSu
       (try simp only[List.getElem_toArray,List.getElem_cons_zero,List.getElem_cons_succ])
       go_simp
      (try simp only[List.getElem_toArray,List.getElem_cons_zero,List.getElem_cons_succ])
      (try simp only[Act.put,List.setIfInBounds_toArray,List.set_cons_zero,List.set_cons_succ])
      refine wpAnyH_done (by kernel_rfl) ?_ _
      clear hSd
      have HS2:Hid (SmS u0 n L G H M (fun k j=>if k<t∨(k=t∧j<0) then SF k j else h.alp k j) h.behind v1):=HS1.out.congr fun k j _ _=>by simp
      go_wp2_with fail
      go_loopw [43] (fun jv wr=>∃i:Nat,i≤n∧jv=.int .i64 i∧Hid (0<i→sv≠0)∧Hid (SmS u0 n L G H M (fun k j=>if k<t∨(k=t∧j<i) then SF k j else h.alp k j) h.behind wr)∧Hid (RowF wr gm (lF n fun j=>h.alp t j*h.behind t j))∧Hid (Box wr gp (qF sv).1 (qF sv).2.1 (qF sv).2.2)) (fun jv _=>n - (intOf jv).toNat)
      case atStart=>exact⟨0,Nat.zero_le _,rfl,fun e=>absurd e (Nat.lt_irrefl _),HS2,HRM,HP1⟩
      case round=>
       obtain⟨i,hi,rfl,HZI,HSM,HRM,HPX⟩:=hrel
       clear HS2 HP1 HS1
       by_cases hin:i<n
       ·obtain⟨pq,hpq⟩:∃q,h.alp t i*h.behind t i=q:=⟨_,rfl⟩
        obtain⟨g,gb2,cb2,c0, -,hGg,hgM,hrow, -⟩:=HSM.out.at ht
        have hrc:=HRM.out.cells i (by rw[lF_length];exact hin)
        simp only[lF_get,hpq] at hrc
        obtain⟨r0,r1,r2⟩:=hrc
        have HRG:Hid (∀u,SmS u0 n L G H M (fun k j=>if k<t∨(k=t∧j<i) then SF k j else h.alp k j) h.behind u→u.cell? ⟨G,t,none⟩=some (.slice (some ⟨g,0,none⟩) n n)→(u.cell? ⟨g,i*3,none⟩=some (.bool (qF (h.alp t i)).1)∧u.cell? ⟨g,i*3+1,none⟩=some (.string (qF (h.alp t i)).2.1)∧u.cell? ⟨g,i*3+2,none⟩=some (.string (qF (h.alp t i)).2.2))∧u.frozen? ⟨g,i*3,none⟩=false∧u.frozen? ⟨g,i*3+1,none⟩=false∧u.frozen? ⟨g,i*3+2,none⟩=false):=fun u hu hc=>by
         obtain⟨g',_,_,d0,_,_,_,hr,_⟩:=hu.at ht
         rw[hc] at d0
         cases d0
         have h9:=hr.cells i (by rw[lF_length];exact hin)
         simp only[lF_get] at h9
         rw[if_neg (by omega)] at h9
         exact⟨h9,hr.fz _,hr.fz _,hr.fz _⟩
        have HST:Hid (∀k j,k<L→j<n→(if k=t∧j=i then pq/sv else if k<t∨(k=t∧j<i) then SF k j else h.alp k j)=if k<t∨(k=t∧j<i+1) then SF k j else h.alp k j):=fun k j _ _=>by
         by_cases e:k=t∧j=i
         ·rw[if_pos e,if_pos (.inr ⟨e.1,by omega⟩),HSF.out,e.1,e.2,hpq]
         ·rw[if_neg e]
          by_cases e2:k<t∨(k=t∧j<i)
          ·rw[if_pos e2,if_pos (by omega)]
          ·rw[if_neg e2,if_neg (by omega)]
        have hqp:qw pq≤30010:=by rw[←hpq];exact HPQ.out t i ht hin
        have hqs:=HSQ.out
        have hgpG:=hGp
        have hbn:=(Below.refl wr.heap.size wr).alloc (Nat.le_refl _) (FC (qF pq).1 (qF pq).2.1 (qF pq).2.2)
        have HFX:=hid (Box.new wr (qF pq).1 (qF pq).2.1 (qF pq).2.2)
        have hGS:G<wr.heap.size:=Nat.lt_trans hGg hrow.lt
        have HGF:Hid (g<wr.heap.size):=hrow.lt
        replace HSM:=hid (HSM.out.step hbn)
        replace HRM:=hid (HRM.out.below hbn HRM.out.lt)
        replace HPX:=hid (HPX.out.below hbn HPX.out.lt)
        have HCG:=hid ((hbn.cell (p:=⟨G,t,none⟩) hGS).trans c0)
        have HGS:Hid (G<(wr.alloc (FC (qF pq).1 (qF pq).2.1 (qF pq).2.2)).heap.size):=Nat.lt_of_lt_of_le hGS hbn.size
        clear c0 hrow hbn hpq
        go_upto_region 11 with fail
        clear r0 r1 r2
        obtain⟨gf,hgf⟩:∃x,wr.heap.size=x:=⟨_,rfl⟩
        generalize (wr.alloc (FC (qF pq).1 (qF pq).2.1 (qF pq).2.2))=v1' at *
        rw[hgf] at HFX HGF
        simp only[hgf]
        have hgfg:=HGF.out
        clear hgf
        have hdr:Below v1'.heap.size v1' v1'.drew:=(Below.refl _ _).drew
        replace HSM:=hid (HSM.out.step hdr)
        replace HRM:=hid (HRM.out.below hdr HRM.out.lt)
        replace HPX:=hid (HPX.out.below hdr HPX.out.lt)
        replace HFX:=hid (HFX.out.below hdr HFX.out.lt)
        replace HCG:=hid ((hdr.cell (p:=⟨G,t,none⟩) HGS.out).trans HCG.out)
        replace HGS:Hid (G<v1'.drew.heap.size):=Nat.lt_of_lt_of_le HGS.out hdr.size
        clear hdr
        refine wp_region_held_drew (S:=fun u=>u.cell? ⟨G,t,none⟩=some (.slice (some ⟨g,0,none⟩) n n)∧(u.cell? ⟨gf,0,none⟩=some (.bool (qF pq).1)∧u.cell? ⟨gf,1,none⟩=some (.string (qF pq).2.1)∧u.cell? ⟨gf,2,none⟩=some (.string (qF pq).2.2))∧u.cell? ⟨gp,0,none⟩=some (.bool (qF sv).1)∧u.cell? ⟨gp,1,none⟩=some (.string (qF sv).2.1)∧u.cell? ⟨gp,2,none⟩=some (.string (qF sv).2.2)) (by kernel_rfl) ⟨HCG.out,HFX.out.tri,HPX.out.tri⟩ (fun hSd=>?_)
        generalize v1'.drew=v2 at *
        refine wpAnyH_take (i:=0) (oi:=_) (v:=.slice (some ⟨G,0,none⟩) L L) rfl (by kernel_rfl) (by kernel_rfl) (by kernel_rfl) (fun _ _ _ h=>h) (Or.inl ⟨by rfl,?_⟩) (by assumption) ?_
        ·intro u' hSu
         (try simp only[List.getElem_toArray,List.getElem_cons_zero])
         go_simp
        (try simp only[List.getElem_toArray,List.getElem_cons_zero])
        (try simp only[Act.put,List.setIfInBounds_toArray,List.set_cons_zero,List.set_cons_succ])
        refine wpAnyH_take (i:=1) (oi:=_) (v:=.int .i64 (t:Nat)) rfl (by kernel_rfl) (by kernel_rfl) (by kernel_rfl) (fun _ _ _ h=>h) (Or.inl ⟨by rfl,?_⟩) (by assumption) ?_
        ·intro u' hSu
         (try simp only[List.getElem_toArray,List.getElem_cons_zero,List.getElem_cons_succ])
         go_simp
        (try simp only[List.getElem_toArray,List.getElem_cons_zero,List.getElem_cons_succ])
        (try simp only[Act.put,List.setIfInBounds_toArray,List.set_cons_zero,List.set_cons_succ])
        refine wpAnyH_take (i:=2) (oi:=_) (v:=.pointer (some ⟨G,t,none⟩)) rfl (by kernel_rfl) (by kernel_rfl) (by kernel_rfl) (fun _ _ _ h=>h) (Or.inl ⟨by rfl,?_⟩) (by assumption) ?_
        ·intro u' hSu
         (try simp only[List.getElem_toArray,List.getElem_cons_zero,List.getElem_cons_succ])
         go_simp
        (try simp only[List.getElem_toArray,List.getElem_cons_zero,List.getElem_cons_succ])
        (try simp only[Act.put,List.setIfInBounds_toArray,List.set_cons_zero,List.set_cons_succ])
        refine wpAnyH_take (i:=3) (oi:=_) (v:=.slice (some ⟨g,0,none⟩) n n) rfl (by kernel_rfl) (by kernel_rfl) (by kernel_rfl) (fun _ _ _ h=>h) (Or.inl ⟨by rfl,?_⟩) (by assumption) ?_
        ·intro u' hSu
         (try simp only[List.getElem_toArray,List.getElem_cons_zero,List.getElem_cons_succ])
         obtain⟨s0,⟨s1,s2,s3⟩,s4,s5,s6⟩:=hSu
         go_simp
        (try simp only[List.getElem_toArray,List.getElem_cons_zero,List.getElem_cons_succ])
        (try simp only[Act.put,List.setIfInBounds_toArray,List.set_cons_zero,List.set_cons_succ])
        refine wpAnyH_take (i:=4) (oi:=_) (v:=.int .i64 (i:Nat)) rfl (by kernel_rfl) (by kernel_rfl) (by kernel_rfl) (fun _ _ _ h=>h) (Or.inl ⟨by rfl,?_⟩) (by assumption) ?_
        ·intro u' hSu
         (try simp only[List.getElem_toArray,List.getElem_cons_zero,List.getElem_cons_succ])
         go_simp
        (try simp only[List.getElem_toArray,List.getElem_cons_zero,List.getElem_cons_succ])
        (try simp only[Act.put,List.setIfInBounds_toArray,List.set_cons_zero,List.set_cons_succ])
        refine wpAnyH_take (i:=5) (oi:=_) (v:=.agg #[.bool (qF pq).1,.string (qF pq).2.1,.string (qF pq).2.2]) rfl (by kernel_rfl) (by kernel_rfl) (by kernel_rfl) (fun _ _ _ h=>h) (Or.inl ⟨by rfl,?_⟩) (by assumption) ?_
        ·intro u' hSu
         (try simp only[List.getElem_toArray,List.getElem_cons_zero,List.getElem_cons_succ])
         obtain⟨s0,⟨s1,s2,s3⟩,s4,s5,s6⟩:=hSu
         go_simp
        (try simp only[List.getElem_toArray,List.getElem_cons_zero,List.getElem_cons_succ])
        (try simp only[Act.put,List.setIfInBounds_toArray,List.set_cons_zero,List.set_cons_succ])
        refine wpAnyH_take (i:=6) (oi:=_) (v:=.agg #[.bool (qF sv).1,.string (qF sv).2.1,.string (qF sv).2.2]) rfl (by kernel_rfl) (by kernel_rfl) (by kernel_rfl) (fun _ _ _ h=>h) (Or.inl ⟨by rfl,?_⟩) (by assumption) ?_
        ·intro u' hSu
         (try simp only[List.getElem_toArray,List.getElem_cons_zero,List.getElem_cons_succ])
         obtain⟨s0,⟨s1,s2,s3⟩,s4,s5,s6⟩:=hSu
         go_simp
        (try simp only[List.getElem_toArray,List.getElem_cons_zero,List.getElem_cons_succ])
        (try simp only[Act.put,List.setIfInBounds_toArray,List.set_cons_zero,List.set_cons_succ])
        by_cases hz:sv=0
        ·have HZ:=hid hz
         have HDV:Hid (∀U:World,Calls Tryz.prog 48 #[.agg #[.bool (qF pq).1,.string (qF pq).2.1,.string (qF pq).2.2],.agg #[.bool (qF sv).1,.string (qF sv).2.1,.string (qF sv).2.2]] U fun e w'=>e=.returned (.tuple #[.agg #[.bool false,.string ⟨#[]⟩,.string ⟨#[]⟩],.int .i64 3])∧Below U.heap.size U w'):=fun U=>fDiv_z (by rw[←hz];exact val_own sv)
         clear hz
         refine wpAnyH_ready (rs:=[7]) (by kernel_rfl) (by simp) (AllReadyH.cons rfl ?_ (AllReadyH.nil))
         ·intro K' hK'
          (try simp only[List.getElem_toArray,List.getElem_cons_zero,List.getElem_cons_succ])
          go_simp
          refine(HDV.out _).mono ?_
          rintro e v3 ⟨rfl,hb⟩
          replace HSM:=hid (HSM.out.step hb)
          replace HRM:=hid (HRM.out.below hb HRM.out.lt)
          replace HPX:=hid (HPX.out.below hb HPX.out.lt)
          replace HFX:=hid (HFX.out.below hb HFX.out.lt)
          replace HCG:=hid ((hb.cell (p:=⟨G,t,none⟩) HGS.out).trans HCG.out)
          replace HGS:Hid (G<v3.heap.size):=Nat.lt_of_lt_of_le HGS.out hb.size
          clear hb
          refine hK'.out _ _ ⟨HCG.out,HFX.out.tri,HPX.out.tri⟩ (fun hSe=>?_)
          clear hK' K' hSd
          have hSd:=hSe
          clear hSe
          (try simp only[List.getElem_toArray,List.getElem_cons_zero,List.getElem_cons_succ])
          (try simp only[Act.put,List.setIfInBounds_toArray,List.set_cons_zero,List.set_cons_succ])
          refine wpAnyH_take (i:=8) (oi:=_) (v:=.tuple #[.agg #[.bool false,.string ⟨#[]⟩,.string ⟨#[]⟩],.int .i64 3]) rfl (by kernel_rfl) (by kernel_rfl) (by kernel_rfl) (fun _ _ _ h=>h) (Or.inl ⟨by rfl,?_⟩) (by assumption) ?_
          ·intro u' hSu
           (try simp only[List.getElem_toArray,List.getElem_cons_zero,List.getElem_cons_succ])
           go_simp
          (try simp only[List.getElem_toArray,List.getElem_cons_zero,List.getElem_cons_succ])
          (try simp only[Act.put,List.setIfInBounds_toArray,List.set_cons_zero,List.set_cons_succ])
          refine wpAnyH_take (i:=9) (oi:=_) (v:=.agg #[.bool false,.string ⟨#[]⟩,.string ⟨#[]⟩]) rfl (by kernel_rfl) (by kernel_rfl) (by kernel_rfl) (fun _ _ _ h=>h) (Or.inl ⟨by rfl,?_⟩) (by assumption) ?_
          ·intro u' hSu
           (try simp only[List.getElem_toArray,List.getElem_cons_zero,List.getElem_cons_succ])
           go_simp
          (try simp only[List.getElem_toArray,List.getElem_cons_zero,List.getElem_cons_succ])
          (try simp only[Act.put,List.setIfInBounds_toArray,List.set_cons_zero,List.set_cons_succ])
          refine wpAnyH_take (i:=10) (oi:=_) (v:=.int .i64 3) rfl (by kernel_rfl) (by kernel_rfl) (by kernel_rfl) (fun _ _ _ h=>h) (Or.inl ⟨by rfl,?_⟩) (by assumption) ?_
          ·intro u' hSu
           (try simp only[List.getElem_toArray,List.getElem_cons_zero,List.getElem_cons_succ])
           go_simp
          (try simp only[List.getElem_toArray,List.getElem_cons_zero,List.getElem_cons_succ])
          (try simp only[Act.put,List.setIfInBounds_toArray,List.set_cons_zero,List.set_cons_succ])
          refine wpAnyH_take (i:=11) (oi:=_) (v:=.pointer (some ⟨g,i*3,none⟩)) rfl (by kernel_rfl) (by kernel_rfl) (by kernel_rfl) (fun _ _ _ h=>h) (Or.inl ⟨by rfl,?_⟩) (by assumption) ?_
          ·intro u' hSu
           (try simp only[List.getElem_toArray,List.getElem_cons_zero,List.getElem_cons_succ])
           go_simp
          (try simp only[List.getElem_toArray,List.getElem_cons_zero,List.getElem_cons_succ])
          (try simp only[Act.put,List.setIfInBounds_toArray,List.set_cons_zero,List.set_cons_succ])
          have hrow:=HRG.out _ HSM.out HCG.out
          obtain⟨k0,k1,k2⟩:=hrow.1
          obtain⟨f0,f1,f2⟩:=hrow.2
          clear hrow
          refine wpAnyH_ready (rs:=[12]) (by kernel_rfl) (by simp) (AllReadyH.cons rfl ?_ (AllReadyH.nil))
          ·intro K' hK'
           (try simp only[List.getElem_toArray,List.getElem_cons_zero,List.getElem_cons_succ])
           go_simp
           have HPN:=hid (HPX.out.far9 (b:=g) (i:=i) (by omega) (.bool false) (.string ⟨#[]⟩) (.string ⟨#[]⟩))
           have HFN:=hid (HFX.out.far9 (b:=g) (i:=i) (by omega) (.bool false) (.string ⟨#[]⟩) (.string ⟨#[]⟩))
           have HCN:Hid ((((v3.setCell ⟨g,i*3,none⟩ (.bool false)).setCell ⟨g,i*3+1,none⟩ (.string ⟨#[]⟩)).setCell ⟨g,i*3+2,none⟩ (.string ⟨#[]⟩)).cell? ⟨G,t,none⟩=some (.slice (some ⟨g,0,none⟩) n n)):=(cell_off3 v3 g i G t (by omega) _ _ _).trans HCG.out
           have HBN:=hid (((HB.out.trans (HSM.out.bel.mono HB.out.size)).setCell (p:=⟨g,i*3,none⟩) (by show _≤g;have:=HB.out.size;omega) (.bool false)).setCell (p:=⟨g,i*3+1,none⟩) (by show _≤g;have:=HB.out.size;omega) (.string ⟨#[]⟩) |>.setCell (p:=⟨g,i*3+2,none⟩) (by show _≤g;have:=HB.out.size;omega) (.string ⟨#[]⟩))
           refine hK'.out _ _ ⟨HCN.out,HFN.out.tri,HPN.out.tri⟩ (fun hSe=>?_)
           clear hK' K' hSd k0 k1 k2 f0 f1 f2
           (try simp only[List.getElem_toArray,List.getElem_cons_zero,List.getElem_cons_succ])
           (try simp only[Act.put,List.setIfInBounds_toArray,List.set_cons_zero,List.set_cons_succ])
           refine wpAnyH_take (i:=13) (oi:=_) (v:=.int .i64 3) rfl (by kernel_rfl) (by kernel_rfl) (by kernel_rfl) (fun _ _ _ h=>h) (Or.inl ⟨by rfl,?_⟩) (by assumption) ?_
           ·intro u' hSu
            (try simp only[List.getElem_toArray,List.getElem_cons_zero,List.getElem_cons_succ])
            go_simp
           (try simp only[List.getElem_toArray,List.getElem_cons_zero,List.getElem_cons_succ])
           (try simp only[Act.put,List.setIfInBounds_toArray,List.set_cons_zero,List.set_cons_succ])
           refine wpAnyH_done (by kernel_rfl) ?_ _
           clear hSe HSM HRM HPX HFX HCG HFN HCN
           go_wp2
           go_ret2
           exact⟨.inl ⟨HZ.out,rfl⟩,HBN.out⟩
        ·have HZ:=hid hz
         have HDV:Hid (∀U:World,Calls Tryz.prog 48 #[.agg #[.bool (qF pq).1,.string (qF pq).2.1,.string (qF pq).2.2],.agg #[.bool (qF sv).1,.string (qF sv).2.1,.string (qF sv).2.2]] U fun e w'=>e=.returned (.tuple #[.agg #[.bool (qF (pq/sv)).1,.string (qF (pq/sv)).2.1,.string (qF (pq/sv)).2.2],.int .i64 0])∧Below U.heap.size U w'):=fun U=>fDiv_q (pq/sv) (val_own pq) (val_own sv) hz rfl (by show (nu pq).size+(de pq).size≤_;rw[own_size];omega) (by show (nu sv).size+(de sv).size≤_;rw[own_size];omega)
         clear hz
         refine wpAnyH_ready (rs:=[7]) (by kernel_rfl) (by simp) (AllReadyH.cons rfl ?_ (AllReadyH.nil))
         ·intro K' hK'
          (try simp only[List.getElem_toArray,List.getElem_cons_zero,List.getElem_cons_succ])
          go_simp
          refine(HDV.out _).mono ?_
          rintro e v3 ⟨rfl,hb⟩
          replace HSM:=hid (HSM.out.step hb)
          replace HRM:=hid (HRM.out.below hb HRM.out.lt)
          replace HPX:=hid (HPX.out.below hb HPX.out.lt)
          replace HFX:=hid (HFX.out.below hb HFX.out.lt)
          replace HCG:=hid ((hb.cell (p:=⟨G,t,none⟩) HGS.out).trans HCG.out)
          replace HGS:Hid (G<v3.heap.size):=Nat.lt_of_lt_of_le HGS.out hb.size
          clear hb
          refine hK'.out _ _ ⟨HCG.out,HFX.out.tri,HPX.out.tri⟩ (fun hSe=>?_)
          clear hK' K' hSd
          have hSd:=hSe
          clear hSe
          (try simp only[List.getElem_toArray,List.getElem_cons_zero,List.getElem_cons_succ])
          (try simp only[Act.put,List.setIfInBounds_toArray,List.set_cons_zero,List.set_cons_succ])
          refine wpAnyH_take (i:=8) (oi:=_) (v:=.tuple #[.agg #[.bool (qF (pq/sv)).1,.string (qF (pq/sv)).2.1,.string (qF (pq/sv)).2.2],.int .i64 0]) rfl (by kernel_rfl) (by kernel_rfl) (by kernel_rfl) (fun _ _ _ h=>h) (Or.inl ⟨by rfl,?_⟩) (by assumption) ?_
          ·intro u' hSu
           (try simp only[List.getElem_toArray,List.getElem_cons_zero,List.getElem_cons_succ])
           go_simp
          (try simp only[List.getElem_toArray,List.getElem_cons_zero,List.getElem_cons_succ])
          (try simp only[Act.put,List.setIfInBounds_toArray,List.set_cons_zero,List.set_cons_succ])
          refine wpAnyH_take (i:=9) (oi:=_) (v:=.agg #[.bool (qF (pq/sv)).1,.string (qF (pq/sv)).2.1,.string (qF (pq/sv)).2.2]) rfl (by kernel_rfl) (by kernel_rfl) (by kernel_rfl) (fun _ _ _ h=>h) (Or.inl ⟨by rfl,?_⟩) (by assumption) ?_
          ·intro u' hSu
           (try simp only[List.getElem_toArray,List.getElem_cons_zero,List.getElem_cons_succ])
           go_simp
          (try simp only[List.getElem_toArray,List.getElem_cons_zero,List.getElem_cons_succ])
          (try simp only[Act.put,List.setIfInBounds_toArray,List.set_cons_zero,List.set_cons_succ])
          refine wpAnyH_take (i:=10) (oi:=_) (v:=.int .i64 0) rfl (by kernel_rfl) (by kernel_rfl) (by kernel_rfl) (fun _ _ _ h=>h) (Or.inl ⟨by rfl,?_⟩) (by assumption) ?_
          ·intro u' hSu
           (try simp only[List.getElem_toArray,List.getElem_cons_zero,List.getElem_cons_succ])
           go_simp
          (try simp only[List.getElem_toArray,List.getElem_cons_zero,List.getElem_cons_succ])
          (try simp only[Act.put,List.setIfInBounds_toArray,List.set_cons_zero,List.set_cons_succ])
          refine wpAnyH_take (i:=11) (oi:=_) (v:=.pointer (some ⟨g,i*3,none⟩)) rfl (by kernel_rfl) (by kernel_rfl) (by kernel_rfl) (fun _ _ _ h=>h) (Or.inl ⟨by rfl,?_⟩) (by assumption) ?_
          ·intro u' hSu
           (try simp only[List.getElem_toArray,List.getElem_cons_zero,List.getElem_cons_succ])
           go_simp
          (try simp only[List.getElem_toArray,List.getElem_cons_zero,List.getElem_cons_succ])
          (try simp only[Act.put,List.setIfInBounds_toArray,List.set_cons_zero,List.set_cons_succ])
          have hrow:=HRG.out _ HSM.out HCG.out
          obtain⟨k0,k1,k2⟩:=hrow.1
          obtain⟨f0,f1,f2⟩:=hrow.2
          clear hrow
          refine wpAnyH_ready (rs:=[12]) (by kernel_rfl) (by simp) (AllReadyH.cons rfl ?_ (AllReadyH.nil))
          ·intro K' hK'
           (try simp only[List.getElem_toArray,List.getElem_cons_zero,List.getElem_cons_succ])
           go_simp
           have HSN:=hid (HSM.out.put ht i g (pq/sv) HCG.out)
           have HRN:=hid (HRM.out.far9 (b:=g) (i:=i) (by omega) (.bool (qF (pq/sv)).1) (.string (qF (pq/sv)).2.1) (.string (qF (pq/sv)).2.2))
           have HPN:=hid (HPX.out.far9 (b:=g) (i:=i) (by omega) (.bool (qF (pq/sv)).1) (.string (qF (pq/sv)).2.1) (.string (qF (pq/sv)).2.2))
           have HFN:=hid (HFX.out.far9 (b:=g) (i:=i) (by omega) (.bool (qF (pq/sv)).1) (.string (qF (pq/sv)).2.1) (.string (qF (pq/sv)).2.2))
           have HCN:Hid ((((v3.setCell ⟨g,i*3,none⟩ (.bool (qF (pq/sv)).1)).setCell ⟨g,i*3+1,none⟩ (.string (qF (pq/sv)).2.1)).setCell ⟨g,i*3+2,none⟩ (.string (qF (pq/sv)).2.2)).cell? ⟨G,t,none⟩=some (.slice (some ⟨g,0,none⟩) n n)):=(cell_off3 v3 g i G t (by omega) _ _ _).trans HCG.out
           refine hK'.out _ _ ⟨HCN.out,HFN.out.tri,HPN.out.tri⟩ (fun hSe=>?_)
           clear hK' K' hSd k0 k1 k2 f0 f1 f2
           (try simp only[List.getElem_toArray,List.getElem_cons_zero,List.getElem_cons_succ])
           (try simp only[Act.put,List.setIfInBounds_toArray,List.set_cons_zero,List.set_cons_succ])
           refine wpAnyH_take (i:=13) (oi:=_) (v:=.int .i64 0) rfl (by kernel_rfl) (by kernel_rfl) (by kernel_rfl) (fun _ _ _ h=>h) (Or.inl ⟨by rfl,?_⟩) (by assumption) ?_
           ·intro u' hSu
            (try simp only[List.getElem_toArray,List.getElem_cons_zero,List.getElem_cons_succ])
            go_simp
           (try simp only[List.getElem_toArray,List.getElem_cons_zero,List.getElem_cons_succ])
           (try simp only[Act.put,List.setIfInBounds_toArray,List.set_cons_zero,List.set_cons_succ])
           refine wpAnyH_done (by kernel_rfl) ?_ _
           clear hSe
           have HSZ:=hid (HSN.out.congr fun k j hk hj=>HST.out k j hk hj)
           clear HSN HSM HRM HPX HFX HCG HFN HCN
           go_wp2
           go_roundw
           case rel=>exact⟨i+1,by omega,by go_num,fun _=>HZ.out,HSZ,HRN,HPN⟩
           case measure=>simp[intOf];omega
       ·obtain rfl:n=i:=by omega
        have HSE:Hid (SmS u0 n L G H M (fun k j=>if k<t+1 then SF k j else h.alp k j) h.behind wr):=HSM.out.congr fun k j _ hj=>by
         by_cases e:k<t+1
         ·rw[if_pos e,if_pos (by omega)]
         ·rw[if_neg e,if_neg (by omega)]
        have HZN:Hid (0<t+1→sv≠0):=fun _=>HZI.out (by omega)
        clear HSM HRM
        go_wp2
        go_roundw
        case rel=>exact⟨t+1,by omega,by go_num,HZN,HSE,HPX⟩
        case measure=>simp[intOf];omega
    ·obtain rfl:L=t:=by omega
     have HZ:Hid (sv≠0):=by
      show _≠_
      rcases Nat.eq_zero_or_pos L with e |e
      ·exact HS0.out e
      ·exact HZT.out e
     have HSE:=hid (HSM.out.congr (F':=SF) fun k j hk _=>if_pos hk)
     go_wp2
     go_ret2
     rw[HRE.out]
     exact⟨.inr ⟨HZ.out,_,_,rfl,HSE.out.rows⟩,HB.out.trans (HSE.out.bel.mono HB.out.size)⟩
end Go.Proofs.YtgamblainfkiaaaGreatDoor

/- What is said of a hidden chain and of what is seen of it, whatever it is: check of package hidden, and the answer's Seen. -/
namespace Go.Proofs.YtgamblainfkiaaaGreatDoor
open Go.RowKit Go.Shelf
def SeeE (l:List Fr) (R1 R2:List (List Fr)) (Q:List Int) (e:Int):Prop:=(e≠0∧HidE l R1 R2 e)∨(HidE l R1 R2 0∧8<Q.length∧e=2)∨(HidE l R1 R2 0∧Q.length≤8∧(∃x∈Q,x<0∨((R2.headD []).length:Int)≤x)∧e=12)∨(HidE l R1 R2 0∧Q.length≤8∧(∀x∈Q,0≤x∧x<((R2.headD []).length:Int))∧e=0)
theorem SeeE.uniq {l:List Fr} {R1 R2:List (List Fr)} {Q:List Int} {e e':Int} (h:SeeE l R1 R2 Q e) (h':SeeE l R1 R2 Q e'):e=e':=by
 rcases h with ⟨a0,a1⟩ |⟨a1,a2,rfl⟩ |⟨a1,a2,⟨x,hx,a3⟩,rfl⟩ |⟨a1,a2,a3,rfl⟩<;>rcases h' with ⟨b0,b1⟩ |⟨b1,b2,rfl⟩ |⟨b1,b2,⟨y,hy,b3⟩,rfl⟩ |⟨b1,b2,b3,rfl⟩<;>first |rfl |exact a1.uniq b1 |exact absurd (a1.uniq b1) a0 |exact absurd (b1.uniq a1) b0 |(exfalso;omega) |(exfalso;have:=b3 x hx;omega) |(exfalso;have:=a3 y hy;omega)
set_option maxRecDepth 100000 in
set_option maxHeartbeats 400000 in
theorem hiCheck1_gen (a b c:Option Addr) (n1 n2 ca cb cc B:Nat) (x:Int) (R2:List (List Fr)) (w:World) (hR:FsS w c R2) (h1:0<R2.length) (hn:R2.length≤140737488355328) (hl:∀r∈R2,r.length≤1000) (hB:HBox w B (.slice a n1 ca) (.slice b n2 cb) (.slice c R2.length cc)):
  Calls Tryz.prog 67 #[.int .i64 x,.pointer (some ⟨B,0,none⟩)] w fun e w'=>e=.returned (.bool (decide (x<0∨((R2.headD []).length:Int)≤x)))∧Below w.heap.size w w':=by
 have HSG:=hid (signs_gen a b c n1 n2 ca cb cc R2 w hR h1 hn hl)
 obtain⟨e0,e1,e2⟩:=hB.cells
 clear hR hl hB
 obtain⟨m,hm⟩:∃x,(R2.headD []).length=x:=⟨_,rfl⟩
 rw[hm] at HSG⊢
 clear hm
 by_cases q1:x<0
 ·rw[decide_eq_true (.inl q1)]
  go_enter Tryz.func67,Tryz.ntmps67
  go_wp2
  go_ret
  exact⟨rfl,Below.refl _ _⟩
 ·obtain⟨db,hdb⟩:∃y,decide ((m:Int)≤x)=y:=⟨_,rfl⟩
  have HDB:Hid (decide (x<0∨(m:Int)≤x)=db):=by
   show _=_
   rw[←hdb]
   by_cases h:(m:Int)≤x
   ·rw[decide_eq_true (.inr h),decide_eq_true h]
   ·rw[decide_eq_false fun e=>e.elim q1 h,decide_eq_false h]
  rw[HDB.out]
  clear HDB
  go_enter Tryz.func67,Tryz.ntmps67
  go_wp2_with fail
  refine HSG.out.mono ?_
  rintro e w1 ⟨rfl,hb1⟩
  have HB1:=hid hb1
  have HD:=hid hdb
  clear hb1 hdb
  go_wp2
  go_ret
  exact⟨by rw[←HD.out];rfl,HB1.out⟩
set_option maxRecDepth 100000 in
set_option maxHeartbeats 1000000 in
theorem hiCheck2_gen (a b c d:Option Addr) (ca cb cc cd:Nat) (l:List Fr) (R1 R2:List (List Fr)) (Q:List Int) (w:World) (h:HidM w a b c l R1 R2) (hs:HidS l R1 R2) (hb0:b=none→cb=0) (hc0:c=none→cc=0) (hQ:IntS w d Q) (hQ8:Q.length≤1000):
  Calls Tryz.prog 28 #[.agg #[.slice a l.length ca,.slice b R1.length cb,.slice c R2.length cc],.slice d Q.length cd] w fun e w'=>(∃x,e=.returned (.int .i64 x)∧SeeE l R1 R2 Q x)∧Below w.heap.size w w':=by
 have hA:=(Below.refl w.heap.size w).alloc (Nat.le_refl _) (HC3 (.slice a l.length ca) (.slice b R1.length cb) (.slice c R2.length cc))
 have hHB:=HBox.new w (.slice a l.length ca) (.slice b R1.length cb) (.slice c R2.length cc)
 have HCK:=hid (hiCheck_gen a b c ca cb cc l R1 R2 _ (h.below hA) hs hb0 hc0)
 have HCF:Hid (0<R2.length→∀V:World,Below (w.alloc (HC3 (.slice a l.length ca) (.slice b R1.length cb) (.slice c R2.length cc))).heap.size (w.alloc (HC3 (.slice a l.length ca) (.slice b R1.length cb) (.slice c R2.length cc))) V→Calls Tryz.prog 66 #[.slice d Q.length cd,.func (.func 67) #[] #[.pointer (some ⟨w.heap.size,0,none⟩)]] V fun e w'=>e=.returned (.bool (Q.any fun x=>decide (x<0∨((R2.headD []).length:Int)≤x)))∧Below V.heap.size V w'):=fun h0 V hV=>by
  have hbV:=hA.trans (hV.mono hA.size)
  exact conFI_any d cd 67 #[.pointer (some ⟨w.heap.size,0,none⟩)] Q (fun x=>decide (x<0∨((R2.headD []).length:Int)≤x)) V (hQ.below hbV) hQ8 (enters_of Tryz.func67 (by kernel_rfl) rfl) (fun q hq' U hU=>hiCheck1_gen a b c l.length R1.length ca cb cc w.heap.size q R2 U ((h.sh.below hbV).below hU) h0 hs.l3 hs.r2 ((hHB.below hV hHB.lt).below hU (Nat.lt_of_lt_of_le hHB.lt hV.size)))
 obtain⟨e0,e1,e2⟩:=hHB.cells
 have HA:=hid hA
 have hl1:=hs.l1
 have hl2:=hs.l2
 have hl3:=hs.l3
 clear h hs hb0 hc0 hQ hA hHB
 go_enter Tryz.func28,Tryz.ntmps28
 go_wp2_with fail
 generalize (w.alloc (HC3 (.slice a l.length ca) (.slice b R1.length cb) (.slice c R2.length cc)))=W at *
 refine HCK.out.mono ?_
 rintro e w1 ⟨⟨x,rfl,hx⟩,hb1⟩
 have HB1:=hid hb1
 have HXE:=hid hx
 clear hb1 e0 e1 e2 hx
 by_cases hx0:x=0
 case neg=>
  have hxb:(x !=0)=true:=by simpa using hx0
  have HBE:=hid (HA.out.trans (HB1.out.mono HA.out.size))
  go_wp2
  go_ret
  exact⟨⟨x,rfl,.inl ⟨hx0,HXE.out⟩⟩,HBE.out⟩
 subst hx0
 have HSHP:Hid (ShpB l R1 R2):=by
  rcases HXE.out with ⟨_,h1,_⟩ |⟨h1,_⟩ |⟨h1,_⟩
  ·exact h1
  ·exact absurd h1 (by decide)
  ·exact absurd h1 (by decide)
 have h0:0<R2.length:=by rw[HSHP.out.2.2.2.1];exact HSHP.out.1
 by_cases q8:8<Q.length
 ·have q8':(8:Int)<(Q.length:Int):=by omega
  have HBE:=hid (HA.out.trans (HB1.out.mono HA.out.size))
  go_wp2
  go_ret
  exact⟨⟨2,rfl,.inr (.inl ⟨HXE.out,q8,rfl⟩)⟩,HBE.out⟩
 have q8':¬(8:Int)<(Q.length:Int):=by omega
 obtain⟨z,hz⟩:∃z,(Q.any fun x=>decide (x<0∨((R2.headD []).length:Int)≤x))=z:=⟨_,rfl⟩
 have HZ:=hid hz
 rw[hz] at HCF
 clear hz
 go_wp2_with fail
 refine(HCF.out h0 _ HB1.out).mono ?_
 rintro e w2 ⟨rfl,hb2⟩
 have HB2:=hid (HA.out.trans ((HB1.out.trans (hb2.mono HB1.out.size)).mono HA.out.size))
 clear hb2
 cases z with
 |true=>
  have HBAD:Hid (∃x∈Q,x<0∨((R2.headD []).length:Int)≤x):=by
   obtain⟨x,hx,h2⟩:=List.any_eq_true.1 HZ.out
   exact⟨x,hx,of_decide_eq_true h2⟩
  go_wp2
  go_ret
  exact⟨⟨12,rfl,.inr (.inr (.inl ⟨HXE.out,by omega,HBAD.out,rfl⟩))⟩,HB2.out⟩
 |false=>
  have HGOOD:Hid (∀x∈Q,0≤x∧x<((R2.headD []).length:Int)):=fun x hx=>by
   have h2:=List.any_eq_false.1 HZ.out x hx
   have h3:¬(x<0∨((R2.headD []).length:Int)≤x):=fun e=>h2 (decide_eq_true e)
   omega
  go_wp2
  go_ret
  exact⟨⟨0,rfl,.inr (.inr (.inr ⟨HXE.out,by omega,HGOOD.out,rfl⟩))⟩,HB2.out⟩
set_option maxRecDepth 100000 in
set_option maxHeartbeats 1000000 in
theorem rSeen_any (a b c d:Option Addr) (ca cb cc cd:Nat) (l:List Fr) (R1 R2:List (List Fr)) (Q:List Int) (w:World) (h:HidM w a b c l R1 R2) (hs:HidS l R1 R2) (hQ:IntS w d Q) (hQ8:Q.length≤1000):
  Calls Tryz.prog 32 #[.agg #[.slice a l.length ca,.slice b R1.length cb,.slice c R2.length cc],.slice d Q.length cd] w fun e w'=>(∃x,e=.returned (.int .i64 x)∧SeeE l R1 R2 Q x)∧Below w.heap.size w w':=by
 have hA:=(Below.refl w.heap.size w).alloc (Nat.le_refl _) (HC3 (.slice a l.length ca) (.slice b R1.length cb) (.slice c R2.length cc))
 have hHB:=HBox.new w (.slice a l.length ca) (.slice b R1.length cb) (.slice c R2.length cc)
 have HCK:=hid (rHidCheck_any a b c ca cb cc l R1 R2 _ (h.below hA) hs)
 obtain⟨e0,e1,e2⟩:=hHB.cells
 have HA:=hid hA
 have HI:=hid h
 have HQ:=hid hQ
 have HS:=hid hs
 have hl1:=hs.l1
 have hl2:=hs.l2
 have hl3:=hs.l3
 clear h hs hQ hA
 go_enter Tryz.func32,Tryz.ntmps32
 go_wp2_with fail
 have HH0:=hid hHB
 clear hHB
 generalize (w.alloc (HC3 (.slice a l.length ca) (.slice b R1.length cb) (.slice c R2.length cc)))=W at *
 refine HCK.out.mono ?_
 rintro e w1 ⟨⟨x,rfl,hx⟩,hb1⟩
 have HB1:=hid hb1
 have HXE:=hid hx
 clear hb1 e0 e1 e2 hx
 by_cases hx0:x=0
 case neg=>
  have hxb:(x !=0)=true:=by simpa using hx0
  have HBE:=hid (HA.out.trans (HB1.out.mono HA.out.size))
  go_wp2
  go_ret
  exact⟨⟨x,rfl,.inl ⟨hx0,HXE.out⟩⟩,HBE.out⟩
 subst hx0
 have HSHP:Hid (ShpB l R1 R2):=by
  rcases HXE.out with ⟨_,h1,_⟩ |⟨h1,_⟩ |⟨h1,_⟩
  ·exact h1
  ·exact absurd h1 (by decide)
  ·exact absurd h1 (by decide)
 have h0:0<R2.length:=by rw[HSHP.out.2.2.2.1];exact HSHP.out.1
 by_cases q8:8<Q.length
 ·have q8':(8:Int)<(Q.length:Int):=by omega
  have HBE:=hid (HA.out.trans (HB1.out.mono HA.out.size))
  go_wp2
  go_ret
  exact⟨⟨2,rfl,.inr (.inl ⟨HXE.out,q8,rfl⟩)⟩,HBE.out⟩
 have q8':¬(8:Int)<(Q.length:Int):=by omega
 have HHB:=hid (HH0.out.below HB1.out HH0.out.lt)
 have HBA:=hid (HA.out.trans (HB1.out.mono HA.out.size))
 obtain⟨g3,o3,b3,c3,he,hg3,r0, -⟩:=(HI.out.below HBA.out).sh.raw' h0
 subst he
 rw[←head_at h0,Nat.add_zero] at r0
 have hm1000:=HS.out.r2 (R2.headD []) (by rw[head_at h0];exact List.getElem_mem h0)
 obtain⟨m,hm⟩:∃x,(R2.headD []).length=x:=⟨_,rfl⟩
 have HM:=hid hm
 rw[hm] at r0 hm1000
 clear hm
 have HR0:=hid r0
 clear r0 HH0 HCK
 obtain⟨gH,hgH⟩:∃x,w.heap.size=x:=⟨_,rfl⟩
 have HHc:Hid (HBox w1 gH (.slice a l.length ca) (.slice b R1.length cb) (.slice (some ⟨g3,o3,none⟩) R2.length cc)):=by rw[←hgH];exact HHB.out
 clear HHB
 go_wp2_with fail
 (try simp only[hgH])
 clear hgH
 go_loopw [6] (fun iv wr=>∃i:Nat,i≤Q.length∧iv=.int .i64 i∧Hid (Below w1.heap.size w1 wr)∧Hid (∀k (h:k<Q.length),k<i→0≤Q[k]∧Q[k]<(m:Int))) (fun iv _=>Q.length - (intOf iv).toNat)
 case atStart=>exact⟨0,Nat.zero_le _,rfl,Below.refl _ _,fun k _ hk=>absurd hk (Nat.not_lt_zero _)⟩
 case round=>
  obtain⟨i,hi,rfl,HBi,HG⟩:=hrel
  have HBE:=hid (HBA.out.trans (HBi.out.mono HBA.out.size))
  by_cases hlt:i<Q.length
  ·obtain⟨e0,e1,e2⟩:=(HHc.out.below HBi.out HHc.out.lt).cells
   have r0:=(HBi.out.cell (p:=⟨g3,_,none⟩) hg3).trans HR0.out
   obtain⟨gd,od,rfl,hgd,d0⟩:=(HQ.out.below HBE.out) i hlt
   have HMQ:Hid (Q[i]∈Q):=List.getElem_mem hlt
   obtain⟨x,hx⟩:∃x,Q[i]=x:=⟨_,rfl⟩
   have HXQ:=hid hx
   rw[hx] at d0 HMQ
   clear hx
   by_cases q1:x<0
   ·have q1':decide (x<0)=true:=decide_eq_true q1
    go_wp2_with fail
    go_quiet (fail)
    have HBD:=hid (below_dn HBE.out 0)
    go_wp2
    go_ret
    exact⟨⟨12,rfl,.inr (.inr (.inl ⟨HXE.out,by omega,⟨x,HMQ.out,.inl q1⟩,rfl⟩))⟩,below_dn HBE.out _⟩
   ·have q1':decide (x<0)=false:=decide_eq_false q1
    by_cases q2:(m:Int)≤x
    ·have q2':decide ((m:Int)≤x)=true:=decide_eq_true q2
     go_wp2_with fail
     go_quiet (fail)
     go_wp2
     go_ret
     exact⟨⟨12,rfl,.inr (.inr (.inl ⟨HXE.out,by omega,⟨x,HMQ.out,.inr (by rw[HM.out];exact q2)⟩,rfl⟩))⟩,below_dn HBE.out _⟩
    ·have q2':decide ((m:Int)≤x)=false:=decide_eq_false q2
     have HGN:Hid (∀k (h:k<Q.length),k<i+1→0≤Q[k]∧Q[k]<(m:Int)):=fun k h hk=>by
      rcases Nat.lt_or_ge k i with h1 |h1
      ·exact HG.out k h h1
      ·obtain rfl:k=i:=by omega
       rw[HXQ.out]
       omega
     go_wp2_with fail
     go_quiet (fail)
     go_wp2
     go_roundw
     case rel=>exact⟨i+1,by omega,by go_num,below_dn HBi.out _,HGN⟩
     case measure=>simp[intOf];omega
  ·obtain rfl:i=Q.length:=by omega
   have HGOOD:Hid (∀x∈Q,0≤x∧x<((R2.headD []).length:Int)):=fun x hx=>by
    obtain⟨k,hk,rfl⟩:=List.getElem_of_mem hx
    rw[HM.out]
    exact HG.out k hk hk
   go_wp2
   go_ret
   exact⟨⟨0,rfl,.inr (.inr (.inr ⟨HXE.out,by omega,HGOOD.out,rfl⟩))⟩,HBE.out⟩
end Go.Proofs.YtgamblainfkiaaaGreatDoor
