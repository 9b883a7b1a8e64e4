/- Path of package hidden. -/
import Derived.Test.YtgamblainfkiaaaGreatDoorRegTHxHexB
import Derived.Test.YtgamblainfkiaaaGreatDoorHidFHxHidG
import Derived.Test.YtgamblainfkiaaaGreatDoorFillBHxHidQ
namespace Go.Proofs.YtgamblainfkiaaaGreatDoor
open Go.RowKit Go.Shelf
theorem region_too {P:Program} {c:Code} {Q:Exit→Act→World→Prop} {a:Act} {w:World} (T:Act→Exit→Act→World→Prop) (h:c.wp P (T a) a w) (hm:∀e a' w',T a e a' w'→Q e a' w'):c.wp P Q a w:=Code.wp_mono hm h
theorem HC.way_best (h:HC) (t:Nat):h.way t=bstR (fun j=>h.row h.way t j*h.sh t j*h.best t j) (h.s - 1):=h.way_eq t
structure PaS (W:World) (gw gl:Nat) (X:List Nat) (q:Rat) (U:World):Prop where
 way:RowI U gw X
 lik:Box U gl (sgn q) (nu q) (de q)
 bel:Below W.heap.size W U
theorem PaS.step {W U U':World} {gw gl:Nat} {X:List Nat} {q:Rat} (h:PaS W gw gl X q U) (hb:Below U.heap.size U U'):PaS W gw gl X q U':=⟨h.way.below hb h.way.lt,h.lik.below hb h.lik.lt,h.bel.trans (hb.mono h.bel.size)⟩
theorem PaS.putW {W U:World} {gw gl:Nat} {X:List Nat} {q:Rat} (h:PaS W gw gl X q U) (h1:W.heap.size≤gw) (hne:gw≠gl) (t x:Nat):PaS W gw gl (X.set t x) q (U.setCell ⟨gw,t,none⟩ (.int .i64 (x:Int))):=⟨h.way.set t x,h.lik.away gw t _ (Ne.symm hne),h.bel.setCell (p:=⟨gw,t,none⟩) h1 _⟩
theorem PaS.putL {W U:World} {gw gl:Nat} {X:List Nat} {q:Rat} (h:PaS W gw gl X q U) (h1:W.heap.size≤gl) (hne:gw≠gl) (p:Rat):PaS W gw gl X p (((U.setCell ⟨gl,0,none⟩ (.bool (sgn p))).setCell ⟨gl,1,none⟩ (.string (nu p))).setCell ⟨gl,2,none⟩ (.string (de p))):=⟨((h.way.off gl 0 _ hne).off gl 1 _ hne).off gl 2 _ hne,h.lik.put _ _ _,below_put h.bel h1 _ _ _⟩
theorem Box.three' {w:World} {g:Nat} {neg:Bool} {num den:ByteArray} (h:Box w g neg num den):w.cell? ⟨g,0,none⟩=some (.bool neg)∧w.cell? ⟨g,1,none⟩=some (.string num)∧w.cell? ⟨g,2,none⟩=some (.string den):=⟨h.c0,h.c1,h.c2⟩
set_option maxRecDepth 100000 in
set_option maxHeartbeats 4000000 in
theorem hiPath_yes {D:Nat} (a b c d:Option Addr) (ca cb cc cd n L m:Nat) (l:List Fr) (R1 R2:List (List Fr)) (Q:List Nat) (h:HC) (w:World) (hI:HidI w a b c n m l R1 R2) (hV:HidV D h m l R1 R2 Q) (hsn:h.s=n) (hL:h.L=L) (hb0:b=none→cb=0) (hc0:c=none→cc=0) (hQ:IntS w d (iL Q)):
  Calls Tryz.prog 18 #[.agg #[.slice a n ca,.slice b n cb,.slice c n cc],.slice d L cd] w fun e w'=>Below w.heap.size w w'∧((h.lik h.way L=0∧e=.returned (.tuple #[.slice none 0 0,.agg #[.bool false,.string ⟨#[]⟩,.string ⟨#[]⟩],.int .i64 3]))∨(h.lik h.way L≠0∧∃gw,e=.returned (.tuple #[.slice (some ⟨gw,0,none⟩) L L,frV (qF (h.lik h.way L)),.int .i64 0])∧w.heap.size≤gw∧RowI w' gw ((List.range L).map h.way))):=by
 obtain⟨i1,hi1,hy0,hy1,hy2⟩:=info_parts Tryz.infoInt
 have hqL:=hV.L
 rw[hL] at hqL
 have hA0:=(Below.refl w.heap.size w).alloc (Nat.le_refl _) (HC3 (.slice a n ca) (.slice b n cb) (.slice c n cc))
 have hHB0:=HBox.new w (.slice a n ca) (.slice b n cb) (.slice c n cc)
 have hA:=hA0.alloc hA0.size (FC false ⟨#[]⟩ ⟨#[]⟩)
 have hst:=(Below.refl (w.alloc (HC3 (.slice a n ca) (.slice b n cb) (.slice c n cc))).heap.size (w.alloc (HC3 (.slice a n ca) (.slice b n cb) (.slice c n cc)))).alloc (Nat.le_refl _) (FC false ⟨#[]⟩ ⟨#[]⟩)
 have hHB:=hHB0.below hst hHB0.lt
 have hX:Box ((w.alloc (HC3 (.slice a n ca) (.slice b n cb) (.slice c n cc))).alloc (FC false ⟨#[]⟩ ⟨#[]⟩)) (w.heap.size+1) false ⟨#[]⟩ ⟨#[]⟩:=by
  have h9:=Box.new (w.alloc (HC3 (.slice a n ca) (.slice b n cb) (.slice c n cc))) false ⟨#[]⟩ ⟨#[]⟩
  rwa [World.size_alloc] at h9
 have HCK:Hid (Calls Tryz.prog 28 #[.agg #[.slice a n ca,.slice b n cb,.slice c n cc],.slice d L cd] ((w.alloc (HC3 (.slice a n ca) (.slice b n cb) (.slice c n cc))).alloc (FC false ⟨#[]⟩ ⟨#[]⟩)) fun e w'=>e=.returned (.int .i64 0)∧Below ((w.alloc (HC3 (.slice a n ca) (.slice b n cb) (.slice c n cc))).alloc (FC false ⟨#[]⟩ ⟨#[]⟩)).heap.size ((w.alloc (HC3 (.slice a n ca) (.slice b n cb) (.slice c n cc))).alloc (FC false ⟨#[]⟩ ⟨#[]⟩)) w'):=by
  have h9:=hiCheck2_yes a b c d ca cb cc cd n m l R1 R2 Q _ (hI.below hA) (hV.okn hsn) hb0 hc0 (hQ.below hA) hV.q (by rw[hqL,←hL];exact hV.sm.L8)
  rwa [hqL] at h9
 have HFW:=hid (fun (U:World) (hU:Below w.heap.size w U)=>hiBackBest a b c d ca cb cc cd n L m l R1 R2 Q h U (hI.below hU) hV hsn hL (hQ.below hU))
 have hn4:=hV.sm.s4
 have hn1:=hV.ok.n1
 have hL8:=hV.sm.L8
 have hm4:=hV.ok.m4
 have hok:=hV.okn hsn
 have ho:=hV.sm.ok hV.ok.n1
 have HWL:Hid (∀t,h.way t<n):=fun t=>by have:=ho.way_lt t;omega
 have HWB:Hid (∀t,h.way t=bstR (fun j=>h.row h.way t j*h.sh t j*h.best t j) (n - 1)):=fun t=>by rw[←hsn];exact h.way_best t
 have HRS:Hid (∀t i,t<L→i<n→Sm D 2 (h.row h.way t i*h.sh t i)):=fun t i ht hi=>(hV.sm.row ho.way_lt t i (by omega)).mul (hV.sm.sh t (by omega) i (by omega))
 have HBS:Hid (∀t i,t<L→i<n→Sm D (3*(L - 1 - t)) (h.best t i)):=fun t i ht hi=>by rw[←hL];exact hV.sm.best hV.ok.n1 (by omega) (by omega)
 have HQW:Hid (∀k q,Sm D k q→k≤3*L+1→qw q≤30010):=fun k q hq hk=>hV.sm.qw hq (by omega)
 have HLS:Hid (∀t,t≤L→Sm D (2*t) (h.lik h.way t)):=fun t ht=>hV.sm.lik ho.way_lt t (by omega)
 obtain⟨-, -,hq2,hst2,hmv,hsh, -⟩:=hV
 rw[hsn] at hn4 hn1 hst2 hmv
 rw[hL] at hL8
 have HOK:=hid hok
 have HQL:=hid hqL
 have HQM:=hid hq2
 have HMV:=hid hmv
 have HSHV:=hid hsh
 have HR0:Hid (FrS w a l∧Lst n (h.row h.way 0) l):=⟨hI.st,hst2⟩
 have HI:=hid hI
 have HQ:=hid hQ
 have HO1:=hid (fun V:World=>fOf_q (k:=1) (w:=V) 1 1 rfl (by decide) (by rfl))
 have HO0:=hid (fun V:World=>fOf_q (k:=0) (w:=V) 0 0 rfl (by decide) (by rfl))
 have hwl:((List.range L).map h.way).length=L:=by simp
 have HWG:Hid (∀t,t<L→((List.range L).map h.way)[t]? =some (h.way t)):=fun t ht=>by rw[List.getElem?_map,List.getElem?_range ht];rfl
 generalize (List.range L).map h.way=WL at *
 have HH:=hid hHB
 have HX:=hid hX
 have HA:=hid hA
 obtain⟨e0,e1,e2⟩:=hHB.cells
 clear hI hsn hL hb0 hc0 hQ hqL hA hHB hA0 hHB0 hst hX hok ho hq2 hst2 hmv hsh
 go_enter Tryz.func18,Tryz.ntmps18
 go_wp2_with fail
 generalize ((w.alloc (HC3 (.slice a n ca) (.slice b n cb) (.slice c n cc))).alloc (FC false ⟨#[]⟩ ⟨#[]⟩))=W at *
 refine HCK.out.mono ?_
 rintro e w1 ⟨rfl,hb1⟩
 have HB1:=hid (HA.out.trans (hb1.mono HA.out.size))
 have hH1:=HH.out.below hb1 HH.out.lt
 replace HX:=hid (HX.out.below hb1 HX.out.lt)
 clear hb1 e0 e1 e2
 obtain⟨e0,e1,e2⟩:=hH1.cells
 go_wp2_with fail
 refine(HFW.out _ HB1.out).mono ?_
 rintro e W1 ⟨G8,rfl,hG8,hr8,hb2⟩
 have HRB:=hid (HX.out.below hb2 HX.out.lt)
 have HW1:=hid (HB1.out.trans (hb2.mono HB1.out.size))
 have HHB:=hid (hH1.below hb2 hH1.lt)
 have HF8:=hid hr8
 have hW1s:w.heap.size+1<W1.heap.size:=HRB.out.lt
 clear hr8 hb2 hG8 hH1 e0 e1 e2 HX HB1 HA HH HCK HFW
 go_upto_region 5 with fail
 refine region_too (fun a0 e a' w'=>e=.normal∧∃(gw gl:Nat),a'=(((((((((a0.put (some 25) (.slice d L cd)).put (some 26) (.int .i64 (L:Nat))).put (some 27) (.slice (some ⟨gw,0,none⟩) L L)).put (some 28) (.agg #[.bool (sgn 1),.string (nu 1),.string (de 1)])).put (some 29) (.pointer (some ⟨w.heap.size,0,none⟩))).put (some 30) (.slice a n ca)).put (some 10) (.pointer (some ⟨gl,0,none⟩))).put (some 9) (.slice (some ⟨gw,0,none⟩) L L)).put (some 11) (.slice a n ca))∧RowI w' gw (List.replicate L 0)∧Box w' gl (sgn 1) (nu 1) (de 1)∧W1.heap.size≤gw∧W1.heap.size≤gl∧gw≠gl∧Below W1.heap.size W1 w') ?_ ?_
 ·have HB:Hid (Below W1.heap.size W1 W1.drew):=(Below.refl _ W1).drew
  obtain⟨y0,hy⟩:∃x,W1.drew=x:=⟨_,rfl⟩
  rw[hy] at HB
  refine wp_region_held_drew (S:=fun u=>u.cell? ⟨w.heap.size,0,none⟩=some (.slice a n ca)) (by kernel_rfl) (by rw[hy];exact(HHB.out.below HB.out HHB.out.lt).cells.1) (fun hSd=>?_)
  rw[hy] at hSd⊢
  clear hy
  refine tkB 0 (.slice d L cd) ?_
  try simp only[gE,aP]
  refine tkB 1 (.int .i64 (L:Nat)) ?_
  try simp only[gE,aP]
  refine tkB 4 (.pointer (some ⟨w.heap.size,0,none⟩)) ?_
  try simp only[gE,aP]
  refine tkA 5 (.slice a n ca) ?_ ?_
  ·intro u' hSu;try simp only[gE]
   obtain s0:=hSu
   go_simp
  try simp only[gE,aP]
  refine rdA [2,3,6] (cA ?_ (cA ?_ (cA ?_ AllReadyH.nil)))
  ·intro K' hK'
   rw[if_pos (by rfl)]
   refine wp_make_full _ _ _ 26 rfl y0.heap.size 3 i1 (.int .i64 0) 1 Tryz.underlying26 hi1 hy0 hy1 .i64 .i64 _ _ L rfl rfl (by go_num) (by go_num) (by rw[hy2];omega) (by unfold maxLen;omega) (Nat.le_refl _) ?_
   intro y1 hown2 hgrow2
   have hbn:Below y0.heap.size y0 y1:=(Below.refl _ y0).grown hgrow2 (Nat.le_refl _) (fun k e=>by cases e)
   have hb2:=block_of_own hown2
   rw[made_ints] at hb2
   have HR:Hid (RowI y1 y0.heap.size (List.replicate L 0)):=hb2
   have hgw:W1.heap.size≤y0.heap.size:=HB.out.size
   obtain⟨gw,hgwe⟩:∃x,y0.heap.size=x:=⟨_,rfl⟩
   simp only[hgwe] at HR hgw⊢
   replace HB:=hid (HB.out.trans (hbn.mono HB.out.size))
   refine hK'.out _ _ ((HHB.out.below HB.out HHB.out.lt).cells.1) (fun hSe=>?_)
   clear hK' K' hSd
   have hSd:=hSe
   clear hSe
   clear hown2 hgrow2 hb2 hbn hgwe
   try simp only[gE,aP]
   refine rdA [3,6] (cA ?_ (cA ?_ AllReadyH.nil))
   ·intro K' hK'
    go_simp
    refine(HO1.out _).mono ?_
    rintro e y2 ⟨rfl,hbn⟩
    replace HR:=hid (HR.out.below hbn HR.out.lt)
    replace HB:=hid (HB.out.trans (hbn.mono HB.out.size))
    refine hK'.out _ _ ((HHB.out.below HB.out HHB.out.lt).cells.1) (fun hSe=>?_)
    clear hK' K' hSd
    have hSd:=hSe
    clear hSe
    clear hbn
    try simp only[gE,aP]
    refine rdA [6] (cA ?_ AllReadyH.nil)
    ·intro K' hK'
     go_simp
     have hbn:=(Below.refl y2.heap.size y2).alloc (Nat.le_refl _) (FC false ⟨#[]⟩ ⟨#[]⟩)
     have HX:=hid (Box.new y2 false ⟨#[]⟩ ⟨#[]⟩)
     have hgl:W1.heap.size≤y2.heap.size:=HB.out.size
     obtain⟨gl,hgle⟩:∃x,y2.heap.size=x:=⟨_,rfl⟩
     have hne:gw≠gl:=by have h1:=HR.out.lt;have h2:=hgle;omega
     replace HR:=hid (HR.out.below hbn HR.out.lt)
     replace HB:=hid (HB.out.trans (hbn.mono HB.out.size))
     refine hK'.out _ _ ((HHB.out.below HB.out HHB.out.lt).cells.1) (fun hSe=>?_)
     clear hK' K' hSd
     have hSd:=hSe
     clear hSe
     obtain⟨y3,hV⟩:∃x,y2.alloc (FC false ⟨#[]⟩ ⟨#[]⟩)=x:=⟨_,rfl⟩
     rw[hV] at HX HB
     rw[hV] at HR
     rw[hgle] at HX hgl
     simp only[hV] at hSd⊢
     simp only[hgle]
     clear hbn hgle hV
     try simp only[gE,aP]
     refine tkB 7 (.slice (some ⟨gw,0,none⟩) L L) ?_
     try simp only[gE,aP]
     obtain⟨k0,k1,k2,f0,f1,f2⟩:=HX.out.facts
     refine rdA [8] (cA ?_ AllReadyH.nil)
     ·intro K' hK'
      go_simp
      have HXP:=hid (HX.out.put (sgn 1) (nu 1) (de 1))
      have HRP:=hid (((HR.out.off gl 0 (.bool (sgn 1)) hne).off gl 1 (.string (nu 1)) hne).off gl 2 (.string (de 1)) hne)
      have HBP:=hid (below_put HB.out hgl (.bool (sgn 1)) (.string (nu 1)) (.string (de 1)))
      refine hK'.out _ _ ((HHB.out.below HBP.out HHB.out.lt).cells.1) (fun hSe=>?_)
      clear hK' K' hSd k0 k1 k2 f0 f1 f2
      try simp only[gE,aP]
      refine tkB 9 (.slice a n ca) ?_
      try simp only[gE,aP]
      refine wpAnyH_done (by kernel_rfl) ?_ _
      exact⟨rfl,gw,gl,rfl,HRP.out,HXP.out,hgw,hgl,hne,HBP.out⟩
   ·intro K' hK'
    go_simp
    have hbn:=(Below.refl y1.heap.size y1).alloc (Nat.le_refl _) (FC false ⟨#[]⟩ ⟨#[]⟩)
    have HX:=hid (Box.new y1 false ⟨#[]⟩ ⟨#[]⟩)
    have hgl:W1.heap.size≤y1.heap.size:=HB.out.size
    obtain⟨gl,hgle⟩:∃x,y1.heap.size=x:=⟨_,rfl⟩
    have hne:gw≠gl:=by have h1:=HR.out.lt;have h2:=hgle;omega
    replace HR:=hid (HR.out.below hbn HR.out.lt)
    replace HB:=hid (HB.out.trans (hbn.mono HB.out.size))
    refine hK'.out _ _ ((HHB.out.below HB.out HHB.out.lt).cells.1) (fun hSe=>?_)
    clear hK' K' hSd
    have hSd:=hSe
    clear hSe
    obtain⟨y2,hV⟩:∃x,y1.alloc (FC false ⟨#[]⟩ ⟨#[]⟩)=x:=⟨_,rfl⟩
    rw[hV] at HX HB
    rw[hV] at HR
    rw[hgle] at HX hgl
    simp only[hV] at hSd⊢
    simp only[hgle]
    clear hbn hgle hV
    try simp only[gE,aP]
    refine rdA [3] (cA ?_ AllReadyH.nil)
    ·intro K' hK'
     go_simp
     refine(HO1.out _).mono ?_
     rintro e y3 ⟨rfl,hbn⟩
     replace HR:=hid (HR.out.below hbn HR.out.lt)
     replace HX:=hid (HX.out.below hbn HX.out.lt)
     replace HB:=hid (HB.out.trans (hbn.mono HB.out.size))
     refine hK'.out _ _ ((HHB.out.below HB.out HHB.out.lt).cells.1) (fun hSe=>?_)
     clear hK' K' hSd
     have hSd:=hSe
     clear hSe
     clear hbn
     try simp only[gE,aP]
     refine tkB 7 (.slice (some ⟨gw,0,none⟩) L L) ?_
     try simp only[gE,aP]
     obtain⟨k0,k1,k2,f0,f1,f2⟩:=HX.out.facts
     refine rdA [8] (cA ?_ AllReadyH.nil)
     ·intro K' hK'
      go_simp
      have HXP:=hid (HX.out.put (sgn 1) (nu 1) (de 1))
      have HRP:=hid (((HR.out.off gl 0 (.bool (sgn 1)) hne).off gl 1 (.string (nu 1)) hne).off gl 2 (.string (de 1)) hne)
      have HBP:=hid (below_put HB.out hgl (.bool (sgn 1)) (.string (nu 1)) (.string (de 1)))
      refine hK'.out _ _ ((HHB.out.below HBP.out HHB.out.lt).cells.1) (fun hSe=>?_)
      clear hK' K' hSd k0 k1 k2 f0 f1 f2
      try simp only[gE,aP]
      refine tkB 9 (.slice a n ca) ?_
      try simp only[gE,aP]
      refine wpAnyH_done (by kernel_rfl) ?_ _
      exact⟨rfl,gw,gl,rfl,HRP.out,HXP.out,hgw,hgl,hne,HBP.out⟩
  ·intro K' hK'
   go_simp
   refine(HO1.out _).mono ?_
   rintro e y1 ⟨rfl,hbn⟩
   replace HB:=hid (HB.out.trans (hbn.mono HB.out.size))
   refine hK'.out _ _ ((HHB.out.below HB.out HHB.out.lt).cells.1) (fun hSe=>?_)
   clear hK' K' hSd
   have hSd:=hSe
   clear hSe
   clear hbn
   try simp only[gE,aP]
   refine rdA [2,6] (cA ?_ (cA ?_ AllReadyH.nil))
   ·intro K' hK'
    rw[if_pos (by rfl)]
    refine wp_make_full _ _ _ 26 rfl y1.heap.size 3 i1 (.int .i64 0) 1 Tryz.underlying26 hi1 hy0 hy1 .i64 .i64 _ _ L rfl rfl (by go_num) (by go_num) (by rw[hy2];omega) (by unfold maxLen;omega) (Nat.le_refl _) ?_
    intro y2 hown2 hgrow2
    have hbn:Below y1.heap.size y1 y2:=(Below.refl _ y1).grown hgrow2 (Nat.le_refl _) (fun k e=>by cases e)
    have hb2:=block_of_own hown2
    rw[made_ints] at hb2
    have HR:Hid (RowI y2 y1.heap.size (List.replicate L 0)):=hb2
    have hgw:W1.heap.size≤y1.heap.size:=HB.out.size
    obtain⟨gw,hgwe⟩:∃x,y1.heap.size=x:=⟨_,rfl⟩
    simp only[hgwe] at HR hgw⊢
    replace HB:=hid (HB.out.trans (hbn.mono HB.out.size))
    refine hK'.out _ _ ((HHB.out.below HB.out HHB.out.lt).cells.1) (fun hSe=>?_)
    clear hK' K' hSd
    have hSd:=hSe
    clear hSe
    clear hown2 hgrow2 hb2 hbn hgwe
    try simp only[gE,aP]
    refine rdA [6] (cA ?_ AllReadyH.nil)
    ·intro K' hK'
     go_simp
     have hbn:=(Below.refl y2.heap.size y2).alloc (Nat.le_refl _) (FC false ⟨#[]⟩ ⟨#[]⟩)
     have HX:=hid (Box.new y2 false ⟨#[]⟩ ⟨#[]⟩)
     have hgl:W1.heap.size≤y2.heap.size:=HB.out.size
     obtain⟨gl,hgle⟩:∃x,y2.heap.size=x:=⟨_,rfl⟩
     have hne:gw≠gl:=by have h1:=HR.out.lt;have h2:=hgle;omega
     replace HR:=hid (HR.out.below hbn HR.out.lt)
     replace HB:=hid (HB.out.trans (hbn.mono HB.out.size))
     refine hK'.out _ _ ((HHB.out.below HB.out HHB.out.lt).cells.1) (fun hSe=>?_)
     clear hK' K' hSd
     have hSd:=hSe
     clear hSe
     obtain⟨y3,hV⟩:∃x,y2.alloc (FC false ⟨#[]⟩ ⟨#[]⟩)=x:=⟨_,rfl⟩
     rw[hV] at HX HB
     rw[hV] at HR
     rw[hgle] at HX hgl
     simp only[hV] at hSd⊢
     simp only[hgle]
     clear hbn hgle hV
     try simp only[gE,aP]
     refine tkB 7 (.slice (some ⟨gw,0,none⟩) L L) ?_
     try simp only[gE,aP]
     obtain⟨k0,k1,k2,f0,f1,f2⟩:=HX.out.facts
     refine rdA [8] (cA ?_ AllReadyH.nil)
     ·intro K' hK'
      go_simp
      have HXP:=hid (HX.out.put (sgn 1) (nu 1) (de 1))
      have HRP:=hid (((HR.out.off gl 0 (.bool (sgn 1)) hne).off gl 1 (.string (nu 1)) hne).off gl 2 (.string (de 1)) hne)
      have HBP:=hid (below_put HB.out hgl (.bool (sgn 1)) (.string (nu 1)) (.string (de 1)))
      refine hK'.out _ _ ((HHB.out.below HBP.out HHB.out.lt).cells.1) (fun hSe=>?_)
      clear hK' K' hSd k0 k1 k2 f0 f1 f2
      try simp only[gE,aP]
      refine tkB 9 (.slice a n ca) ?_
      try simp only[gE,aP]
      refine wpAnyH_done (by kernel_rfl) ?_ _
      exact⟨rfl,gw,gl,rfl,HRP.out,HXP.out,hgw,hgl,hne,HBP.out⟩
   ·intro K' hK'
    go_simp
    have hbn:=(Below.refl y1.heap.size y1).alloc (Nat.le_refl _) (FC false ⟨#[]⟩ ⟨#[]⟩)
    have HX:=hid (Box.new y1 false ⟨#[]⟩ ⟨#[]⟩)
    have hgl:W1.heap.size≤y1.heap.size:=HB.out.size
    obtain⟨gl,hgle⟩:∃x,y1.heap.size=x:=⟨_,rfl⟩
    replace HB:=hid (HB.out.trans (hbn.mono HB.out.size))
    refine hK'.out _ _ ((HHB.out.below HB.out HHB.out.lt).cells.1) (fun hSe=>?_)
    clear hK' K' hSd
    have hSd:=hSe
    clear hSe
    obtain⟨y2,hV⟩:∃x,y1.alloc (FC false ⟨#[]⟩ ⟨#[]⟩)=x:=⟨_,rfl⟩
    rw[hV] at HX HB
    rw[hgle] at HX hgl
    simp only[hV] at hSd⊢
    simp only[hgle]
    clear hbn hgle hV
    try simp only[gE,aP]
    refine rdA [2] (cA ?_ AllReadyH.nil)
    ·intro K' hK'
     rw[if_pos (by rfl)]
     refine wp_make_full _ _ _ 26 rfl y2.heap.size 3 i1 (.int .i64 0) 1 Tryz.underlying26 hi1 hy0 hy1 .i64 .i64 _ _ L rfl rfl (by go_num) (by go_num) (by rw[hy2];omega) (by unfold maxLen;omega) (Nat.le_refl _) ?_
     intro y3 hown2 hgrow2
     have hbn:Below y2.heap.size y2 y3:=(Below.refl _ y2).grown hgrow2 (Nat.le_refl _) (fun k e=>by cases e)
     have hb2:=block_of_own hown2
     rw[made_ints] at hb2
     have HR:Hid (RowI y3 y2.heap.size (List.replicate L 0)):=hb2
     have hgw:W1.heap.size≤y2.heap.size:=HB.out.size
     obtain⟨gw,hgwe⟩:∃x,y2.heap.size=x:=⟨_,rfl⟩
     simp only[hgwe] at HR hgw⊢
     have hne:gw≠gl:=by have h1:=HX.out.lt;have h2:=hgwe;omega
     replace HX:=hid (HX.out.below hbn HX.out.lt)
     replace HB:=hid (HB.out.trans (hbn.mono HB.out.size))
     refine hK'.out _ _ ((HHB.out.below HB.out HHB.out.lt).cells.1) (fun hSe=>?_)
     clear hK' K' hSd
     have hSd:=hSe
     clear hSe
     clear hown2 hgrow2 hb2 hbn hgwe
     try simp only[gE,aP]
     refine tkB 7 (.slice (some ⟨gw,0,none⟩) L L) ?_
     try simp only[gE,aP]
     obtain⟨k0,k1,k2,f0,f1,f2⟩:=HX.out.facts
     refine rdA [8] (cA ?_ AllReadyH.nil)
     ·intro K' hK'
      go_simp
      have HXP:=hid (HX.out.put (sgn 1) (nu 1) (de 1))
      have HRP:=hid (((HR.out.off gl 0 (.bool (sgn 1)) hne).off gl 1 (.string (nu 1)) hne).off gl 2 (.string (de 1)) hne)
      have HBP:=hid (below_put HB.out hgl (.bool (sgn 1)) (.string (nu 1)) (.string (de 1)))
      refine hK'.out _ _ ((HHB.out.below HBP.out HHB.out.lt).cells.1) (fun hSe=>?_)
      clear hK' K' hSd k0 k1 k2 f0 f1 f2
      try simp only[gE,aP]
      refine tkB 9 (.slice a n ca) ?_
      try simp only[gE,aP]
      refine wpAnyH_done (by kernel_rfl) ?_ _
      exact⟨rfl,gw,gl,rfl,HRP.out,HXP.out,hgw,hgl,hne,HBP.out⟩
  ·intro K' hK'
   go_simp
   have hbn:=(Below.refl y0.heap.size y0).alloc (Nat.le_refl _) (FC false ⟨#[]⟩ ⟨#[]⟩)
   have HX:=hid (Box.new y0 false ⟨#[]⟩ ⟨#[]⟩)
   have hgl:W1.heap.size≤y0.heap.size:=HB.out.size
   obtain⟨gl,hgle⟩:∃x,y0.heap.size=x:=⟨_,rfl⟩
   replace HB:=hid (HB.out.trans (hbn.mono HB.out.size))
   refine hK'.out _ _ ((HHB.out.below HB.out HHB.out.lt).cells.1) (fun hSe=>?_)
   clear hK' K' hSd
   have hSd:=hSe
   clear hSe
   obtain⟨y1,hV⟩:∃x,y0.alloc (FC false ⟨#[]⟩ ⟨#[]⟩)=x:=⟨_,rfl⟩
   rw[hV] at HX HB
   rw[hgle] at HX hgl
   simp only[hV] at hSd⊢
   simp only[hgle]
   clear hbn hgle hV
   try simp only[gE,aP]
   refine rdA [2,3] (cA ?_ (cA ?_ AllReadyH.nil))
   ·intro K' hK'
    rw[if_pos (by rfl)]
    refine wp_make_full _ _ _ 26 rfl y1.heap.size 3 i1 (.int .i64 0) 1 Tryz.underlying26 hi1 hy0 hy1 .i64 .i64 _ _ L rfl rfl (by go_num) (by go_num) (by rw[hy2];omega) (by unfold maxLen;omega) (Nat.le_refl _) ?_
    intro y2 hown2 hgrow2
    have hbn:Below y1.heap.size y1 y2:=(Below.refl _ y1).grown hgrow2 (Nat.le_refl _) (fun k e=>by cases e)
    have hb2:=block_of_own hown2
    rw[made_ints] at hb2
    have HR:Hid (RowI y2 y1.heap.size (List.replicate L 0)):=hb2
    have hgw:W1.heap.size≤y1.heap.size:=HB.out.size
    obtain⟨gw,hgwe⟩:∃x,y1.heap.size=x:=⟨_,rfl⟩
    simp only[hgwe] at HR hgw⊢
    have hne:gw≠gl:=by have h1:=HX.out.lt;have h2:=hgwe;omega
    replace HX:=hid (HX.out.below hbn HX.out.lt)
    replace HB:=hid (HB.out.trans (hbn.mono HB.out.size))
    refine hK'.out _ _ ((HHB.out.below HB.out HHB.out.lt).cells.1) (fun hSe=>?_)
    clear hK' K' hSd
    have hSd:=hSe
    clear hSe
    clear hown2 hgrow2 hb2 hbn hgwe
    try simp only[gE,aP]
    refine rdA [3] (cA ?_ AllReadyH.nil)
    ·intro K' hK'
     go_simp
     refine(HO1.out _).mono ?_
     rintro e y3 ⟨rfl,hbn⟩
     replace HR:=hid (HR.out.below hbn HR.out.lt)
     replace HX:=hid (HX.out.below hbn HX.out.lt)
     replace HB:=hid (HB.out.trans (hbn.mono HB.out.size))
     refine hK'.out _ _ ((HHB.out.below HB.out HHB.out.lt).cells.1) (fun hSe=>?_)
     clear hK' K' hSd
     have hSd:=hSe
     clear hSe
     clear hbn
     try simp only[gE,aP]
     refine tkB 7 (.slice (some ⟨gw,0,none⟩) L L) ?_
     try simp only[gE,aP]
     obtain⟨k0,k1,k2,f0,f1,f2⟩:=HX.out.facts
     refine rdA [8] (cA ?_ AllReadyH.nil)
     ·intro K' hK'
      go_simp
      have HXP:=hid (HX.out.put (sgn 1) (nu 1) (de 1))
      have HRP:=hid (((HR.out.off gl 0 (.bool (sgn 1)) hne).off gl 1 (.string (nu 1)) hne).off gl 2 (.string (de 1)) hne)
      have HBP:=hid (below_put HB.out hgl (.bool (sgn 1)) (.string (nu 1)) (.string (de 1)))
      refine hK'.out _ _ ((HHB.out.below HBP.out HHB.out.lt).cells.1) (fun hSe=>?_)
      clear hK' K' hSd k0 k1 k2 f0 f1 f2
      try simp only[gE,aP]
      refine tkB 9 (.slice a n ca) ?_
      try simp only[gE,aP]
      refine wpAnyH_done (by kernel_rfl) ?_ _
      exact⟨rfl,gw,gl,rfl,HRP.out,HXP.out,hgw,hgl,hne,HBP.out⟩
   ·intro K' hK'
    go_simp
    refine(HO1.out _).mono ?_
    rintro e y2 ⟨rfl,hbn⟩
    replace HX:=hid (HX.out.below hbn HX.out.lt)
    replace HB:=hid (HB.out.trans (hbn.mono HB.out.size))
    refine hK'.out _ _ ((HHB.out.below HB.out HHB.out.lt).cells.1) (fun hSe=>?_)
    clear hK' K' hSd
    have hSd:=hSe
    clear hSe
    clear hbn
    try simp only[gE,aP]
    refine rdA [2] (cA ?_ AllReadyH.nil)
    ·intro K' hK'
     rw[if_pos (by rfl)]
     refine wp_make_full _ _ _ 26 rfl y2.heap.size 3 i1 (.int .i64 0) 1 Tryz.underlying26 hi1 hy0 hy1 .i64 .i64 _ _ L rfl rfl (by go_num) (by go_num) (by rw[hy2];omega) (by unfold maxLen;omega) (Nat.le_refl _) ?_
     intro y3 hown2 hgrow2
     have hbn:Below y2.heap.size y2 y3:=(Below.refl _ y2).grown hgrow2 (Nat.le_refl _) (fun k e=>by cases e)
     have hb2:=block_of_own hown2
     rw[made_ints] at hb2
     have HR:Hid (RowI y3 y2.heap.size (List.replicate L 0)):=hb2
     have hgw:W1.heap.size≤y2.heap.size:=HB.out.size
     obtain⟨gw,hgwe⟩:∃x,y2.heap.size=x:=⟨_,rfl⟩
     simp only[hgwe] at HR hgw⊢
     have hne:gw≠gl:=by have h1:=HX.out.lt;have h2:=hgwe;omega
     replace HX:=hid (HX.out.below hbn HX.out.lt)
     replace HB:=hid (HB.out.trans (hbn.mono HB.out.size))
     refine hK'.out _ _ ((HHB.out.below HB.out HHB.out.lt).cells.1) (fun hSe=>?_)
     clear hK' K' hSd
     have hSd:=hSe
     clear hSe
     clear hown2 hgrow2 hb2 hbn hgwe
     try simp only[gE,aP]
     refine tkB 7 (.slice (some ⟨gw,0,none⟩) L L) ?_
     try simp only[gE,aP]
     obtain⟨k0,k1,k2,f0,f1,f2⟩:=HX.out.facts
     refine rdA [8] (cA ?_ AllReadyH.nil)
     ·intro K' hK'
      go_simp
      have HXP:=hid (HX.out.put (sgn 1) (nu 1) (de 1))
      have HRP:=hid (((HR.out.off gl 0 (.bool (sgn 1)) hne).off gl 1 (.string (nu 1)) hne).off gl 2 (.string (de 1)) hne)
      have HBP:=hid (below_put HB.out hgl (.bool (sgn 1)) (.string (nu 1)) (.string (de 1)))
      refine hK'.out _ _ ((HHB.out.below HBP.out HHB.out.lt).cells.1) (fun hSe=>?_)
      clear hK' K' hSd k0 k1 k2 f0 f1 f2
      try simp only[gE,aP]
      refine tkB 9 (.slice a n ca) ?_
      try simp only[gE,aP]
      refine wpAnyH_done (by kernel_rfl) ?_ _
      exact⟨rfl,gw,gl,rfl,HRP.out,HXP.out,hgw,hgl,hne,HBP.out⟩
 rintro e a' w2 ⟨rfl,gw,gl,rfl,hrw,hbl,hgw,hgl,hne,hbW⟩
 have HP0:Hid (PaS W1 gw gl (partD WL 0) (h.lik h.way 0) w2):=⟨by rw[partD_zero,hwl];exact hrw,hbl,hbW⟩
 clear hrw hbl hbW
 try simp only[aP]
 go_wp2_with fail
 go_loopw [11,33] (fun rv iv wr=>∃t:Nat,t≤L∧iv=.int .i64 t∧(∃(dr:Option Addr) (cr:Nat) (r:List Fr),rv=.slice dr n cr∧Hid (FrS w dr r∧Lst n (h.row h.way t) r))∧Hid (PaS W1 gw gl (partD WL t) (h.lik h.way t) wr)) (fun _ iv _=>L - (intOf iv).toNat)
 case atStart=>exact⟨0,Nat.zero_le _,rfl,⟨a,ca,l,rfl,HR0⟩,HP0⟩
 case round=>
  obtain⟨t,ht,rfl,⟨dr,cr,r,rfl,HRR⟩,HP⟩:=hrel
  clear HP0 HR0
  by_cases hlt:t<L
  ·have htQ:t<Q.length:=by rw[HQL.out];exact hlt
   have hbw:=HW1.out.trans (HP.out.bel.mono HW1.out.size)
   obtain⟨gq,oq,rfl,hgq,q0⟩:=(HQ.out.below hbw) t (by rw[iL_length];exact htQ)
   have eq:(iL Q)[t]'(by rw[iL_length];exact htQ)=((Q[t]:Nat):Int):=by simp[iL]
   rw[eq] at q0
   have hq4:Q[t]<m:=HQM.out _ (List.getElem_mem htQ)
   obtain⟨g8,o8,b8,c8,e8,hg8,r80,r81, -⟩:=HF8.out t (by simpa using hlt)
   cases e8
   have er:((List.range L).map fun t=>lF n (h.best t))[t]'(by simpa using hlt)=lF n (h.best t):=by simp
   rw[er,lF_length,Nat.zero_add] at r80
   rw[er] at r81
   have HSH:=hid (fun (U:World) (hU:Below w.heap.size w U)=>hShown_any a b c dr n n ca cb cc cr n Q[t] R2 r (h.row h.way t) (h.sh t) U ((HI.out.below hU).sh) (HRR.out.1.below hU) HRR.out.2 HOK.out.sh.len (HSHV.out t htQ) (fun i hi=>by rw[HOK.out.sh.each i hi];omega) (by omega))
   have HLH:Hid (Lst n (fun i=>h.row h.way t i*h.sh t i) (lF n fun i=>h.row h.way t i*h.sh t i)):=Lst.mk' fun i hi=>HQW.out _ _ (HRS.out t i hlt hi) (by omega)
   have HTI:=hid (fun (U:World) (hU:Below W1.heap.size W1 U) (g:Nat) (hg:FrS U (some ⟨g,0,none⟩) (lF n fun i=>h.row h.way t i*h.sh t i))=>hTimes_any (some ⟨g,0,none⟩) b8 n c8 n _ _ (fun i=>h.row h.way t i*h.sh t i) (h.best t) U hg (r81.below hU) HLH.out (Lst.mk' fun i hi=>HQW.out _ _ (HBS.out t i hlt hi) (by omega)) (by omega))
   have HFG:Hid (∀(U:World) (g:Nat),FrS U (some ⟨g,0,none⟩) (lF n fun i=>h.row h.way t i*h.sh t i*h.best t i)→Calls Tryz.prog 53 #[.slice (some ⟨g,0,none⟩) n n] U fun e w'=>e=.returned (.int .i64 (h.way t:Nat))∧Below U.heap.size U w'):=fun U g hg=>by
    have h9:=hFirst_any (some ⟨g,0,none⟩) n n _ (fun i=>h.row h.way t i*h.sh t i*h.best t i) U hg (Lst.mk' fun i hi=>HQW.out _ _ ((HRS.out t i hlt hi).mul (HBS.out t i hlt hi)) (by omega)) hn1 (by omega)
    rwa [←HWB.out t] at h9
   have hwn:=HWL.out t
   have HMU:Hid (∀V:World,Calls Tryz.prog 54 #[.agg #[.bool (sgn (h.lik h.way t)),.string (nu (h.lik h.way t)),.string (de (h.lik h.way t))],.agg #[.bool (qF (h.row h.way t (h.way t)*h.sh t (h.way t))).1,.string (qF (h.row h.way t (h.way t)*h.sh t (h.way t))).2.1,.string (qF (h.row h.way t (h.way t)*h.sh t (h.way t))).2.2]] V fun e w'=>e=.returned (.agg #[.bool (sgn (h.lik h.way (t+1))),.string (nu (h.lik h.way (t+1))),.string (de (h.lik h.way (t+1)))])∧Below V.heap.size V w'):=fun V=>by
    have h1:=HQW.out _ _ (HLS.out t ht) (by omega)
    have h2:=HQW.out _ _ (HRS.out t (h.way t) hlt hwn) (by omega)
    have z1:=own_size (h.lik h.way t)
    have z2:=own_size (h.row h.way t (h.way t)*h.sh t (h.way t))
    exact fMul_q (h.lik h.way (t+1)) (val_own _) (val_own _) rfl (by omega) (by show (nu _).size+(de _).size≤_;omega)
   have hpb:t<(partD WL (t+1)).length:=by rw[partD_length _ (by omega)];omega
   obtain⟨hd1,hd2⟩:=List.getElem?_eq_some_iff.1 (HWG.out t hlt)
   have HPS:=hid (partD_set WL hd1)
   rw[hd2] at HPS
   have HPW:Hid ((partD WL (t+1))[t]'hpb=h.way t):=by
    have h9:=HPS.out
    show _=_
    simp only[←h9,List.getElem_set_self]
   have HWT:Hid (h.mv (h.way t)=h.row h.way (t+1)):=rfl
   clear hd1 hd2 eq er
   generalize Q[t]=qt at *
   have hhb:=HHB.out.below HP.out.bel HHB.out.lt
   obtain⟨e0,e1,e2⟩:=hhb.cells
   go_wp2_with fail
   refine(HSH.out _ hbw).mono ?_
   rintro e w3 ⟨gh,rfl,hgh0,hrh,hb3⟩
   have hgh:gh≠gl:=by have:=HP.out.lik.lt;omega
   have hghw:gh≠gw:=by have:=HP.out.way.lt;omega
   replace HP:=hid (HP.out.step hb3)
   have HHR:=hid hrh
   have r8w:=(HP.out.bel.cell (p:=⟨G8,_,none⟩) hg8).trans r80
   clear hb3 hrh e0 e1 e2 hhb q0 hbw hgh0
   go_wp2_with fail
   refine(HTI.out _ HP.out.bel gh HHR.out.fr).mono ?_
   rintro e w4 ⟨g4,rfl,hg4,hr4,hb4⟩
   replace HP:=hid (HP.out.step hb4)
   replace HHR:=hid (HHR.out.below hb4 HHR.out.lt)
   have HR4:=hid hr4.fr
   clear hb4 hr4 r8w hg4
   go_wp2_with fail
   refine(HFG.out _ g4 HR4.out).mono ?_
   rintro e w5 ⟨rfl,hb5⟩
   replace HP:=hid (HP.out.step hb5)
   replace HHR:=hid (HHR.out.below hb5 HHR.out.lt)
   clear hb5 HR4
   have k0:=HP.out.way.cell t (by rw[partD_length _ (by omega)];omega)
   have f0:=HP.out.way.fz t
   generalize (partD WL t)[t]'(by rw[partD_length _ (by omega)];omega)=zt at *
   have HP2:=hid (HP.out.putW hgw hne t (h.way t))
   rw[HPS.out] at HP2
   have HHR2:Hid (RowF (w5.setCell ⟨gw,t,none⟩ (.int .i64 ((h.way t:Nat):Int))) gh (lF n fun i=>h.row h.way t i*h.sh t i)):=HHR.out.off gw t _ hghw
   clear HP HHR
   have HP:=HP2
   have HHR:=HHR2
   clear HP2 HHR2
   have HLI:Hid ((lF n fun i=>h.row h.way t i*h.sh t i)[h.way t]? =some (qF (h.row h.way t (h.way t)*h.sh t (h.way t)))):=lF_get? (f:=fun i=>h.row h.way t i*h.sh t i) hwn
   have HLL:Hid ((lF n fun i=>h.row h.way t i*h.sh t i).length=n):=lF_length _ _
   generalize (lF n fun i=>h.row h.way t i*h.sh t i)=HL at *
   generalize qF (h.row h.way t (h.way t)*h.sh t (h.way t))=hf at *
   obtain⟨wt,hwt⟩:∃x,h.way t=x:=⟨_,rfl⟩
   simp only[hwt] at hwn HLI HPW HWT HP HHR⊢
   clear hwt HSH HTI HFG HPS
   go_upto_region 11 with fail
   clear k0 f0
   generalize (w5.setCell ⟨gw,t,none⟩ (.int .i64 ((wt:Nat):Int)))=Wa at *
   have HELD:Hid (∀u,RowI u gw (partD WL (t+1))→RowF u gh HL→u.cell? ⟨gw,t,none⟩=some (.int .i64 (wt:Nat))∧u.cell? ⟨gh,wt*3,none⟩=some (.bool hf.1)∧u.cell? ⟨gh,wt*3+1,none⟩=some (.string hf.2.1)∧u.cell? ⟨gh,wt*3+2,none⟩=some (.string hf.2.2)):=fun u h1 h2=>by
    have q1:=h1.cell t (by rw[partD_length _ (by omega)];omega)
    rw[HPW.out] at q1
    obtain⟨q2,q3,q4⟩:=h2.cells wt (by rw[HLL.out];exact hwn)
    obtain⟨_,hli⟩:=List.getElem?_eq_some_iff.1 HLI.out
    rw[hli] at q2 q3 q4
    exact⟨q1,q2,q3,q4⟩
   refine wp_region_held_drew (S:=fun u=>u.cell? ⟨gw,t,none⟩=some (.int .i64 (wt:Nat))∧u.cell? ⟨gh,wt*3,none⟩=some (.bool hf.1)∧u.cell? ⟨gh,wt*3+1,none⟩=some (.string hf.2.1)∧u.cell? ⟨gh,wt*3+2,none⟩=some (.string hf.2.2)) (by kernel_rfl) (HELD.out _ HP.out.way HHR.out) (fun hSd=>?_)
   replace HP:=hid (HP.out.step (Below.refl _ _).drew)
   have HHRd:Hid (RowF Wa.drew gh HL):=HHR.out
   clear HHR
   have HHR:=HHRd
   clear HHRd
   generalize Wa.drew=u0 at *
   refine tkB 1 (.slice (some ⟨gh,0,none⟩) n n) ?_
   try simp only[gE,aP]
   refine tkB 2 (.slice (some ⟨gw,0,none⟩) L L) ?_
   try simp only[gE,aP]
   refine tkB 3 (.int .i64 (t:Nat)) ?_
   try simp only[gE,aP]
   refine tkB 4 (.pointer (some ⟨gw,t,none⟩)) ?_
   try simp only[gE,aP]
   refine tkB 5 (.int .i64 (wt:Nat)) ?_
   try simp only[gE,aP]
   refine tkB 6 (.pointer (some ⟨gh,wt*3,none⟩)) ?_
   try simp only[gE,aP]
   refine tkB 7 (.agg #[.bool hf.1,.string hf.2.1,.string hf.2.2]) ?_
   try simp only[gE,aP]
   refine rdA [0] (cA ?_ AllReadyH.nil)
   ·intro K' hK'
    obtain⟨k0,k1,k2, -⟩:=HP.out.lik.facts
    go_simp
    refine hK'.out _ _ hSd (fun _=>?_)
    clear hK' K' k0 k1 k2
    try simp only[gE,aP]
    refine rdA [8] (cA ?_ AllReadyH.nil)
    ·intro K' hK'
     go_simp
     refine(HMU.out _).mono ?_
     rintro e u1 ⟨rfl,hb⟩
     replace HP:=hid (HP.out.step hb)
     replace HHR:=hid (HHR.out.below hb HHR.out.lt)
     refine hK'.out _ _ (HELD.out _ HP.out.way HHR.out) (fun hSe=>?_)
     clear hK' K' hSd hb
     try simp only[gE,aP]
     obtain⟨k0,k1,k2,f0,f1,f2⟩:=HP.out.lik.facts
     refine rdA [9] (cA ?_ AllReadyH.nil)
     ·intro K' hK'
      go_simp
      have HPN:=hid (HP.out.putL hgl hne (h.lik h.way (t+1)))
      have HHN:Hid (RowF (((u1.setCell ⟨gl,0,none⟩ (.bool (sgn (h.lik h.way (t+1))))).setCell ⟨gl,1,none⟩ (.string (nu (h.lik h.way (t+1))))).setCell ⟨gl,2,none⟩ (.string (de (h.lik h.way (t+1))))) gh HL):=((HHR.out.off gl 0 _ hgh).off gl 1 _ hgh).off gl 2 _ hgh
      refine hK'.out _ _ (HELD.out _ HPN.out.way HHN.out) (fun _=>wpAnyH_done (by kernel_rfl) ?_ _)
      clear hK' K' hSe k0 k1 k2 f0 f1 f2 HP HHR HHN
      generalize (((u1.setCell ⟨gl,0,none⟩ (.bool (sgn (h.lik h.way (t+1))))).setCell ⟨gl,1,none⟩ (.string (nu (h.lik h.way (t+1))))).setCell ⟨gl,2,none⟩ (.string (de (h.lik h.way (t+1)))))=Wb at *
      obtain⟨gm,om,bm,cm,rfl,hgm,m0,hmf, -⟩:=HI.out.mv wt (by rw[HOK.out.mv.len];exact hwn)
      rw[HOK.out.mv.each wt (by rw[HOK.out.mv.len];exact hwn)] at m0
      have HRN:Hid (FrS w bm (R1[wt]'(by rw[HOK.out.mv.len];exact hwn))∧Lst n (h.row h.way (t+1)) (R1[wt]'(by rw[HOK.out.mv.len];exact hwn))):=by
       refine⟨hmf,?_⟩
       have h9:=HMV.out wt (by rw[HOK.out.mv.len];exact hwn)
       rw[HWT.out] at h9
       exact h9
      have hbw:=HW1.out.trans (HPN.out.bel.mono HW1.out.size)
      have c1:=(hbw.cell (p:=⟨gm,_,none⟩) hgm).trans m0
      have c2:=(HHB.out.below HPN.out.bel HHB.out.lt).cells.2.1
      have c3:=HPN.out.way.cell t (by rw[partD_length _ (by omega)];omega)
      rw[HPW.out] at c3
      clear m0 hmf hbw
      go_upto_region 12 with fail
      refine wp_region_held_drew (S:=fun u=>u.cell? ⟨w.heap.size,1,none⟩=some (.slice (some ⟨gm,om,none⟩) n cb)∧u.cell? ⟨gw,t,none⟩=some (.int .i64 (wt:Nat))∧u.cell? ⟨gm,om+wt,none⟩=some (.slice bm n cm)) (by kernel_rfl) ⟨c2,c3,c1⟩ (fun hSd=>?_)
      clear c1 c2 c3
      replace HPN:=hid (HPN.out.step (Below.refl _ _).drew)
      generalize Wb.drew=z0 at *
      refine tkB 0 (.pointer (some ⟨w.heap.size,1,none⟩)) ?_
      try simp only[gE,aP]
      refine tkB 1 (.slice (some ⟨gm,om,none⟩) n cb) ?_
      try simp only[gE,aP]
      refine tkB 2 (.slice (some ⟨gw,0,none⟩) L L) ?_
      try simp only[gE,aP]
      refine tkB 3 (.int .i64 (t:Nat)) ?_
      try simp only[gE,aP]
      refine tkB 4 (.pointer (some ⟨gw,t,none⟩)) ?_
      try simp only[gE,aP]
      refine tkB 5 (.int .i64 (wt:Nat)) ?_
      try simp only[gE,aP]
      refine tkB 6 (.pointer (some ⟨gm,om+wt,none⟩)) ?_
      try simp only[gE,aP]
      refine tkB 7 (.slice bm n cm) ?_
      try simp only[gE,aP]
      refine tkB 8 (.slice bm n cm) ?_
      try simp only[gE,aP]
      refine wpAnyH_done (by kernel_rfl) ?_ _
      clear hSd
      go_wp2
      go_roundw
      case rel=>exact⟨t+1,by omega,by go_num,⟨bm,cm,_,rfl,HRN⟩,HPN⟩
      case measure=>simp[intOf];omega
  ·obtain rfl:t=L:=by omega
   have hfin:=HP.out
   rw[show partD WL t=WL by rw[←hwl];exact partD_all WL] at hfin
   clear HP
   have HP:=hid hfin
   clear hfin
   have h1:=HQW.out _ _ (HLS.out t (Nat.le_refl _)) (by omega)
   have z1:=own_size (h.lik h.way t)
   have hq0:=qw_zero
   have z0:=own_size 0
   have HCM:Hid (∀V:World,Calls Tryz.prog 55 #[.agg #[.bool (sgn (h.lik h.way t)),.string (nu (h.lik h.way t)),.string (de (h.lik h.way t))],.agg #[.bool (sgn 0),.string (nu 0),.string (de 0)]] V fun e w'=>e=.returned (.int .i64 (cmpQ (h.lik h.way t) 0))∧Below V.heap.size V w'):=fun V=>fCmp_q (cmpQ (h.lik h.way t) 0) (val_own _) (val_own _) rfl (by omega) (by omega)
   clear h1 z1 hq0 z0
   generalize sgn 0=zn at *
   generalize nu 0=zx at *
   generalize de 0=zy at *
   by_cases hz:h.lik h.way t=0
   ·have hc:cmpQ (h.lik h.way t) 0=0:=by rw[hz];decide
    rw[hc] at HCM
    have HZ:=hid hz
    clear hz hc
    go_upto_region 14 with fail
    refine wp_region_held_drew (S:=fun u=>u.cell? ⟨gl,0,none⟩=some (.bool (sgn (h.lik h.way t)))∧u.cell? ⟨gl,1,none⟩=some (.string (nu (h.lik h.way t)))∧u.cell? ⟨gl,2,none⟩=some (.string (de (h.lik h.way t)))) (by kernel_rfl) HP.out.lik.three' (fun hSd=>?_)
    replace HP:=hid (HP.out.step (Below.refl _ _).drew)
    generalize wr.drew=v0 at *
    refine tkB 0 (.agg #[.bool (sgn (h.lik h.way t)),.string (nu (h.lik h.way t)),.string (de (h.lik h.way t))]) ?_
    try simp only[gE,aP]
    refine rdA [1] (cA ?_ AllReadyH.nil)
    ·intro K' hK'
     go_simp
     refine(HO0.out _).mono ?_
     rintro e v1 ⟨rfl,hb⟩
     replace HP:=hid (HP.out.step hb)
     refine hK'.out _ _ HP.out.lik.three' (fun hSe=>?_)
     clear hK' K' hSd
     have hSd:=hSe
     clear hSe hb
     try simp only[gE,aP]
     refine rdA [2] (cA ?_ AllReadyH.nil)
     ·intro K' hK'
      go_simp
      refine(HCM.out _).mono ?_
      rintro e v2 ⟨rfl,hb⟩
      replace HP:=hid (HP.out.step hb)
      refine hK'.out _ _ HP.out.lik.three' (fun hSe=>?_)
      clear hK' K' hSd
      have hSd:=hSe
      clear hSe hb
      try simp only[gE,aP]
      refine tkB 3 (.bool true) ?_
      try simp only[gE,aP]
      refine wpAnyH_done (by kernel_rfl) ?_ _
      clear hSd
      obtain⟨k0,k1,k2,f0,f1,f2⟩:=(HRB.out.below HP.out.bel HRB.out.lt).facts
      go_wp2
      refine bodyPost_ret (results_tmp_cell_tmp ((HRB.out.below HP.out.bel HRB.out.lt).put _ _ _) rfl _ rfl) rfl ?_
      exact⟨below_put (HW1.out.trans (HP.out.bel.mono HW1.out.size)) (by omega) _ _ _,.inl ⟨HZ.out,rfl⟩⟩
   ·have hc:cmpQ (h.lik h.way t) 0≠0:=by
     rw[cmpQ]
     by_cases hh:h.lik h.way t<0
     ·rw[if_pos hh];decide
     ·rw[if_neg hh,if_neg hz];decide
    have HZ:=hid hz
    clear hz
    obtain⟨cz,hcz⟩:∃cz,cmpQ (h.lik h.way t) 0=cz:=⟨_,rfl⟩
    rw[hcz] at HCM hc
    clear hcz
    have hcb:(cz==0)=false:=by simpa using hc
    go_upto_region 14 with fail
    refine wp_region_held_drew (S:=fun u=>u.cell? ⟨gl,0,none⟩=some (.bool (sgn (h.lik h.way t)))∧u.cell? ⟨gl,1,none⟩=some (.string (nu (h.lik h.way t)))∧u.cell? ⟨gl,2,none⟩=some (.string (de (h.lik h.way t)))) (by kernel_rfl) HP.out.lik.three' (fun hSd=>?_)
    replace HP:=hid (HP.out.step (Below.refl _ _).drew)
    generalize wr.drew=v0 at *
    refine tkB 0 (.agg #[.bool (sgn (h.lik h.way t)),.string (nu (h.lik h.way t)),.string (de (h.lik h.way t))]) ?_
    try simp only[gE,aP]
    refine rdA [1] (cA ?_ AllReadyH.nil)
    ·intro K' hK'
     go_simp
     refine(HO0.out _).mono ?_
     rintro e v1 ⟨rfl,hb⟩
     replace HP:=hid (HP.out.step hb)
     refine hK'.out _ _ HP.out.lik.three' (fun hSe=>?_)
     clear hK' K' hSd
     have hSd:=hSe
     clear hSe hb
     try simp only[gE,aP]
     refine rdA [2] (cA ?_ AllReadyH.nil)
     ·intro K' hK'
      go_simp
      refine(HCM.out _).mono ?_
      rintro e v2 ⟨rfl,hb⟩
      replace HP:=hid (HP.out.step hb)
      refine hK'.out _ _ HP.out.lik.three' (fun hSe=>?_)
      clear hK' K' hSd
      have hSd:=hSe
      clear hSe hb
      try simp only[gE,aP]
      refine tkB 3 (.bool false) ?_
      try simp only[gE,aP]
      refine wpAnyH_done (by kernel_rfl) ?_ _
      clear hSd
      go_upto_region 16 with fail
      refine wp_region_held_drew (S:=fun u=>u.cell? ⟨gl,0,none⟩=some (.bool (sgn (h.lik h.way t)))∧u.cell? ⟨gl,1,none⟩=some (.string (nu (h.lik h.way t)))∧u.cell? ⟨gl,2,none⟩=some (.string (de (h.lik h.way t)))) (by kernel_rfl) HP.out.lik.three' (fun hSd=>?_)
      replace HP:=hid (HP.out.step (Below.refl _ _).drew)
      generalize v2.drew=v3 at *
      refine tkB 0 (.slice (some ⟨gw,0,none⟩) t t) ?_
      try simp only[gE,aP]
      refine tkB 1 (.agg #[.bool (sgn (h.lik h.way t)),.string (nu (h.lik h.way t)),.string (de (h.lik h.way t))]) ?_
      try simp only[gE,aP]
      refine tkB 2 (.slice (some ⟨gw,0,none⟩) t t) ?_
      try simp only[gE,aP]
      obtain⟨k0,k1,k2,f0,f1,f2⟩:=(HRB.out.below HP.out.bel HRB.out.lt).facts
      refine rdA [3] (cA ?_ AllReadyH.nil)
      ·intro K' hK'
       go_simp
       have HRP:=hid ((HRB.out.below HP.out.bel HRB.out.lt).put (sgn (h.lik h.way t)) (nu (h.lik h.way t)) (de (h.lik h.way t)))
       have HLP:=hid (HP.out.lik.far3 (Nat.ne_of_gt (show w.heap.size+1<gl by omega)) (.bool (sgn (h.lik h.way t))) (.string (nu (h.lik h.way t))) (.string (de (h.lik h.way t))))
       have HWP:Hid (RowI (((v3.setCell ⟨w.heap.size+1,0,none⟩ (.bool (sgn (h.lik h.way t)))).setCell ⟨w.heap.size+1,1,none⟩ (.string (nu (h.lik h.way t)))).setCell ⟨w.heap.size+1,2,none⟩ (.string (de (h.lik h.way t)))) gw WL):=((HP.out.way.off (w.heap.size+1) 0 _ (by omega)).off (w.heap.size+1) 1 _ (by omega)).off (w.heap.size+1) 2 _ (by omega)
       have HBP:=hid (below_put (g:=w.heap.size+1) (HW1.out.trans (HP.out.bel.mono HW1.out.size)) (by omega) (.bool (sgn (h.lik h.way t))) (.string (nu (h.lik h.way t))) (.string (de (h.lik h.way t))))
       refine hK'.out _ _ HLP.out.three' (fun hSe=>?_)
       clear hK' K' hSd k0 k1 k2 f0 f1 f2
       try simp only[gE,aP]
       refine tkB 4 (.int .i64 0) ?_
       try simp only[gE,aP]
       refine wpAnyH_done (by kernel_rfl) ?_ _
       go_wp2
       refine bodyPost_ret (results_tmp_cell_tmp HRP.out rfl _ rfl) rfl ?_
       exact⟨HBP.out,.inr ⟨HZ.out,gw,rfl,by omega,HWP.out⟩⟩
end Go.Proofs.YtgamblainfkiaaaGreatDoor
