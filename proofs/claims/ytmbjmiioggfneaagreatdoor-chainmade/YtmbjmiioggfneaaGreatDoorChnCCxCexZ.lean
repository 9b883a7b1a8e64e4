/- solve of package chain. -/
import Derived.Test.YtmbjmiioggfneaaGreatDoorRegTCxNum
import Derived.Test.YtmbjmiioggfneaaGreatDoorHidACxChnB
import Derived.Test.YtmbjmiioggfneaaGreatDoorRefSCxDicP
namespace Go.Proofs.YtmbjmiioggfneaaGreatDoor
open Go.RowKit Go.Shelf
theorem grown_set (U:World) (S j:Nat) (v:Value):U.grownBy (U.setCell ⟨S,j,none⟩ v) (some S):=⟨rfl,rfl,rfl,by simp[World.setCell],fun k _ hk=>Below.heap_setCell U ⟨S,j,none⟩ v k fun e=>hk (by rw[e])⟩
structure SvS (w:World) (B n G:Nat) (g c:Nat→Nat) (M:Nat→Nat→Fr) (S:Nat) (l:List Fr) (U:World):Prop where
 eq:EqS B n (n+1) G g c M U
 bel:Below B w U
 sol:RowF U S l
 far:∀k,k<n→g k≠S
theorem SvS.step {w U U':World} {B n G S:Nat} {g c:Nat→Nat} {M:Nat→Nat→Fr} {l:List Fr} (h:SvS w B n G g c M S l U) (hB:B≤w.heap.size) (hb:Below U.heap.size U U'):SvS w B n G g c M S l U':=⟨h.eq.step hb,h.bel.trans (hb.mono (Nat.le_trans hB h.bel.size)),h.sol.below hb h.sol.lt,h.far⟩
theorem SvS.drew {w U:World} {B n G S:Nat} {g c:Nat→Nat} {M:Nat→Nat→Fr} {l:List Fr} (h:SvS w B n G g c M S l U) (hB:B≤w.heap.size):SvS w B n G g c M S l U.drew:=h.step hB (Below.refl _ _).drew
theorem SvS.congr {w U:World} {B n G S:Nat} {g c:Nat→Nat} {M M':Nat→Nat→Fr} {l:List Fr} (h:SvS w B n G g c M S l U) (e:∀i,i<n→M i=M' i):SvS w B n G g c M' S l U:=⟨h.eq.congr e,h.bel,h.sol,h.far⟩
theorem SvS.write {w U U':World} {B n G S:Nat} {g c:Nat→Nat} {M:Nat→Nat→Fr} {l:List Fr} (h:SvS w B n G g c M S l U) (hB:B≤w.heap.size) {k:Nat} {f:Nat→Fr} (hk:k<n) (hg:U.grownBy U' (some (g k))) (hr:EqR U' B (g k) (n+1) (c k) f):SvS w B n G g c (fun i=>if i=k then f else M i) S l U':=
 ⟨h.eq.write hk hg hr,h.bel.trans (h.eq.from hk hg (Nat.le_trans hB h.bel.size)),(hg.block S h.sol.lt fun e=>h.far k hk (Option.some.inj e).symm).trans h.sol,h.far⟩
theorem SvS.put {w U:World} {B n G S:Nat} {g c:Nat→Nat} {M:Nat→Nat→Fr} {l:List Fr} (h:SvS w B n G g c M S l U) (hS:B≤S) (i:Nat) (f:Fr):SvS w B n G g c M S (l.set i f) (((U.setCell ⟨S,i*3,none⟩ (.bool f.1)).setCell ⟨S,i*3+1,none⟩ (.string f.2.1)).setCell ⟨S,i*3+2,none⟩ (.string f.2.2)):=by
 have hg:=grown_then (grown_then (grown_set U S (i*3) (.bool f.1)) (grown_set _ S (i*3+1) (.string f.2.1))) (grown_set _ S (i*3+2) (.string f.2.2))
 have hGS:G≠S:=fun e=>by
  have h1:=h.eq.top
  have h3:=h.sol
  rw[RowF,←e] at h3
  rw[RowV,h3] at h1
  have h2:=Option.some.inj h1
  injection h2 with _ h4
  exact absurd h4 (by decide)
 exact⟨⟨(hg.block G h.eq.top.lt fun e=>hGS (Option.some.inj e)).trans h.eq.top,fun k hk=>(h.eq.row k hk).kept hg (h.far k hk),h.eq.inj,h.eq.gl⟩,((h.bel.setCell (p:=⟨S,i*3,none⟩) hS _).setCell (p:=⟨S,i*3+1,none⟩) hS _).setCell (p:=⟨S,i*3+2,none⟩) hS _,h.sol.put i f,h.far⟩
def rowQ (X:Nat→Nat→Fr):Nat→Nat→Rat:=fun i c=>frQ (X i c)
def elmF (X:Nat→Nat→Fr):Nat→Nat→Nat→Fr
 |0=>X
 |k+1=>fun i c=>qF (elm (rowQ X) (k+1) i c)
theorem elmF_is (X:Nat→Nat→Fr):∀k,rowQ (elmF X k)=elm (rowQ X) k
 |0=>rfl
 |k+1=>by
  funext i c
  exact frQ_qF _
theorem elmF_at (X:Nat→Nat→Fr) (k i c:Nat):frQ (elmF X k i c)=elm (rowQ X) k i c:=congrFun (congrFun (elmF_is X k) i) c
theorem elmF_low {X:Nat→Nat→Fr} {k:Nat} (h:1≤k) (i c:Nat):elmF X k i c=qF (elm (rowQ X) k i c):=by
 cases k with
 |zero=>omega
 |succ k=>rfl
def elmPF (k o:Nat) (X:Nat→Nat→Fr):Nat→Nat→Fr:=fun i c=>if i=k then qF (frQ (X k c)/frQ (X k k)) else if i<o then qF (frQ (X i c) - frQ (X k c)/frQ (X k k)*frQ (X i k)) else X i c
theorem elmPF_last {n k:Nat} {X:Nat→Nat→Fr} {i:Nat} (hi:i<n):elmPF k n (elmF X k) i=elmF X (k+1) i:=by
 funext c
 show (if i=k then _ else if i<n then _ else _)=qF (elmS k (elm (rowQ X) k) i c)
 rw[if_pos hi]
 unfold elmS
 simp only[elmF_at]
 split<;>rfl
theorem elmPF_skip (k:Nat) (X:Nat→Nat→Fr):elmPF k (k+1) X=elmPF k k X:=by
 funext i c
 show (if i=k then _ else if i<k+1 then _ else _)=(if i=k then _ else if i<k then _ else _)
 by_cases e:i=k
 ·rw[if_pos e,if_pos e]
 ·rw[if_neg e,if_neg e]
  by_cases h:i<k
  ·rw[if_pos h,if_pos (by omega)]
  ·rw[if_neg h,if_neg (by omega)]
theorem elmPF_next {k o:Nat} (X:Nat→Nat→Fr) (h:o≠k) (i:Nat):elmPF k (o+1) X i=if i=o then(fun c=>qF (frQ (X o c) - frQ (X k c)/frQ (X k k)*frQ (X o k))) else elmPF k o X i:=by
 by_cases e:i=o
 ·rw[if_pos e]
  subst e
  funext c
  show (if i=k then _ else if i<i+1 then _ else _)=_
  rw[if_neg h,if_pos (by omega)]
 ·rw[if_neg e]
  funext c
  show (if i=k then _ else if i<o+1 then _ else _)=(if i=k then _ else if i<o then _ else _)
  by_cases e1:i=k
  ·rw[if_pos e1,if_pos e1]
  ·rw[if_neg e1,if_neg e1]
   by_cases h1:i<o
   ·rw[if_pos h1,if_pos (by omega)]
   ·rw[if_neg h1,if_neg (by omega)]
theorem elmPF_zero {k:Nat} (X:Nat→Nat→Fr) (i:Nat):elmPF k 0 X i=if i=k then(fun c=>qF (frQ (X k c)/frQ (X k k))) else X i:=by
 by_cases e:i=k
 ·rw[if_pos e];funext c;show (if i=k then _ else _)=_;rw[if_pos e]
 ·rw[if_neg e];funext c;show (if i=k then _ else if i<0 then _ else _)=_;rw[if_neg e,if_neg (by omega)]
theorem elmPF_same0 {k:Nat} {X:Nat→Nat→Fr} (i:Nat):(if i=k then elmPF k 0 X k else X i)=elmPF k 0 X i:=by
 by_cases e:i=k
 ·subst e;rw[if_pos rfl]
 ·rw[if_neg e,elmPF_zero,if_neg e]
theorem elmPF_same {k o:Nat} {X:Nat→Nat→Fr} (h:¬o=k) (i:Nat):(if i=o then elmPF k (o+1) X o else elmPF k o X i)=elmPF k (o+1) X i:=by
 by_cases e:i=o
 ·subst e;rw[if_pos rfl]
 ·rw[if_neg e,elmPF_next _ h,if_neg e]
structure SvK (n b k:Nat) (M:Nat→Nat→Fr):Prop where
 piv:frQ (M k k)≠0
 row:∀i c,i<n→c≤n→fz (M i c)≤40000
 quo:∀c,c≤n→qw (frQ (M k c)/frQ (M k k))≤40000
 tim:∀i c,i<n→c≤n→qw (frQ (M k c)/frQ (M k k)*frQ (M i k))≤40000
theorem svK_long {n z:Nat} {X:Nat→Nat→Fr} (hX:∀i c,i<n→c≤n→fz (X i c)≤40000) (hz:∀k,k≤n→∀i c,i<n→c≤n→Fits z (elm (rowQ X) k i c)) (hp:∀j,j<n→elm (rowQ X) j j j≠0) (hs:6*z≤40000) {k:Nat} (hk:k<n):SvK n z k (elmF X k):=by
 have h0:=hz k (by omega)
 refine⟨by rw[elmF_at];exact hp k hk,fun i c hi hc=>?_,fun c hc=>?_,fun i c hi hc=>?_⟩
 ·cases k with
  |zero=>exact hX i c hi hc
  |succ k=>
   show qw (elm (rowQ X) (k+1) i c)≤40000
   have:=fits_qw (h0 i c hi hc);omega
 ·rw[elmF_at,elmF_at]
  have:=fits_qw (fits_divq (h0 k c hk hc) (h0 k k hk (by omega)) (hp k hk));omega
 ·rw[elmF_at,elmF_at,elmF_at]
  have:=fits_qw (fits_tim (fits_divq (h0 k c hk hc) (h0 k k hk (by omega)) (hp k hk)) (h0 i k hi (by omega)));omega
theorem elmPF_at {k o:Nat} {X:Nat→Nat→Fr} (h:¬o=k):elmPF k o X o=X o:=by
 funext c
 show (if o=k then _ else if o<o then _ else _)=_
 rw[if_neg h,if_neg (Nat.lt_irrefl _)]
theorem elmPF_piv {k o:Nat} {X:Nat→Nat→Fr}:elmPF k o X k=fun c=>qF (frQ (X k c)/frQ (X k k)):=by
 funext c
 show (if k=k then _ else _)=_
 rw[if_pos rfl]
set_option maxRecDepth 100000 in
set_option maxHeartbeats 4000000 in
theorem chSolve_gen (B n G cG b:Nat) (g c:Nat→Nat) (X:Nat→Nat→Fr) (w:World) (h:EqS B n (n+1) G g c X w) (hB:B≤w.heap.size) (hsv:∀k,k<n→SvK n b k (elmF X k)) (hn:n≤10):
  Calls Tryz.prog 79 #[.slice (some ⟨G,0,none⟩) n cG] w fun e w'=>∃S,e=.returned (.slice (some ⟨S,0,none⟩) n n)∧w.heap.size≤S∧RowF w' S (lF n fun i=>elm (rowQ X) n i n)∧Below B w w':=by
 obtain⟨i0,hi0,hz0,hz1,hz2⟩:=info_parts Tryz.infoFrac
 have HSVK:Hid (∀k,k<n→SvK n b k (elmF X k)):=hsv
 have HEQ:=hid h
 have HIN:=hid h.inj
 clear h hsv
 have hfl:=lF_length n fun i=>elm (rowQ X) n i n
 have HFG:=hid (fun i (hi:i<n)=>lF_get? (f:=fun i=>elm (rowQ X) n i n) hi)
 generalize hFLe:(lF n fun i=>elm (rowQ X) n i n)=FL at *
 clear hFLe
 go_enter Tryz.func79,Tryz.ntmps79
 go_upto_region 3 with (at_make;refine wpList_make_full _ rfl _ _ 23 rfl w.heap.size 44 i0 (.agg #[.bool false,.string ⟨#[]⟩,.string ⟨#[]⟩]) 3 Tryz.underlying23 hi0 hz0 hz1 .i64 .i64 _ _ n rfl rfl (by go_num) (by go_num) (by rw[hz2];omega) (by unfold maxLen;omega) (Nat.le_refl _) ?_;intro w2 hown2 hgrow2)
 have hb2:=block_of_own3 hown2
 rw[made_frs] at hb2
 have hB2:Below w.heap.size w w2:=(Below.refl _ w).grown hgrow2 (Nat.le_refl _) (fun k e=>by cases e)
 have HK0:Hid (SvS w B n G g c (elmF X 0) w.heap.size (partF FL 0) w2):=⟨HEQ.out.step hB2,hB2.mono hB,by rw[partF_zero,hfl];exact hb2,fun k hk e=>by have:=(HEQ.out.row k hk).lt;omega⟩
 clear hown2 hgrow2 hb2 hB2 HEQ
 go_wp2_with fail
 go_loopw [13] (fun iv wr=>∃k:Nat,k≤n∧iv=.int .i64 k∧Hid (SvS w B n G g c (elmF X k) w.heap.size (partF FL 0) wr)) (fun iv _=>n - (intOf iv).toNat)
 case atStart=>exact⟨0,Nat.zero_le _,rfl,HK0⟩
 case round=>
  obtain⟨k,hk,rfl,HK⟩:=hrel
  clear HK0
  by_cases hlt:k<n
  ·have HSV:=hid (HSVK.out k hlt)
   have hkb:¬((n:Int)+1≤(k:Int)):=by omega
   have HDV:Hid (∀U:World,EqR U B (g k) (n+1) (c k) (elmF X k k)→Calls Tryz.prog 106 #[.slice (some ⟨g k,0,none⟩) (n+1) (c k),.agg #[.bool (elmF X k k k).1,.string (elmF X k k k).2.1,.string (elmF X k k k).2.2]] U fun e w'=>e=.returned (.tuple #[])∧EqR w' B (g k) (n+1) (c k) (elmPF k 0 (elmF X k) k)∧U.grownBy w' (some (g k))):=fun U hU=>by
    have h9:=chDivide_any B (g k) (c k) (n+1) (elmF X k k) (elmF X k k k) U hU HSV.out.piv (fun i hi=>HSV.out.row k i hlt (by omega)) (HSV.out.row k k hlt (by omega)) (by omega)
    have e9:(fun c=>qF (frQ (elmF X k k c)/frQ (elmF X k k k)))=elmPF k 0 (elmF X k) k:=elmPF_piv.symm
    rw[e9] at h9
    exact h9
   go_upto_region 5 with fail
   replace HK:=hid (HK.out.drew hB)
   refine wp_region_held_drew (S:=fun u=>u.cell? ⟨G,k,none⟩=some (.slice (some ⟨g k,0,none⟩) (n+1) (c k))) (by kernel_rfl) (HK.out.eq.slice hlt) (fun hSd=>?_)
   generalize wr.drew=u0 at *
   obtain⟨k0,k1,k2⟩:=(HK.out.eq.row k hlt).cells (show k<n+1 by omega)
   generalize hzz:elmF X k k k=zz at *
   obtain⟨an,ax,ay⟩:=zz
   simp only at k0 k1 k2 HDV
   refine tkB 0 (.slice (some ⟨G,0,none⟩) n cG) ?_
   try simp only[gE,aP]
   refine tkB 1 (.int .i64 (k:Nat)) ?_
   try simp only[gE,aP]
   refine tkB 2 (.pointer (some ⟨G,k,none⟩)) ?_
   try simp only[gE,aP]
   refine tkA 3 (.slice (some ⟨g k,0,none⟩) (n+1) (c k)) ?_ ?_
   ·intro u' hSu;try simp only[gE]
    obtain s0:=hSu
    go_simp
   try simp only[gE,aP]
   refine tkB 4 (.slice (some ⟨G,0,none⟩) n cG) ?_
   try simp only[gE,aP]
   refine tkB 5 (.int .i64 (k:Nat)) ?_
   try simp only[gE,aP]
   refine tkB 6 (.pointer (some ⟨G,k,none⟩)) ?_
   try simp only[gE,aP]
   refine tkA 7 (.slice (some ⟨g k,0,none⟩) (n+1) (c k)) ?_ ?_
   ·intro u' hSu;try simp only[gE]
    obtain s0:=hSu
    go_simp
   try simp only[gE,aP]
   refine tkB 8 (.int .i64 (k:Nat)) ?_
   try simp only[gE,aP]
   refine tkB 9 (.pointer (some ⟨g k,k*3,none⟩)) ?_
   try simp only[gE,aP]
   refine rdA [10] (cA ?_ AllReadyH.nil)
   ·intro K' hK'
    go_simp
    refine hK'.out _ _ (HK.out.eq.slice hlt) (fun hSe=>?_)
    clear hK' K' hSd
    have hSd:=hSe
    clear hSe
    try simp only[gE,aP]
    refine rdA [11] (cA ?_ AllReadyH.nil)
    ·intro K' hK'
     go_simp
     refine(HDV.out _ (HK.out.eq.row k hlt)).mono ?_
     rintro e u1 ⟨rfl,hr,hg⟩
     have HK1:=hid (HK.out.write hB hlt hg hr)
     refine hK'.out _ _ (HK1.out.eq.slice hlt) (fun hSe=>wpAnyH_done (by kernel_rfl) ?_ _)
     clear hK' K' hSd hSe k0 k1 k2 hr hg HK
     have HK2:=hid (HK1.out.congr fun i _=>elmPF_same0 i)
     clear HK1
     go_upto_region 7 with fail
     go_loopw [30] (fun jv wr2=>∃o:Nat,o≤n∧jv=.int .i64 o∧Hid (SvS w B n G g c (elmPF k o (elmF X k)) w.heap.size (partF FL 0) wr2)) (fun jv _=>n - (intOf jv).toNat)
     case atStart=>exact⟨0,Nat.zero_le _,rfl,HK2⟩
     case round=>
      obtain⟨o,ho,rfl,HK⟩:=hrel
      clear HK2
      by_cases hlo:o<n
      ·by_cases hok:o=k
       ·subst hok
        have HK3:=hid (HK.out.congr fun i _=>congrFun (elmPF_skip o (elmF X o)).symm i)
        clear HK
        go_wp2
        go_roundw
        case rel=>exact⟨o+1,by omega,by go_num,HK3⟩
        case measure=>simp[intOf];omega
       ·have HTK:Hid (∀U:World,EqR U B (g o) (n+1) (c o) (elmPF k o (elmF X k) o)→EqR U B (g k) (n+1) (c k) (elmPF k o (elmF X k) k)→Calls Tryz.prog 107 #[.slice (some ⟨g o,0,none⟩) (n+1) (c o),.slice (some ⟨g k,0,none⟩) (n+1) (c k),.agg #[.bool (elmF X k o k).1,.string (elmF X k o k).2.1,.string (elmF X k o k).2.2]] U fun e w'=>e=.returned (.tuple #[])∧EqR w' B (g o) (n+1) (c o) (elmPF k (o+1) (elmF X k) o)∧U.grownBy w' (some (g o))):=fun U h1 h2=>by
         rw[elmPF_at hok] at h1
         rw[elmPF_piv] at h2
         have h9:=chTake_any B (g o) (g k) (c o) (c k) (n+1) _ _ (elmF X k o k) U h1 h2 (fun e=>hok (HIN.out k o hlt hlo e).symm) (fun i hi=>⟨HSV.out.row o i hlo (by omega),HSV.out.quo i (by omega),by rw[frQ_qF];exact HSV.out.tim o i hlo (by omega)⟩) (HSV.out.row o k hlo (by omega)) (by omega)
         simp only[frQ_qF] at h9
         have e9:(fun c=>qF (frQ (elmF X k o c) - frQ (elmF X k k c)/frQ (elmF X k k k)*frQ (elmF X k o k)))=elmPF k (o+1) (elmF X k) o:=by rw[elmPF_next _ hok,if_pos rfl]
         rw[e9] at h9
         exact h9
        have HNE:Hid (∀i,(if i=o then elmPF k (o+1) (elmF X k) o else elmPF k o (elmF X k) i)=elmPF k (o+1) (elmF X k) i):=fun i=>elmPF_same hok i
        have HAT:Hid (elmPF k o (elmF X k) o k=elmF X k o k):=by show _=_;rw[elmPF_at hok]
        go_upto_region 10 with fail
        replace HK:=hid (HK.out.drew hB)
        refine wp_region_held_drew (S:=fun u=>u.cell? ⟨G,o,none⟩=some (.slice (some ⟨g o,0,none⟩) (n+1) (c o))∧u.cell? ⟨G,k,none⟩=some (.slice (some ⟨g k,0,none⟩) (n+1) (c k))) (by kernel_rfl) ⟨HK.out.eq.slice hlo,HK.out.eq.slice hlt⟩ (fun hSd=>?_)
        generalize wr.drew=u0 at *
        obtain⟨k0,k1,k2⟩:=(HK.out.eq.row o hlo).cells (show k<n+1 by omega)
        rw[HAT.out] at k0 k1 k2
        generalize hzz:elmF X k o k=zz at *
        obtain⟨an,ax,ay⟩:=zz
        simp only at k0 k1 k2 HTK
        refine tkB 0 (.slice (some ⟨G,0,none⟩) n cG) ?_
        try simp only[gE,aP]
        refine tkB 1 (.int .i64 (o:Nat)) ?_
        try simp only[gE,aP]
        refine tkB 2 (.pointer (some ⟨G,o,none⟩)) ?_
        try simp only[gE,aP]
        refine tkB 3 (.slice (some ⟨g o,0,none⟩) (n+1) (c o)) ?_
        try simp only[gE,aP]
        refine tkB 4 (.slice (some ⟨G,0,none⟩) n cG) ?_
        try simp only[gE,aP]
        refine tkB 5 (.int .i64 (k:Nat)) ?_
        try simp only[gE,aP]
        refine tkB 6 (.pointer (some ⟨G,k,none⟩)) ?_
        try simp only[gE,aP]
        refine tkB 7 (.slice (some ⟨g k,0,none⟩) (n+1) (c k)) ?_
        try simp only[gE,aP]
        refine tkB 8 (.slice (some ⟨G,0,none⟩) n cG) ?_
        try simp only[gE,aP]
        refine tkB 9 (.int .i64 (o:Nat)) ?_
        try simp only[gE,aP]
        refine tkB 10 (.pointer (some ⟨G,o,none⟩)) ?_
        try simp only[gE,aP]
        refine tkB 11 (.slice (some ⟨g o,0,none⟩) (n+1) (c o)) ?_
        try simp only[gE,aP]
        refine tkB 12 (.int .i64 (k:Nat)) ?_
        try simp only[gE,aP]
        refine tkB 13 (.pointer (some ⟨g o,k*3,none⟩)) ?_
        try simp only[gE,aP]
        refine rdA [14] (cA ?_ AllReadyH.nil)
        ·intro K' hK'
         go_simp
         refine hK'.out _ _ ⟨HK.out.eq.slice hlo,HK.out.eq.slice hlt⟩ (fun hSe=>?_)
         clear hK' K' hSd
         have hSd:=hSe
         clear hSe
         try simp only[gE,aP]
         refine rdA [15] (cA ?_ AllReadyH.nil)
         ·intro K' hK'
          go_simp
          refine(HTK.out _ (HK.out.eq.row o hlo) (HK.out.eq.row k hlt)).mono ?_
          rintro e u1 ⟨rfl,hr,hg⟩
          have HK1:=hid (HK.out.write hB hlo hg hr)
          refine hK'.out _ _ ⟨HK1.out.eq.slice hlo,HK1.out.eq.slice hlt⟩ (fun hSe=>wpAnyH_done (by kernel_rfl) ?_ _)
          clear hK' K' hSd hSe k0 k1 k2 hr hg HK
          have HK2:=hid (HK1.out.congr fun i _=>HNE.out i)
          clear HK1
          go_wp2
          go_roundw
          case rel=>exact⟨o+1,by omega,by go_num,HK2⟩
          case measure=>simp[intOf];omega
      ·obtain rfl:o=n:=by omega
       have HK3:=hid (HK.out.congr fun i hi=>elmPF_last hi)
       clear HK
       go_wp2
       go_roundw
       case rel=>exact⟨k+1,by omega,by go_num,HK3⟩
       case measure=>simp[intOf];omega
  ·obtain rfl:k=n:=by omega
   clear HSVK
   go_upto_region 14 with fail
   go_loopw [56] (fun iv wr=>∃i:Nat,i≤k∧iv=.int .i64 i∧Hid (SvS w B k G g c (elmF X k) w.heap.size (partF FL i) wr)) (fun iv _=>k - (intOf iv).toNat)
   case atStart=>exact⟨0,Nat.zero_le _,rfl,HK⟩
   case round=>
    obtain⟨i,hi,rfl,HK1⟩:=hrel
    clear HK
    by_cases hli:i<k
    ·have r0:=HK1.out.eq.slice hli
     obtain⟨c0,c1,c2⟩:=(HK1.out.eq.row i hli).cells (show k<k+1 by omega)
     obtain⟨k0,k1,k2⟩:=HK1.out.sol.cells i (by rw[partF_length _ (by omega)];omega)
     have f0:=HK1.out.sol.fz (i*3)
     have f1:=HK1.out.sol.fz (i*3+1)
     have f2:=HK1.out.sol.fz (i*3+2)
     generalize (partF FL i)[i]'(by rw[partF_length _ (by omega)];omega)=z at *
     obtain⟨zn,zx,zy⟩:=z
     simp only at k0 k1 k2
     obtain⟨hd1,hd2⟩:=List.getElem?_eq_some_iff.1 (HFG.out i hli)
     have HPS:=hid (partF_set FL hd1)
     rw[hd2] at HPS
     clear hd1 hd2
     have hel:elmF X k i k=qF (elm (rowQ X) k i k):=elmF_low (by omega) i k
     rw[hel] at c0 c1 c2
     clear hel
     have HPW:=hid (HK1.out.put hB i (qF (elm (rowQ X) k i k)))
     rw[HPS.out] at HPW
     generalize qF (elm (rowQ X) k i k)=zz at *
     obtain⟨an,ax,ay⟩:=zz
     simp only at c0 c1 c2 HPW
     clear HPS HK1
     go_wp2
     go_roundw
     case rel=>exact⟨i+1,by omega,by go_num,HPW⟩
     case measure=>simp[intOf];omega
    ·obtain rfl:i=k:=by omega
     go_wp2
     go_ret
     refine⟨w.heap.size,rfl,Nat.le_refl _,?_,HK1.out.bel⟩
     have h9:=HK1.out.sol
     have e9:partF FL i=FL:=by rw[←hfl];exact partF_all FL
     rw[e9] at h9
     exact h9
end Go.Proofs.YtmbjmiioggfneaaGreatDoor

/- rises, comingTo, lessSame of package chain. -/
namespace Go.Proofs.YtmbjmiioggfneaaGreatDoor
open Go.RowKit Go.Shelf
theorem iL_get {S:List Nat} {i:Nat} (h:i<S.length) (h':i<(iL S).length):(iL S)[i]=((S[i]:Nat):Int):=by simp[iL]
set_option maxRecDepth 100000 in
set_option maxHeartbeats 1000000 in
theorem chRises_yes (a:Option Addr) (ca n:Nat) (S:List Nat) (w:World) (h:IntS w a (iL S)) (hr:S.Pairwise (·<·)) (hb:∀x∈S,x<n) (hn:n≤1000) (hl:S.length≤1000):
  Calls Tryz.prog 48 #[.slice a S.length ca,.int .i64 (n:Nat)] w fun e w'=>e=.returned (.bool true)∧Below w.heap.size w w':=by
 have HV:=hid h
 have HR:=hid hr
 have HB:=hid hb
 clear h hr hb
 go_enter Tryz.func48,Tryz.ntmps48
 go_wp2_with fail
 go_loopw [5,10] (fun lv iv wr=>∃i least:Nat,i≤S.length∧iv=.int .i64 i∧lv=.int .i64 least∧least≤n∧Hid (∀h:i<S.length,least≤S[i])∧Hid (Below w.heap.size w wr)) (fun _ iv _=>S.length - (intOf iv).toNat)
 case atStart=>exact⟨0,0,Nat.zero_le _,rfl,rfl,Nat.zero_le _,fun _=>Nat.zero_le _,Below.refl _ _⟩
 case round=>
  obtain⟨i,least,hi,rfl,rfl,hle,HL,HW⟩:=hrel
  by_cases hlt:i<S.length
  ·have hi':i<(iL S).length:=by rw[iL_length];exact hlt
   obtain⟨g,o,rfl,hg,c0⟩:=(HV.out.below HW.out) i hi'
   rw[iL_get hlt] at c0
   have h1:=HL.out hlt
   have h2:=HB.out S[i] (List.getElem_mem hlt)
   have HN:Hid (∀h:i+1<S.length,S[i]+1≤S[i+1]):=fun h=>List.pairwise_iff_getElem.1 HR.out i (i+1) hlt h (Nat.lt_succ_self i)
   generalize S[i]=x at *
   have e1:¬((x:Int)<(least:Int)):=by omega
   have e2:¬((n:Int)≤(x:Int)):=by omega
   go_wp2
   go_roundw
   case rel=>exact⟨i+1,x+1,by omega,by go_num,by go_num,by omega,HN,HW⟩
   case measure=>simp[intOf];omega
  ·obtain rfl:i=S.length:=by omega
   go_wp2
   go_ret
   exact⟨rfl,HW.out⟩
def opB (e:Nat→Nat→Bool) (S:List Nat) (i:Nat):Bool:=S.any (e i)&&!S.any fun j=>decide (i=j)
def opN (n:Nat) (e:Nat→Nat→Bool) (S:List Nat):List Nat:=(List.range n).filter (opB e S)
theorem opN_succ (i:Nat) (e:Nat→Nat→Bool) (S:List Nat):opN (i+1) e S=opN i e S++if opB e S i then[i] else[]:=by
 rw[opN,List.range_succ,List.filter_append]
 congr 1
 by_cases h:opB e S i
 ·rw[if_pos h];simp[h]
 ·rw[if_neg h];simp[h]
theorem any_take {p:Nat→Bool} {S:List Nat} {j:Nat} (h:j<S.length):(S.take (j+1)).any p=((S.take j).any p ||p S[j]):=by
 rw[List.take_succ_eq_append_getElem h,List.any_append]
 simp
theorem opN_le (n:Nat) (e:Nat→Nat→Bool) (S:List Nat):(opN n e S).length≤n:=Nat.le_trans (List.length_filter_le _ _) (by simp)
set_option maxRecDepth 100000 in
set_option maxHeartbeats 2000000 in
theorem chComing_any (B G n cb:Nat) (Rw:Nat→Nat) (e:Nat→Nat→Bool) (b:Option Addr) (S:List Nat) (w:World) (hM:BMt w B G n n Rw e) (hS:IntS w b (iL S)) (hs:∀x∈S,x<n) (hn:n≤10) (hl:S.length≤1000):
  Calls Tryz.prog 49 #[.slice (some ⟨G,0,none⟩) n n,.slice b S.length cb] w fun e' w'=>∃x,e'=.returned x∧RwI w' w.heap.size x (iL (opN n e S))∧Below w.heap.size w w':=by
 have HM:=hid hM
 have HV:=hid hS
 have HB:=hid hs
 clear hM hS hs
 go_enter Tryz.func49,Tryz.ntmps49
 go_wp2_with fail
 go_loopw [5,13] (fun xv iv wr=>∃i:Nat,i≤n∧iv=.int .i64 i∧Hid (RwI wr w.heap.size xv (iL (opN i e S)))∧Hid (Below w.heap.size w wr)) (fun _ iv _=>n - (intOf iv).toNat)
 case atStart=>exact⟨0,Nat.zero_le _,rfl,⟨rfl,.inl ⟨rfl,rfl⟩⟩,Below.refl _ _⟩
 case round=>
  obtain⟨i,hi,rfl,HR,HW⟩:=hrel
  by_cases hlt:i<n
  ·go_wp2_with fail
   go_loopw [7,8,18] (fun pv qv jv wq=>∃j:Nat,j≤S.length∧jv=.int .i64 j∧pv=.bool ((S.take j).any (e i))∧qv=.bool ((S.take j).any fun k=>decide (i=k))∧Hid (RwI wq w.heap.size u5 (iL (opN i e S)))∧Hid (Below w.heap.size w wq)) (fun _ _ jv _=>S.length - (intOf jv).toNat)
   case atStart=>exact⟨0,Nat.zero_le _,rfl,rfl,rfl,HR,HW⟩
   case round=>
    obtain⟨j,hj,rfl,rfl,rfl,HR',HW'⟩:=hrel
    clear HR HW
    by_cases hlj:j<S.length
    ·have hj':j<(iL S).length:=by rw[iL_length];exact hlj
     obtain⟨g,o,rfl,hg,c0⟩:=(HV.out.below HW'.out) j hj'
     rw[iL_get hlj] at c0
     have hx:=HB.out S[j] (List.getElem_mem hlj)
     have m0:=(HM.out.below HW'.out).slice hlt hlt
     have m1:=(HM.out.below HW'.out).cell hlt hlt hx
     have HA1:=hid (any_take (p:=e i) hlj)
     have HA2:=hid (any_take (p:=fun k=>decide (i=k)) hlj)
     generalize S[j]=x at *
     generalize (S.take j).any (e i)=p at *
     generalize ((S.take j).any fun k=>decide (i=k))=q at *
     generalize e i x=y at *
     by_cases hix:i=x
     ·subst hix
      cases p<;>cases q<;>
      ·go_wp2
       go_roundw
       case rel=>exact⟨j+1,by omega,by go_num,by rw[HA1.out];simp,by rw[HA2.out];simp,HR',HW'⟩
       case measure=>simp[intOf];omega
     ·have hii:¬((i:Int)=(x:Int)):=by omega
      cases p<;>cases q<;>
      ·go_wp2
       go_roundw
       case rel=>exact⟨j+1,by omega,by go_num,by rw[HA1.out];simp,by rw[HA2.out];first |(simp;done) |(simp[hix];exact hii),HR',HW'⟩
       case measure=>simp[intOf];omega
    ·obtain rfl:j=S.length:=by omega
     have HT:Hid (opN (i+1) e S=opN i e S++if opB e S i then[i] else[]):=opN_succ i e S
     have HOB:Hid (opB e S i=((S.take S.length).any (e i)&&!(S.take S.length).any fun k=>decide (i=k))):=by show _=_;rw[List.take_length];rfl
     generalize (S.take S.length).any (e i)=p at *
     generalize ((S.take S.length).any fun k=>decide (i=k))=q at *
     have hle:=opN_le i e S
     by_cases hpq:p=true∧q=false
     ·obtain⟨rfl,rfl⟩:=hpq
      have HT2:Hid (iL (opN (i+1) e S)=iL (opN i e S)++[((i:Nat):Int)]):=by show _=_;rw[HT.out,HOB.out,iL_append];rfl
      have HOWN:=hid HR'.out.own
      have HRA:Hid (RwI (wr.alloc (.cells #[.int .i64 (i:Nat)] 3)) w.heap.size _ (iL (opN i e S))):=World.ownsRow.alloc HR'.out _
      have HBA:=hid (HW'.out.alloc HW'.out.size (.cells #[.int .i64 (i:Nat)] 3))
      have HIA:=hid (new_int wr (i:Nat))
      clear HT HOB
      go_wp2_with (at_builtin;refine wpList_append_ints rfl _ _ rfl w.heap.size _ (iL (opN i e S)) [((i:Nat):Int)] rfl HRA.out (some ⟨wr.heap.size,0,none⟩) 1 rfl HIA.out (fun e=>by cases e) (by rw[iL_length];simp;omega) HBA.out.size ?_;intro v' w3 hr3 hg3)
      have HR3:=hid hr3
      have HB3:=hid (HBA.out.grown hg3 HBA.out.size HOWN.out)
      clear hr3 hg3
      go_roundw
      case rel=>exact⟨i+1,by omega,by go_num,by rw[HT2.out];exact HR3,HB3⟩
      case measure=>simp[intOf];omega
     ·have HT2:Hid (iL (opN (i+1) e S)=iL (opN i e S)):=by
       show _=_
       rw[HT.out,HOB.out]
       cases p<;>cases q<;>simp at hpq⊢
      clear HT HOB
      cases p<;>cases q<;>(try (exact absurd ⟨rfl,rfl⟩ hpq))<;>
      ·go_wp2
       go_roundw
       case rel=>exact⟨i+1,by omega,by go_num,by rw[HT2.out];exact HR',HW'⟩
       case measure=>simp[intOf];omega
  ·obtain rfl:i=n:=by omega
   go_wp2
   go_ret
   exact⟨_,rfl,HR.out,HW.out⟩
def mR (n:Nat) (P:Nat→Nat→Rat):List (List Fr):=(List.range n).map fun i=>lF n (P i)
theorem mR_length (n:Nat) (P:Nat→Nat→Rat):(mR n P).length=n:=by simp[mR]
theorem mR_get {n:Nat} {P:Nat→Nat→Rat} {i:Nat} (h:i<(mR n P).length):(mR n P)[i]=lF n (P i):=by simp[mR]
def mF (n:Nat) (X:Nat→Nat→Fr):List (List Fr):=(List.range n).map fun i=>rF n (X i)
theorem mF_length (n:Nat) (X:Nat→Nat→Fr):(mF n X).length=n:=by simp[mF]
theorem mF_get {n:Nat} {X:Nat→Nat→Fr} {i:Nat} (h:i<(mF n X).length):(mF n X)[i]=rF n (X i):=by simp[mF]
theorem FsS.at {w:World} {a:Option Addr} {n:Nat} {X:Nat→Nat→Fr} (h:FsS w a (mF n X)) {i j:Nat} (hi:i<n) (hj:j<n):∃g o gr or_ cr,a=some ⟨g,o,none⟩∧g<w.heap.size∧gr<w.heap.size∧w.cell? ⟨g,o+i,none⟩=some (.slice (some ⟨gr,or_,none⟩) n cr)∧w.cell? ⟨gr,or_+j*3,none⟩=some (.bool (X i j).1)∧w.cell? ⟨gr,or_+j*3+1,none⟩=some (.string (X i j).2.1)∧w.cell? ⟨gr,or_+j*3+2,none⟩=some (.string (X i j).2.2):=by
 have hi':i<(mF n X).length:=by rw[mF_length];exact hi
 obtain⟨g,o,b,c,h1,h2,h3,h4,h5⟩:=h i hi'
 have hl:(mF n X)[i].length=n:=by rw[mF_get,rF_length]
 have hj':j<(mF n X)[i].length:=by rw[hl];exact hj
 obtain⟨gr,or_,e1,e2,e3,e4,e5⟩:=h4 j hj'
 have e:(mF n X)[i][j]=X i j:=by simp[mF,rF]
 rw[e] at e3 e4 e5
 subst e1
 exact⟨g,o,gr,or_,c,h1,h2,e2,by rw[h3,hl],e3,e4,e5⟩
def lsF (X:Nat→Nat→Fr) (i j:Nat):Fr:=if i=j then qF (frQ (X i j) - 1) else X i j
set_option maxRecDepth 100000 in
set_option maxHeartbeats 2000000 in
theorem chLess_any (a:Option Addr) (ca n i j:Nat) (X:Nat→Nat→Fr) (w:World) (hR:FsS w a (mF n X)) (hq:fz (X i j)≤40000) (hi:i<n) (hj:j<n):
  Calls Tryz.prog 77 #[.slice a n ca,.int .i64 (i:Nat),.int .i64 (j:Nat)] w fun e w'=>e=.returned (frV (lsF X i j))∧Below w.heap.size w w':=by
 obtain⟨g,o,gr,or_,cr,rfl,hg,hgr,c0,c1,c2,c3⟩:=hR.at hi hj
 have hsz:(X i j).2.1.size+(X i j).2.2.size≤100000:=Nat.le_trans hq (by omega)
 have HO1:=hid (fun V:World=>fOf_q (k:=1) (w:=V) 1 1 rfl (by decide) (by rfl))
 have HSUB:Hid (∀V:World,Calls Tryz.prog 83 #[.agg #[.bool (X i j).1,.string (X i j).2.1,.string (X i j).2.2],.agg #[.bool (sgn 1),.string (nu 1),.string (de 1)]] V fun e w'=>e=.returned (.agg #[.bool (qF (frQ (X i j) - 1)).1,.string (qF (frQ (X i j) - 1)).2.1,.string (qF (frQ (X i j) - 1)).2.2])∧Below V.heap.size V w'):=fun V=>fSub_q (frQ (X i j) - 1) (rfl) (val_own 1) rfl hsz (by have h1:qw 1≤2:=qw_one2;rw[own_size];omega)
 clear hR hq hsz
 have hA:=(Below.refl w.heap.size w).alloc (Nat.le_refl _) (FC false ⟨#[]⟩ ⟨#[]⟩)
 have hX:=Box.new w false ⟨#[]⟩ ⟨#[]⟩
 by_cases hij:i=j
 ·subst hij
  rw[lsF,if_pos rfl]
  show Calls _ _ _ _ fun e w'=>e=.returned (.agg #[.bool (qF (frQ (X i i) - 1)).1,.string (qF (frQ (X i i) - 1)).2.1,.string (qF (frQ (X i i) - 1)).2.2])∧_
  generalize hz2:qF (frQ (X i i) - 1)=z2 at *
  obtain⟨qn,qx,qy⟩:=z2
  generalize hz1:X i i=z1 at *
  obtain⟨an,ax,ay⟩:=z1
  simp only at c1 c2 c3 HSUB
  have HSB:=HSUB
  clear HSUB hz1 hz2
  generalize sgn 1=on at *
  generalize nu 1=ox at *
  generalize de 1=oy at *
  go_enter Tryz.func77,Tryz.ntmps77
  go_upto_region 3 with fail
  generalize (w.alloc (FC false ⟨#[]⟩ ⟨#[]⟩))=W at *
  have HW:Hid (Below w.heap.size w W.drew):=hA.drew
  have HX:Hid (Box W.drew w.heap.size false ⟨#[]⟩ ⟨#[]⟩):=hX
  have HELD:Hid (∀u,Below w.heap.size w u→u.cell? ⟨g,o+i,none⟩=some (.slice (some ⟨gr,or_,none⟩) n cr)∧u.cell? ⟨gr,or_+i*3,none⟩=some (.bool an)∧u.cell? ⟨gr,or_+i*3+1,none⟩=some (.string ax)∧u.cell? ⟨gr,or_+i*3+2,none⟩=some (.string ay)):=fun u h=>⟨(h.cell (p:=⟨g,_,none⟩) hg).trans c0,(h.cell (p:=⟨gr,_,none⟩) hgr).trans c1,(h.cell (p:=⟨gr,_,none⟩) hgr).trans c2,(h.cell (p:=⟨gr,_,none⟩) hgr).trans c3⟩
  clear hA hX c0 c1 c2 c3
  refine wp_region_held_drew (S:=fun u=>u.cell? ⟨g,o+i,none⟩=some (.slice (some ⟨gr,or_,none⟩) n cr)∧u.cell? ⟨gr,or_+i*3,none⟩=some (.bool an)∧u.cell? ⟨gr,or_+i*3+1,none⟩=some (.string ax)∧u.cell? ⟨gr,or_+i*3+2,none⟩=some (.string ay)) (by kernel_rfl) (HELD.out _ HW.out) (fun hSd=>?_)
  generalize W.drew=u0 at *
  refine wpAnyH_take (i:=0) (oi:=_) (v:=.slice (some ⟨g,o,none⟩) n ca) rfl (by kernel_rfl) (by kernel_rfl) (by kernel_rfl) (fun _ _ _ h=>h) (Or.inl ⟨by rfl,?_⟩) (by assumption) ?_
  ·intro u' hSu
   (try simp only[List.getElem_toArray,List.getElem_cons_zero])
   go_simp
  (try simp only[List.getElem_toArray,List.getElem_cons_zero])
  (try simp only[Act.put,List.setIfInBounds_toArray,List.set_cons_zero,List.set_cons_succ])
  refine wpAnyH_take (i:=1) (oi:=_) (v:=.int .i64 (i:Nat)) rfl (by kernel_rfl) (by kernel_rfl) (by kernel_rfl) (fun _ _ _ h=>h) (Or.inl ⟨by rfl,?_⟩) (by assumption) ?_
  ·intro u' hSu
   (try simp only[List.getElem_toArray,List.getElem_cons_zero,List.getElem_cons_succ])
   go_simp
  (try simp only[List.getElem_toArray,List.getElem_cons_zero,List.getElem_cons_succ])
  (try simp only[Act.put,List.setIfInBounds_toArray,List.set_cons_zero,List.set_cons_succ])
  refine wpAnyH_take (i:=2) (oi:=_) (v:=.pointer (some ⟨g,o+i,none⟩)) rfl (by kernel_rfl) (by kernel_rfl) (by kernel_rfl) (fun _ _ _ h=>h) (Or.inl ⟨by rfl,?_⟩) (by assumption) ?_
  ·intro u' hSu
   (try simp only[List.getElem_toArray,List.getElem_cons_zero,List.getElem_cons_succ])
   go_simp
  (try simp only[List.getElem_toArray,List.getElem_cons_zero,List.getElem_cons_succ])
  (try simp only[Act.put,List.setIfInBounds_toArray,List.set_cons_zero,List.set_cons_succ])
  refine wpAnyH_take (i:=3) (oi:=_) (v:=.slice (some ⟨gr,or_,none⟩) n cr) rfl (by kernel_rfl) (by kernel_rfl) (by kernel_rfl) (fun _ _ _ h=>h) (Or.inl ⟨by rfl,?_⟩) (by assumption) ?_
  ·intro u' hSu
   (try simp only[List.getElem_toArray,List.getElem_cons_zero,List.getElem_cons_succ])
   obtain⟨s0,s1,s2,s3⟩:=hSu
   go_simp
  (try simp only[List.getElem_toArray,List.getElem_cons_zero,List.getElem_cons_succ])
  (try simp only[Act.put,List.setIfInBounds_toArray,List.set_cons_zero,List.set_cons_succ])
  refine wpAnyH_take (i:=4) (oi:=_) (v:=.int .i64 (i:Nat)) rfl (by kernel_rfl) (by kernel_rfl) (by kernel_rfl) (fun _ _ _ h=>h) (Or.inl ⟨by rfl,?_⟩) (by assumption) ?_
  ·intro u' hSu
   (try simp only[List.getElem_toArray,List.getElem_cons_zero,List.getElem_cons_succ])
   go_simp
  (try simp only[List.getElem_toArray,List.getElem_cons_zero,List.getElem_cons_succ])
  (try simp only[Act.put,List.setIfInBounds_toArray,List.set_cons_zero,List.set_cons_succ])
  refine wpAnyH_take (i:=5) (oi:=_) (v:=.pointer (some ⟨gr,or_+i*3,none⟩)) rfl (by kernel_rfl) (by kernel_rfl) (by kernel_rfl) (fun _ _ _ h=>h) (Or.inl ⟨by rfl,?_⟩) (by assumption) ?_
  ·intro u' hSu
   (try simp only[List.getElem_toArray,List.getElem_cons_zero,List.getElem_cons_succ])
   go_simp
  (try simp only[List.getElem_toArray,List.getElem_cons_zero,List.getElem_cons_succ])
  (try simp only[Act.put,List.setIfInBounds_toArray,List.set_cons_zero,List.set_cons_succ])
  refine wpAnyH_take (i:=6) (oi:=_) (v:=.agg #[.bool an,.string ax,.string ay]) rfl (by kernel_rfl) (by kernel_rfl) (by kernel_rfl) (fun _ _ _ h=>h) (Or.inl ⟨by rfl,?_⟩) (by assumption) ?_
  ·intro u' hSu
   (try simp only[List.getElem_toArray,List.getElem_cons_zero,List.getElem_cons_succ])
   obtain⟨s0,s1,s2,s3⟩:=hSu
   go_simp
  (try simp only[List.getElem_toArray,List.getElem_cons_zero,List.getElem_cons_succ])
  (try simp only[Act.put,List.setIfInBounds_toArray,List.set_cons_zero,List.set_cons_succ])
  refine wpAnyH_ready (rs:=[7]) (by kernel_rfl) (by simp) (AllReadyH.cons rfl ?_ (AllReadyH.nil))
  ·intro K' hK'
   (try simp only[List.getElem_toArray,List.getElem_cons_zero,List.getElem_cons_succ])
   go_simp
   refine(HO1.out _).mono ?_
   rintro e u1 ⟨rfl,hb⟩
   replace HX:=hid (HX.out.below hb HX.out.lt)
   replace HW:=hid (HW.out.trans (hb.mono HW.out.size))
   refine hK'.out _ _ (HELD.out _ HW.out) (fun hSe=>?_)
   clear hK' K' hSd hb
   have hSd:=hSe
   clear hSe
   (try simp only[List.getElem_toArray,List.getElem_cons_zero,List.getElem_cons_succ])
   (try simp only[Act.put,List.setIfInBounds_toArray,List.set_cons_zero,List.set_cons_succ])
   refine wpAnyH_ready (rs:=[8]) (by kernel_rfl) (by simp) (AllReadyH.cons rfl ?_ (AllReadyH.nil))
   ·intro K' hK'
    (try simp only[List.getElem_toArray,List.getElem_cons_zero,List.getElem_cons_succ])
    go_simp
    refine(HSB.out _).mono ?_
    rintro e u2 ⟨rfl,hb⟩
    replace HX:=hid (HX.out.below hb HX.out.lt)
    replace HW:=hid (HW.out.trans (hb.mono HW.out.size))
    refine hK'.out _ _ (HELD.out _ HW.out) (fun hSe=>?_)
    clear hK' K' hSd hb
    have hSd:=hSe
    clear hSe
    (try simp only[List.getElem_toArray,List.getElem_cons_zero,List.getElem_cons_succ])
    (try simp only[Act.put,List.setIfInBounds_toArray,List.set_cons_zero,List.set_cons_succ])
    have x0:=HX.out.c0
    have x1:=HX.out.c1
    have x2:=HX.out.c2
    have y0:=HX.out.fz 0
    have y1:=HX.out.fz 1
    have y2:=HX.out.fz 2
    refine wpAnyH_ready (rs:=[9]) (by kernel_rfl) (by simp) (AllReadyH.cons rfl ?_ (AllReadyH.nil))
    ·intro K' hK'
     (try simp only[List.getElem_toArray,List.getElem_cons_zero,List.getElem_cons_succ])
     go_simp
     have HX9:=hid (HX.out.put qn qx qy)
     have HW9:=hid (((HW.out.setCell (p:=⟨w.heap.size,0,none⟩) (Nat.le_refl _) (.bool qn)).setCell (p:=⟨w.heap.size,1,none⟩) (Nat.le_refl _) (.string qx)).setCell (p:=⟨w.heap.size,2,none⟩) (Nat.le_refl _) (.string qy))
     refine hK'.out _ _ (HELD.out _ HW9.out) (fun _=>wpAnyH_done (by kernel_rfl) ?_ _)
     clear hK' K' hSd x0 x1 x2 y0 y1 y2 HX HW
     go_wp2
     refine bodyPost_ret (HX9.out.result rfl _ rfl) rfl ?_
     exact⟨rfl,HW9.out⟩
 ·rw[lsF,if_neg hij]
  show Calls _ _ _ _ fun e w'=>e=.returned (.agg #[.bool (X i j).1,.string (X i j).2.1,.string (X i j).2.2])∧_
  generalize hz1:X i j=z1 at *
  obtain⟨an,ax,ay⟩:=z1
  simp only at c1 c2 c3
  clear HSUB HO1 hz1
  have hne:((i:Int) !=(j:Int))=true:=by simp;omega
  have hii:¬((i:Int)=(j:Int)):=by omega
  have d0:=(hA.cell (p:=⟨g,_,none⟩) hg).trans c0
  have d1:=(hA.cell (p:=⟨gr,_,none⟩) hgr).trans c1
  have d2:=(hA.cell (p:=⟨gr,_,none⟩) hgr).trans c2
  have d3:=(hA.cell (p:=⟨gr,_,none⟩) hgr).trans c3
  have HX9:=hid (Box.new w an ax ay)
  have HW9:=hid ((Below.refl w.heap.size w).alloc (Nat.le_refl _) (FC an ax ay))
  have x0:=hX.c0
  have x1:=hX.c1
  have x2:=hX.c2
  have y0:=hX.fz 0
  have y1:=hX.fz 1
  have y2:=hX.fz 2
  clear c0 c1 c2 c3 hA hX
  go_enter Tryz.func77,Tryz.ntmps77
  go_wp2
  refine bodyPost_ret (HX9.out.result rfl _ rfl) rfl ?_
  exact⟨rfl,HW9.out⟩
end Go.Proofs.YtmbjmiioggfneaaGreatDoor

/- Plain: determinants by their first row, for up to five equations: Cramer's rule; a chain that may leave each of its states has a determinant that is not 0. -/
namespace Go.Proofs.YtmbjmiioggfneaaGreatDoor
def mnr (a:Nat→Nat→Rat) (k:Nat):Nat→Nat→Rat:=fun i j=>a (i+1) (if j<k then j else j+1)
def detQ:Nat→(Nat→Nat→Rat)→Rat
 |0,_=>1
 |n+1,a=>sumR (fun k=>(if k % 2=1 then -1 else 1)*(detQ n (mnr a k)*a 0 k)) (n+1)
theorem det1 (a:Nat→Nat→Rat):detQ 1 a=a 0 0:=by simp[detQ,sumR,Rat.zero_add]
theorem det2 (a:Nat→Nat→Rat):detQ 2 a=a 0 0*a 1 1 - a 0 1*a 1 0:=by
 simp[detQ,sumR,mnr]
 grind
theorem det3 (a:Nat→Nat→Rat):detQ 3 a=a 0 0*(a 1 1*a 2 2 - a 1 2*a 2 1) - a 0 1*(a 1 0*a 2 2 - a 1 2*a 2 0)+a 0 2*(a 1 0*a 2 1 - a 1 1*a 2 0):=by
 rw[detQ]
 simp only[sumR,det2,mnr]
 simp
 grind
theorem det4 (a:Nat→Nat→Rat):detQ 4 a=a 0 0*(a 1 1*(a 2 2*a 3 3 - a 2 3*a 3 2) - a 1 2*(a 2 1*a 3 3 - a 2 3*a 3 1)+a 1 3*(a 2 1*a 3 2 - a 2 2*a 3 1)) - a 0 1*(a 1 0*(a 2 2*a 3 3 - a 2 3*a 3 2) - a 1 2*(a 2 0*a 3 3 - a 2 3*a 3 0)+a 1 3*(a 2 0*a 3 2 - a 2 2*a 3 0))+a 0 2*(a 1 0*(a 2 1*a 3 3 - a 2 3*a 3 1) - a 1 1*(a 2 0*a 3 3 - a 2 3*a 3 0)+a 1 3*(a 2 0*a 3 1 - a 2 1*a 3 0)) - a 0 3*(a 1 0*(a 2 1*a 3 2 - a 2 2*a 3 1) - a 1 1*(a 2 0*a 3 2 - a 2 2*a 3 0)+a 1 2*(a 2 0*a 3 1 - a 2 1*a 3 0)):=by
 rw[detQ]
 simp only[sumR,det3,mnr]
 simp
 grind
set_option maxRecDepth 100000 in
set_option maxHeartbeats 4000000 in
theorem det5 (a:Nat→Nat→Rat):detQ 5 a=a 0 0*(a 1 1*(a 2 2*(a 3 3*a 4 4 - a 3 4*a 4 3) - a 2 3*(a 3 2*a 4 4 - a 3 4*a 4 2)+a 2 4*(a 3 2*a 4 3 - a 3 3*a 4 2)) - a 1 2*(a 2 1*(a 3 3*a 4 4 - a 3 4*a 4 3) - a 2 3*(a 3 1*a 4 4 - a 3 4*a 4 1)+a 2 4*(a 3 1*a 4 3 - a 3 3*a 4 1))+a 1 3*(a 2 1*(a 3 2*a 4 4 - a 3 4*a 4 2) - a 2 2*(a 3 1*a 4 4 - a 3 4*a 4 1)+a 2 4*(a 3 1*a 4 2 - a 3 2*a 4 1)) - a 1 4*(a 2 1*(a 3 2*a 4 3 - a 3 3*a 4 2) - a 2 2*(a 3 1*a 4 3 - a 3 3*a 4 1)+a 2 3*(a 3 1*a 4 2 - a 3 2*a 4 1))) - a 0 1*(a 1 0*(a 2 2*(a 3 3*a 4 4 - a 3 4*a 4 3) - a 2 3*(a 3 2*a 4 4 - a 3 4*a 4 2)+a 2 4*(a 3 2*a 4 3 - a 3 3*a 4 2)) - a 1 2*(a 2 0*(a 3 3*a 4 4 - a 3 4*a 4 3) - a 2 3*(a 3 0*a 4 4 - a 3 4*a 4 0)+a 2 4*(a 3 0*a 4 3 - a 3 3*a 4 0))+a 1 3*(a 2 0*(a 3 2*a 4 4 - a 3 4*a 4 2) - a 2 2*(a 3 0*a 4 4 - a 3 4*a 4 0)+a 2 4*(a 3 0*a 4 2 - a 3 2*a 4 0)) - a 1 4*(a 2 0*(a 3 2*a 4 3 - a 3 3*a 4 2) - a 2 2*(a 3 0*a 4 3 - a 3 3*a 4 0)+a 2 3*(a 3 0*a 4 2 - a 3 2*a 4 0)))+a 0 2*(a 1 0*(a 2 1*(a 3 3*a 4 4 - a 3 4*a 4 3) - a 2 3*(a 3 1*a 4 4 - a 3 4*a 4 1)+a 2 4*(a 3 1*a 4 3 - a 3 3*a 4 1)) - a 1 1*(a 2 0*(a 3 3*a 4 4 - a 3 4*a 4 3) - a 2 3*(a 3 0*a 4 4 - a 3 4*a 4 0)+a 2 4*(a 3 0*a 4 3 - a 3 3*a 4 0))+a 1 3*(a 2 0*(a 3 1*a 4 4 - a 3 4*a 4 1) - a 2 1*(a 3 0*a 4 4 - a 3 4*a 4 0)+a 2 4*(a 3 0*a 4 1 - a 3 1*a 4 0)) - a 1 4*(a 2 0*(a 3 1*a 4 3 - a 3 3*a 4 1) - a 2 1*(a 3 0*a 4 3 - a 3 3*a 4 0)+a 2 3*(a 3 0*a 4 1 - a 3 1*a 4 0))) - a 0 3*(a 1 0*(a 2 1*(a 3 2*a 4 4 - a 3 4*a 4 2) - a 2 2*(a 3 1*a 4 4 - a 3 4*a 4 1)+a 2 4*(a 3 1*a 4 2 - a 3 2*a 4 1)) - a 1 1*(a 2 0*(a 3 2*a 4 4 - a 3 4*a 4 2) - a 2 2*(a 3 0*a 4 4 - a 3 4*a 4 0)+a 2 4*(a 3 0*a 4 2 - a 3 2*a 4 0))+a 1 2*(a 2 0*(a 3 1*a 4 4 - a 3 4*a 4 1) - a 2 1*(a 3 0*a 4 4 - a 3 4*a 4 0)+a 2 4*(a 3 0*a 4 1 - a 3 1*a 4 0)) - a 1 4*(a 2 0*(a 3 1*a 4 2 - a 3 2*a 4 1) - a 2 1*(a 3 0*a 4 2 - a 3 2*a 4 0)+a 2 2*(a 3 0*a 4 1 - a 3 1*a 4 0)))+a 0 4*(a 1 0*(a 2 1*(a 3 2*a 4 3 - a 3 3*a 4 2) - a 2 2*(a 3 1*a 4 3 - a 3 3*a 4 1)+a 2 3*(a 3 1*a 4 2 - a 3 2*a 4 1)) - a 1 1*(a 2 0*(a 3 2*a 4 3 - a 3 3*a 4 2) - a 2 2*(a 3 0*a 4 3 - a 3 3*a 4 0)+a 2 3*(a 3 0*a 4 2 - a 3 2*a 4 0))+a 1 2*(a 2 0*(a 3 1*a 4 3 - a 3 3*a 4 1) - a 2 1*(a 3 0*a 4 3 - a 3 3*a 4 0)+a 2 3*(a 3 0*a 4 1 - a 3 1*a 4 0)) - a 1 3*(a 2 0*(a 3 1*a 4 2 - a 3 2*a 4 1) - a 2 1*(a 3 0*a 4 2 - a 3 2*a 4 0)+a 2 2*(a 3 0*a 4 1 - a 3 1*a 4 0))):=by
 rw[detQ]
 simp only[sumR,det4,mnr]
 simp
 grind (ringSteps:=1000000) (splits:=0)
def putC (a:Nat→Nat→Rat) (k:Nat) (b:Nat→Rat):Nat→Nat→Rat:=fun i j=>if j=k then b i else a i j
set_option maxRecDepth 100000 in
set_option maxHeartbeats 8000000 in
theorem cramer {n:Nat} (hn:n≤5) {a:Nat→Nat→Rat} {x b:Nat→Rat} (h:∀i,i<n→sumR (fun j=>a i j*x j) n=b i) {k:Nat} (hk:k<n):detQ n (putC a k b)=x k*detQ n a:=by
 match n,hn with
 |0,_=>omega
 |1,_=>
  have h0:=h 0 (by omega)
  obtain rfl:k=0:=by omega
  rw[det1,det1]
  simp[putC,sumR] at h0⊢
  grind
 |2,_=>
  have h0:=h 0 (by omega)
  have h1:=h 1 (by omega)
  rw[det2,det2]
  simp only[sumR] at h0 h1
  match k,hk with
  |0,_=>simp[putC];grind
  |1,_=>simp[putC];grind
 |3,_=>
  have h0:=h 0 (by omega)
  have h1:=h 1 (by omega)
  have h2:=h 2 (by omega)
  rw[det3,det3]
  simp only[sumR] at h0 h1 h2
  match k,hk with
  |0,_=>simp[putC];rw[←h0,←h1,←h2];grind
  |1,_=>simp[putC];rw[←h0,←h1,←h2];grind
  |2,_=>simp[putC];rw[←h0,←h1,←h2];grind
 |4,_=>
  have h0:=h 0 (by omega)
  have h1:=h 1 (by omega)
  have h2:=h 2 (by omega)
  have h3:=h 3 (by omega)
  rw[det4,det4]
  simp only[sumR] at h0 h1 h2 h3
  match k,hk with
  |0,_=>simp[putC];rw[←h0,←h1,←h2,←h3];clear h0 h1 h2 h3 h;grind
  |1,_=>simp[putC];rw[←h0,←h1,←h2,←h3];clear h0 h1 h2 h3 h;grind
  |2,_=>simp[putC];rw[←h0,←h1,←h2,←h3];clear h0 h1 h2 h3 h;grind
  |3,_=>simp[putC];rw[←h0,←h1,←h2,←h3];clear h0 h1 h2 h3 h;grind
 |5,_=>
  have h0:=h 0 (by omega)
  have h1:=h 1 (by omega)
  have h2:=h 2 (by omega)
  have h3:=h 3 (by omega)
  have h4:=h 4 (by omega)
  rw[det5,det5]
  simp only[sumR] at h0 h1 h2 h3 h4
  match k,hk with
  |0,_=>simp[putC];rw[←h0,←h1,←h2,←h3,←h4];clear h0 h1 h2 h3 h4 h;grind (ringSteps:=1000000) (splits:=0)
  |1,_=>simp[putC];rw[←h0,←h1,←h2,←h3,←h4];clear h0 h1 h2 h3 h4 h;grind (ringSteps:=1000000) (splits:=0)
  |2,_=>simp[putC];rw[←h0,←h1,←h2,←h3,←h4];clear h0 h1 h2 h3 h4 h;grind (ringSteps:=1000000) (splits:=0)
  |3,_=>simp[putC];rw[←h0,←h1,←h2,←h3,←h4];clear h0 h1 h2 h3 h4 h;grind (ringSteps:=1000000) (splits:=0)
  |4,_=>simp[putC];rw[←h0,←h1,←h2,←h3,←h4];clear h0 h1 h2 h3 h4 h;grind (ringSteps:=1000000) (splits:=0)
 |n+6,h6=>omega
def shr (a:Nat→Nat→Rat):Nat→Nat→Rat:=fun i j=>a (i+1) (j+1) - a (i+1) 0*a 0 (j+1)/a 0 0
set_option maxRecDepth 100000 in
set_option maxHeartbeats 8000000 in
theorem chio {n:Nat} (hn:n≤4) {a:Nat→Nat→Rat} (h:a 0 0≠0):detQ (n+1) a=a 0 0*detQ n (shr a):=by
 have hr:a 0 0*(a 0 0)⁻¹=1:=Rat.mul_inv_cancel _ h
 match n,hn with
 |0,_=>rw[det1,detQ,Rat.mul_one]
 |1,_=>rw[det2,det1];simp only[shr,Rat.div_def];generalize (a 0 0)⁻¹=r at *;grind
 |2,_=>rw[det3,det2];simp only[shr,Rat.div_def];generalize (a 0 0)⁻¹=r at *;grind
 |3,_=>rw[det4,det3];simp only[shr,Rat.div_def];generalize (a 0 0)⁻¹=r at *;grind
 |4,_=>rw[det5,det4];simp only[shr,Rat.div_def];generalize (a 0 0)⁻¹=r at *;grind (ringSteps:=1000000) (splits:=0)
 |n+5,h4=>omega
theorem detQ_congr:∀ {n:Nat} {a b:Nat→Nat→Rat},(∀i,i<n→∀j,j<n→a i j=b i j)→detQ n a=detQ n b
 |0,_,_,_=>rfl
 |n+1,a,b,h=>by
  rw[detQ,detQ]
  refine sumR_congr fun k hk=>?_
  rw[h 0 (by omega) k hk,detQ_congr (n:=n) (a:=mnr a k) (b:=mnr b k) fun i hi j hj=>?_]
  show a (i+1) _=b (i+1) _
  exact h (i+1) (by omega) _ (by split<;>omega)
theorem sumR_head (f:Nat→Rat):∀n,sumR f (n+1)=f 0+sumR (fun j=>f (j+1)) n
 |0=>by rw[sumR,sumR,sumR,Rat.zero_add,Rat.add_zero]
 |n+1=>by rw[sumR,sumR_head f n,sumR,Rat.add_assoc]
theorem Wt.shift {n:Nat} {M:Nat→Nat→Rat} (h:Wt (n+1) 1 M):Wt n 0 fun i j=>M (i+1) (j+1):=by
 have et:∀i,tailR (fun j=>M (i+1) (j+1)) 0 n=tailR (M (i+1)) 1 (n+1):=fun i=>by
  rw[tailR,tailR,sumR_head (M (i+1)) n]
  show sumR _ n - 0=_+_ - (0+M (i+1) 0)
  grind
 refine⟨fun i _ hi j _ hj hne=>h.low (i+1) (by omega) (by omega) (j+1) (by omega) (by omega) (by omega),fun i _ hi=>?_,fun C hC=>?_⟩
 ·rw[et]
  exact h.sum (i+1) (by omega) (by omega)
 ·obtain⟨i0,_,hi0,hc0⟩:=hC
  obtain⟨i,h1,h2,h3,h4⟩:=h.trap (fun i=>1≤i∧C (i - 1)) ⟨i0+1,by omega,by omega,by omega,hc0⟩
  refine⟨i - 1,by omega,by omega,h3.2,?_⟩
  have e1:i - 1+1=i:=by omega
  rcases h4 with h4 |⟨j,q1,q2,q3,q4⟩
  ·refine .inl ?_
   show tailR (fun j=>M (i - 1+1) (j+1)) 0 n<0
   rw[et,e1]
   exact h4
  ·refine .inr ⟨j - 1,by omega,by omega,fun hc=>q3 ⟨q1,hc⟩,?_⟩
   show 0<M (i - 1+1) (j - 1+1)
   rw[e1,show j - 1+1=j by omega]
   exact q4
theorem Wt.det:∀ {n:Nat} {M:Nat→Nat→Rat},n≤5→Wt n 0 M→detQ n (fun i j=> -M i j)≠0
 |0,_,_,_=>by rw[detQ];decide
 |n+1,M,hn,h=>by
  have hp:=h.pivot (by omega)
  have hne: -M 0 0≠0:=by grind
  rw[chio (a:=fun i j=> -M i j) (by omega) hne]
  have hs:=(h.step (by omega)).shift
  have ih:=Wt.det (by omega) hs
  have e:detQ n (shr fun i j=> -M i j)=detQ n fun i j=> -(elmS 0 M (i+1) (j+1)):=detQ_congr fun i _ j _=>by
   rw[shr,elmS,if_neg (by omega)]
   simp only[Rat.div_def]
   have hr:M 0 0*(M 0 0)⁻¹=1:=Rat.mul_inv_cancel _ (by grind)
   have hr2: -M 0 0*(-M 0 0)⁻¹=1:=Rat.mul_inv_cancel _ hne
   generalize (M 0 0)⁻¹=r at *
   generalize (-M 0 0)⁻¹=s at *
   have hs:s= -r:=by grind
   rw[hs]
   grind
  rw[e]
  exact fun h0=>(Rat.mul_eq_zero.1 h0).elim hne ih
theorem Wt.cramer {n:Nat} {M:Nat→Nat→Rat} (hn:n≤5) (h:Wt n 0 M) {x b:Nat→Rat} (hx:∀i,i<n→sumR (fun j=> -M i j*x j) n=b i) {k:Nat} (hk:k<n):detQ n (putC (fun i j=> -M i j) k b)/detQ n (fun i j=> -M i j)=x k:=by
 rw[Go.Proofs.YtmbjmiioggfneaaGreatDoor.cramer hn hx hk,Rat.div_def,Rat.mul_assoc,Rat.mul_inv_cancel _ (h.det hn),Rat.mul_one]
end Go.Proofs.YtmbjmiioggfneaaGreatDoor

/- Plain: what elimination leaves are quotients of determinants: how long its numbers are. -/
namespace Go.Proofs.YtmbjmiioggfneaaGreatDoor
def colM (M:Nat→Nat→Rat) (k c:Nat):Nat→Nat→Rat:=fun i j=>if j=k then M i c else M i j
theorem elm_col (M:Nat→Nat→Rat) {n c:Nat} (hc:n≤c):∀k,k≤n→∀i j,j<n→elm (colM M n c) k i j=elm M k i j∧elm (colM M n c) k i n=elm M k i c
 |0,_,i,j,hj=>⟨by show colM M n c i j=M i j;rw[colM,if_neg (by omega)],by show colM M n c i n=M i c;rw[colM,if_pos rfl]⟩
 |k+1,hk,i,j,hj=>by
  have ih:=elm_col M hc k (by omega)
  show elmS k (elm (colM M n c) k) i j=elmS k (elm M k) i j∧elmS k (elm (colM M n c) k) i n=elmS k (elm M k) i c
  unfold elmS
  rw[(ih k j hj).1,(ih k k (by omega)).1,(ih i j hj).1,(ih i k (by omega)).1,(ih k j hj).2,(ih i j hj).2]
  exact⟨rfl,rfl⟩
theorem elm_top {M:Nat→Nat→Rat} {k c:Nat} (hc:k≤c) (hp:∀j,j<k→elm M j j j≠0) {i:Nat} (hi:i<k):sumR (fun t=>M i t*elm M k t c) k=M i c:=by
 have h:=elm_solves (n:=k) (M:=colM M k c) (fun j hj=>by rw[(elm_col M hc j (by omega) j j hj).1];exact hp j hj) i hi
 have e1:colM M k c i k=M i c:=if_pos rfl
 rw[e1] at h
 rw[←h]
 refine sumR_congr fun t ht=>?_
 show M i t*elm M k t c=colM M k c i t*elm (colM M k c) k t k
 rw[(elm_col M hc k (Nat.le_refl _) t t ht).2,colM,if_neg (by omega)]
theorem elm_low {M:Nat→Nat→Rat}:∀k,(∀j,j<k→elm M j j j≠0)→∀i,k≤i→∀c,elm M k i c=M i c - sumR (fun t=>M i t*elm M k t c) k
 |0,_,i,_,c=>by rw[sumR];show M i c=M i c - 0;grind
 |k+1,hp,i,hi,c=>by
  have ih:=elm_low k (fun j hj=>hp j (by omega)) i (by omega)
  have e0:∀t,t≠k→∀c,elm M (k+1) t c=elm M k t c - elm M k k c/elm M k k k*elm M k t k:=fun t ht c=>by
   show elmS k (elm M k) t c=_
   rw[elmS,if_neg ht]
  have e1:elm M (k+1) k c=elm M k k c/elm M k k k:=by
   show elmS k (elm M k) k c=_
   rw[elmS,if_pos rfl]
  rw[e0 i (by omega) c,ih c,ih k,sumR,e1]
  have e2:sumR (fun t=>M i t*elm M (k+1) t c) k=sumR (fun t=>M i t*elm M k t c) k - elm M k k c/elm M k k k*sumR (fun t=>M i t*elm M k t k) k:=by
   rw[←sumR_mul,←sumR_sub]
   exact sumR_congr fun t ht=>by rw[e0 t (by omega) c];grind
  rw[e2]
  grind
theorem elm_shr (M:Nat→Nat→Rat):∀k i c,elm M (k+1) (i+1) (c+1)=elm (shr M) k i c
 |0,i,c=>by
  show elmS 0 M (i+1) (c+1)=shr M i c
  rw[elmS,if_neg (by omega),shr]
  simp only[Rat.div_def]
  grind
 |k+1,i,c=>by
  show elmS (k+1) (elm M (k+1)) (i+1) (c+1)=elmS k (elm (shr M) k) i c
  unfold elmS
  simp only[elm_shr M k,Nat.add_right_cancel_iff]
theorem det_piv:∀ {k:Nat} {M:Nat→Nat→Rat},k≤5→(∀j,j<k→elm M j j j≠0)→detQ k M≠0
 |0,_,_,_=>by rw[detQ];decide
 |k+1,M,hk,hp=>by
  have h0:M 0 0≠0:=hp 0 (by omega)
  rw[chio (by omega) h0]
  have ih:=det_piv (k:=k) (M:=shr M) (by omega) fun j hj=>by rw[←elm_shr];exact hp (j+1) (by omega)
  exact fun h=>(Rat.mul_eq_zero.1 h).elim h0 ih
theorem elm_det {M:Nat→Nat→Rat} {k c t:Nat} (hk:k≤5) (hc:k≤c) (hp:∀j,j<k→elm M j j j≠0) (ht:t<k):detQ k (putC M t fun i=>M i c)=elm M k t c*detQ k M:=
 cramer hk (x:=fun t=>elm M k t c) (b:=fun i=>M i c) (fun _ hi=>elm_top hc hp hi) ht
def prodN:Nat→(Nat→Nat)→Nat
 |0,_=>1
 |n+1,D=>D 0*prodN n fun i=>D (i+1)
def Whl (D:Nat) (q:Rat):Prop:=∃z:Int,q*(D:Rat)=(z:Rat)
theorem Whl.mul {D E:Nat} {p q:Rat} (h:Whl D p) (h':Whl E q):Whl (D*E) (p*q):=by
 obtain⟨a,ha⟩:=h
 obtain⟨b,hb⟩:=h'
 refine⟨a*b,?_⟩
 rw[Rat.natCast_mul,Rat.intCast_mul,←ha,←hb]
 grind
theorem Whl.add {D:Nat} {p q:Rat} (h:Whl D p) (h':Whl D q):Whl D (p+q):=by
 obtain⟨a,ha⟩:=h
 obtain⟨b,hb⟩:=h'
 exact⟨a+b,by rw[Rat.intCast_add,←ha,←hb,Rat.add_mul]⟩
theorem Whl.neg {D:Nat} {p:Rat} (h:Whl D p):Whl D (-p):=by
 obtain⟨a,ha⟩:=h
 exact⟨-a,by rw[Rat.intCast_neg,←ha,Rat.neg_mul]⟩
theorem Whl.zero (D:Nat):Whl D 0:=⟨0,by rw[Rat.zero_mul];rfl⟩
theorem Whl.sum {D:Nat} {f:Nat→Rat}:∀ {n:Nat},(∀i,i<n→Whl D (f i))→Whl D (sumR f n)
 |0,_=>Whl.zero D
 |n+1,h=>by rw[sumR];exact(Whl.sum fun i hi=>h i (by omega)).add (h n (by omega))
theorem det_whl:∀ {n:Nat} {a:Nat→Nat→Rat} {D:Nat→Nat},(∀i,i<n→∀j,j<n→Whl (D i) (a i j))→Whl (prodN n D) (detQ n a)
 |0,_,_,_=>⟨1,by rw[detQ,prodN,Rat.one_mul];rfl⟩
 |n+1,a,D,h=>by
  rw[detQ,prodN]
  refine Whl.sum fun k hk=>?_
  have h1:Whl (prodN n fun i=>D (i+1)) (detQ n (mnr a k)):=det_whl fun i hi j hj=>h (i+1) (by omega) _ (by split<;>omega)
  have h2:=(h 0 (by omega) k hk).mul h1
  rw[Rat.mul_comm] at h2
  split
  ·rw[Rat.neg_mul,Rat.one_mul];exact h2.neg
  ·rw[Rat.one_mul];exact h2
def Abs (B:Nat) (q:Rat):Prop:= -(B:Rat)≤q∧q≤(B:Rat)
theorem Abs.mul {B C:Nat} {p q:Rat} (h:Abs B p) (h':Abs C q):Abs (B*C) (p*q):=by
 obtain⟨a1,a2⟩:=h
 obtain⟨b1,b2⟩:=h'
 have x1:0≤((B:Rat) - p)*((C:Rat)+q):=Rat.mul_nonneg (by grind) (by grind)
 have x2:0≤((B:Rat)+p)*((C:Rat) - q):=Rat.mul_nonneg (by grind) (by grind)
 have x3:0≤((B:Rat) - p)*((C:Rat) - q):=Rat.mul_nonneg (by grind) (by grind)
 have x4:0≤((B:Rat)+p)*((C:Rat)+q):=Rat.mul_nonneg (by grind) (by grind)
 rw[Abs,Rat.natCast_mul]
 constructor<;>grind
theorem Abs.neg {B:Nat} {p:Rat} (h:Abs B p):Abs B (-p):=by
 obtain⟨a1,a2⟩:=h
 constructor<;>grind
theorem Abs.add {B C:Nat} {p q:Rat} (h:Abs B p) (h':Abs C q):Abs (B+C) (p+q):=by
 obtain⟨a1,a2⟩:=h
 obtain⟨b1,b2⟩:=h'
 rw[Abs,Rat.natCast_add]
 constructor<;>grind
theorem Abs.up {B C:Nat} {p:Rat} (h:Abs B p) (hc:B≤C):Abs C p:=by
 obtain⟨a1,a2⟩:=h
 have h1:(B:Rat)≤(C:Rat):=Rat.natCast_le_natCast.2 hc
 constructor<;>grind
theorem Abs.zero:Abs 0 0:=⟨by decide,by decide⟩
theorem Abs.sum {B:Nat} {f:Nat→Rat}:∀ {n:Nat},(∀i,i<n→Abs B (f i))→Abs (n*B) (sumR f n)
 |0,_=>by rw[Nat.zero_mul];exact Abs.zero
 |n+1,h=>by rw[sumR,Nat.succ_mul];exact(Abs.sum fun i hi=>h i (by omega)).add (h n (by omega))
def facB (C:Nat):Nat→Nat
 |0=>1
 |n+1=>(n+1)*(facB C n*C)
theorem det_abs {C:Nat}:∀ {n:Nat} {a:Nat→Nat→Rat},(∀i,i<n→∀j,j<n→Abs C (a i j))→Abs (facB C n) (detQ n a)
 |0,_,_=>by
  rw[detQ,facB]
  exact⟨by decide,by decide⟩
 |n+1,a,h=>by
  rw[detQ,facB]
  refine Abs.sum fun k hk=>?_
  have h1:Abs (facB C n) (detQ n (mnr a k)):=det_abs fun i hi j hj=>h (i+1) (by omega) _ (by split<;>omega)
  have h2:=h1.mul (h 0 (by omega) k hk)
  split
  ·rw[Rat.neg_mul,Rat.one_mul];exact h2.neg
  ·rw[Rat.one_mul];exact h2
theorem abs_whole {B E:Nat} {q:Rat} {z:Int} (hq:q*(E:Rat)=(z:Rat)) (h:Abs B q):z.natAbs≤B*E:=by
 have hE:(0:Rat)≤(E:Rat):=Rat.natCast_nonneg
 have h1:(z:Rat)≤(((B*E:Nat):Int):Rat):=by
  rw[←hq]
  have:q*(E:Rat)≤(B:Rat)*(E:Rat):=Rat.mul_le_mul_of_nonneg_right h.2 hE
  show _≤((B*E:Nat):Rat)
  rw[Rat.natCast_mul]
  exact this
 have h2:((-((B*E:Nat):Int):Int):Rat)≤(z:Rat):=by
  rw[←hq,Rat.intCast_neg]
  have: -(B:Rat)*(E:Rat)≤q*(E:Rat):=Rat.mul_le_mul_of_nonneg_right h.1 hE
  show -((B*E:Nat):Rat)≤_
  rw[Rat.natCast_mul]
  grind
 have h3:z≤((B*E:Nat):Int):=Rat.intCast_le_intCast.1 h1
 have h4: -((B*E:Nat):Int)≤z:=Rat.intCast_le_intCast.1 h2
 omega
theorem fits_quot {m E B:Nat} {p d:Rat} (hE:0<E) (hp:Whl E p) (hd:Whl E d) (h0:d≠0) (ap:Abs B p) (ad:Abs B d) (hB:B*E<256^m):Fits m (p/d):=by
 obtain⟨x,hx⟩:=hp
 obtain⟨y,hy⟩:=hd
 have hEr:(E:Rat)≠0:=fun e=>by
  have:E=0:=by exact_mod_cast e
  omega
 have hy0:(y:Rat)≠0:=by
  rw[←hy]
  exact fun e=>(Rat.mul_eq_zero.1 e).elim h0 hEr
 have hyz:y≠0:=fun e=>hy0 (by rw[e];rfl)
 have hq:p/d=(x:Rat)/(y:Rat):=by
  rw[←hx,←hy,Rat.div_def,Rat.div_def]
  have h1:d*d⁻¹=1:=Rat.mul_inv_cancel _ h0
  have h2:d*(E:Rat)*(d*(E:Rat))⁻¹=1:=Rat.mul_inv_cancel _ (by rw[hy];exact hy0)
  generalize (d*(E:Rat))⁻¹=r at *
  generalize d⁻¹=s at *
  have h3:s=(E:Rat)*r:=by
   have:s*(d*(E:Rat)*r)=s*1:=by rw[h2]
   grind
  rw[h3]
  grind
 have bx:=abs_whole hx ap
 have bb:=abs_whole hy ad
 rw[hq]
 rcases Int.lt_or_gt_of_ne hyz with hneg |hpos
 ·refine⟨-x,y.natAbs,by omega,?_,by omega,by omega⟩
  rw[Rat.mkRat_eq_div]
  have e1:((y.natAbs:Nat):Int)= -y:=by omega
  have e2:((y.natAbs:Nat):Rat)= -(y:Rat):=by
   show (((y.natAbs:Nat):Int):Rat)=_
   rw[e1,Rat.intCast_neg]
  rw[e2,Rat.intCast_neg,Rat.div_def,Rat.div_def]
  have h1:(y:Rat)*(y:Rat)⁻¹=1:=Rat.mul_inv_cancel _ hy0
  have h2: -(y:Rat)*(-(y:Rat))⁻¹=1:=Rat.mul_inv_cancel _ (by grind)
  generalize (y:Rat)⁻¹=r at *
  generalize (-(y:Rat))⁻¹=s at *
  have h3:s= -r:=by
   have:r*(-(y:Rat)*s)=r*1:=by rw[h2]
   grind
  rw[h3]
  grind
 ·refine⟨x,y.natAbs,by omega,?_,by omega,by omega⟩
  rw[Rat.mkRat_eq_div]
  have e1:((y.natAbs:Nat):Int)=y:=by omega
  have e2:((y.natAbs:Nat):Rat)=(y:Rat):=by
   show (((y.natAbs:Nat):Int):Rat)=_
   rw[e1]
  rw[e2]
theorem prodN_pos:∀ {n:Nat} {D:Nat→Nat},(∀i,i<n→0<D i)→0<prodN n D
 |0,_,_=>by rw[prodN];decide
 |n+1,D,h=>by rw[prodN];exact Nat.mul_pos (h 0 (by omega)) (prodN_pos fun i hi=>h (i+1) (by omega))
theorem prodN_one:∀ {n i:Nat} {D:Nat→Nat},(∀i,i<n→0<D i)→i<n→D i≤prodN n D
 |n+1,0,D,h,_=>by rw[prodN];exact Nat.le_mul_of_pos_right _ (prodN_pos fun i hi=>h (i+1) (by omega))
 |n+1,i+1,D,h,hi=>by
  rw[prodN]
  exact Nat.le_trans (prodN_one (D:=fun i=>D (i+1)) (fun i hi=>h (i+1) (by omega)) (by omega:i<n)) (Nat.le_mul_of_pos_left _ (h 0 (by omega)))
theorem prodN_more:∀ {k n i:Nat} {D:Nat→Nat},(∀i,i<n→0<D i)→k≤i→i<n→prodN k D*D i≤prodN n D
 |0,n,i,D,h,_,hi=>by rw[prodN,Nat.one_mul];exact prodN_one h hi
 |k+1,n+1,i+1,D,h,hk,hi=>by
  rw[prodN,prodN,Nat.mul_assoc]
  exact Nat.mul_le_mul_left _ (prodN_more (D:=fun i=>D (i+1)) (fun i hi=>h (i+1) (by omega)) (by omega:k≤i) (by omega))
 |k+1,_,0,_,_,hk,_=>by omega
 |_+1,0,_,_,_,_,hi=>by omega
theorem prodN_part:∀ {k n:Nat} {D:Nat→Nat},(∀i,i<n→0<D i)→k≤n→prodN k D≤prodN n D
 |0,n,D,h,_=>by rw[prodN];exact prodN_pos h
 |k+1,n+1,D,h,hk=>by
  rw[prodN,prodN]
  exact Nat.mul_le_mul_left _ (prodN_part (fun i hi=>h (i+1) (by omega)) (by omega))
theorem facB_mono {C:Nat} (hC:1≤C):∀ {k n:Nat},k≤n→facB C k≤facB C n
 |k,0,h=>by
  obtain rfl:k=0:=by omega
  exact Nat.le_refl _
 |k,n+1,h=>by
  rcases Nat.lt_or_ge k (n+1) with h1 |h1
  ·refine Nat.le_trans (facB_mono hC (by omega:k≤n)) ?_
   rw[facB]
   exact Nat.le_trans (Nat.le_mul_of_pos_right _ (by omega)) (Nat.le_mul_of_pos_left _ (by omega))
  ·obtain rfl:k=n+1:=by omega
   exact Nat.le_refl _
theorem Whl.times {D:Nat} {q:Rat} (h:Whl D q) (E:Nat):Whl (D*E) q:=by
 obtain⟨z,hz⟩:=h
 exact⟨z*(E:Int),by rw[Rat.natCast_mul,←Rat.mul_assoc,hz,Rat.intCast_mul];rfl⟩
theorem elm_long {n k m C:Nat} {M:Nat→Nat→Rat} {D:Nat→Nat} (hn:n≤5) (hk:k≤n) (hC:1≤C) (hD:∀i,i<n→0<D i) (hw:∀i,i<n→∀c,c≤n→Whl (D i) (M i c)) (ha:∀i,i<n→∀c,c≤n→Abs C (M i c)) (hp:∀j,j<k→elm M j j j≠0) (hB:(n+1)*(C*facB C n)*prodN n D<256^m) {i c:Nat} (hi:i<n) (hc:c≤n):Fits m (elm M k i c):=by
 have hT:0<prodN n D:=prodN_pos hD
 have hf:1≤facB C n:=by have:=facB_mono hC (Nat.zero_le n);rw[facB] at this;exact this
 have hfk:=facB_mono hC hk
 have hCf:1≤C*facB C n:=Nat.mul_pos hC hf
 have hb1:facB C k≤(n+1)*(C*facB C n):=Nat.le_trans hfk (Nat.le_trans (Nat.le_mul_of_pos_left _ hC) (Nat.le_mul_of_pos_left _ (by omega)))
 have h1:1<256^m:=by
  have:1≤(n+1)*(C*facB C n)*prodN n D:=Nat.mul_pos (Nat.mul_pos (by omega) hCf) hT
  omega
 by_cases hck:c<k
 ·rw[elm_unit (n:=n) k hk hp i hi c hck]
  by_cases e:i=c
  ·rw[if_pos e];exact⟨1,1,by decide,by decide,h1,h1⟩
  ·rw[if_neg e];exact⟨0,1,by decide,by decide,h1,by show 0<_;omega⟩
 have hkc:k≤c:=by omega
 have hd0:=det_piv (by omega:k≤5) hp
 have wd:Whl (prodN k D) (detQ k M):=det_whl fun i hi' j hj=>hw i (by omega) j (by omega)
 have ad:Abs (facB C k) (detQ k M):=det_abs fun i hi' j hj=>ha i (by omega) j (by omega)
 have wt:∀t,t<k→Whl (prodN k D) (detQ k (putC M t fun i=>M i c)):=fun t ht=>det_whl fun i hi' j hj=>by
  unfold putC
  split
  ·exact hw i (by omega) c hc
  ·exact hw i (by omega) j (by omega)
 have at_:∀t,t<k→Abs (facB C k) (detQ k (putC M t fun i=>M i c)):=fun t ht=>det_abs fun i hi' j hj=>by
  unfold putC
  split
  ·exact ha i (by omega) c hc
  ·exact ha i (by omega) j (by omega)
 have hr:detQ k M*(detQ k M)⁻¹=1:=Rat.mul_inv_cancel _ hd0
 by_cases hik:i<k
 ·have e:elm M k i c=detQ k (putC M i fun i=>M i c)/detQ k M:=by
   rw[elm_det (by omega) hkc hp hik,Rat.div_def,Rat.mul_assoc,hr,Rat.mul_one]
  rw[e]
  refine fits_quot (E:=prodN k D) (B:=facB C k) (prodN_pos fun i h=>hD i (by omega)) (wt i hik) wd hd0 (at_ i hik) ad (Nat.lt_of_le_of_lt (Nat.mul_le_mul hb1 (prodN_part hD hk)) hB)
 ·have hki:k≤i:=by omega
  have e:elm M k i c=(M i c*detQ k M+ -sumR (fun t=>M i t*detQ k (putC M t fun i=>M i c)) k)/detQ k M:=by
   have e1:sumR (fun t=>M i t*detQ k (putC M t fun i=>M i c)) k=sumR (fun t=>M i t*elm M k t c) k*detQ k M:=by
    rw[←sumR_mulR]
    exact sumR_congr fun t ht=>by rw[elm_det (by omega) hkc hp ht];grind
   rw[elm_low k hp i hki c,e1,Rat.div_def]
   grind
  rw[e]
  have w1:Whl (D i*prodN k D) (M i c*detQ k M+ -sumR (fun t=>M i t*detQ k (putC M t fun i=>M i c)) k):=((hw i hi c hc).mul wd).add (Whl.sum fun t ht=>(hw i hi t (by omega)).mul (wt t ht)).neg
  have a1:Abs (C*facB C k+k*(C*facB C k)) (M i c*detQ k M+ -sumR (fun t=>M i t*detQ k (putC M t fun i=>M i c)) k):=((ha i hi c hc).mul ad).add (Abs.sum fun t ht=>(ha i hi t (by omega)).mul (at_ t ht)).neg
  have hb2:C*facB C k+k*(C*facB C k)≤(n+1)*(C*facB C n):=by
   have h5:C*facB C k≤C*facB C n:=Nat.mul_le_mul_left _ hfk
   have h6:k*(C*facB C k)≤n*(C*facB C n):=Nat.mul_le_mul hk h5
   rw[Nat.succ_mul]
   omega
  have w2:Whl (D i*prodN k D) (detQ k M):=by
   have:=wd.times (D i)
   rwa [Nat.mul_comm] at this
  refine fits_quot (E:=D i*prodN k D) (B:=(n+1)*(C*facB C n)) (Nat.mul_pos (hD i hi) (prodN_pos fun i h=>hD i (by omega))) w1 w2 hd0 (a1.up hb2) (ad.up hb1) (Nat.lt_of_le_of_lt (Nat.mul_le_mul_left _ ?_) hB)
  rw[Nat.mul_comm]
  exact prodN_more hD hki hi
end Go.Proofs.YtmbjmiioggfneaaGreatDoor
