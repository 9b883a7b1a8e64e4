/- The document's answer: tables that grow cell by cell. -/
import Derived.Test.YtknlhejhnopnaaaGreatDoorSwapNToRtB
import Derived.Test.YtknlhejhnopnaaaGreatDoorFixAToFixB
import Derived.Test.YtknlhejhnopnaaaGreatDoorSliBToProdA
namespace Go.Proofs.YtknlhejhnopnaaaGreatDoor
open Go.RowKit Go.Shelf

/-- A list of fractions in memory of its own. -/
def RwF (w : World) (B : Nat) (v : Value) (l : List Fr) : Prop := w.ownsRow B 44 3 v l.length (frC l)
theorem RwF.empty (w : World) (B : Nat) : RwF w B (.slice none 0 0) [] := ⟨rfl, .inl ⟨rfl, rfl⟩⟩
theorem RwF.below {w w' : World} {B : Nat} {v : Value} {l : List Fr} (h : RwF w B v l) (hb : Below w.heap.size w w') : RwF w' B v l := by
  refine ⟨h.1, h.2.imp id ?_⟩
  rintro ⟨g, cap, cur, h1, h2, h3, h4⟩
  exact ⟨g, cap, cur, h1, h2, (hb.block g (Array.getElem?_eq_some_iff.1 h3).1).trans h3, h4⟩
theorem RwF.off {w : World} {B : Nat} {v : Value} {l : List Fr} (h : RwF w B v l) (b j : Nat) (y : Value) (hb : b < B) : RwF (w.setCell ⟨b, j, none⟩ y) B v l := by
  refine ⟨h.1, h.2.imp id ?_⟩
  rintro ⟨g, cap, cur, h1, h2, h3, h4⟩
  exact ⟨g, cap, cur, h1, h2, (Below.heap_setCell w ⟨b, j, none⟩ y g (by show g ≠ b; omega)).trans h3, h4⟩
theorem RwF.own {w : World} {B : Nat} {v : Value} {l : List Fr} (h : RwF w B v l) : ∀ k, v.ownBlock = some k → B ≤ k := by
  intro k hk
  rcases h.2 with ⟨rfl, _⟩ | ⟨g, cap, cur, rfl, h2, _⟩
  · cases hk
  · cases hk
    exact h2
theorem RwF.fr {w : World} {B : Nat} {v : Value} {l : List Fr} (h : RwF w B v l) : ∃ d cd, v = .slice d l.length cd ∧ FrS w d l := by
  rcases h.2 with ⟨h1, h2⟩ | ⟨g, cap, cur, h1, h2, h3, h4, h5, h6, h7⟩
  · have : l = [] := List.length_eq_zero_iff.1 h2
    subst this
    exact ⟨none, 0, h1, fun k hk => absurd hk (by simp)⟩
  · refine ⟨_, _, h1, fun k hk => ?_⟩
    obtain ⟨e1, e2, e3⟩ := frC_get l k hk
    have at_ : ∀ j, j < l.length * 3 → cur[j]? = (frC l)[j]? := fun j hj => by
      rw [← h7, List.getElem?_take, if_pos hj, Array.getElem?_toList]
    refine ⟨g, 0, rfl, (Array.getElem?_eq_some_iff.1 h3).1, ?_, ?_, ?_⟩
    · rw [cell_of_row w g _ _ _ (0, 0) h3, Nat.zero_add, at_ _ (by omega)]; exact e1
    · rw [cell_of_row w g _ _ _ (0, 0) h3, Nat.zero_add, at_ _ (by omega)]; exact e2
    · rw [cell_of_row w g _ _ _ (0, 0) h3, Nat.zero_add, at_ _ (by omega)]; exact e3
theorem RwF.slv {w : World} {B : Nat} {v : Value} {l : List Fr} (h : RwF w B v l) : SlV v := by
  obtain ⟨d, cd, e, _⟩ := h.fr
  exact ⟨d, _, cd, e⟩
theorem frC_snoc (l : List Fr) (f : Fr) : frC (l ++ [f]) = frC l ++ [.bool f.1, .string f.2.1, .string f.2.2] := by
  induction l with
  | nil => rfl
  | cons x l ih => simp only [List.cons_append, frC, ih]
theorem wpList_append_fr {w : World} {ops : Array Oper} {rest : List Oper} {o : Oper} {a : Act} {Q : Exit → Act → World → Prop} (hgd : o.guard = none) (s x : Operand)
    (ho : o.op = .call { callee := .builtin .append, args := #[s, x], argTypes := #[23, 23] }) (base : Nat) (v : Value) (l : List Fr) (f : Fr) (hs : a.eval s = v) (hown : RwF w base v l) (g : Nat) (hx : a.eval x = .slice (some ⟨g, 0, none⟩) 1 1) (hg : Box w g f.1 f.2.1 f.2.2) (hlen : l.length + 1 ≤ 100000) (hbase : base ≤ w.heap.size)
    (h : ∀ v' w', RwF w' base v' (l ++ [f]) → w.grownBy w' v.ownBlock → wpList Tryz.prog ops Q rest (a.put o.dst v') w') : wpList Tryz.prog ops Q (o :: rest) a w := by
  obtain ⟨i0, hi0, hz0, hz1, hz2⟩ := info_parts Tryz.infoFrac
  refine wpList_append_own _ hgd s x 23 ho base 44 i0 (.agg #[.bool false, .string ⟨#[]⟩, .string ⟨#[]⟩]) 3 40 Tryz.underlying23 hi0 hz0 hz1 hz2 rfl (by decide) v l.length _ hs hown ⟨g, 0, none⟩ 1 1 [.bool f.1, .string f.2.1, .string f.2.2] hx rfl ?_ ?_ (by unfold maxLen; omega) (by omega) hbase ?_
  · intro j u hj
    match j, hj with
    | 0, hj => cases hj; exact hg.c0
    | 1, hj => cases hj; exact hg.c1
    | 2, hj => cases hj; exact hg.c2
    | j + 3, hj => simp at hj
  · intro u hu
    simp only [List.mem_cons, List.not_mem_nil, or_false] at hu
    rcases hu with rfl | rfl | rfl <;> rfl
  · intro v' w' h1 h2 _
    refine h v' w' ?_ h2
    rw [RwF, List.length_append, frC_snoc]
    exact h1

/-- A table that grows: its block is the one behind w0's memory, its cells lie behind it. -/
def FX (w0 V : World) (x y : Value) (L : List Fr) : Prop := Below w0.heap.size w0 V ∧ TBox V w0.heap.size x y ∧ RwF V (w0.heap.size + 1) y L
theorem FX.step {w0 V V' : World} {x y : Value} {L : List Fr} (h : FX w0 V x y L) (hb : Below V.heap.size V V') : FX w0 V' x y L := ⟨h.1.trans (hb.mono h.1.size), h.2.1.below hb h.2.1.lt, h.2.2.below hb⟩
theorem FX.new (w0 : World) (x : Value) : FX w0 (w0.alloc (TC x (.slice none 0 0))) x (.slice none 0 0) [] := ⟨(Below.refl _ w0).alloc (Nat.le_refl _) _, TBox.at rfl _ _, RwF.empty _ _⟩
/-- One more cell. -/
theorem FX.push {w0 V V' : World} {x y y' : Value} {L L' : List Fr} (h : FX w0 V x y L) (hr : RwF V' (w0.heap.size + 1) y' L') (hg : V.grownBy V' y.ownBlock) : FX w0 (V'.setCell ⟨w0.heap.size, 1, none⟩ y') x y' L' := by
  have hs : w0.heap.size + 1 ≤ V.heap.size := h.2.1.lt
  have hb : Below (w0.heap.size + 1) V V' := (Below.refl _ V).grown hg hs h.2.2.own
  have ht := h.2.1.below hb (by omega)
  refine ⟨(h.1.trans (hb.mono (by omega))).setCell (p := ⟨w0.heap.size, 1, none⟩) (Nat.le_refl _) _, heap_setCell_same _ _ 1 _ _ _ ht, hr.off _ 1 _ (by omega)⟩
/-- What is there behind an append, ahead of its store. -/
theorem FX.mid {w0 V V' : World} {x y : Value} {L : List Fr} (h : FX w0 V x y L) (hg : V.grownBy V' y.ownBlock) : TBox V' w0.heap.size x y := by
  have hs : w0.heap.size + 1 ≤ V.heap.size := h.2.1.lt
  exact h.2.1.below ((Below.refl _ V).grown hg hs h.2.2.own) (by omega)
/-- The end: the table is the result. -/
theorem NR.finW {w w0 V : World} {T R : Nat} {u v : Value} (h : NR w w0 T R u v) (hR : w.heap.size ≤ R) {vars : List Int} {b : Option Addr} {cb : Nat} {l : List Fr} (hi : IntS w0 b vars) {x y : Value} (hx : FX w0 V x y l) (hxe : x = .slice b vars.length cb) :
    TBox V R (.slice none 0 0) (.slice none 0 0) ∧ TBox ((V.setCell ⟨R, 0, none⟩ x).setCell ⟨R, 1, none⟩ y) R x y ∧ TabA vars l 0 (.returned (.tuple #[.agg #[x, y], .int .i64 0])) ((V.setCell ⟨R, 0, none⟩ x).setCell ⟨R, 1, none⟩ y) ∧ Below w.heap.size w ((V.setCell ⟨R, 0, none⟩ x).setCell ⟨R, 1, none⟩ y) := by
  have hl := h.2.1.lt
  have h' := h.step hx.1
  have hi' := hi.below hx.1
  subst hxe
  obtain ⟨d, cd, e, hf⟩ := ((hx.2.2.off R 0 (.slice b vars.length cb) (by omega)).off R 1 y (by omega)).fr
  refine ⟨h'.2.1, h'.2.1.put _ _, ⟨b, d, cb, cd, by rw [← e], hi'.putT h'.2.1 (Go.Proofs.YtknlhejhnopnaaaGreatDoor.slv _ _ _) (Go.Proofs.YtknlhejhnopnaaaGreatDoor.slv _ _ _) (Go.Proofs.YtknlhejhnopnaaaGreatDoor.slv _ _ _) _, hf⟩, below_put2 h'.2.2 hR _ _⟩
end Go.Proofs.YtknlhejhnopnaaaGreatDoor

/- The document's answer: Fix. -/
namespace Go.Proofs.YtknlhejhnopnaaaGreatDoor
open Go.RowKit Go.Shelf

theorem countB_of {sizes vars : List Int} (h1 : Fine sizes) (h2 : Up vars sizes.length) : countB sizes vars = true := by
  rw [countB, Bool.and_eq_true]
  constructor
  · rw [fitB, Bool.and_eq_true, decide_eq_true_iff]
    refine ⟨⟨h1.one, h1.eight⟩, List.all_eq_true.2 fun x hx => ?_⟩
    obtain ⟨i, hi, rfl⟩ := List.getElem_of_mem hx
    rw [okSize, decide_eq_true_iff]
    exact h1.each i hi
  · rw [risB, List.all_eq_true]
    intro i hi
    have hi' := List.mem_range.1 hi
    rw [okAt, decide_eq_true_iff, getD_eq hi']
    refine ⟨(h2.each i hi').1, (h2.each i hi').2, fun h0 => ?_⟩
    rw [getD_eq (show i - 1 < vars.length by omega)]
    exact h2.lt (i - 1) i hi' (by omega)
theorem rCount_in (a b : Option Addr) (ca cb : Nat) (sizes vars : List Int) (w : World) (hs : IntS w a sizes) (hv : IntS w b vars) (hfi : Fine sizes) (hup : Up vars sizes.length) :
    Calls Tryz.prog 9 #[.slice a sizes.length ca, .slice b vars.length cb] w fun e w' => e = .returned (.tuple #[.int .i64 (cnt (toN sizes) (toN vars) : Nat), .int .i64 0]) ∧ Below w.heap.size w w' := by
  have h8 := hfi.eight
  have h9 := hup.length
  have h := rCount_any a b ca cb sizes vars w hs hv (by omega) (by omega)
  rw [countA_yes (countB_of hfi hup)] at h
  exact h
theorem rWhere_in (a b : Option Addr) (ca cb K : Nat) (sizes vars : List Int) (w : World) (hs : IntS w a sizes) (hv : IntS w b vars) (hfi : Fine sizes) (hup : Up vars sizes.length) (hK : K < cnt (toN sizes) (toN vars)) :
    Calls Tryz.prog 15 #[.slice a sizes.length ca, .slice b vars.length cb, .int .i64 (K : Nat)] w fun e w' => ∃ (c : Option Addr) (cc : Nat), e = .returned (.tuple #[.slice c vars.length cc, .int .i64 0]) ∧ IntS w' c (iL (digs (toN sizes) (toN vars) K)) ∧ Below w.heap.size w w' := by
  have h8 := hfi.eight
  have h9 := hup.length
  have hcb := countB_of hfi hup
  have h := rWhere_any a b ca cb sizes vars (K : Int) w hs hv (by omega) (by omega)
  have e1 : whereL sizes vars (K : Int) = digs (toN sizes) (toN vars) K := by rw [whereL, if_pos ⟨hcb, by omega, by omega⟩, Int.toNat_natCast]
  have e2 : whereE sizes vars (K : Int) = 0 := by rw [whereE, if_pos hcb, if_pos ⟨by omega, by omega⟩]
  rw [e1, e2, digs_length, toN_length] at h
  exact h
theorem Canon_r {n : Bool} {x y : ByteArray} {w : World} (s1 : x.size + y.size ≤ 100000) :
    Calls Tryz.prog 73 #[.agg #[.bool n, .string x, .string y]] w fun e w' => e = .returned (frV (qF (val n x y))) ∧ Below w.heap.size w w' := rCanon_any n x y w (by omega) (by omega)

set_option maxRecDepth 100000 in
set_option maxHeartbeats 400000 in
theorem rFix_no (a b c : Option Addr) (ca cb cc m : Nat) (sizes vars : List Int) (v x : Int) (w : World) (hs : IntS w a sizes) (hv : IntS w b vars) (hn : sizes.length ≤ 140737488355328) (hm : vars.length ≤ 140737488355328) (hk : checkA sizes vars m ≠ 0) :
    Calls Tryz.prog 23 #[.slice a sizes.length ca, .agg #[.slice b vars.length cb, .slice c m cc], .int .i64 v, .int .i64 x] w fun e w' => TabA [] [] (checkA sizes vars m) e w' ∧ Below w.heap.size w w' := by
  have HC := hid (fun V h1 h2 => rCheck_any a b c ca cb cc m sizes vars V h1 h2 hn hm)
  generalize checkA sizes vars m = r at *
  have HS := hid hs
  have HV := hid hv
  have hH : NR w ((w.alloc (TC (.slice b vars.length cb) (.slice c m cc))).alloc (TC (.slice none 0 0) (.slice none 0 0))) w.heap.size (w.heap.size + 1) (.slice b vars.length cb) (.slice c m cc) := NH.new w _ _
  have c0 := hH.1.c0
  have c1 := hH.1.c1
  go_enter Tryz.func23, Tryz.ntmps23
  go_wp2_with fail
  generalize ((w.alloc (TC (.slice b vars.length cb) (.slice c m cc))).alloc (TC (.slice none 0 0) (.slice none 0 0))) = W at *
  refine (HC.out _ (HS.out.below hH.2.2) (HV.out.below hH.2.2)).mono ?_
  rintro e w1 ⟨rfl, hb1⟩
  replace hH := hH.step hb1
  clear c0 c1 hb1
  have hrb : (r == 0) = false := by simp [hk]
  obtain ⟨k0, k1, f0, f1⟩ := hH.2.1.facts
  go_wp2
  refine bodyPost_ret ((hH.2.1.put _ _).result2 rfl _ rfl) rfl ?_
  exact ⟨TabA.empty _ _, below_put2 hH.2.2 (by omega) _ _⟩
set_option maxRecDepth 100000 in
set_option maxHeartbeats 400000 in
theorem rFix_var (a b c : Option Addr) (ca cb cc m : Nat) (sizes vars : List Int) (v x : Int) (w : World) (hs : IntS w a sizes) (hv : IntS w b vars) (hn : sizes.length ≤ 140737488355328) (hm : vars.length ≤ 140737488355328) (hk : checkA sizes vars m = 0) (hv' : ¬ (0 ≤ v ∧ v < (sizes.length : Int))) :
    Calls Tryz.prog 23 #[.slice a sizes.length ca, .agg #[.slice b vars.length cb, .slice c m cc], .int .i64 v, .int .i64 x] w fun e w' => TabA [] [] 11 e w' ∧ Below w.heap.size w w' := by
  have HCK := fun V h1 h2 => rCheck_any a b c ca cb cc m sizes vars V h1 h2 hn hm
  rw [hk] at HCK
  have HC := hid HCK
  clear HCK
  have HS := hid hs
  have HV := hid hv
  have hH : NR w ((w.alloc (TC (.slice b vars.length cb) (.slice c m cc))).alloc (TC (.slice none 0 0) (.slice none 0 0))) w.heap.size (w.heap.size + 1) (.slice b vars.length cb) (.slice c m cc) := NH.new w _ _
  have c0 := hH.1.c0
  have c1 := hH.1.c1
  go_enter Tryz.func23, Tryz.ntmps23
  go_wp2_with fail
  generalize ((w.alloc (TC (.slice b vars.length cb) (.slice c m cc))).alloc (TC (.slice none 0 0) (.slice none 0 0))) = W at *
  refine (HC.out _ (HS.out.below hH.2.2) (HV.out.below hH.2.2)).mono ?_
  rintro e w1 ⟨rfl, hb1⟩
  replace hH := hH.step hb1
  clear c0 c1 hb1
  obtain ⟨k0, k1, f0, f1⟩ := hH.2.1.facts
  by_cases h0 : v < 0
  · go_wp2
    refine bodyPost_ret ((hH.2.1.put _ _).result2 rfl _ rfl) rfl ?_
    exact ⟨TabA.empty _ _, below_put2 hH.2.2 (by omega) _ _⟩
  · have h0' : 0 ≤ v := by omega
    have h1 : (sizes.length : Int) ≤ v := by omega
    clear hv'
    go_wp2
    refine bodyPost_ret ((hH.2.1.put _ _).result2 rfl _ rfl) rfl ?_
    exact ⟨TabA.empty _ _, below_put2 hH.2.2 (by omega) _ _⟩
set_option maxRecDepth 100000 in
set_option maxHeartbeats 400000 in
theorem rFix_val (a b c : Option Addr) (ca cb cc m : Nat) (sizes vars : List Int) (v : Nat) (x : Int) (w : World) (hs : IntS w a sizes) (hv : IntS w b vars) (hn : sizes.length ≤ 140737488355328) (hm : vars.length ≤ 140737488355328) (hk : checkA sizes vars m = 0) (hv' : v < sizes.length) (hx' : ¬ (0 ≤ x ∧ x < (sz (toN sizes) v : Int))) :
    Calls Tryz.prog 23 #[.slice a sizes.length ca, .agg #[.slice b vars.length cb, .slice c m cc], .int .i64 (v : Nat), .int .i64 x] w fun e w' => TabA [] [] 12 e w' ∧ Below w.heap.size w w' := by
  have hfi := (checkA_parts hk).1
  have hsv := hfi.sz_eq hv'
  have HCK := fun V h1 h2 => rCheck_any a b c ca cb cc m sizes vars V h1 h2 hn hm
  rw [hk] at HCK
  have HC := hid HCK
  clear HCK
  have h0 : (0 : Int) ≤ (v : Int) := by omega
  have h1 : (v : Int) < (sizes.length : Int) := by omega
  have HS := hid hs
  have HV := hid hv
  have hH : NR w ((w.alloc (TC (.slice b vars.length cb) (.slice c m cc))).alloc (TC (.slice none 0 0) (.slice none 0 0))) w.heap.size (w.heap.size + 1) (.slice b vars.length cb) (.slice c m cc) := NH.new w _ _
  have c0 := hH.1.c0
  have c1 := hH.1.c1
  go_enter Tryz.func23, Tryz.ntmps23
  go_wp2_with fail
  generalize ((w.alloc (TC (.slice b vars.length cb) (.slice c m cc))).alloc (TC (.slice none 0 0) (.slice none 0 0))) = W at *
  refine (HC.out _ (HS.out.below hH.2.2) (HV.out.below hH.2.2)).mono ?_
  rintro e w1 ⟨rfl, hb1⟩
  replace hH := hH.step hb1
  clear c0 c1 hb1
  obtain ⟨g, o, rfl, hg, cs⟩ := (HS.out.below hH.2.2) v hv'
  rw [← hsv] at cs
  obtain ⟨k0, k1, f0, f1⟩ := hH.2.1.facts
  clear hsv hfi
  generalize sz (toN sizes) v = Y at *
  by_cases hx0 : x < 0
  · clear hx'
    go_wp2
    refine bodyPost_ret ((hH.2.1.put _ _).result2 rfl _ rfl) rfl ?_
    exact ⟨TabA.empty _ _, below_put2 hH.2.2 (by omega) _ _⟩
  · have hx1 : 0 ≤ x := by omega
    have hx2 : (Y : Int) ≤ x := by omega
    clear hx'
    go_wp2
    refine bodyPost_ret ((hH.2.1.put _ _).result2 rfl _ rfl) rfl ?_
    exact ⟨TabA.empty _ _, below_put2 hH.2.2 (by omega) _ _⟩
set_option maxRecDepth 100000 in
set_option maxHeartbeats 1000000 in
theorem rFix_yes (a b c : Option Addr) (ca cb cc : Nat) (sizes vars : List Int) (l : List Fr) (v x : Nat) (w : World) (hs : IntS w a sizes) (hv : IntS w b vars) (hf : FrS w c l) (hn : sizes.length ≤ 140737488355328) (hm : vars.length ≤ 140737488355328) (hk : checkA sizes vars l.length = 0) (hw : fw l ≤ 10000) (hv' : v < sizes.length) (hx' : x < sz (toN sizes) v) :
    Calls Tryz.prog 23 #[.slice a sizes.length ca, .agg #[.slice b vars.length cb, .slice c l.length cc], .int .i64 (v : Nat), .int .i64 (x : Nat)] w fun e w' => TabA (lessN vars (v : Int)) (fixL (toN sizes) (toN vars) (toN (lessN vars (v : Int))) v x l) 0 e w' ∧ Below w.heap.size w w' := by
  obtain ⟨hfi, hup, hlc⟩ := checkA_parts hk
  have hsv := hfi.sz_eq hv'
  have HCK := fun V h1 h2 => rCheck_any a b c ca cb cc l.length sizes vars V h1 h2 hn hm
  rw [hk] at HCK
  have HC := hid HCK
  clear HCK
  have h0 : (0 : Int) ≤ (v : Int) := by omega
  have h1 : (v : Int) < (sizes.length : Int) := by omega
  have hrl : (lessN vars (v : Int)).length ≤ vars.length := List.length_filter_le _ _
  have hv8 := hup.length
  have hl8 := hfi.eight
  have HFI := hid hfi
  have HUP := hid hup
  have HUR := hid (lessN_up hup (v : Int))
  have HPL := hid (fun K (hK : K < cnt (toN sizes) (toN (lessN vars (v : Int)))) => with_lt hk hK hx')
  have HAW := hid (fun K (hK : K < cnt (toN sizes) (toN (lessN vars (v : Int)))) => withV_lt (fun u => asg_lt hfi.pos (toN (lessN vars (v : Int))) K u hK) hx')
  have HFL := hid (fixL_length (toN sizes) (toN vars) (toN (lessN vars (v : Int))) v x l)
  have HFG := hid (fun (k : Nat) (h : k < (fixL (toN sizes) (toN vars) (toN (lessN vars (v : Int))) v x l).length) => fixL_get (toN sizes) (toN vars) (toN (lessN vars (v : Int))) v x l h)
  have HWO := hid (fun V h => rWithout_any b cb vars (v : Int) V h (by omega))
  have hsm : cnt (toN sizes) (toN (lessN vars (v : Int))) ≤ 65536 := cnt_small hfi.sz_le (by rw [toN_length]; omega)
  generalize fixL (toN sizes) (toN vars) (toN (lessN vars (v : Int))) v x l = FL at *
  generalize lessN vars (v : Int) = rest at *
  have HF := hid hf
  have HW := hid hw
  clear hk hfi hup hlc hf hw
  have HS := hid hs
  have HV := hid hv
  have hH : NR w ((w.alloc (TC (.slice b vars.length cb) (.slice c l.length cc))).alloc (TC (.slice none 0 0) (.slice none 0 0))) w.heap.size (w.heap.size + 1) (.slice b vars.length cb) (.slice c l.length cc) := NH.new w _ _
  have c0 := hH.1.c0
  have c1 := hH.1.c1
  go_enter Tryz.func23, Tryz.ntmps23
  go_wp2_with fail
  generalize ((w.alloc (TC (.slice b vars.length cb) (.slice c l.length cc))).alloc (TC (.slice none 0 0) (.slice none 0 0))) = W at *
  refine (HC.out _ (HS.out.below hH.2.2) (HV.out.below hH.2.2)).mono ?_
  rintro e w1 ⟨rfl, hb1⟩
  replace hH := hH.step hb1
  clear c0 c1 hb1
  obtain ⟨g, o, rfl, hg, cs⟩ := (HS.out.below hH.2.2) v hv'
  rw [← hsv] at cs
  have c0 := hH.1.c0
  clear hsv
  have hxi : (x : Int) < (sz (toN sizes) v : Int) := by omega
  have hx0 : (0 : Int) ≤ (x : Int) := by omega
  have HXI := hid hx'
  clear hx'
  go_wp2_with fail
  refine (HWO.out _ (HV.out.below hH.2.2)).mono ?_
  rintro e w2 ⟨xv, rfl, hrw, hb2⟩
  obtain ⟨d, cd, rfl, hi⟩ := hrw.ints
  replace hH := hH.step hb2
  clear cs c0 hb2 hrw HWO
  have hF0 := FX.new w2 (.slice d rest.length cd)
  have c0 := hF0.2.1.c0
  go_wp2_with fail
  generalize (w2.alloc (TC (.slice d rest.length cd) (.slice none 0 0))) = w3 at *
  have hBw := hH.2.2.trans (hF0.1.mono hH.2.2.size)
  refine (rCount_in (some ⟨g, o, none⟩) d ca cd sizes rest _ (HS.out.below hBw) (hi.below hF0.1) HFI.out HUR.out).mono ?_
  rintro e w4 ⟨rfl, hb4⟩
  replace hF0 := hF0.step hb4
  have HF0 := hid hF0
  have HHI := hid hi
  clear hF0 hb4 c0 hBw hi
  go_wp2_with fail
  go_loopw [14] (fun iv wr => ∃ (i : Nat) (y : Value), i ≤ FL.length ∧ iv = .int .i64 i ∧ Hid (FX w2 wr (.slice d rest.length cd) y (FL.take i))) (fun iv _ => FL.length - (intOf iv).toNat)
  case atStart => exact ⟨0, _, Nat.zero_le _, rfl, HF0⟩
  case round =>
    obtain ⟨i, y, hile, rfl, HX⟩ := hrel
    clear HF0
    by_cases hlt : i < FL.length
    · have hiK : i < cnt (toN sizes) (toN rest) := by rw [← HFL.out]; exact hlt
      have hii : (i : Int) < (cnt (toN sizes) (toN rest) : Int) := by omega
      have c0 := HX.out.2.1.c0
      have hB0 : Below w.heap.size w wr := hH.2.2.trans (HX.out.1.mono hH.2.2.size)
      have HB0 := hid hB0
      clear hB0
      go_wp2_with fail
      refine (rWhere_in (some ⟨g, o, none⟩) d ca cd i sizes rest _ (HS.out.below HB0.out) (HHI.out.below HX.out.1) HFI.out HUR.out hiK).mono ?_
      rintro e w5 ⟨d5, cd5, rfl, hi5, hb5⟩
      have c0' := (HX.out.step hb5).2.1.c0
      clear c0
      go_wp2_with fail
      refine (rSpread_any (some ⟨g, o, none⟩) d d5 ca cd cd5 i sizes rest _ (HHI.out.below (HX.out.step hb5).1) hi5 HFI.out HUR.out).mono ?_
      rintro e w6 ⟨G, rfl, hG, hrow, hb6⟩
      have hb06 := hb5.trans (hb6.mono hb5.size)
      have hG' : wr.heap.size ≤ G := Nat.le_trans hb5.size hG
      have hrc := hrow.cell v (by rw [spr_length]; exact hv')
      have hrf := hrow.fz v
      have hset := hrow.set v x
      rw [spr_set] at hset
      have hb07 := hb06.setCell (p := ⟨G, v, none⟩) hG' (.int .i64 (x : Nat))
      have ct0 := ((hH.step (HX.out.step hb07).1).1).c0
      have ct1 := ((hH.step (HX.out.step hb07).1).1).c1
      generalize (spr sizes.length (asg (toN sizes) (toN rest) i))[v]'(by rw [spr_length]; exact hv') = z at *
      clear hrow hb5 hb6 hi5 c0' hb06 hG hG'
      go_wp2_with fail
      generalize (w6.setCell ⟨G, v, none⟩ (.int .i64 (x : Nat))) = w7 at *
      have hB7 := HB0.out.trans (hb07.mono HB0.out.size)
      refine (rCell_any (some ⟨g, o, none⟩) b c (some ⟨G, 0, none⟩) ca cb cc sizes.length sizes vars l (withV (asg (toN sizes) (toN rest) i) v x) _ (HS.out.below hB7) (HV.out.below hB7) (HF.out.below hB7) (hset.ints) HFI.out HUP.out (HAW.out i hiK) (HPL.out i hiK)).mono ?_
      rintro e w8 ⟨rfl, hb8⟩
      replace hb07 := hb07.trans (hb8.mono hb07.size)
      clear hset hb8 hrc hrf ct0 ct1 hB7
      have hfg := HFG.out i hlt
      have hcs := celF_size (HPL.out i hiK)
      have hw' := HW.out
      generalize celF l (pos (toN sizes) (withV (asg (toN sizes) (toN rest) i) v x) (toN vars)) = fr at *
      obtain ⟨fn, fx, fy⟩ := fr
      replace hcs : fx.size + fy.size + 2 ≤ fw l := hcs
      have hbb := Box.new w8 fn fx fy
      have hb9 := hb07.alloc hb07.size (FC fn fx fy)
      have hls := hb07.size
      obtain ⟨k0, k1, k2, -⟩ := hbb.facts
      go_wp2_with fail
      generalize (w8.alloc (FC fn fx fy)) = w9 at *
      generalize w8.heap.size = B17 at *
      refine (Canon_r (n := fn) (x := fx) (y := fy) (w := w9) (by omega)).mono ?_
      rintro e w10 ⟨rfl, hb10⟩
      replace hbb := hbb.below hb10 hbb.lt
      replace hb9 := hb9.trans (hb10.mono hb9.size)
      clear k0 k1 k2 hb10
      obtain ⟨k0, k1, k2, f0, f1, f2⟩ := hbb.facts
      have hq : FL[i] = qF (val fn fx fy) := hfg
      generalize qF (val fn fx fy) = q at *
      obtain ⟨qn, qx, qy⟩ := q
      have hpt := hbb.put qn qx qy
      have hb11 := below_put hb9 hls (.bool qn) (.string qx) (.string qy)
      clear hbb hb07 hb9
      have hst : FL.take i ++ [(qn, qx, qy)] = FL.take (i + 1) := by rw [List.take_succ_eq_append_getElem hlt, hq]
      have HST := hid hst
      have htl : (FL.take i).length ≤ 65536 := by rw [List.length_take]; omega
      clear hst hq hfg
      go_upto_region 18 with fail
      clear k0 k1 k2 f0 f1 f2
      generalize (((w10.setCell ⟨B17, 0, none⟩ (.bool qn)).setCell ⟨B17, 1, none⟩ (.string qx)).setCell ⟨B17, 2, none⟩ (.string qy)) = w11 at *
      have cy := (HX.out.step hb11).2.1.c1
      obtain ⟨p0, p1, p2, -⟩ := hpt.facts
      have hb12 := hb11.alloc hb11.size (FC qn qx qy)
      have HNB := hid (Box.new w11 qn qx qy)
      have HX12 := hid (HX.out.step hb12)
      have hbs : w2.heap.size + 1 ≤ (w11.alloc (FC qn qx qy)).heap.size := HX12.out.2.1.lt
      clear hb11 hb12 hpt
      go_wp2_with (at_builtin; refine wpList_append_fr rfl _ _ rfl (w2.heap.size + 1) _ (FL.take i) (qn, qx, qy) rfl HX12.out.2.2 _ rfl HNB.out (by omega) hbs ?_; intro v' w13 hr13 hg13; obtain ⟨d13, n13, cd13, rfl⟩ := hr13.slv; have hmid := HX12.out.mid hg13; have hm1 := hmid.c1; have hmf : w13.frozen? ⟨w2.heap.size, 1, none⟩ = false := frozen_of_row _ _ 1 _ _ hmid; have HPU := hid (HX12.out.push hr13 hg13); clear hmid hr13 hg13)
      go_roundw
      case rel => exact ⟨i + 1, _, by omega, by go_num, by rw [← HST.out]; exact HPU⟩
      case measure => simp [intOf]; omega
    · obtain rfl : i = FL.length := by omega
      have hX := HX.out
      rw [List.take_length] at hX
      obtain ⟨dy, ny, cy, rfl⟩ := hX.2.2.slv
      obtain ⟨t0, e1, e2, e3⟩ := hH.finW (by omega) HHI.out hX rfl
      obtain ⟨k0, k1, f0, f1⟩ := t0.facts
      have c0 := hX.2.1.c0
      have c1 := hX.2.1.c1
      have hlf : (FL.length : Int) = (cnt (toN sizes) (toN rest) : Int) := by rw [HFL.out]
      go_wp2
      refine bodyPost_ret (e1.result2 rfl _ rfl) rfl ?_
      exact ⟨e2, e3⟩
end Go.Proofs.YtknlhejhnopnaaaGreatDoor

/- The law's tables: what Out and Product answer there, and that the orders agree. -/
namespace Go.Proofs.YtknlhejhnopnaaaGreatDoor
open Go.RowKit Go.Shelf

/-- Sizes of the law. -/
structure Sz3 (sizes : List Int) : Prop where
  fine : Fine sizes
  three : ∀ i (h : i < sizes.length), sizes[i] ≤ 3
  many : 3 ≤ sizes.length
  few : sizes.length ≤ 5
theorem Sz3.sz {sizes : List Int} (h : Sz3 sizes) (v : Nat) : sz (toN sizes) v ≤ 3 := by
  by_cases hv : v < sizes.length
  · have := h.fine.sz_eq hv
    have := h.three v hv
    omega
  · rw [Go.Proofs.YtknlhejhnopnaaaGreatDoor.sz, List.getElem?_eq_none (by rw [toN_length]; omega)]; simp
/-- A table of the law. -/
structure TL (sizes vars : List Int) (l : List Fr) (s : Nat) : Prop where
  up : Up vars sizes.length
  len : l.length = cnt (toN sizes) (toN vars)
  sml : Sml s l
theorem TL.check {sizes vars : List Int} {l : List Fr} {s : Nat} (h : TL sizes vars l s) (hs : Sz3 sizes) : checkA sizes vars l.length = 0 := checkA_yes (countB_of hs.fine h.up) h.len
theorem cnt_few {sizes vars : List Int} (hs : Sz3 sizes) (h : Up vars sizes.length) : cnt (toN sizes) (toN vars) ≤ 243 := by
  have h1 := cnt_three hs.sz (toN vars)
  have h2 := h.length
  have h3 := hs.few
  rw [toN_length] at h1
  exact Nat.le_trans h1 (Nat.pow_le_pow_right (by decide) (show vars.length ≤ 5 by omega))
theorem TL.few {sizes vars : List Int} {l : List Fr} {s : Nat} (h : TL sizes vars l s) (hs : Sz3 sizes) : l.length ≤ 243 := by rw [h.len]; exact cnt_few hs h.up
theorem TL.fw {sizes vars : List Int} {l : List Fr} {s : Nat} (h : TL sizes vars l s) (hs : Sz3 sizes) (hS : s ≤ 30) : fw l ≤ 8192 := by
  have h1 := h.sml.fw
  have h2 := Nat.mul_le_mul (show s + 2 ≤ 32 by omega) (h.few hs)
  omega
theorem TL.out {sizes vars : List Int} {l : List Fr} {s : Nat} (h : TL sizes vars l s) (hs : Sz3 sizes) (v : Nat) (most : Bool) : TL sizes (lessN vars v) (outL (toN sizes) (toN vars) (toN (lessN vars (v : Int))) v most l) (10 * s + 3) :=
  ⟨lessN_up h.up _, outL_length _ _ _ _ _ _, h.sml.out hs.fine.pos h.len (hs.sz v) most⟩
theorem TL.prod {sizes va vb : List Int} {la lb : List Fr} {s t : Nat} (ha : TL sizes va la s) (hb : TL sizes vb lb t) (hs : Sz3 sizes) : TL sizes (togL va vb) (prodL (toN sizes) (toN va) (toN vb) (toN (togL va vb)) la lb) (s + t) :=
  ⟨togL_up ha.up hb.up, prodL_length _ _ _ _ _ _, ha.sml.prod hb.sml hs.fine.pos ha.len hb.len⟩
/-- What Out answers. -/
def OC (a : Option Addr) (ca : Nat) (sizes V : List Int) (L : List Fr) (v : Int) (most : Bool) (V' : List Int) (L' : List Fr) (k : Int) : Prop :=
  ∀ (W : World) (b c : Option Addr) (cb cc : Nat), IntS W a sizes → IntS W b V → FrS W c L → Calls Tryz.prog 20 #[.slice a sizes.length ca, .agg #[.slice b V.length cb, .slice c L.length cc], .int .i64 v, .bool most] W fun e w' => TabA V' L' k e w' ∧ Below W.heap.size W w'
/-- What Product answers. -/
def PC (a : Option Addr) (ca : Nat) (sizes V : List Int) (L : List Fr) (U : List Int) (M : List Fr) (V' : List Int) (L' : List Fr) : Prop :=
  ∀ (W : World) (b c b' c' : Option Addr) (cb cc cb' cc' : Nat), IntS W a sizes → IntS W b V → FrS W c L → IntS W b' U → FrS W c' M → (b = none → cb = 0) → (b' = none → cb' = 0) →
    Calls Tryz.prog 17 #[.slice a sizes.length ca, .agg #[.slice b V.length cb, .slice c L.length cc], .agg #[.slice b' U.length cb', .slice c' M.length cc']] W fun e w' => TabA V' L' 0 e w' ∧ Below W.heap.size W w'
theorem up_len {vars sizes : List Int} (h : Up vars sizes.length) (hs : Sz3 sizes) : vars.length ≤ 140737488355328 := by have := h.length; have := hs.few; omega
theorem sz_len {sizes : List Int} (hs : Sz3 sizes) : sizes.length ≤ 140737488355328 := by have := hs.few; omega
theorem oc_yes {sizes vars : List Int} {l : List Fr} {s : Nat} (h : TL sizes vars l s) (hs : Sz3 sizes) (hS : s ≤ 30) (a : Option Addr) (ca : Nat) {v : Nat} (hv : (v : Int) ∈ vars) (most : Bool) :
    OC a ca sizes vars l v most (lessN vars v) (outL (toN sizes) (toN vars) (toN (lessN vars (v : Int))) v most l) 0 := by
  intro W b c cb cc h1 h2 h3
  have hc : vars.contains (v : Int) = true := by simpa using hv
  have hlt : v < sizes.length := by have := (up_iff.1 h.up).1 _ hv; omega
  cases most with
  | false => exact tOut_sums a b c ca cb cc sizes vars l v W h1 h2 h3 (sz_len hs) (up_len h.up hs) (h.check hs) (h.fw hs hS) hc hlt
  | true => exact tOut_most a b c ca cb cc sizes vars l v W h1 h2 h3 (sz_len hs) (up_len h.up hs) (h.check hs) (h.fw hs hS) hc hlt
theorem oc_no {sizes vars : List Int} {l : List Fr} {s : Nat} (h : TL sizes vars l s) (hs : Sz3 sizes) (a : Option Addr) (ca : Nat) {v : Int} (hv : ¬ v ∈ vars) (most : Bool) : OC a ca sizes vars l v most [] [] 11 := by
  intro W b c cb cc h1 h2 h3
  exact tOut_var a b c ca cb cc l.length sizes vars v most W h1 h2 (sz_len hs) (up_len h.up hs) (h.check hs) (by simpa using hv)
theorem pc_yes {sizes va vb : List Int} {la lb : List Fr} {s t : Nat} (ha : TL sizes va la s) (hb : TL sizes vb lb t) (hs : Sz3 sizes) (hS : s ≤ 30) (hT : t ≤ 30) (a : Option Addr) (ca : Nat) :
    PC a ca sizes va la vb lb (togL va vb) (prodL (toN sizes) (toN va) (toN vb) (toN (togL va vb)) la lb) := by
  intro W b c b' c' cb cc cb' cc' h1 h2 h3 h4 h5 h6 h7
  exact tProd_yes a b c b' c' ca cb cc cb' cc' sizes va vb la lb W h1 h2 h4 h3 h5 (sz_len hs) (up_len ha.up hs) (up_len hb.up hs) h6 h7 (ha.check hs) (hb.check hs) (Nat.le_trans (ha.fw hs hS) (by decide)) (Nat.le_trans (hb.fw hs hT) (by decide))

theorem lessN_comm (l : List Int) (u v : Int) : lessN (lessN l u) v = lessN (lessN l v) u := by
  rw [lessN, lessN, lessN, lessN, List.filter_filter, List.filter_filter]
  exact List.filter_congr fun x _ => Bool.and_comm _ _
theorem mem_less {l : List Int} {x v : Int} : x ∈ lessN l v ↔ x ∈ l ∧ x ≠ v := by simp [lessN]
theorem less_in {vars : List Int} {n : Nat} (h : Up vars n) (u : Nat) : ∀ x ∈ toN vars, x = u ∨ x ∈ toN (lessN vars (u : Int)) := by
  intro x hx
  obtain ⟨y, hy, rfl⟩ := List.mem_map.1 hx
  have h1 := (up_iff.1 h).1 y hy
  by_cases e : y = (u : Int)
  · left; omega
  · exact .inr (List.mem_map.2 ⟨y, mem_less.2 ⟨hy, e⟩, rfl⟩)
theorem toN_sub {va vb : List Int} (h : ∀ x ∈ va, x ∈ vb) : ∀ x ∈ toN va, x ∈ toN vb := by
  intro x hx
  obtain ⟨y, hy, rfl⟩ := List.mem_map.1 hx
  exact List.mem_map.2 ⟨y, h y hy, rfl⟩
theorem togL_sub {va vb : List Int} {n : Nat} (hb : Up vb n) (h : ∀ x ∈ va, x ∈ vb) : togL va vb = vb :=
  rise_extI (togL_rise va vb).1 (up_iff.1 hb).2 fun x => by rw [(togL_rise va vb).2]; exact ⟨fun e => e.elim (h x) id, .inr⟩
theorem togL_sub' {va vb : List Int} {n : Nat} (hb : Up vb n) (h : ∀ x ∈ va, x ∈ vb) : togL vb va = vb :=
  rise_extI (togL_rise vb va).1 (up_iff.1 hb).2 fun x => by rw [(togL_rise vb va).2]; exact ⟨fun e => e.elim id (h x), .inl⟩
theorem out_len {S vars rest : List Nat} {v : Nat} {most : Bool} {l : List Fr} (h : cnt S rest ≤ 243) : (outL S vars rest v most l).length ≤ 100000 := by rw [outL_length]; omega

theorem up_short {sizes V : List Int} (hs : Sz3 sizes) (h : Up V sizes.length) : V.length ≤ 100000 := by have := h.length; have := hs.few; omega
/-- Two variables, in either order. -/
theorem swap_outs {sizes vars : List Int} {l : List Fr} (hs : Sz3 sizes) (h : TL sizes vars l 2) (a : Option Addr) (ca : Nat) {u v : Nat} (hu : (u : Int) ∈ vars) (hv : (v : Int) ∈ vars) (most : Bool) :
    ∃ (V1 V2 V3 : List Int) (L1 L2 L3 : List Fr) (k : Int), OC a ca sizes vars l u most V1 L1 0 ∧ OC a ca sizes vars l v most V2 L2 0 ∧ OC a ca sizes V1 L1 v most V3 L3 k ∧ OC a ca sizes V2 L2 u most V3 L3 k ∧ ((k = 0) ↔ ¬ u = v) ∧ V3.length ≤ 100000 ∧ L3.length ≤ 100000 := by
  have h1 := h.out hs u most
  have h2 := h.out hs v most
  by_cases e : u = v
  · subst e
    have hn : ¬ (u : Int) ∈ lessN vars u := fun h => (mem_less.1 h).2 rfl
    exact ⟨_, _, [], _, _, [], 11, oc_yes h hs (by decide) a ca hu most, oc_yes h hs (by decide) a ca hv most, oc_no h1 hs a ca hn most, oc_no h2 hs a ca hn most, ⟨fun h => by omega, fun h => absurd rfl h⟩, by simp, by simp⟩
  · have m1 : (v : Int) ∈ lessN vars u := mem_less.2 ⟨hv, by omega⟩
    have m2 : (u : Int) ∈ lessN vars v := mem_less.2 ⟨hu, by omega⟩
    have c2 := oc_yes h2 hs (by decide) a ca m2 most
    rw [lessN_comm vars v u, ← out_swap hs.fine.pos e h1.up.nodup h2.up.nodup (less_in h.up u) (less_in h.up v) most l] at c2
    have h3 := h1.out hs v most
    exact ⟨_, _, _, _, _, _, 0, oc_yes h hs (by decide) a ca hu most, oc_yes h hs (by decide) a ca hv most, oc_yes h1 hs (by decide) a ca m1 most, c2, ⟨fun _ => e, fun _ => rfl⟩, up_short hs h3.up, by have := h3.few hs; omega⟩
/-- What has nothing of a variable, out of the sum. -/
theorem swap_prods {sizes va vb : List Int} {la lb : List Fr} (hs : Sz3 sizes) (ha : TL sizes va la 2) (hb : TL sizes vb lb 2) (a : Option Addr) (ca : Nat) {v : Nat} (hv : (v : Int) ∈ vb) (hva : ¬ (v : Int) ∈ va) (hab : ∀ x ∈ va, x ∈ vb) :
    ∃ (VP VQ V3 : List Int) (LP LQ L3 : List Fr), PC a ca sizes va la vb lb VP LP ∧ OC a ca sizes VP LP v false V3 L3 0 ∧ OC a ca sizes vb lb v false VQ LQ 0 ∧ PC a ca sizes va la VQ LQ V3 L3 ∧ PC a ca sizes vb lb va la VP LP ∧ VQ = lessN vb v ∧ (VP.length ≤ 100000 ∧ LP.length ≤ 100000) ∧ V3.length ≤ 100000 ∧ L3.length ≤ 100000 := by
  have hq := hb.out hs v false
  have hab' : ∀ x ∈ va, x ∈ lessN vb (v : Int) := fun x hx => mem_less.2 ⟨hab x hx, fun e => hva (by rw [← e]; exact hx)⟩
  have hnv : ¬ v ∈ toN va := fun h => by
    obtain ⟨y, hy, e⟩ := List.mem_map.1 h
    have h1 := (up_iff.1 ha.up).1 y hy
    obtain rfl : y = (v : Int) := by omega
    exact hva hy
  have p1 := pc_yes ha hb hs (by decide) (by decide) a ca
  have p2 := pc_yes hb ha hs (by decide) (by decide) a ca
  have p3 := pc_yes ha hq hs (by decide) (by decide) a ca
  have tP := ha.prod hb hs
  rw [togL_sub hb.up hab] at p1 tP
  rw [togL_sub' hb.up hab, prod_comm] at p2
  rw [togL_sub hq.up hab'] at p3
  have o1 := oc_yes tP hs (by decide) a ca hv false
  rw [out_prod hs.fine.pos hb.up.nodup hq.up.nodup (toN_sub hab) (fun _ h => h) (less_in hb.up v) hnv la lb] at o1
  refine ⟨_, _, _, _, _, _, p1, o1, oc_yes hb hs (by decide) a ca hv false, p3, p2, rfl, ⟨up_short hs hb.up, by have := tP.few hs; omega⟩, up_short hs hq.up, ?_⟩
  have := cnt_few hs hq.up
  rw [prodL_length]
  omega
end Go.Proofs.YtknlhejhnopnaaaGreatDoor
