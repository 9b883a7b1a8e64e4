/- Plain facts: a numeral read gives back the number, and a number written the numeral. -/
import Derived.Test.YtmkilmcmgdoiiaaGreatDoorRefJToNumC
import Derived.Test.YtmkilmcmgdoiiaaGreatDoorCore6ToNumF
import Derived.Test.YtmkilmcmgdoiiaaGreatDoorRefPToNumP
import Derived.Laws.Rows
import Derived.Deep.RegionHeld3
namespace Go.Proofs.YtmkilmcmgdoiiaaGreatDoor
open Go

theorem dig_char (d : Nat) (h : d < 10) : (UInt8.ofNat (48 + d)).toNat = 48 + d := by
  rw [UInt8.toNat_ofNat']; exact Nat.mod_eq_of_lt (by omega)
theorem dval_dec (m : Nat) : dval (Lib.decDigits m) = m := by
  induction m using Nat.strongRecOn with
  | ind m ih =>
    by_cases h : m < 10
    · rw [dec_small h]
      show 0 * 10 + _ = _
      rw [dig_char m h]; omega
    · rw [dec_big h, dval_snoc, ih _ (by omega), dig_char _ (Nat.mod_lt _ (by decide))]; omega
theorem dec_ne (m : Nat) : Lib.decDigits m ≠ [] := by
  by_cases h : m < 10
  · rw [dec_small h]; simp
  · rw [dec_big h]; simp
theorem dec_all (m : Nat) : (Lib.decDigits m).all isDig = true := by
  induction m using Nat.strongRecOn with
  | ind m ih =>
    by_cases h : m < 10
    · rw [dec_small h]; simp [isDig]; omega
    · have := Nat.mod_lt m (show 0 < 10 by decide)
      rw [dec_big h, List.all_append, ih _ (by omega)]; simp [isDig]; omega
theorem dec_first (m : Nat) (h : m ≠ 0) : (Lib.decDigits m)[0]?.getD 0 ≠ 48 := by
  induction m using Nat.strongRecOn with
  | ind m ih =>
    by_cases hs : m < 10
    · rw [dec_small hs]
      intro e
      have : (UInt8.ofNat (48 + m)).toNat = 48 := by rw [show UInt8.ofNat (48 + m) = 48 from e]; rfl
      rw [dig_char m hs] at this
      omega
    · rw [dec_big hs, List.getElem?_append_left (List.length_pos_iff.2 (dec_ne _))]
      exact ih _ (by omega) (by omega)
theorem dec_well (m : Nat) : wellDig (Lib.decDigits m) = true := by
  have hn : (Lib.decDigits m).isEmpty = false := by
    cases h : Lib.decDigits m with
    | nil => exact absurd h (dec_ne m)
    | cons => rfl
  rw [wellDig, allDig, dec_all, hn]
  by_cases h : m = 0
  · subst h; rw [dec_small (by decide)]; rfl
  · have := dec_first m h
    simp [this]
theorem all_snoc {l : List UInt8} {c : UInt8} (h : allDig (l ++ [c]) = true) : l.all isDig = true ∧ isDig c = true := by
  rw [allDig, Bool.and_eq_true, List.all_append, Bool.and_eq_true] at h
  exact ⟨h.2.1, by simpa using h.2.2⟩
theorem char_dig (c : UInt8) (h : isDig c = true) : UInt8.ofNat (48 + (c.toNat - 48)) = c := by
  simp only [isDig, decide_eq_true_eq] at h
  rw [show 48 + (c.toNat - 48) = c.toNat by omega]
  simp
theorem dec_dval (l : List UInt8) : wellDig l = true → Lib.decDigits (dval l) = l := by
  induction l using snoc_ind with
  | h0 => intro h; cases h
  | h1 l c ih =>
    intro h
    have hw := h
    rw [wellDig, Bool.and_eq_true] at h
    obtain ⟨ha, hc⟩ := all_snoc h.1
    have hcd := hc
    simp only [isDig, decide_eq_true_eq] at hcd
    by_cases hl : l = []
    · subst hl
      rw [dval_snoc, show dval ([] : List UInt8) = 0 from rfl, dec_small (by omega), Nat.zero_mul, Nat.zero_add, char_dig c hc]; rfl
    · have hpos : 0 < l.length := List.length_pos_iff.2 hl
      have hfirst : l[0]?.getD 0 ≠ 48 := by
        have h2 := h.2
        rw [List.getElem?_append_left hpos] at h2
        have h3 : decide (1 < (l ++ [c]).length) = true := by rw [List.length_append]; simp; omega
        rw [h3] at h2
        simpa using h2
      have hwl : wellDig l = true := by
        have he : l.isEmpty = false := by cases l with | nil => exact absurd rfl hl | cons => rfl
        rw [wellDig, allDig, ha, he]
        simp [hfirst]
      have e := ih hwl
      have hq : dval l ≠ 0 := by
        intro hz
        rw [hz, dec_small (by decide)] at e
        rw [← e] at hfirst
        exact hfirst rfl
      rw [dval_snoc, dec_step _ _ hq (by omega), e, char_dig c hc]

end Go.Proofs.YtmkilmcmgdoiiaaGreatDoor

/- Small functions of package frac. -/
namespace Go.Proofs.YtmkilmcmgdoiiaaGreatDoor
open Go.RowKit

set_option maxRecDepth 100000 in
set_option maxHeartbeats 1000000 in
theorem isNought_any (a : ByteArray) (w : World) :
    Calls Tryz.prog 74 #[.string a] w fun e w' => e = .returned (.bool (decide (N a = 0))) ∧ w' = w := by
  have hc : (cmpI (N a) (N ⟨#[]⟩) == 0) = decide (N a = 0) := by
    rw [N_empty, cmpI]
    by_cases h : N a = 0
    · simp [h]
    · simp [h]
  have HC := hide hc
  clear hc
  go_enter Tryz.func74, Tryz.ntmps74
  go_wp2_with fail
  refine (Cmp_any a ⟨#[]⟩ _).mono ?_
  rintro e w1 ⟨rfl, hw⟩
  subst hw
  go_wp2
  go_ret
  exact ⟨by rw [← HC.out]; rfl, rfl⟩

/-- The block g holds a fraction's three fields. -/
def Box (w : World) (g : Nat) (neg : Bool) (num den : ByteArray) : Prop := w.heap[g]? = some (.cells #[.bool neg, .string num, .string den] 39 (0, 0))
theorem Box.c0 {w : World} {g : Nat} {neg : Bool} {num den : ByteArray} (h : Box w g neg num den) : w.cell? ⟨g, 0, none⟩ = some (.bool neg) := by rw [cell_of_row w g 0 _ _ (0, 0) h]; rfl
theorem Box.c1 {w : World} {g : Nat} {neg : Bool} {num den : ByteArray} (h : Box w g neg num den) : w.cell? ⟨g, 1, none⟩ = some (.string num) := by rw [cell_of_row w g 1 _ _ (0, 0) h]; rfl
theorem Box.c2 {w : World} {g : Nat} {neg : Bool} {num den : ByteArray} (h : Box w g neg num den) : w.cell? ⟨g, 2, none⟩ = some (.string den) := by rw [cell_of_row w g 2 _ _ (0, 0) h]; rfl
theorem Box.fz {w : World} {g : Nat} {neg : Bool} {num den : ByteArray} (h : Box w g neg num den) (j : Nat) : w.frozen? ⟨g, j, none⟩ = false := frozen_of_row w g j _ _ h
theorem Box.lt {w : World} {g : Nat} {neg : Bool} {num den : ByteArray} (h : Box w g neg num den) : g < w.heap.size := (Array.getElem?_eq_some_iff.1 h).1
theorem Box.of_block {w w' : World} {g : Nat} {neg : Bool} {num den : ByteArray} (h : Box w g neg num den) (e : w'.heap[g]? = w.heap[g]?) : Box w' g neg num den := e.trans h
theorem Box.below {w w' : World} {g B : Nat} {neg : Bool} {num den : ByteArray} (h : Box w g neg num den) (hb : Below B w w') (hB : g < B) : Box w' g neg num den := h.of_block (hb.block g hB)
theorem Box.new (w : World) (neg : Bool) (num den : ByteArray) : Box (w.alloc (.cells #[.bool neg, .string num, .string den] 39)) w.heap.size neg num den := by
  exact heap_alloc_new _ _
theorem Box.alloc {w : World} {g : Nat} {neg : Bool} {num den : ByteArray} (h : Box w g neg num den) (o : Obj) : Box (w.alloc o) g neg num den := h.of_block (Below.heap_alloc w o g h.lt)

theorem Box.drew {w : World} {g : Nat} {neg : Bool} {num den : ByteArray} (h : Box w g neg num den) : Box w.drew g neg num den := h
theorem Box.facts {w : World} {g : Nat} {neg : Bool} {num den : ByteArray} (h : Box w g neg num den) : w.cell? ⟨g, 0, none⟩ = some (.bool neg) ∧ w.cell? ⟨g, 1, none⟩ = some (.string num) ∧ w.cell? ⟨g, 2, none⟩ = some (.string den) ∧ w.frozen? ⟨g, 0, none⟩ = false ∧ w.frozen? ⟨g, 1, none⟩ = false ∧ w.frozen? ⟨g, 2, none⟩ = false :=
  ⟨h.c0, h.c1, h.c2, h.fz 0, h.fz 1, h.fz 2⟩
theorem Box.put {w : World} {g : Nat} {neg : Bool} {num den : ByteArray} (h : Box w g neg num den) (n : Bool) (x y : ByteArray) : Box (((w.setCell ⟨g, 0, none⟩ (.bool n)).setCell ⟨g, 1, none⟩ (.string x)).setCell ⟨g, 2, none⟩ (.string y)) g n x y := by
  have h1 := heap_setCell_same w g 0 _ _ (.bool n) h
  have h2 := heap_setCell_same _ g 1 _ _ (.string x) h1
  have h3 := heap_setCell_same _ g 2 _ _ (.string y) h2
  exact h3
theorem Box.far {w : World} {g g' j : Nat} {neg : Bool} {num den : ByteArray} (h : Box w g neg num den) (hg : g ≠ g') (u : Value) : Box (w.setCell ⟨g', j, none⟩ u) g neg num den := h.of_block (Below.heap_setCell w _ u g hg)
theorem below_put {B : Nat} {a w : World} (h : Below B a w) {g : Nat} (hg : B ≤ g) (u v x : Value) : Below B a (((w.setCell ⟨g, 0, none⟩ u).setCell ⟨g, 1, none⟩ v).setCell ⟨g, 2, none⟩ x) :=
  ((h.setCell hg u).setCell hg v).setCell hg x
/-- The result that stands in a block. -/
theorem Box.result {w : World} {g : Nat} {neg : Bool} {num den : ByteArray} (h : Box w g neg num den) {fn : Func} {p : Tmp} (hr : fn.results = #[.cell p 39]) (tmps : Array Value) (hp : tmps.getD p undef = .pointer (some ⟨g, 0, none⟩)) :
    (results fn tmps).run Tryz.prog w = .ok (.agg #[.bool neg, .string num, .string den]) w :=
  results_cell_row hr tmps w g _ _ _ _ hp h Tryz.underlying39 rfl (by kernel_rfl)

set_option maxRecDepth 100000 in
set_option maxHeartbeats 1000000 in
theorem nought_any (w : World) :
    Calls Tryz.prog 81 #[] w fun e w' => e = .returned (C 0) ∧ Below w.heap.size w w' := by
  go_enter Tryz.func81, Tryz.ntmps81
  have hbx := Box.new w false ⟨#[]⟩ ⟨#[]⟩
  have hB0 : Below w.heap.size w (w.alloc (.cells #[.bool false, .string ⟨#[]⟩, .string ⟨#[]⟩] 39)) := (Below.refl _ w).alloc (Nat.le_refl _) _
  go_wp2_with fail
  refine (Of_any 1 _ (by omega) (by omega)).mono ?_
  rintro e w1 ⟨rfl, hb1⟩
  have hB1 : Below w.heap.size w w1 := hB0.trans (hb1.mono hB0.size)
  have hx1 := hbx.below hb1 hbx.lt
  obtain ⟨k0, k1, k2, f0, f1, f2⟩ := hx1.facts
  clear hbx hB0
  go_wp2
  refine bodyPost_ret ((hx1.put _ _ _).result rfl _ rfl) rfl ?_
  exact ⟨by rw [C_zero], below_put hB1 (Nat.le_refl _) _ _ _⟩

/-- A fraction's fields, fresh. -/
abbrev FC (n : Bool) (x y : ByteArray) : Obj := .cells #[.bool n, .string x, .string y] 39
theorem Box.at {w : World} {g : Nat} (hg : w.heap.size = g) (n : Bool) (x y : ByteArray) : Box (w.alloc (FC n x y)) g n x y := by
  subst hg; exact Box.new w n x y

set_option maxRecDepth 100000 in
set_option maxHeartbeats 1000000 in
theorem opposite_any (n : Bool) (x y : ByteArray) (w : World) :
    Calls Tryz.prog 83 #[.agg #[.bool n, .string x, .string y]] w fun e w' => e = .returned (.agg #[.bool (!n), .string x, .string y]) ∧ Below w.heap.size w w' := by
  go_enter Tryz.func83, Tryz.ntmps83
  go_wp2
  refine bodyPost_ret ((Box.at (w := w.alloc (FC n x y)) (g := w.heap.size + 1) (by simp) (!n) x y).result rfl _ rfl) rfl ?_
  exact ⟨rfl, ((Below.refl _ w).alloc (Nat.le_refl _) _).alloc (by simp) _⟩

set_option maxRecDepth 100000 in
set_option maxHeartbeats 1000000 in
theorem divisible_no (n : Bool) (x y : ByteArray) (w : World) (h : N y = 0) :
    Calls Tryz.prog 108 #[.agg #[.bool n, .string x, .string y]] w fun e w' => e = .returned (C 0) ∧ Below w.heap.size w w' := by
  have hN := fun V => isNought_any y V
  simp only [h, decide_true] at hN
  have HN := hide hN
  clear hN
  go_enter Tryz.func108, Tryz.ntmps108
  have hbx := Box.at (w := w.alloc (FC n x y)) (g := w.heap.size + 1) (by simp) false ⟨#[]⟩ ⟨#[]⟩
  have hB0 : Below w.heap.size w ((w.alloc (FC n x y)).alloc (FC false ⟨#[]⟩ ⟨#[]⟩)) := ((Below.refl _ w).alloc (Nat.le_refl _) _).alloc (by simp) _
  go_wp2_with fail
  refine (HN.out _).mono ?_
  rintro e w1 ⟨rfl, hw⟩
  subst hw
  go_wp2_with fail
  refine (nought_any _).mono ?_
  rintro e w1 ⟨rfl, hb1⟩
  have hx1 := hbx.below hb1 hbx.lt
  have hB1 : Below w.heap.size w w1 := hB0.trans (hb1.mono hB0.size)
  obtain ⟨k0, k1, k2, f0, f1, f2⟩ := hx1.facts
  clear hbx hB0
  rw [C_zero]
  go_wp2
  refine bodyPost_ret ((hx1.put _ _ _).result rfl _ rfl) rfl ?_
  exact ⟨by rw [C_zero], below_put hB1 (by omega) _ _ _⟩

set_option maxRecDepth 100000 in
set_option maxHeartbeats 1000000 in
theorem divisible_yes (n : Bool) (x y : ByteArray) (w : World) (h : N y ≠ 0) :
    Calls Tryz.prog 108 #[.agg #[.bool n, .string x, .string y]] w fun e w' => e = .returned (.agg #[.bool n, .string x, .string y]) ∧ Below w.heap.size w w' := by
  have hN := fun V => isNought_any y V
  simp only [h, decide_false] at hN
  have HN := hide hN
  clear hN
  go_enter Tryz.func108, Tryz.ntmps108
  go_wp2_with fail
  refine (HN.out _).mono ?_
  rintro e w1 ⟨rfl, hw⟩
  subst hw
  go_wp2
  refine bodyPost_ret ((Box.at (w := w.alloc (FC n x y)) (g := w.heap.size + 1) (by simp) n x y).result rfl _ rfl) rfl ?_
  exact ⟨rfl, ((Below.refl _ w).alloc (Nat.le_refl _) _).alloc (by simp) _⟩

set_option maxRecDepth 100000 in
set_option maxHeartbeats 1000000 in
theorem Make_zero (n : Bool) (x y : ByteArray) (w : World) (h : N x = 0 ∨ N y = 0) :
    Calls Tryz.prog 34 #[.bool n, .string x, .string y] w fun e w' => e = .returned (C 0) ∧ Below w.heap.size w w' := by
  have hX := fun V => isNought_any x V
  have hY := fun V => isNought_any y V
  have HX := hide hX
  have HY := hide hY
  clear hX hY
  go_enter Tryz.func34, Tryz.ntmps34
  have hbx := Box.at (w := w) rfl false ⟨#[]⟩ ⟨#[]⟩
  have hB0 : Below w.heap.size w (w.alloc (FC false ⟨#[]⟩ ⟨#[]⟩)) := (Below.refl _ w).alloc (Nat.le_refl _) _
  by_cases h0 : N x = 0
  · go_wp2_with fail
    refine (HX.out _).mono ?_
    rintro e w1 ⟨rfl, hw⟩
    subst hw
    rw [decide_eq_true h0]
    go_wp2_with fail
    refine (nought_any _).mono ?_
    rintro e w1 ⟨rfl, hb1⟩
    have hx1 := hbx.below hb1 hbx.lt
    have hB1 : Below w.heap.size w w1 := hB0.trans (hb1.mono hB0.size)
    obtain ⟨k0, k1, k2, f0, f1, f2⟩ := hx1.facts
    clear hbx hB0
    rw [C_zero]
    go_wp2
    refine bodyPost_ret ((hx1.put _ _ _).result rfl _ rfl) rfl ?_
    exact ⟨by rw [C_zero], below_put hB1 (by omega) _ _ _⟩
  · have h1 : N y = 0 := h.resolve_left h0
    go_wp2_with fail
    refine (HX.out _).mono ?_
    rintro e w1 ⟨rfl, hw⟩
    subst hw
    rw [decide_eq_false h0]
    go_wp2_with fail
    refine (HY.out _).mono ?_
    rintro e w1 ⟨rfl, hw⟩
    subst hw
    rw [decide_eq_true h1]
    go_wp2_with fail
    refine (nought_any _).mono ?_
    rintro e w1 ⟨rfl, hb1⟩
    have hx1 := hbx.below hb1 hbx.lt
    have hB1 : Below w.heap.size w w1 := hB0.trans (hb1.mono hB0.size)
    obtain ⟨k0, k1, k2, f0, f1, f2⟩ := hx1.facts
    clear hbx hB0
    rw [C_zero]
    go_wp2
    refine bodyPost_ret ((hx1.put _ _ _).result rfl _ rfl) rfl ?_
    exact ⟨by rw [C_zero], below_put hB1 (by omega) _ _ _⟩

set_option maxRecDepth 100000 in
set_option maxHeartbeats 1000000 in
theorem Make_some (n : Bool) (x y : ByteArray) (w : World) (h0 : N x ≠ 0) (h1 : N y ≠ 0) (hx : x.size ≤ 1099511627776) (hy : y.size ≤ 1099511627776) :
    Calls Tryz.prog 34 #[.bool n, .string x, .string y] w fun e w' => e = .returned (C (val n x y)) ∧ Below w.heap.size w w' := by
  have hX := fun V => isNought_any x V
  have hY := fun V => isNought_any y V
  have HX := hide hX
  have HY := hide hY
  have hgp : Nat.gcd (N x) (N y) ≠ 0 := fun h => h0 (Nat.gcd_eq_zero_iff.1 h).1
  have sg1 := Nat.le_trans (sz_mono (Nat.gcd_le_left (N y) (Nat.pos_of_ne_zero h0))) (B_size_le x)
  clear hX hY
  go_enter Tryz.func34, Tryz.ntmps34
  have hbx := Box.at (w := w) rfl false ⟨#[]⟩ ⟨#[]⟩
  have hB0 : Below w.heap.size w (w.alloc (FC false ⟨#[]⟩ ⟨#[]⟩)) := (Below.refl _ w).alloc (Nat.le_refl _) _
  go_wp2_with fail
  refine (HX.out _).mono ?_
  rintro e w1 ⟨rfl, hw⟩
  subst hw
  rw [decide_eq_false h0]
  go_wp2_with fail
  refine (HY.out _).mono ?_
  rintro e w1 ⟨rfl, hw⟩
  subst hw
  rw [decide_eq_false h1]
  have hB := Below.refl (w.alloc (FC false ⟨#[]⟩ ⟨#[]⟩)).heap.size (w.alloc (FC false ⟨#[]⟩ ⟨#[]⟩))
  go_wp2_with fail
  refine (Gcd_to (Nat.gcd (N x) (N y)) hB rfl hx hy).mono ?_
  rintro e w1 ⟨rfl, hB⟩
  go_wp2_with fail
  refine (Div_to (N x / Nat.gcd (N x) (N y)) 0 hB (by rw [N_B]) (by rw [N_B]; exact Nat.mod_eq_zero_of_dvd (Nat.gcd_dvd_left _ _)) (by rw [N_B]; exact hgp) hx (by omega)).mono ?_
  rintro e w1 ⟨rfl, hB⟩
  go_wp2_with fail
  refine (Div_to (N y / Nat.gcd (N x) (N y)) 0 hB (by rw [N_B]) (by rw [N_B]; exact Nat.mod_eq_zero_of_dvd (Nat.gcd_dvd_right _ _)) (by rw [N_B]; exact hgp) hy (by omega)).mono ?_
  rintro e w1 ⟨rfl, hb1⟩
  have hx1 := hbx.below hb1 hbx.lt
  have hB1 : Below w.heap.size w w1 := hB0.trans (hb1.mono hB0.size)
  obtain ⟨k0, k1, k2, f0, f1, f2⟩ := hx1.facts
  clear hbx hB0
  go_wp2
  refine bodyPost_ret ((hx1.put _ _ _).result rfl _ rfl) rfl ?_
  exact ⟨by rw [val, C_make n _ _ h0 h1], below_put hB1 (by omega) _ _ _⟩

theorem Make_any (n : Bool) (x y : ByteArray) (w : World) (hx : x.size ≤ 1099511627776) (hy : y.size ≤ 1099511627776) :
    Calls Tryz.prog 34 #[.bool n, .string x, .string y] w fun e w' => e = .returned (C (val n x y)) ∧ Below w.heap.size w w' := by
  by_cases h : N x = 0 ∨ N y = 0
  · have := Make_zero n x y w h
    rwa [← val_zero_iff.2 h] at this
  · exact Make_some n x y w (fun e => h (.inl e)) (fun e => h (.inr e)) hx hy
end Go.Proofs.YtmkilmcmgdoiiaaGreatDoor
