/- Small functions of package frac. -/
import Derived.Test.YtojidhnkpeiimaaGreatDoorRefEToNumR
import Derived.Laws.Rows
import Derived.Deep.RegionHeld3
import Derived.Deep.CutRange
import Derived.Laws.ResultCell
import Derived.BigQuiet
namespace Go.Proofs.YtojidhnkpeiimaaGreatDoor
open Go.RowKit
set_option maxRecDepth 100000 in
set_option maxHeartbeats 1000000 in
theorem isNought_any (a : ByteArray) (w : World) :
    Calls Tryz.prog 107 #[.string a] w fun e w' => e = .returned (.bool (decide (N a = 0))) ∧ w' = w := by
  have hc : (cmpI (N a) (N ⟨#[]⟩) == 0) = decide (N a = 0) := by
    rw [N_empty, cmpI]
    by_cases h : N a = 0
    · simp [h]
    · simp [h]
  have HC := hide hc
  clear hc
  go_enter Tryz.func107, Tryz.ntmps107
  go_wp2_with fail
  refine (Cmp_any a ⟨#[]⟩ _).mono ?_
  rintro e w1 ⟨rfl, hw⟩
  subst hw
  go_wp2
  go_ret
  exact ⟨by rw [← HC.out]; rfl, rfl⟩
def Box (w : World) (g : Nat) (neg : Bool) (num den : ByteArray) : Prop := w.heap[g]? = some (.cells #[.bool neg, .string num, .string den] 58 (0, 0))
theorem Box.c0 {w : World} {g : Nat} {neg : Bool} {num den : ByteArray} (h : Box w g neg num den) : w.cell? ⟨g, 0, none⟩ = some (.bool neg) := by rw [cell_of_row w g 0 _ _ (0, 0) h]; rfl
theorem Box.c1 {w : World} {g : Nat} {neg : Bool} {num den : ByteArray} (h : Box w g neg num den) : w.cell? ⟨g, 1, none⟩ = some (.string num) := by rw [cell_of_row w g 1 _ _ (0, 0) h]; rfl
theorem Box.c2 {w : World} {g : Nat} {neg : Bool} {num den : ByteArray} (h : Box w g neg num den) : w.cell? ⟨g, 2, none⟩ = some (.string den) := by rw [cell_of_row w g 2 _ _ (0, 0) h]; rfl
theorem Box.fz {w : World} {g : Nat} {neg : Bool} {num den : ByteArray} (h : Box w g neg num den) (j : Nat) : w.frozen? ⟨g, j, none⟩ = false := frozen_of_row w g j _ _ h
theorem Box.lt {w : World} {g : Nat} {neg : Bool} {num den : ByteArray} (h : Box w g neg num den) : g < w.heap.size := (Array.getElem?_eq_some_iff.1 h).1
theorem Box.of_block {w w' : World} {g : Nat} {neg : Bool} {num den : ByteArray} (h : Box w g neg num den) (e : w'.heap[g]? = w.heap[g]?) : Box w' g neg num den := e.trans h
theorem Box.below {w w' : World} {g B : Nat} {neg : Bool} {num den : ByteArray} (h : Box w g neg num den) (hb : Below B w w') (hB : g < B) : Box w' g neg num den := h.of_block (hb.block g hB)
theorem Box.new (w : World) (neg : Bool) (num den : ByteArray) : Box (w.alloc (.cells #[.bool neg, .string num, .string den] 58)) w.heap.size neg num den := by
  exact heap_alloc_new _ _
theorem Box.alloc {w : World} {g : Nat} {neg : Bool} {num den : ByteArray} (h : Box w g neg num den) (o : Obj) : Box (w.alloc o) g neg num den := h.of_block (Below.heap_alloc w o g h.lt)
theorem Box.drew {w : World} {g : Nat} {neg : Bool} {num den : ByteArray} (h : Box w g neg num den) : Box w.drew g neg num den := h
theorem Box.facts {w : World} {g : Nat} {neg : Bool} {num den : ByteArray} (h : Box w g neg num den) : w.cell? ⟨g, 0, none⟩ = some (.bool neg) ∧ w.cell? ⟨g, 1, none⟩ = some (.string num) ∧ w.cell? ⟨g, 2, none⟩ = some (.string den) ∧ w.frozen? ⟨g, 0, none⟩ = false ∧ w.frozen? ⟨g, 1, none⟩ = false ∧ w.frozen? ⟨g, 2, none⟩ = false :=
  ⟨h.c0, h.c1, h.c2, h.fz 0, h.fz 1, h.fz 2⟩
theorem Box.put {w : World} {g : Nat} {neg : Bool} {num den : ByteArray} (h : Box w g neg num den) (n : Bool) (x y : ByteArray) : Box (((w.setCell ⟨g, 0, none⟩ (.bool n)).setCell ⟨g, 1, none⟩ (.string x)).setCell ⟨g, 2, none⟩ (.string y)) g n x y := by
  have h1 := heap_setCell_same w g 0 _ _ (.bool n) h
  have h2 := heap_setCell_same _ g 1 _ _ (.string x) h1
  have h3 := heap_setCell_same _ g 2 _ _ (.string y) h2
  exact h3
theorem Box.far {w : World} {g g' j : Nat} {neg : Bool} {num den : ByteArray} (h : Box w g neg num den) (hg : g ≠ g') (u : Value) : Box (w.setCell ⟨g', j, none⟩ u) g neg num den := h.of_block (Below.heap_setCell w _ u g hg)
theorem below_put {B : Nat} {a w : World} (h : Below B a w) {g : Nat} (hg : B ≤ g) (u v x : Value) : Below B a (((w.setCell ⟨g, 0, none⟩ u).setCell ⟨g, 1, none⟩ v).setCell ⟨g, 2, none⟩ x) :=
  ((h.setCell hg u).setCell hg v).setCell hg x
theorem Box.result {w : World} {g : Nat} {neg : Bool} {num den : ByteArray} (h : Box w g neg num den) {fn : Func} {p : Tmp} (hr : fn.results = #[.cell p 58]) (tmps : Array Value) (hp : tmps.getD p undef = .pointer (some ⟨g, 0, none⟩)) :
    (results fn tmps).run Tryz.prog w = .ok (.agg #[.bool neg, .string num, .string den]) w :=
  results_cell_row hr tmps w g _ _ _ _ hp h Tryz.underlying58 rfl (by kernel_rfl)
set_option maxRecDepth 100000 in
set_option maxHeartbeats 1000000 in
theorem nought_any (w : World) :
    Calls Tryz.prog 108 #[] w fun e w' => e = .returned (C 0) ∧ Below w.heap.size w w' := by
  go_enter Tryz.func108, Tryz.ntmps108
  have hbx := Box.new w false ⟨#[]⟩ ⟨#[]⟩
  have hB0 : Below w.heap.size w (w.alloc (.cells #[.bool false, .string ⟨#[]⟩, .string ⟨#[]⟩] 58)) := (Below.refl _ w).alloc (Nat.le_refl _) _
  go_wp2_with fail
  refine (Of_any 1 _ (by omega) (by omega)).mono ?_
  rintro e w1 ⟨rfl, hb1⟩
  have hB1 : Below w.heap.size w w1 := hB0.trans (hb1.mono hB0.size)
  have hx1 := hbx.below hb1 hbx.lt
  obtain ⟨k0, k1, k2, f0, f1, f2⟩ := hx1.facts
  clear hbx hB0
  go_wp2
  refine bodyPost_ret ((hx1.put _ _ _).result rfl _ rfl) rfl ?_
  exact ⟨by rw [C_zero], below_put hB1 (Nat.le_refl _) _ _ _⟩
abbrev FC (n : Bool) (x y : ByteArray) : Obj := .cells #[.bool n, .string x, .string y] 58
theorem Box.at {w : World} {g : Nat} (hg : w.heap.size = g) (n : Bool) (x y : ByteArray) : Box (w.alloc (FC n x y)) g n x y := by
  subst hg; exact Box.new w n x y
set_option maxRecDepth 100000 in
set_option maxHeartbeats 1000000 in
theorem opposite_any (n : Bool) (x y : ByteArray) (w : World) :
    Calls Tryz.prog 106 #[.agg #[.bool n, .string x, .string y]] w fun e w' => e = .returned (.agg #[.bool (!n), .string x, .string y]) ∧ Below w.heap.size w w' := by
  go_enter Tryz.func106, Tryz.ntmps106
  go_wp2
  refine bodyPost_ret ((Box.at (w := w.alloc (FC n x y)) (g := w.heap.size + 1) (by simp) (!n) x y).result rfl _ rfl) rfl ?_
  exact ⟨rfl, ((Below.refl _ w).alloc (Nat.le_refl _) _).alloc (by simp) _⟩
set_option maxRecDepth 100000 in
set_option maxHeartbeats 1000000 in
theorem divisible_no (n : Bool) (x y : ByteArray) (w : World) (h : N y = 0) :
    Calls Tryz.prog 143 #[.agg #[.bool n, .string x, .string y]] w fun e w' => e = .returned (C 0) ∧ Below w.heap.size w w' := by
  have hN := fun V => isNought_any y V
  simp only [h, decide_true] at hN
  have HN := hide hN
  clear hN
  go_enter Tryz.func143, Tryz.ntmps143
  have hbx := Box.at (w := w.alloc (FC n x y)) (g := w.heap.size + 1) (by simp) false ⟨#[]⟩ ⟨#[]⟩
  have hB0 : Below w.heap.size w ((w.alloc (FC n x y)).alloc (FC false ⟨#[]⟩ ⟨#[]⟩)) := ((Below.refl _ w).alloc (Nat.le_refl _) _).alloc (by simp) _
  go_wp2_with fail
  refine (HN.out _).mono ?_
  rintro e w1 ⟨rfl, hw⟩
  subst hw
  go_wp2_with fail
  refine (nought_any _).mono ?_
  rintro e w1 ⟨rfl, hb1⟩
  have hx1 := hbx.below hb1 hbx.lt
  have hB1 : Below w.heap.size w w1 := hB0.trans (hb1.mono hB0.size)
  obtain ⟨k0, k1, k2, f0, f1, f2⟩ := hx1.facts
  clear hbx hB0
  rw [C_zero]
  go_wp2
  refine bodyPost_ret ((hx1.put _ _ _).result rfl _ rfl) rfl ?_
  exact ⟨by rw [C_zero], below_put hB1 (by omega) _ _ _⟩
set_option maxRecDepth 100000 in
set_option maxHeartbeats 1000000 in
theorem divisible_yes (n : Bool) (x y : ByteArray) (w : World) (h : N y ≠ 0) :
    Calls Tryz.prog 143 #[.agg #[.bool n, .string x, .string y]] w fun e w' => e = .returned (.agg #[.bool n, .string x, .string y]) ∧ Below w.heap.size w w' := by
  have hN := fun V => isNought_any y V
  simp only [h, decide_false] at hN
  have HN := hide hN
  clear hN
  go_enter Tryz.func143, Tryz.ntmps143
  go_wp2_with fail
  refine (HN.out _).mono ?_
  rintro e w1 ⟨rfl, hw⟩
  subst hw
  go_wp2
  refine bodyPost_ret ((Box.at (w := w.alloc (FC n x y)) (g := w.heap.size + 1) (by simp) n x y).result rfl _ rfl) rfl ?_
  exact ⟨rfl, ((Below.refl _ w).alloc (Nat.le_refl _) _).alloc (by simp) _⟩
set_option maxRecDepth 100000 in
set_option maxHeartbeats 1000000 in
theorem Make_zero (n : Bool) (x y : ByteArray) (w : World) (h : N x = 0 ∨ N y = 0) :
    Calls Tryz.prog 103 #[.bool n, .string x, .string y] w fun e w' => e = .returned (C 0) ∧ Below w.heap.size w w' := by
  have hX := fun V => isNought_any x V
  have hY := fun V => isNought_any y V
  have HX := hide hX
  have HY := hide hY
  clear hX hY
  go_enter Tryz.func103, Tryz.ntmps103
  have hbx := Box.at (w := w) rfl false ⟨#[]⟩ ⟨#[]⟩
  have hB0 : Below w.heap.size w (w.alloc (FC false ⟨#[]⟩ ⟨#[]⟩)) := (Below.refl _ w).alloc (Nat.le_refl _) _
  by_cases h0 : N x = 0
  · go_wp2_with fail
    refine (HX.out _).mono ?_
    rintro e w1 ⟨rfl, hw⟩
    subst hw
    rw [decide_eq_true h0]
    go_wp2_with fail
    refine (nought_any _).mono ?_
    rintro e w1 ⟨rfl, hb1⟩
    have hx1 := hbx.below hb1 hbx.lt
    have hB1 : Below w.heap.size w w1 := hB0.trans (hb1.mono hB0.size)
    obtain ⟨k0, k1, k2, f0, f1, f2⟩ := hx1.facts
    clear hbx hB0
    rw [C_zero]
    go_wp2
    refine bodyPost_ret ((hx1.put _ _ _).result rfl _ rfl) rfl ?_
    exact ⟨by rw [C_zero], below_put hB1 (by omega) _ _ _⟩
  · have h1 : N y = 0 := h.resolve_left h0
    go_wp2_with fail
    refine (HX.out _).mono ?_
    rintro e w1 ⟨rfl, hw⟩
    subst hw
    rw [decide_eq_false h0]
    go_wp2_with fail
    refine (HY.out _).mono ?_
    rintro e w1 ⟨rfl, hw⟩
    subst hw
    rw [decide_eq_true h1]
    go_wp2_with fail
    refine (nought_any _).mono ?_
    rintro e w1 ⟨rfl, hb1⟩
    have hx1 := hbx.below hb1 hbx.lt
    have hB1 : Below w.heap.size w w1 := hB0.trans (hb1.mono hB0.size)
    obtain ⟨k0, k1, k2, f0, f1, f2⟩ := hx1.facts
    clear hbx hB0
    rw [C_zero]
    go_wp2
    refine bodyPost_ret ((hx1.put _ _ _).result rfl _ rfl) rfl ?_
    exact ⟨by rw [C_zero], below_put hB1 (by omega) _ _ _⟩
set_option maxRecDepth 100000 in
set_option maxHeartbeats 1000000 in
theorem Make_some (n : Bool) (x y : ByteArray) (w : World) (h0 : N x ≠ 0) (h1 : N y ≠ 0) (hx : x.size ≤ 1099511627776) (hy : y.size ≤ 1099511627776) :
    Calls Tryz.prog 103 #[.bool n, .string x, .string y] w fun e w' => e = .returned (C (val n x y)) ∧ Below w.heap.size w w' := by
  have hX := fun V => isNought_any x V
  have hY := fun V => isNought_any y V
  have HX := hide hX
  have HY := hide hY
  have hgp : Nat.gcd (N x) (N y) ≠ 0 := fun h => h0 (Nat.gcd_eq_zero_iff.1 h).1
  have sg1 := Nat.le_trans (sz_mono (Nat.gcd_le_left (N y) (Nat.pos_of_ne_zero h0))) (B_size_le x)
  clear hX hY
  go_enter Tryz.func103, Tryz.ntmps103
  have hbx := Box.at (w := w) rfl false ⟨#[]⟩ ⟨#[]⟩
  have hB0 : Below w.heap.size w (w.alloc (FC false ⟨#[]⟩ ⟨#[]⟩)) := (Below.refl _ w).alloc (Nat.le_refl _) _
  go_wp2_with fail
  refine (HX.out _).mono ?_
  rintro e w1 ⟨rfl, hw⟩
  subst hw
  rw [decide_eq_false h0]
  go_wp2_with fail
  refine (HY.out _).mono ?_
  rintro e w1 ⟨rfl, hw⟩
  subst hw
  rw [decide_eq_false h1]
  have hB := Below.refl (w.alloc (FC false ⟨#[]⟩ ⟨#[]⟩)).heap.size (w.alloc (FC false ⟨#[]⟩ ⟨#[]⟩))
  go_wp2_with fail
  refine (Gcd_to (Nat.gcd (N x) (N y)) hB rfl hx hy).mono ?_
  rintro e w1 ⟨rfl, hB⟩
  go_wp2_with fail
  refine (Div_to (N x / Nat.gcd (N x) (N y)) 0 hB (by rw [N_B]) (by rw [N_B]; exact Nat.mod_eq_zero_of_dvd (Nat.gcd_dvd_left _ _)) (by rw [N_B]; exact hgp) hx (by omega)).mono ?_
  rintro e w1 ⟨rfl, hB⟩
  go_wp2_with fail
  refine (Div_to (N y / Nat.gcd (N x) (N y)) 0 hB (by rw [N_B]) (by rw [N_B]; exact Nat.mod_eq_zero_of_dvd (Nat.gcd_dvd_right _ _)) (by rw [N_B]; exact hgp) hy (by omega)).mono ?_
  rintro e w1 ⟨rfl, hb1⟩
  have hx1 := hbx.below hb1 hbx.lt
  have hB1 : Below w.heap.size w w1 := hB0.trans (hb1.mono hB0.size)
  obtain ⟨k0, k1, k2, f0, f1, f2⟩ := hx1.facts
  clear hbx hB0
  go_wp2
  refine bodyPost_ret ((hx1.put _ _ _).result rfl _ rfl) rfl ?_
  exact ⟨by rw [val, C_make n _ _ h0 h1], below_put hB1 (by omega) _ _ _⟩
theorem Make_any (n : Bool) (x y : ByteArray) (w : World) (hx : x.size ≤ 1099511627776) (hy : y.size ≤ 1099511627776) :
    Calls Tryz.prog 103 #[.bool n, .string x, .string y] w fun e w' => e = .returned (C (val n x y)) ∧ Below w.heap.size w w' := by
  by_cases h : N x = 0 ∨ N y = 0
  · have := Make_zero n x y w h
    rwa [← val_zero_iff.2 h] at this
  · exact Make_some n x y w (fun e => h (.inl e)) (fun e => h (.inr e)) hx hy
end Go.Proofs.YtojidhnkpeiimaaGreatDoor

/- together of package frac: the sum of two fractions, before it is cut. -/
namespace Go.Proofs.YtojidhnkpeiimaaGreatDoor
open Go.RowKit
theorem divisible_any (n : Bool) (x y : ByteArray) (hx : x.size ≤ 1099511627776) (hy : y.size ≤ 1099511627776) : ∃ (n' : Bool) (x' y' : ByteArray), N y' ≠ 0 ∧ val n' x' y' = val n x y ∧ x'.size ≤ 1099511627776 ∧ y'.size ≤ 1099511627776 ∧ x'.size + y'.size ≤ x.size + y.size + 1 ∧ ∀ V : World,
    Calls Tryz.prog 143 #[.agg #[.bool n, .string x, .string y]] V fun e w' => e = .returned (.agg #[.bool n', .string x', .string y']) ∧ Below V.heap.size V w' := by
  have h1 := B_one_size
  by_cases h : N y = 0
  · refine ⟨false, ⟨#[]⟩, B 1, by rw [N_B]; decide, ?_, ?_, ?_, ?_, fun V => ?_⟩
    · rw [val_num0 N_empty, val_den0 h]
    · show 0 ≤ _; omega
    · omega
    · show 0 + _ ≤ _; omega
    · have := divisible_no n x y V h
      rwa [C_zero] at this
  · exact ⟨n, x, y, h, rfl, hx, hy, by omega, fun V => divisible_yes n x y V h⟩
theorem sg_add (a : Bool) (m n : Nat) : sg a (m + n) = sg a m + sg a n := by cases a <;> simp [sg, Int.neg_add]
theorem sg_sub {a b : Bool} (h : ¬ a = b) {m n k : Nat} (e : m = n + k) : sg a k = sg a m + sg b n := by
  cases a <;> cases b <;> simp [sg] at h ⊢ <;> omega
theorem sg_sub' {a b : Bool} (h : ¬ a = b) {m n k : Nat} (e : n = m + k) : sg b k = sg a m + sg b n := by
  cases a <;> cases b <;> simp [sg] at h ⊢ <;> omega
theorem one_of {w w' : World} {g : Nat} {n : Bool} {x y : ByteArray} (h1 : Box w' g n x y) (h3 : Below w.heap.size w w') : w'.cell? ⟨g, 0, none⟩ = some (.bool n) ∧ Hid (Box w' g n x y ∧ Below w.heap.size w w') :=
  ⟨h1.c0, h1, h3⟩
theorem two_of {w w' : World} {g h : Nat} {n m : Bool} {x y u v : ByteArray} (h1 : Box w' g n x y) (h2 : Box w' h m u v) (h3 : Below w.heap.size w w') : (w'.cell? ⟨g, 1, none⟩ = some (.string x) ∧ w'.cell? ⟨g, 2, none⟩ = some (.string y) ∧ w'.cell? ⟨h, 1, none⟩ = some (.string u) ∧ w'.cell? ⟨h, 2, none⟩ = some (.string v)) ∧ Hid (Box w' g n x y ∧ Box w' h m u v ∧ Below w.heap.size w w') :=
  ⟨⟨h1.c1, h1.c2, h2.c1, h2.c2⟩, h1, h2, h3⟩
set_option maxRecDepth 100000 in
set_option maxHeartbeats 4000000 in
theorem together_any (na nb : Bool) (xa ya xb yb : ByteArray) (w : World) (hxa : xa.size ≤ 137438953472) (hya : ya.size ≤ 137438953472) (hxb : xb.size ≤ 137438953472) (hyb : yb.size ≤ 137438953472) :
    Calls Tryz.prog 105 #[.agg #[.bool na, .string xa, .string ya], .agg #[.bool nb, .string xb, .string yb]] w fun e w' =>
      ∃ (n : Bool) (x d : Nat), e = .returned (.tuple #[.bool n, .string (B x), .string (B d)]) ∧ d ≠ 0 ∧ mkRat (sg n x) d = val na xa ya + val nb xb yb ∧ (B x).size ≤ 1099511627776 ∧ (B d).size ≤ 1099511627776 ∧ Below w.heap.size w w' := by
  obtain ⟨na', xa', ya', hya0, hva, sxa, sya, ssa, HA⟩ := divisible_any na xa ya (by omega) (by omega)
  obtain ⟨nb', xb', yb', hyb0, hvb, sxb, syb, ssb, HB⟩ := divisible_any nb xb yb (by omega) (by omega)
  have HA2 := hide HA
  have HB2 := hide HB
  clear HA HB
  go_enter Tryz.func105, Tryz.ntmps105
  have hba := ((Box.at (w := w) rfl na xa ya).alloc (FC nb xb yb)).drew
  have hbb := (Box.at (w := w.alloc (FC na xa ya)) (g := w.heap.size + 1) (by simp) nb xb yb).drew
  have hB0 : Below w.heap.size w ((w.alloc (FC na xa ya)).alloc (FC nb xb yb)).drew := (((Below.refl _ w).alloc (Nat.le_refl _) _).alloc (by simp) _).drew
  go_upto_region 1 with fail
  go_cut [] from 11 to 14 (fun wx => Box wx w.heap.size na' xa' ya' ∧ Box wx (w.heap.size + 1) nb' xb' yb' ∧ Below w.heap.size w wx)
  case first =>
    go_region_with (first
      | (have hba1' := hba1; go_at_call 143; refine (HB2.out _).mono ?_; rintro e w2 ⟨rfl, hb2⟩; have hba2 := Box.below hba1' hb2 hba1'.lt; have hbb2 := Box.below hbb1 hb2 hbb1.lt; have hB2 := hB1.trans (hb2.mono hB1.size); obtain ⟨k0, k1, k2, f0, f1, f2⟩ := hba2.facts; obtain ⟨j0, j1, j2, i0, i1, i2⟩ := hbb2.facts)
      | (go_at_call 143; refine (HA2.out _).mono ?_; rintro e w1 ⟨rfl, hb1⟩; have hba1 := Box.below hba hb1 hba.lt; have hbb1 := Box.below hbb hb1 hbb.lt; have hB1 := hB0.trans (hb1.mono hB0.size); obtain ⟨k0, k1, k2, f0, f1, f2⟩ := hba1.facts; obtain ⟨j0, j1, j2, i0, i1, i2⟩ := hbb1.facts))
    all_goals go_wp2_with fail
    all_goals go_meet
    all_goals exact ⟨((((hba2.put _ _ _).far (by omega) _).far (by omega) _).far (by omega) _), (((hbb2.far (by omega) _).far (by omega) _).far (by omega) _).put _ _ _, below_put (below_put hB2 (Nat.le_refl _) _ _ _) (by omega) _ _ _⟩
  case rest =>
    obtain ⟨hba, hbb, hB⟩ := hcut
    obtain ⟨k0, k1, k2, f0, f1, f2⟩ := hba.facts
    obtain ⟨j0, j1, j2, i0, i1, i2⟩ := hbb.facts
    clear HA2 HB2
    have sla := sz_mul (N xa') (N yb')
    have slb := sz_mul (N xb') (N ya')
    have sld := sz_mul (N ya') (N yb')
    have b1 := B_size_le xa'
    have b2 := B_size_le ya'
    have b3 := B_size_le xb'
    have b4 := B_size_le yb'
    go_upto_region 2 with fail
    go_cut [7, 8] from 15 to 24 (fun s7 s8 wx => s7 = .string (B (N xa' * N yb')) ∧ s8 = .string (B (N xb' * N ya')) ∧ Box wx w.heap.size na' xa' ya' ∧ Box wx (w.heap.size + 1) nb' xb' yb' ∧ Below w.heap.size w wx)
    case first =>
      clear hva hvb hya0 hyb0 ssa ssb b1 b2 b3 b4 sla slb sld k0 k1 k2 f0 f1 f2 j0 j1 j2 i0 i1 i2 hxa hya hxb hyb
      go_region_held3 (fun w' => (w'.cell? ⟨w.heap.size, 1, none⟩ = some (.string xa') ∧ w'.cell? ⟨w.heap.size, 2, none⟩ = some (.string ya') ∧ w'.cell? ⟨w.heap.size + 1, 1, none⟩ = some (.string xb') ∧ w'.cell? ⟨w.heap.size + 1, 2, none⟩ = some (.string yb')) ∧ Hid (Box w' w.heap.size na' xa' ya' ∧ Box w' (w.heap.size + 1) nb' xb' yb' ∧ Below w.heap.size w w'))
        (first | exact two_of hba2 hbb2 hB2 | exact two_of hba1 hbb1 hB1 | exact two_of hba.drew hbb.drew hB.drew)
        (first
          | (have hba1' := hba1; go_at_call 144; refine (Mul_any xb' ya' _ sxb sya).mono ?_; rintro e w2 ⟨rfl, hb2⟩; have hba2 := hba1'.below hb2 hba1'.lt; have hbb2 := hbb1.below hb2 hbb1.lt; have hB2 := hB1.trans (hb2.mono hB1.size))
          | (go_at_call 144; refine (Mul_any xa' yb' _ sxa syb).mono ?_; rintro e w1 ⟨rfl, hb1⟩; have hba1 := hba.drew.below hb1 hba.lt; have hbb1 := hbb.drew.below hb1 hbb.lt; have hB1 := hB.drew.trans (hb1.mono hB.size)))
      go_wp2_with fail
      go_meet
      exact ⟨rfl, rfl, hba2, hbb2, hB2⟩
    case rest =>
      obtain ⟨rfl, rfl, hba, hbb, hB⟩ := hcut
      obtain ⟨k0, k1, k2, f0, f1, f2⟩ := hba.facts
      obtain ⟨j0, j1, j2, i0, i1, i2⟩ := hbb.facts
      go_wp2_with fail
      refine (Mul_any ya' yb' _ sya syb).mono ?_
      rintro e w3 ⟨rfl, hb3⟩
      have hba3 := hba.below hb3 hba.lt
      have hbb3 := hbb.below hb3 hbb.lt
      have hB3 := hB.trans (hb3.mono hB.size)
      clear hba hbb hB k0 k1 k2 f0 f1 f2 j0 j1 j2 i0 i1 i2 hb3
      obtain ⟨k0, k1, k2, f0, f1, f2⟩ := hba3.facts
      obtain ⟨j0, j1, j2, i0, i1, i2⟩ := hbb3.facts
      have sl : (B (N xa' * N yb')).size ≤ 1099511627776 := by omega
      have sr : (B (N xb' * N ya')).size ≤ 1099511627776 := by omega
      have sd : (B (N ya' * N yb')).size ≤ 1099511627776 := by omega
      have sa := sz_add (N xa' * N yb') (N xb' * N ya')
      have sm := sz_mono (Nat.sub_le (N xa' * N yb') (N xb' * N ya'))
      have sn := sz_mono (Nat.sub_le (N xb' * N ya') (N xa' * N yb'))
      by_cases hn : na' = nb'
      · subst hn
        go_upto_region 5 with fail
        go_region_held3 (fun w' => w'.cell? ⟨w.heap.size, 0, none⟩ = some (.bool na') ∧ Hid (Box w' w.heap.size na' xa' ya' ∧ Below w.heap.size w w'))
          (first | exact one_of hba4 hB4 | exact one_of hba3.drew hB3.drew)
          (first
            | (go_at_call 104; refine (Add_any _ _ _ sl sr).mono ?_; rintro e w4 ⟨rfl, hb4⟩; have hba4 := hba3.drew.below hb4 hba3.lt; have hB4 := hB3.drew.trans (hb4.mono hB3.size)))
        go_wp2
        go_ret3
        refine ⟨na', N xa' * N yb' + N xb' * N ya', N ya' * N yb', by rw [N_B, N_B]; rfl, Nat.mul_ne_zero hya0 hyb0, ?_, by omega, by omega, hB4⟩
        rw [← hva, ← hvb, sg_add, val_add _ _ _ _ _ _ hya0 hyb0]
      · have hB' := Below.refl w3.heap.size w3
        have hn1 : (na' == nb') = false := by simp [hn]
        have hn2 : decide (na' = nb') = false := decide_eq_false hn
        by_cases hle : N xb' * N ya' ≤ N xa' * N yb'
        · go_wp2_with fail
          refine (Sub_to (N xa' * N yb' - N xb' * N ya') hB' (by rw [N_B, N_B]; omega) sl sr).mono ?_
          rintro e w4 ⟨rfl, hb4⟩
          have hba4 := hba3.below hb4 hba3.lt
          have hB4 := hB3.trans (hb4.mono hB3.size)
          obtain ⟨k0, k1, k2, f0, f1, f2⟩ := hba4.facts
          go_wp2
          go_ret3
          refine ⟨na', N xa' * N yb' - N xb' * N ya', N ya' * N yb', rfl, Nat.mul_ne_zero hya0 hyb0, ?_, by omega, by omega, hB4⟩
          rw [← hva, ← hvb, sg_sub hn (m := N xa' * N yb') (n := N xb' * N ya') (by omega), val_add _ _ _ _ _ _ hya0 hyb0]
        · go_wp2_with fail
          refine (Sub_not hB' (by rw [N_B, N_B]; omega)).mono ?_
          rintro e w4 ⟨rfl, hb4⟩
          have hbb4 := hbb3.below hb4 hbb3.lt
          have hB4 := hB3.trans (hb4.mono hB3.size)
          have hB'' := Below.refl w4.heap.size w4
          go_wp2_with fail
          refine (Sub_to (N xb' * N ya' - N xa' * N yb') hB'' (by rw [N_B, N_B]; omega) sr sl).mono ?_
          rintro e w5 ⟨rfl, hb5⟩
          have hbb5 := hbb4.below hb5 hbb4.lt
          have hB5 := hB4.trans (hb5.mono hB4.size)
          obtain ⟨j0, j1, j2, i0, i1, i2⟩ := hbb5.facts
          go_wp2
          go_ret3
          refine ⟨nb', N xb' * N ya' - N xa' * N yb', N ya' * N yb', rfl, Nat.mul_ne_zero hya0 hyb0, ?_, by omega, by omega, hB5⟩
          rw [← hva, ← hvb, sg_sub' hn (m := N xa' * N yb') (n := N xb' * N ya') (by omega), val_add _ _ _ _ _ _ hya0 hyb0]
end Go.Proofs.YtojidhnkpeiimaaGreatDoor

/- Package frac's sums, differences, products and quotients. -/
namespace Go.Proofs.YtojidhnkpeiimaaGreatDoor
open Go.RowKit
def sgn (q : Rat) : Bool := decide (q.num < 0)
def nu (q : Rat) : ByteArray := B q.num.natAbs
def de (q : Rat) : ByteArray := B q.den
theorem C_eq (q : Rat) : C q = .agg #[.bool (sgn q), .string (nu q), .string (de q)] := rfl
theorem val_own (q : Rat) : val (sgn q) (nu q) (de q) = q := val_C q
theorem own_size (q : Rat) : (nu q).size + (de q).size = qw q := rfl
set_option maxRecDepth 100000 in
set_option maxHeartbeats 1000000 in
theorem Canon_any (n : Bool) (x y : ByteArray) (w : World) (hx : x.size ≤ 1099511627776) (hy : y.size ≤ 1099511627776) :
    Calls Tryz.prog 80 #[.agg #[.bool n, .string x, .string y]] w fun e w' => e = .returned (C (val n x y)) ∧ Below w.heap.size w w' := by
  go_enter Tryz.func80, Tryz.ntmps80
  have hbx := Box.at (w := w.alloc (FC n x y)) (g := w.heap.size + 1) (by simp) false ⟨#[]⟩ ⟨#[]⟩
  have hB0 : Below w.heap.size w ((w.alloc (FC n x y)).alloc (FC false ⟨#[]⟩ ⟨#[]⟩)) := ((Below.refl _ w).alloc (Nat.le_refl _) _).alloc (by simp) _
  go_wp2_with fail
  refine (Make_any n x y _ hx hy).mono ?_
  rintro e w1 ⟨rfl, hb1⟩
  have hx1 := hbx.below hb1 hbx.lt
  have hB1 : Below w.heap.size w w1 := hB0.trans (hb1.mono hB0.size)
  obtain ⟨k0, k1, k2, f0, f1, f2⟩ := hx1.facts
  clear hbx hB0
  rw [C_eq]
  go_wp2
  refine bodyPost_ret ((hx1.put _ _ _).result rfl _ rfl) rfl ?_
  exact ⟨rfl, below_put hB1 (by omega) _ _ _⟩
set_option maxRecDepth 100000 in
set_option maxHeartbeats 1000000 in
theorem fAdd_any (na nb : Bool) (xa ya xb yb : ByteArray) (w : World) (hxa : xa.size ≤ 137438953472) (hya : ya.size ≤ 137438953472) (hxb : xb.size ≤ 137438953472) (hyb : yb.size ≤ 137438953472) :
    Calls Tryz.prog 109 #[.agg #[.bool na, .string xa, .string ya], .agg #[.bool nb, .string xb, .string yb]] w fun e w' => e = .returned (C (val na xa ya + val nb xb yb)) ∧ Below w.heap.size w w' := by
  go_enter Tryz.func109, Tryz.ntmps109
  have hbx := Box.at (w := (w.alloc (FC na xa ya)).alloc (FC nb xb yb)) (g := w.heap.size + 2) (by simp) false ⟨#[]⟩ ⟨#[]⟩
  have hB0 : Below w.heap.size w (((w.alloc (FC na xa ya)).alloc (FC nb xb yb)).alloc (FC false ⟨#[]⟩ ⟨#[]⟩)) := (((Below.refl _ w).alloc (Nat.le_refl _) _).alloc (by simp) _).alloc (by simp; omega) _
  go_wp2_with fail
  refine (together_any na nb xa ya xb yb _ hxa hya hxb hyb).mono ?_
  rintro e w1 ⟨n, x, d, rfl, hd, hv, sx, sd, hb1⟩
  have hx1 := hbx.below hb1 hbx.lt
  have hB1 : Below w.heap.size w w1 := hB0.trans (hb1.mono hB0.size)
  clear hbx hB0
  go_wp2_with fail
  refine (Make_any n (B x) (B d) _ sx sd).mono ?_
  rintro e w2 ⟨rfl, hb2⟩
  have hx2 := hx1.below hb2 hx1.lt
  have hB2 : Below w.heap.size w w2 := hB1.trans (hb2.mono hB1.size)
  have hq : val n (B x) (B d) = val na xa ya + val nb xb yb := by rw [← hv, val, N_B, N_B]
  rw [hq]
  clear hx1 hB1 hq hv
  obtain ⟨k0, k1, k2, f0, f1, f2⟩ := hx2.facts
  rw [C_eq]
  go_wp2
  refine bodyPost_ret ((hx2.put _ _ _).result rfl _ rfl) rfl ?_
  exact ⟨rfl, below_put hB2 (by omega) _ _ _⟩
end Go.Proofs.YtojidhnkpeiimaaGreatDoor

/- Package frac's differences, products, quotients and comparisons. -/
namespace Go.Proofs.YtojidhnkpeiimaaGreatDoor
open Go.RowKit
theorem Box.far3 {w : World} {g g' : Nat} {neg : Bool} {num den : ByteArray} (h : Box w g neg num den) (hg : g ≠ g') (u v x : Value) : Box (((w.setCell ⟨g', 0, none⟩ u).setCell ⟨g', 1, none⟩ v).setCell ⟨g', 2, none⟩ x) g neg num den :=
  ((h.far hg u).far hg v).far hg x
theorem six_of {w w' : World} {g h : Nat} {n m : Bool} {x y u v : ByteArray} (h1 : Box w' g n x y) (h2 : Box w' h m u v) (h3 : Below w.heap.size w w') : (w'.cell? ⟨g, 0, none⟩ = some (.bool n) ∧ w'.cell? ⟨g, 1, none⟩ = some (.string x) ∧ w'.cell? ⟨g, 2, none⟩ = some (.string y) ∧ w'.cell? ⟨h, 0, none⟩ = some (.bool m) ∧ w'.cell? ⟨h, 1, none⟩ = some (.string u) ∧ w'.cell? ⟨h, 2, none⟩ = some (.string v)) ∧ Hid (Box w' g n x y ∧ Box w' h m u v ∧ Below w.heap.size w w') :=
  ⟨⟨h1.c0, h1.c1, h1.c2, h2.c0, h2.c1, h2.c2⟩, h1, h2, h3⟩
end Go.Proofs.YtojidhnkpeiimaaGreatDoor

/- Package frac's differences, comparisons and quotients. -/
namespace Go.Proofs.YtojidhnkpeiimaaGreatDoor
open Go.RowKit
theorem Box.result2 {w : World} {g : Nat} {neg : Bool} {num den : ByteArray} (h : Box w g neg num den) {fn : Func} {p u : Tmp} (hr : fn.results = #[.cell p 58, .tmp u]) (tmps : Array Value) (hp : tmps.getD p undef = .pointer (some ⟨g, 0, none⟩)) :
    (results fn tmps).run Tryz.prog w = .ok (.tuple #[.agg #[.bool neg, .string num, .string den], tmps.getD u undef]) w := by
  rw [results_cell_tmp hr, hp]
  simp only [asAddr, Sem.run_pure, Result.andThen_ok]
  rw [run_loadVar_row w g _ 58 _ _ _ h Tryz.underlying58 rfl (by kernel_rfl)]
  simp only [Result.andThen_ok]
theorem cmp_of {p q : Rat} {n : Bool} {x d : Nat} (hd : d ≠ 0) (h : mkRat (sg n x) d = p - q) : cmpQ p q = if x = 0 then 0 else if n = true then -1 else 1 := by
  by_cases hx : x = 0
  · rw [if_pos hx]
    rw [hx, sg_zero, Rat.zero_mkRat] at h
    have : p = q := by grind
    subst this
    rw [cmpQ, if_neg (by grind), if_pos rfl]
  · rw [if_neg hx]
    obtain ⟨h1, h2⟩ := mk_sign n x d hd hx
    cases n
    · have := h2 rfl
      rw [h] at this
      rw [if_neg (by decide), cmpQ, if_neg (by grind), if_neg (by grind)]
    · have := h1 rfl
      rw [h] at this
      rw [if_pos rfl, cmpQ, if_pos (by grind)]
set_option maxRecDepth 100000 in
set_option maxHeartbeats 4000000 in
theorem fCmp_any (na nb : Bool) (xa ya xb yb : ByteArray) (w : World) (hxa : xa.size ≤ 137438953472) (hya : ya.size ≤ 137438953472) (hxb : xb.size ≤ 137438953472) (hyb : yb.size ≤ 137438953472) :
    Calls Tryz.prog 73 #[.agg #[.bool na, .string xa, .string ya], .agg #[.bool nb, .string xb, .string yb]] w fun e w' => e = .returned (.int .i64 (cmpQ (val na xa ya) (val nb xb yb))) ∧ Below w.heap.size w w' := by
  have hq : val na xa ya + val (!nb) xb yb = val na xa ya - val nb xb yb := by rw [val_not, Rat.sub_eq_add_neg]
  have HQ := hide hq
  clear hq
  go_enter Tryz.func73, Tryz.ntmps73
  have hba := ((Box.at (w := w) rfl na xa ya).alloc (FC nb xb yb)).drew
  have hbb := (Box.at (w := w.alloc (FC na xa ya)) (g := w.heap.size + 1) (by simp) nb xb yb).drew
  have hB0 : Below w.heap.size w ((w.alloc (FC na xa ya)).alloc (FC nb xb yb)).drew := (((Below.refl _ w).alloc (Nat.le_refl _) _).alloc (by simp) _).drew
  go_upto_region 1 with fail
  go_region_held3 (fun w' => (w'.cell? ⟨w.heap.size, 0, none⟩ = some (.bool na) ∧ w'.cell? ⟨w.heap.size, 1, none⟩ = some (.string xa) ∧ w'.cell? ⟨w.heap.size, 2, none⟩ = some (.string ya) ∧ w'.cell? ⟨w.heap.size + 1, 0, none⟩ = some (.bool nb) ∧ w'.cell? ⟨w.heap.size + 1, 1, none⟩ = some (.string xb) ∧ w'.cell? ⟨w.heap.size + 1, 2, none⟩ = some (.string yb)) ∧ Hid (Box w' w.heap.size na xa ya ∧ Box w' (w.heap.size + 1) nb xb yb ∧ Below w.heap.size w w'))
    (first
      | exact six_of hba2 hbb2 hB2 | exact six_of hba1 hbb1 hB1 | exact six_of hba hbb hB0)
    (first
      | (have hba1' := hba1; go_at_call 105; refine (together_any na (!nb) xa ya xb yb _ hxa hya hxb hyb).mono ?_; rintro e w2 ⟨n, x, d, rfl, hd, hv, sx, sd, hb2⟩; have hba2 := hba1'.below hb2 hba1'.lt; have hbb2 := hbb1.below hb2 hbb1.lt; have hB2 := hB1.trans (hb2.mono hB1.size); have hcmp := hide (cmp_of hd (hv.trans HQ.out)); clear hv)
      | (go_at_call 106; refine (opposite_any nb xb yb _).mono ?_; rintro e w1 ⟨rfl, hb1⟩; have hba1 := hba.below hb1 hba.lt; have hbb1 := hbb.below hb1 hbb.lt; have hB1 := hB0.trans (hb1.mono hB0.size)))
  have hN : ∀ V : World, Calls Tryz.prog 107 #[.string (B x)] V fun e w' => e = .returned (.bool (decide (x = 0))) ∧ w' = V := fun V => by
    have := isNought_any (B x) V
    rwa [N_B] at this
  have HN := hide hN
  clear hN
  go_wp2_with fail
  refine (HN.out _).mono ?_
  rintro e w3 ⟨rfl, hw⟩
  subst hw
  by_cases h0 : x = 0
  · rw [decide_eq_true h0]
    go_wp2
    go_ret
    exact ⟨by rw [hcmp.out, if_pos h0]; rfl, hB2⟩
  · rw [decide_eq_false h0]
    cases n
    · go_wp2
      go_ret
      exact ⟨by rw [hcmp.out, if_neg h0]; rfl, hB2⟩
    · go_wp2
      go_ret
      exact ⟨by rw [hcmp.out, if_neg h0]; rfl, hB2⟩
end Go.Proofs.YtojidhnkpeiimaaGreatDoor

/- Package frac's quotients and whole numbers. -/
namespace Go.Proofs.YtojidhnkpeiimaaGreatDoor
open Go.RowKit
set_option maxRecDepth 100000 in
set_option maxHeartbeats 1000000 in
theorem fOf_nat (n : Nat) (w : World) (h : n ≤ 9223372036854775807) :
    Calls Tryz.prog 72 #[.int .i64 (n : Int)] w fun e w' => e = .returned (C (n : Rat)) ∧ Below w.heap.size w w' := by
  have hq : val false (B n) (B 1) = (n : Rat) := by
    rw [val, N_B, N_B]
    show mkRat (n : Int) 1 = _
    rw [Rat.mkRat_one]
    rfl
  have s1 := B_one_size
  have s2 : (B n).size ≤ 1099511627776 := by
    have := bn_fits 8 n (by show n < 18446744073709551616; omega)
    rw [← B_size n] at this
    omega
  go_enter Tryz.func72, Tryz.ntmps72
  have hbr := Box.at (w := w) rfl false ⟨#[]⟩ ⟨#[]⟩
  have hB0 : Below w.heap.size w (w.alloc (FC false ⟨#[]⟩ ⟨#[]⟩)) := (Below.refl _ w).alloc (Nat.le_refl _) _
  have hB := Below.refl (w.alloc (FC false ⟨#[]⟩ ⟨#[]⟩)).heap.size (w.alloc (FC false ⟨#[]⟩ ⟨#[]⟩))
  go_wp2_with fail
  refine (Of_to n hB rfl (by omega)).mono ?_
  rintro e w1 ⟨rfl, hB⟩
  go_wp2_with fail
  refine (Of_to 1 hB rfl (by omega)).mono ?_
  rintro e w1 ⟨rfl, hB⟩
  go_wp2_with fail
  refine (Make_any false (B n) (B 1) _ s2 (by omega)).mono ?_
  rintro e w2 ⟨rfl, hb2⟩
  rw [hq]
  have hx1 := (hbr.below hB hbr.lt).below hb2 (hbr.below hB hbr.lt).lt
  have hB1 : Below w.heap.size w w2 := (hB0.trans (hB.mono hB0.size)).trans (hb2.mono (hB0.trans (hB.mono hB0.size)).size)
  obtain ⟨k0, k1, k2, f0, f1, f2⟩ := hx1.facts
  clear hbr hB0 hB
  rw [C_eq]
  go_wp2
  refine bodyPost_ret ((hx1.put _ _ _).result rfl _ rfl) rfl ?_
  exact ⟨rfl, below_put hB1 (by omega) _ _ _⟩
end Go.Proofs.YtojidhnkpeiimaaGreatDoor

/- Three fractions in a row: how many bytes they have, and their sum. -/
namespace Go.Proofs.YtojidhnkpeiimaaGreatDoor
open Go.RowKit
theorem below_drewN {B : Nat} {a b : World} (h : Below B a b) (k : Nat) : Below B a (b.drewN k) := ⟨h.os, h.tape, h.output, h.size, h.block⟩
end Go.Proofs.YtojidhnkpeiimaaGreatDoor

/- The calls of package frac, stated by the rational numbers that their arguments stand for; five fractions held in memory. -/
namespace Go.Proofs.YtojidhnkpeiimaaGreatDoor
open Go.RowKit
theorem fCmp_q {n m : Bool} {x y u v : ByteArray} {w : World} {p q : Rat} (k : Int) (hp : val n x y = p) (hq : val m u v = q) (h : cmpQ p q = k) (s1 : x.size + y.size ≤ 100000) (s2 : u.size + v.size ≤ 100000) :
    Calls Tryz.prog 73 #[.agg #[.bool n, .string x, .string y], .agg #[.bool m, .string u, .string v]] w fun e w' => e = .returned (.int .i64 k) ∧ Below w.heap.size w w' := by
  subst hp hq h
  exact fCmp_any n m x y u v w (by omega) (by omega) (by omega) (by omega)
theorem fOf_q {k : Int} {w : World} (r : Rat) (n : Nat) (hk : k = (n : Int)) (hn : n ≤ 1) (h : (n : Rat) = r) :
    Calls Tryz.prog 72 #[.int .i64 k] w fun e w' => e = .returned (.agg #[.bool (sgn r), .string (nu r), .string (de r)]) ∧ Below w.heap.size w w' := by
  subst h hk
  exact fOf_nat n w (by omega)
end Go.Proofs.YtojidhnkpeiimaaGreatDoor

/- The document's answer: fractions made, in lowest terms. -/
namespace Go.Proofs.YtojidhnkpeiimaaGreatDoor
open Go.RowKit
theorem B_one : B 1 = ⟨#[1]⟩ := by
  rw [B, bn_pos 1 (by decide), show 1 / 256 = 0 from rfl, bn_zero]
  rfl
theorem ne_one {n : Nat} (h : ¬ n = 1) : ((B n).toList == [1]) = false := beq_eq_false_iff_ne.2 fun e => h (B_inj (by
  rw [B_one]
  rw [Lib.toList_data] at e
  exact ByteArray.ext (Array.toList_inj.1 e)))
set_option maxRecDepth 100000 in
set_option maxHeartbeats 1000000 in
theorem rMake_zero (n : Bool) (x y : ByteArray) (w : World) (h : N x = 0 ∨ N y = 0) (hx : x.size ≤ 500000) (hy : y.size ≤ 500000) :
    Calls Tryz.prog 41 #[.bool n, .string x, .string y] w fun e w' => e = .returned (C 0) ∧ Below w.heap.size w w' := by
  have HX := hide (fun V => rTrim_any x V (by omega))
  have HY := hide (fun V => rTrim_any y V (by omega))
  go_enter Tryz.func41, Tryz.ntmps41
  by_cases h0 : N x = 0
  · rw [h0, B_zero] at HX
    go_wp2_with fail
    refine (HX.out _).mono ?_
    rintro e w1 ⟨rfl, hw⟩
    subst hw
    go_wp2_with fail
    refine (HY.out _).mono ?_
    rintro e w1 ⟨rfl, hw⟩
    subst hw
    go_wp2
    refine bodyPost_ret ((Box.at (w := w) rfl false ⟨#[]⟩ ⟨#[1]⟩).result rfl _ rfl) rfl ?_
    exact ⟨by rw [C_zero, B_one], (Below.refl _ w).alloc (Nat.le_refl _) _⟩
  · have h1 : N y = 0 := h.resolve_left h0
    have hne := B_full h0
    rw [h1, B_zero] at HY
    go_wp2_with fail
    refine (HX.out _).mono ?_
    rintro e w1 ⟨rfl, hw⟩
    subst hw
    go_wp2_with fail
    refine (HY.out _).mono ?_
    rintro e w1 ⟨rfl, hw⟩
    subst hw
    go_wp2
    refine bodyPost_ret ((Box.at (w := w) rfl false ⟨#[]⟩ ⟨#[1]⟩).result rfl _ rfl) rfl ?_
    exact ⟨by rw [C_zero, B_one], (Below.refl _ w).alloc (Nat.le_refl _) _⟩
set_option maxRecDepth 100000 in
set_option maxHeartbeats 1000000 in
theorem rMake_some (n : Bool) (x y : ByteArray) (w : World) (h0 : N x ≠ 0) (h1 : N y ≠ 0) (hx : x.size ≤ 500000) (hy : y.size ≤ 500000) :
    Calls Tryz.prog 41 #[.bool n, .string x, .string y] w fun e w' => e = .returned (C (val n x y)) ∧ Below w.heap.size w w' := by
  have HX := hide (fun V => rTrim_any x V (by omega))
  have HY := hide (fun V => rTrim_any y V (by omega))
  have HC := hide (C_make n _ _ h0 h1)
  have sx := Nat.le_trans (B_size_le x) hx
  have sy := Nat.le_trans (B_size_le y) hy
  have hg := hide (fun V => rGcd_any (B (N x)) (B (N y)) V sx sy)
  rw [N_B, N_B] at hg
  have sg1 := Nat.le_trans (sz_mono (Nat.gcd_le_left (N y) (Nat.pos_of_ne_zero h0))) sx
  have hgp : Nat.gcd (N x) (N y) ≠ 0 := fun h => h0 (Nat.gcd_eq_zero_iff.1 h).1
  have HD1 := hide (fun V => rDiv_B (N x) _ V sx sg1 hgp)
  have HD2 := hide (fun V => rDiv_B (N y) _ V sy sg1 hgp)
  have hne0 := B_full h0
  have hne1 := B_full h1
  rw [val]
  clear h0 h1 hgp
  generalize mkRat (sg n (N x)) (N y) = q at *
  generalize N x = X at *
  generalize N y = Y at *
  generalize Nat.gcd X Y = g at *
  go_enter Tryz.func41, Tryz.ntmps41
  have hbx := Box.at (w := w) rfl false ⟨#[]⟩ ⟨#[]⟩
  have hB0 : Below w.heap.size w (w.alloc (FC false ⟨#[]⟩ ⟨#[]⟩)) := (Below.refl _ w).alloc (Nat.le_refl _) _
  go_wp2_with fail
  refine (HX.out _).mono ?_
  rintro e w1 ⟨rfl, hw⟩
  subst hw
  go_wp2_with fail
  refine (HY.out _).mono ?_
  rintro e w1 ⟨rfl, hw⟩
  subst hw
  go_wp2_with fail
  refine (hg.out _).mono ?_
  rintro e w1 ⟨rfl, hb1⟩
  have hx1 := hbx.below hb1 hbx.lt
  have hB1 : Below w.heap.size w w1 := hB0.trans (hb1.mono hB0.size)
  clear hbx hB0 hb1 HX HY hg
  by_cases h1 : g = 1
  · subst h1
    rw [Nat.div_one, Nat.div_one] at HC
    rw [B_one]
    obtain ⟨k0, k1, k2, f0, f1, f2⟩ := hx1.facts
    go_wp2
    refine bodyPost_ret ((hx1.put _ _ _).result rfl _ rfl) rfl ?_
    exact ⟨by rw [HC.out], below_put hB1 (by omega) _ _ _⟩
  · have hn1 := ne_one h1
    go_wp2_with fail
    refine (HD1.out _).mono ?_
    rintro e w2 ⟨rfl, hb2⟩
    have hx2 := hx1.below hb2 hx1.lt
    have hB2 : Below w.heap.size w w2 := hB1.trans (hb2.mono hB1.size)
    go_wp2_with fail
    refine (HD2.out _).mono ?_
    rintro e w3 ⟨rfl, hb3⟩
    have hx3 := hx2.below hb3 hx2.lt
    have hB3 : Below w.heap.size w w3 := hB2.trans (hb3.mono hB2.size)
    obtain ⟨k0, k1, k2, f0, f1, f2⟩ := hx3.facts
    go_wp2
    refine bodyPost_ret ((hx3.put _ _ _).result rfl _ rfl) rfl ?_
    exact ⟨by rw [HC.out], below_put hB3 (by omega) _ _ _⟩
theorem rMake_any (n : Bool) (x y : ByteArray) (w : World) (hx : x.size ≤ 500000) (hy : y.size ≤ 500000) :
    Calls Tryz.prog 41 #[.bool n, .string x, .string y] w fun e w' => e = .returned (C (val n x y)) ∧ Below w.heap.size w w' := by
  by_cases h : N x = 0 ∨ N y = 0
  · have := rMake_zero n x y w h hx hy
    rwa [← val_zero_iff.2 h] at this
  · exact rMake_some n x y w (fun e => h (.inl e)) (fun e => h (.inr e)) hx hy
set_option maxRecDepth 100000 in
set_option maxHeartbeats 1000000 in
theorem rCanon_any (n : Bool) (x y : ByteArray) (w : World) (hx : x.size ≤ 500000) (hy : y.size ≤ 500000) :
    Calls Tryz.prog 22 #[.agg #[.bool n, .string x, .string y]] w fun e w' => e = .returned (C (val n x y)) ∧ Below w.heap.size w w' := by
  go_enter Tryz.func22, Tryz.ntmps22
  have hbx := Box.at (w := w.alloc (FC n x y)) (g := w.heap.size + 1) (by simp) false ⟨#[]⟩ ⟨#[]⟩
  have hB0 : Below w.heap.size w ((w.alloc (FC n x y)).alloc (FC false ⟨#[]⟩ ⟨#[]⟩)) := ((Below.refl _ w).alloc (Nat.le_refl _) _).alloc (by simp) _
  go_wp2_with fail
  refine (rMake_any n x y _ hx hy).mono ?_
  rintro e w1 ⟨rfl, hb1⟩
  have hx1 := hbx.below hb1 hbx.lt
  have hB1 : Below w.heap.size w w1 := hB0.trans (hb1.mono hB0.size)
  obtain ⟨k0, k1, k2, f0, f1, f2⟩ := hx1.facts
  clear hbx hB0
  rw [C_eq]
  go_wp2
  refine bodyPost_ret ((hx1.put _ _ _).result rfl _ rfl) rfl ?_
  exact ⟨rfl, below_put hB1 (by omega) _ _ _⟩
end Go.Proofs.YtojidhnkpeiimaaGreatDoor

/- The document's answer: sums, differences, products, quotients and comparisons of fractions. -/
namespace Go.Proofs.YtojidhnkpeiimaaGreatDoor
open Go.RowKit
theorem rMul_B {a b : ByteArray} {w0 w : World} (n : Nat) (hB : Below w0.heap.size w0 w) (h : N a * N b = n) (ha : a.size ≤ 1000000) (hb : b.size ≤ 1000000) :
    Calls Tryz.prog 77 #[.string a, .string b] w fun e w' => e = .returned (.string (B n)) ∧ Below w0.heap.size w0 w' := by
  subst h; exact under hB (rMul_any a b w (by omega) (by omega))
theorem N_nu (q : Rat) : N (nu q) = q.num.natAbs := N_B _
theorem N_de (q : Rat) : N (de q) = q.den := N_B _
def Tri (w V : World) (p q : Rat) (n : Bool) (x y : ByteArray) : Prop := Box V w.heap.size (sgn p) (nu p) (de p) ∧ Box V (w.heap.size + 1) (sgn q) (nu q) (de q) ∧ Box V (w.heap.size + 2) n x y ∧ Below w.heap.size w V
theorem Tri.step {w V U : World} {p q : Rat} {n : Bool} {x y : ByteArray} (h : Tri w V p q n x y) (hb : Below V.heap.size V U) : Tri w U p q n x y := by
  obtain ⟨h1, h2, h3, h4⟩ := h
  exact ⟨h1.below hb h1.lt, h2.below hb h2.lt, h3.below hb h3.lt, h4.trans (hb.mono h4.size)⟩
end Go.Proofs.YtojidhnkpeiimaaGreatDoor

/- The document's answer: differences, products, quotients, comparisons, whole numbers. -/
namespace Go.Proofs.YtojidhnkpeiimaaGreatDoor
open Go.RowKit
set_option maxRecDepth 100000 in
set_option maxHeartbeats 2000000 in
theorem rMulF_any (na nb : Bool) (xa ya xb yb : ByteArray) (w : World) (ha : xa.size + ya.size ≤ 50000) (hb : xb.size + yb.size ≤ 50000) :
    Calls Tryz.prog 52 #[.agg #[.bool na, .string xa, .string ya], .agg #[.bool nb, .string xb, .string yb]] w fun e w' => e = .returned (C (val na xa ya * val nb xb yb)) ∧ Below w.heap.size w w' := by
  have HA := hide (fun V => rCanon_any na xa ya V (by omega) (by omega))
  have HB := hide (fun V => rCanon_any nb xb yb V (by omega) (by omega))
  have q1 := qw_val na xa ya
  have q2 := qw_val nb xb yb
  generalize val na xa ya = p at *
  generalize val nb xb yb = q at *
  have z1 := own_size p
  have z2 := own_size q
  have s1 := sz_mul p.num.natAbs q.num.natAbs
  have s3 := sz_mul p.den q.den
  have e1 : (B p.num.natAbs).size = (nu p).size := rfl
  have e2 : (B p.den).size = (de p).size := rfl
  have e3 : (B q.num.natAbs).size = (nu q).size := rfl
  have e4 : (B q.den).size = (de q).size := rfl
  have HS : Hid (val (sgn p != sgn q) (B (p.num.natAbs * q.num.natAbs)) (B (p.den * q.den)) = p * q) := by
    show _ = _
    have e := val_mul (sgn p) (sgn q) (nu p) (de p) (nu q) (de q)
    rw [val_own, val_own, N_nu, N_nu, N_de, N_de] at e
    rw [val, N_B, N_B, e]
  have HM1 := hide (fun (V : World) => rMul_B (w := V) (p.num.natAbs * q.num.natAbs) (Below.refl _ V) (by rw [N_nu, N_nu]) (show (nu p).size ≤ _ by omega) (show (nu q).size ≤ _ by omega))
  have HM3 := hide (fun (V : World) => rMul_B (w := V) (p.den * q.den) (Below.refl _ V) (by rw [N_de, N_de]) (show (de p).size ≤ _ by omega) (show (de q).size ≤ _ by omega))
  generalize p * q = r at *
  generalize p.num.natAbs * q.num.natAbs = X at *
  generalize p.den * q.den = D at *
  have t1 : (B X).size ≤ 200000 := by omega
  have t3 : (B D).size ≤ 200000 := by omega
  clear s1 s3 e1 e2 e3 e4 z1 z2 q1 q2 ha hb
  go_enter Tryz.func52, Tryz.ntmps52
  have hba := ((Box.at (w := w) rfl na xa ya).alloc (FC nb xb yb)).alloc (FC false ⟨#[]⟩ ⟨#[]⟩)
  have hbb := (Box.at (w := w.alloc (FC na xa ya)) (g := w.heap.size + 1) (by simp) nb xb yb).alloc (FC false ⟨#[]⟩ ⟨#[]⟩)
  have hbr := Box.at (w := (w.alloc (FC na xa ya)).alloc (FC nb xb yb)) (g := w.heap.size + 2) (by simp) false ⟨#[]⟩ ⟨#[]⟩
  have hB0 : Below w.heap.size w (((w.alloc (FC na xa ya)).alloc (FC nb xb yb)).alloc (FC false ⟨#[]⟩ ⟨#[]⟩)) := (((Below.refl _ w).alloc (Nat.le_refl _) _).alloc (by simp) _).alloc (by simp; omega) _
  go_wp2_with fail
  refine (HA.out _).mono ?_
  rintro e w1 ⟨rfl, hb1⟩
  have hba1 := hba.below hb1 hba.lt
  have hbb1 := (hbb.below hb1 hbb.lt).far3 (g' := w.heap.size) (by omega) (.bool (sgn p)) (.string (nu p)) (.string (de p))
  have hbr1 := (hbr.below hb1 hbr.lt).far3 (g' := w.heap.size) (by omega) (.bool (sgn p)) (.string (nu p)) (.string (de p))
  have hB1 := below_put (hB0.trans (hb1.mono hB0.size)) (Nat.le_refl _) (.bool (sgn p)) (.string (nu p)) (.string (de p))
  have hba2 := hba1.put (sgn p) (nu p) (de p)
  obtain ⟨k0, k1, k2, f0, f1, f2⟩ := hba1.facts
  obtain ⟨c0, c1, c2, _, _, _⟩ := hbb1.facts
  rw [C_eq]
  clear hba hbb hbr hB0 hba1 hb1
  go_wp2_with fail
  clear k0 k1 k2 f0 f1 f2 c0 c1 c2
  refine (HB.out _).mono ?_
  rintro e w2 ⟨rfl, hb2⟩
  have hbb2 := hbb1.below hb2 hbb1.lt
  have hba3 := (hba2.below hb2 hba2.lt).far3 (g' := w.heap.size + 1) (by omega) (.bool (sgn q)) (.string (nu q)) (.string (de q))
  have hbr3 := (hbr1.below hb2 hbr1.lt).far3 (g' := w.heap.size + 1) (by omega) (.bool (sgn q)) (.string (nu q)) (.string (de q))
  have hB3 := below_put (hB1.trans (hb2.mono hB1.size)) (g := w.heap.size + 1) (by omega) (.bool (sgn q)) (.string (nu q)) (.string (de q))
  have hbb3 := hbb2.put (sgn q) (nu q) (de q)
  obtain ⟨k0, k1, k2, f0, f1, f2⟩ := hbb2.facts
  have ht : Tri w _ p q false ⟨#[]⟩ ⟨#[]⟩ := ⟨hba3, hbb3, hbr3, hB3⟩
  obtain ⟨c0, c1, c2, _, _, _⟩ := hba3.facts
  obtain ⟨d0, d1, d2, _, _, _⟩ := hbb3.facts
  rw [C_eq]
  clear hba2 hbb1 hbr1 hB1 hbb2 hba3 hbr3 hB3 hbb3 hb2 HA HB
  go_wp2_with fail
  refine (HM1.out _).mono ?_
  rintro e w3 ⟨rfl, hb3⟩
  clear c0 c1 c2 d0 d1 d2 k0 k1 k2 f0 f1 f2
  have ht3 := ht.step hb3
  clear ht hb3 HM1
  obtain ⟨c0, c1, c2, _, _, _⟩ := ht3.1.facts
  obtain ⟨d0, d1, d2, _, _, _⟩ := ht3.2.1.facts
  go_wp2_with fail
  refine (HM3.out _).mono ?_
  rintro e w4 ⟨rfl, hb4⟩
  clear c0 c1 c2 d0 d1 d2
  have ht4 := ht3.step hb4
  clear ht3 hb4 HM3
  obtain ⟨c0, c1, c2, _, _, _⟩ := ht4.1.facts
  obtain ⟨d0, d1, d2, _, _, _⟩ := ht4.2.1.facts
  go_wp2_with fail
  refine (rMake_any (sgn p != sgn q) (B X) (B D) _ (by omega) (by omega)).mono ?_
  rintro e w7 ⟨rfl, hb7⟩
  have ht7 := ht4.step hb7
  obtain ⟨g0, g1, g2, i0, i1, i2⟩ := ht7.2.2.1.facts
  rw [HS.out, C_eq]
  go_wp2
  refine bodyPost_ret ((ht7.2.2.1.put _ _ _).result rfl _ rfl) rfl ?_
  exact ⟨rfl, below_put ht7.2.2.2 (by omega) _ _ _⟩
theorem nu_zero {q : Rat} (h : q = 0) : nu q = ⟨#[]⟩ := by subst h; exact B_zero
theorem nu_full {q : Rat} (h : ¬ q = 0) : (nu q).toList.isEmpty = false := B_full (by rw [Ne, Int.natAbs_eq_zero, Rat.num_eq_zero]; exact h)
set_option maxRecDepth 100000 in
set_option maxHeartbeats 1000000 in
theorem rZero_any (n : Bool) (x y : ByteArray) (w : World) (hx : x.size + y.size ≤ 50000) :
    Calls Tryz.prog 51 #[.agg #[.bool n, .string x, .string y]] w fun e w' => e = .returned (.bool (decide (val n x y = 0))) ∧ Below w.heap.size w w' := by
  have HC := hide (fun V => rCanon_any n x y V (by omega) (by omega))
  generalize val n x y = q at *
  have hz : (q = 0 ∧ decide (q = 0) = true) ∨ (¬ q = 0 ∧ decide (q = 0) = false) := by
    by_cases h : q = 0
    · exact .inl ⟨h, decide_eq_true h⟩
    · exact .inr ⟨h, decide_eq_false h⟩
  have HZ := hide hz
  clear hz
  generalize decide (q = 0) = t at *
  go_enter Tryz.func51, Tryz.ntmps51
  have hbx := Box.at (w := w) rfl n x y
  have hB0 : Below w.heap.size w (w.alloc (FC n x y)) := (Below.refl _ w).alloc (Nat.le_refl _) _
  go_wp2_with fail
  refine (HC.out _).mono ?_
  rintro e w1 ⟨rfl, hb1⟩
  have hx1 := hbx.below hb1 hbx.lt
  have hB1 := below_put (hB0.trans (hb1.mono hB0.size)) (Nat.le_refl _) (.bool (sgn q)) (.string (nu q)) (.string (de q))
  obtain ⟨k0, k1, k2, f0, f1, f2⟩ := hx1.facts
  rw [C_eq]
  rcases HZ.out with ⟨h, rfl⟩ | ⟨h, rfl⟩
  · have hn := nu_zero h
    clear h HZ
    generalize nu q = nq at *
    subst hn
    go_wp2
    go_ret
    exact ⟨rfl, hB1⟩
  · have hn := nu_full h
    clear h HZ
    go_wp2
    go_ret
    exact ⟨rfl, hB1⟩
set_option maxRecDepth 100000 in
set_option maxHeartbeats 1000000 in
theorem rDivF_yes (na nb : Bool) (xa ya xb yb : ByteArray) (w : World) (h : ¬ val nb xb yb = 0) (ha : xa.size + ya.size ≤ 40000) (hb : xb.size + yb.size ≤ 40000) :
    Calls Tryz.prog 31 #[.agg #[.bool na, .string xa, .string ya], .agg #[.bool nb, .string xb, .string yb]] w fun e w' => e = .returned (.tuple #[C (val na xa ya / val nb xb yb), .int .i64 0]) ∧ Below w.heap.size w w' := by
  have HZ := hide (fun V => rZero_any nb xb yb V (by omega))
  rw [decide_eq_false h] at HZ
  have HC := hide (fun V => rCanon_any nb xb yb V (by omega) (by omega))
  have q2 := qw_val nb xb yb
  generalize val nb xb yb = q at *
  have z2 := own_size q
  have HM := hide (fun V => rMulF_any na (sgn q) xa ya (de q) (nu q) V (by omega) (by omega))
  have hi : val (sgn q) (de q) (nu q) = q⁻¹ := by
    rw [val_inv (sgn q) (nu q) (de q) (by rw [N_nu, Ne, Int.natAbs_eq_zero, Rat.num_eq_zero]; exact h) (by rw [N_de]; exact q.den_nz), val_own]
  rw [hi, ← Rat.div_def] at HM
  generalize val na xa ya / q = r at *
  clear hi h z2 q2 ha hb
  go_enter Tryz.func31, Tryz.ntmps31
  have hba := ((Box.at (w := w) rfl na xa ya).alloc (FC nb xb yb)).alloc (FC false ⟨#[]⟩ ⟨#[]⟩)
  have hbb := (Box.at (w := w.alloc (FC na xa ya)) (g := w.heap.size + 1) (by simp) nb xb yb).alloc (FC false ⟨#[]⟩ ⟨#[]⟩)
  have hbr := Box.at (w := (w.alloc (FC na xa ya)).alloc (FC nb xb yb)) (g := w.heap.size + 2) (by simp) false ⟨#[]⟩ ⟨#[]⟩
  have hB0 : Below w.heap.size w (((w.alloc (FC na xa ya)).alloc (FC nb xb yb)).alloc (FC false ⟨#[]⟩ ⟨#[]⟩)) := (((Below.refl _ w).alloc (Nat.le_refl _) _).alloc (by simp) _).alloc (by simp; omega) _
  go_wp2_with fail
  refine (HZ.out _).mono ?_
  rintro e w1 ⟨rfl, hb1⟩
  have hba1 := hba.below hb1 hba.lt
  have hbb1 := hbb.below hb1 hbb.lt
  have hbr1 := hbr.below hb1 hbr.lt
  have hB1 := hB0.trans (hb1.mono hB0.size)
  obtain ⟨c0, c1, c2, _, _, _⟩ := hbb1.facts
  clear hba hbb hbr hB0 hb1
  go_wp2_with fail
  refine (HC.out _).mono ?_
  rintro e w2 ⟨rfl, hb2⟩
  have hba2 := (hba1.below hb2 hba1.lt).far3 (g' := w.heap.size + 1) (by omega) (.bool (sgn q)) (.string (nu q)) (.string (de q))
  have hbb2 := hbb1.below hb2 hbb1.lt
  have hbr2 := (hbr1.below hb2 hbr1.lt).far3 (g' := w.heap.size + 1) (by omega) (.bool (sgn q)) (.string (nu q)) (.string (de q))
  have hB2 := below_put (hB1.trans (hb2.mono hB1.size)) (g := w.heap.size + 1) (by omega) (.bool (sgn q)) (.string (nu q)) (.string (de q))
  clear c0 c1 c2 hba1 hbb1 hbr1 hB1 hb2
  obtain ⟨k0, k1, k2, f0, f1, f2⟩ := hbb2.facts
  obtain ⟨d0, d1, d2, _, _, _⟩ := hba2.facts
  rw [C_eq]
  go_wp2_with fail
  refine (HM.out _).mono ?_
  rintro e w3 ⟨rfl, hb3⟩
  have hbr3 := hbr2.below hb3 hbr2.lt
  have hB3 := hB2.trans (hb3.mono hB2.size)
  clear k0 k1 k2 f0 f1 f2 d0 d1 d2
  obtain ⟨k0, k1, k2, f0, f1, f2⟩ := hbr3.facts
  rw [C_eq]
  go_wp2
  refine bodyPost_ret ((hbr3.put _ _ _).result2 rfl _ rfl) rfl ?_
  exact ⟨rfl, below_put hB3 (by omega) _ _ _⟩
theorem of_neg {k : Int} (h : k < 0) : C (mkRat k 1) = .agg #[.bool true, .string (B ((-(k + 1)).toNat + 1)), .string (B 1)] := by
  have e : k = sg true ((-(k + 1)).toNat + 1) := by simp only [sg, if_true]; omega
  have h1 := C_make true ((-(k + 1)).toNat + 1) 1 (by omega) (by decide)
  rw [← e, Nat.gcd_one_right, Nat.div_one, Nat.div_one] at h1
  exact h1
theorem of_pos (n : Nat) : C (mkRat (n : Int) 1) = .agg #[.bool false, .string (B n), .string (B 1)] := by
  by_cases h : n = 0
  · subst h; rw [show ((0 : Nat) : Int) = 0 from rfl, Rat.zero_mkRat, C_zero, B_zero]
  · have h1 := C_make false n 1 h (by decide)
    rw [Nat.gcd_one_right, Nat.div_one, Nat.div_one] at h1
    exact h1
set_option maxRecDepth 100000 in
set_option maxHeartbeats 1000000 in
theorem rOfF_any (k : Int) (w : World) (h0 : -9223372036854775808 ≤ k) (h1 : k ≤ 9223372036854775807) :
    Calls Tryz.prog 32 #[.int .i64 k] w fun e w' => e = .returned (C (mkRat k 1)) ∧ Below w.heap.size w w' := by
  by_cases hk : k < 0
  · rw [of_neg hk]
    have HO := hide (fun V => rOf_any (-(k + 1)) V (by omega) (by omega))
    have s1 : (B (-(k + 1)).toNat).size ≤ 8 := by rw [B_size]; exact bn_fits 8 _ (by show _ < 18446744073709551616; omega)
    have HA := hide (fun V => rAdd_any (B (-(k + 1)).toNat) ⟨#[1]⟩ V (by omega) (by show 1 ≤ _; omega))
    rw [N_B, show N ⟨#[1]⟩ = 1 from rfl] at HA
    rw [B_one]
    generalize (-(k + 1)).toNat = n at *
    go_enter Tryz.func32, Tryz.ntmps32
    have hbr := Box.at (w := w) rfl false ⟨#[]⟩ ⟨#[]⟩
    have hB0 : Below w.heap.size w (w.alloc (FC false ⟨#[]⟩ ⟨#[]⟩)) := (Below.refl _ w).alloc (Nat.le_refl _) _
    go_wp2_with fail
    refine (HO.out _).mono ?_
    rintro e w1 ⟨rfl, hb1⟩
    have hbr1 := hbr.below hb1 hbr.lt
    have hB1 := hB0.trans (hb1.mono hB0.size)
    go_wp2_with fail
    refine (HA.out _).mono ?_
    rintro e w2 ⟨rfl, hb2⟩
    have hbr2 := hbr1.below hb2 hbr1.lt
    have hB2 := hB1.trans (hb2.mono hB1.size)
    obtain ⟨k0, k1, k2, f0, f1, f2⟩ := hbr2.facts
    go_wp2
    refine bodyPost_ret ((hbr2.put _ _ _).result rfl _ rfl) rfl ?_
    exact ⟨rfl, below_put hB2 (by omega) _ _ _⟩
  · obtain ⟨n, rfl⟩ : ∃ n : Nat, k = n := ⟨k.toNat, by omega⟩
    rw [of_pos n]
    have HO := hide (fun V => rOf_any (n : Int) V (by omega) (by omega))
    rw [Int.toNat_natCast] at HO
    rw [B_one]
    go_enter Tryz.func32, Tryz.ntmps32
    have hbr := Box.at (w := w) rfl false ⟨#[]⟩ ⟨#[]⟩
    have hB0 : Below w.heap.size w (w.alloc (FC false ⟨#[]⟩ ⟨#[]⟩)) := (Below.refl _ w).alloc (Nat.le_refl _) _
    go_wp2_with fail
    refine (HO.out _).mono ?_
    rintro e w1 ⟨rfl, hb1⟩
    have hbr1 := hbr.below hb1 hbr.lt
    have hB1 := hB0.trans (hb1.mono hB0.size)
    obtain ⟨k0, k1, k2, f0, f1, f2⟩ := hbr1.facts
    go_wp2
    refine bodyPost_ret ((hbr1.put _ _ _).result rfl _ rfl) rfl ?_
    exact ⟨rfl, below_put hB1 (by omega) _ _ _⟩
end Go.Proofs.YtojidhnkpeiimaaGreatDoor
