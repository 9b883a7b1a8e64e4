/- Package frac's differences, products, quotients and comparisons. -/
import Derived.Test.YtghjhflfcambjaaDoorFracC
import Derived.Laws.ResultCell
namespace Go.Proofs.YtghjhflfcambjaaDoor
open Go.RowKit

theorem Box.far3 {w : World} {g g' : Nat} {neg : Bool} {num den : ByteArray} (h : Box w g neg num den) (hg : g ≠ g') (u v x : Value) : Box (((w.setCell ⟨g', 0, none⟩ u).setCell ⟨g', 1, none⟩ v).setCell ⟨g', 2, none⟩ x) g neg num den :=
  ((h.far hg u).far hg v).far hg x
theorem six_of {w w' : World} {g h : Nat} {n m : Bool} {x y u v : ByteArray} (h1 : Box w' g n x y) (h2 : Box w' h m u v) (h3 : Below w.heap.size w w') : (w'.cell? ⟨g, 0, none⟩ = some (.bool n) ∧ w'.cell? ⟨g, 1, none⟩ = some (.string x) ∧ w'.cell? ⟨g, 2, none⟩ = some (.string y) ∧ w'.cell? ⟨h, 0, none⟩ = some (.bool m) ∧ w'.cell? ⟨h, 1, none⟩ = some (.string u) ∧ w'.cell? ⟨h, 2, none⟩ = some (.string v)) ∧ Hid (Box w' g n x y ∧ Box w' h m u v ∧ Below w.heap.size w w') :=
  ⟨⟨h1.c0, h1.c1, h1.c2, h2.c0, h2.c1, h2.c2⟩, h1, h2, h3⟩

set_option maxRecDepth 100000 in
set_option maxHeartbeats 4000000 in
theorem fMul_any (na nb : Bool) (xa ya xb yb : ByteArray) (w : World) (hxa : xa.size ≤ 137438953472) (hya : ya.size ≤ 137438953472) (hxb : xb.size ≤ 137438953472) (hyb : yb.size ≤ 137438953472) :
    Calls Tryd.prog 18 #[.agg #[.bool na, .string xa, .string ya], .agg #[.bool nb, .string xb, .string yb]] w fun e w' => e = .returned (C (val na xa ya * val nb xb yb)) ∧ Below w.heap.size w w' := by
  have sx : (B (N xa * N xb)).size ≤ 1099511627776 := by have := sz_mul (N xa) (N xb); have := B_size_le xa; have := B_size_le xb; omega
  have sy : (B (N ya * N yb)).size ≤ 1099511627776 := by have := sz_mul (N ya) (N yb); have := B_size_le ya; have := B_size_le yb; omega
  have hq : val (na != nb) (B (N xa * N xb)) (B (N ya * N yb)) = val na xa ya * val nb xb yb := by rw [← val_mul, val, N_B, N_B]
  have HQ := hide hq
  clear hq
  have hxa' : xa.size ≤ 1099511627776 := by omega
  have hya' : ya.size ≤ 1099511627776 := by omega
  have hxb' : xb.size ≤ 1099511627776 := by omega
  have hyb' : yb.size ≤ 1099511627776 := by omega
  clear hxa hya hxb hyb
  go_enter Tryd.func18, Tryd.ntmps18
  have hba := (((Box.at (w := w) rfl na xa ya).alloc (FC nb xb yb)).alloc (FC false ⟨#[]⟩ ⟨#[]⟩)).drew
  have hbb := ((Box.at (w := w.alloc (FC na xa ya)) (g := w.heap.size + 1) (by simp) nb xb yb).alloc (FC false ⟨#[]⟩ ⟨#[]⟩)).drew
  have hbr := (Box.at (w := (w.alloc (FC na xa ya)).alloc (FC nb xb yb)) (g := w.heap.size + 2) (by simp) false ⟨#[]⟩ ⟨#[]⟩).drew
  have hB0 : Below w.heap.size w (((w.alloc (FC na xa ya)).alloc (FC nb xb yb)).alloc (FC false ⟨#[]⟩ ⟨#[]⟩)).drew := ((((Below.refl _ w).alloc (Nat.le_refl _) _).alloc (by simp) _).alloc (by simp; omega) _).drew
  go_upto_region 1 with fail
  go_region_held3 (fun w' => (w'.cell? ⟨w.heap.size, 0, none⟩ = some (.bool na) ∧ w'.cell? ⟨w.heap.size, 1, none⟩ = some (.string xa) ∧ w'.cell? ⟨w.heap.size, 2, none⟩ = some (.string ya) ∧ w'.cell? ⟨w.heap.size + 1, 0, none⟩ = some (.bool nb) ∧ w'.cell? ⟨w.heap.size + 1, 1, none⟩ = some (.string xb) ∧ w'.cell? ⟨w.heap.size + 1, 2, none⟩ = some (.string yb)) ∧ Hid (Box w' w.heap.size na xa ya ∧ Box w' (w.heap.size + 1) nb xb yb ∧ Below w.heap.size w w'))
    (first
      | exact six_of (hba3.far3 (by omega) _ _ _) (hbb3.far3 (by omega) _ _ _) (below_put hB3 (by omega) _ _ _)
      | exact six_of hba3 hbb3 hB3 | exact six_of hba2 hbb2 hB2 | exact six_of hba1 hbb1 hB1 | exact six_of hba hbb hB0)
    (first
      | (have hba2' := hba2; go_at_call 46; refine (Make_any _ _ _ _ sx sy).mono ?_; rintro e w3 ⟨rfl, hb3⟩; have hba3 := hba2'.below hb3 hba2'.lt; have hbb3 := hbb2.below hb3 hbb2.lt; have hbr3 := hbr2.below hb3 hbr2.lt; have hB3 := hB2.trans (hb3.mono hB2.size); obtain ⟨k0, k1, k2, f0, f1, f2⟩ := hbr3.facts; rw [C_eq])
      | (have hba1' := hba1; go_at_call 7; refine (Mul_any ya yb _ hya' hyb').mono ?_; rintro e w2 ⟨rfl, hb2⟩; have hba2 := hba1'.below hb2 hba1'.lt; have hbb2 := hbb1.below hb2 hbb1.lt; have hbr2 := hbr1.below hb2 hbr1.lt; have hB2 := hB1.trans (hb2.mono hB1.size))
      | (go_at_call 7; refine (Mul_any xa xb _ hxa' hxb').mono ?_; rintro e w1 ⟨rfl, hb1⟩; have hba1 := hba.below hb1 hba.lt; have hbb1 := hbb.below hb1 hbb.lt; have hbr1 := hbr.below hb1 hbr.lt; have hB1 := hB0.trans (hb1.mono hB0.size)))
  go_wp2
  refine bodyPost_ret ((hbr3.put _ _ _).result rfl _ rfl) rfl ?_
  exact ⟨by rw [← HQ.out]; rfl, below_put hB3 (by omega) _ _ _⟩
end Go.Proofs.YtghjhflfcambjaaDoor
