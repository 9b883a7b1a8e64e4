/- Package frac's differences, comparisons and quotients. -/
import Derived.Test.YtghjhflfcambjaaDoorFracD
namespace Go.Proofs.YtghjhflfcambjaaDoor
open Go.RowKit

theorem Box.result2 {w : World} {g : Nat} {neg : Bool} {num den : ByteArray} (h : Box w g neg num den) {fn : Func} {p u : Tmp} (hr : fn.results = #[.cell p 38, .tmp u]) (tmps : Array Value) (hp : tmps.getD p undef = .pointer (some ⟨g, 0, none⟩)) :
    (results fn tmps).run Tryd.prog w = .ok (.tuple #[.agg #[.bool neg, .string num, .string den], tmps.getD u undef]) w := by
  rw [results_cell_tmp hr, hp]
  simp only [asAddr, Sem.run_pure, Result.andThen_ok]
  rw [run_loadVar_row w g _ 38 _ _ _ h Tryd.underlying38 rfl (by kernel_rfl)]
  simp only [Result.andThen_ok]

set_option maxRecDepth 100000 in
set_option maxHeartbeats 4000000 in
theorem fSub_any (na nb : Bool) (xa ya xb yb : ByteArray) (w : World) (hxa : xa.size ≤ 137438953472) (hya : ya.size ≤ 137438953472) (hxb : xb.size ≤ 137438953472) (hyb : yb.size ≤ 137438953472) :
    Calls Tryd.prog 19 #[.agg #[.bool na, .string xa, .string ya], .agg #[.bool nb, .string xb, .string yb]] w fun e w' => e = .returned (C (val na xa ya - val nb xb yb)) ∧ Below w.heap.size w w' := by
  have hq : val na xa ya + val (!nb) xb yb = val na xa ya - val nb xb yb := by rw [val_not, Rat.sub_eq_add_neg]
  have HQ := hide hq
  clear hq
  go_enter Tryd.func19, Tryd.ntmps19
  have hba := (((Box.at (w := w) rfl na xa ya).alloc (FC nb xb yb)).alloc (FC false ⟨#[]⟩ ⟨#[]⟩)).drew
  have hbb := ((Box.at (w := w.alloc (FC na xa ya)) (g := w.heap.size + 1) (by simp) nb xb yb).alloc (FC false ⟨#[]⟩ ⟨#[]⟩)).drew
  have hbr := (Box.at (w := (w.alloc (FC na xa ya)).alloc (FC nb xb yb)) (g := w.heap.size + 2) (by simp) false ⟨#[]⟩ ⟨#[]⟩).drew
  have hB0 : Below w.heap.size w (((w.alloc (FC na xa ya)).alloc (FC nb xb yb)).alloc (FC false ⟨#[]⟩ ⟨#[]⟩)).drew := ((((Below.refl _ w).alloc (Nat.le_refl _) _).alloc (by simp) _).alloc (by simp; omega) _).drew
  go_upto_region 1 with fail
  go_region_held3 (fun w' => (w'.cell? ⟨w.heap.size, 0, none⟩ = some (.bool na) ∧ w'.cell? ⟨w.heap.size, 1, none⟩ = some (.string xa) ∧ w'.cell? ⟨w.heap.size, 2, none⟩ = some (.string ya) ∧ w'.cell? ⟨w.heap.size + 1, 0, none⟩ = some (.bool nb) ∧ w'.cell? ⟨w.heap.size + 1, 1, none⟩ = some (.string xb) ∧ w'.cell? ⟨w.heap.size + 1, 2, none⟩ = some (.string yb)) ∧ Hid (Box w' w.heap.size na xa ya ∧ Box w' (w.heap.size + 1) nb xb yb ∧ Below w.heap.size w w'))
    (first
      | exact six_of (hba2.far3 (by omega) _ _ _) (hbb2.far3 (by omega) _ _ _) (below_put hB2 (by omega) _ _ _)
      | exact six_of hba2 hbb2 hB2 | exact six_of hba1 hbb1 hB1 | exact six_of hba hbb hB0)
    (first
      | (have hba1' := hba1; go_at_call 17; refine (fAdd_any na (!nb) xa ya xb yb _ hxa hya hxb hyb).mono ?_; rintro e w2 ⟨rfl, hb2⟩; have hba2 := hba1'.below hb2 hba1'.lt; have hbb2 := hbb1.below hb2 hbb1.lt; have hbr2 := hbr1.below hb2 hbr1.lt; have hB2 := hB1.trans (hb2.mono hB1.size); obtain ⟨k0, k1, k2, f0, f1, f2⟩ := hbr2.facts; rw [C_eq])
      | (go_at_call 47; refine (opposite_any nb xb yb _).mono ?_; rintro e w1 ⟨rfl, hb1⟩; have hba1 := hba.below hb1 hba.lt; have hbb1 := hbb.below hb1 hbb.lt; have hbr1 := hbr.below hb1 hbr.lt; have hB1 := hB0.trans (hb1.mono hB0.size)))
  go_wp2
  refine bodyPost_ret ((hbr2.put _ _ _).result rfl _ rfl) rfl ?_
  exact ⟨by rw [← HQ.out]; rfl, below_put hB2 (by omega) _ _ _⟩

theorem cmp_of {p q : Rat} {n : Bool} {x d : Nat} (hd : d ≠ 0) (h : mkRat (sg n x) d = p - q) : cmpQ p q = if x = 0 then 0 else if n = true then -1 else 1 := by
  by_cases hx : x = 0
  · rw [if_pos hx]
    rw [hx, sg_zero, Rat.zero_mkRat] at h
    have : p = q := by grind
    subst this
    rw [cmpQ, if_neg (by grind), if_pos rfl]
  · rw [if_neg hx]
    obtain ⟨h1, h2⟩ := mk_sign n x d hd hx
    cases n
    · have := h2 rfl
      rw [h] at this
      rw [if_neg (by decide), cmpQ, if_neg (by grind), if_neg (by grind)]
    · have := h1 rfl
      rw [h] at this
      rw [if_pos rfl, cmpQ, if_pos (by grind)]

set_option maxRecDepth 100000 in
set_option maxHeartbeats 4000000 in
theorem fCmp_any (na nb : Bool) (xa ya xb yb : ByteArray) (w : World) (hxa : xa.size ≤ 137438953472) (hya : ya.size ≤ 137438953472) (hxb : xb.size ≤ 137438953472) (hyb : yb.size ≤ 137438953472) :
    Calls Tryd.prog 23 #[.agg #[.bool na, .string xa, .string ya], .agg #[.bool nb, .string xb, .string yb]] w fun e w' => e = .returned (.int .i64 (cmpQ (val na xa ya) (val nb xb yb))) ∧ Below w.heap.size w w' := by
  have hq : val na xa ya + val (!nb) xb yb = val na xa ya - val nb xb yb := by rw [val_not, Rat.sub_eq_add_neg]
  have HQ := hide hq
  clear hq
  go_enter Tryd.func23, Tryd.ntmps23
  have hba := ((Box.at (w := w) rfl na xa ya).alloc (FC nb xb yb)).drew
  have hbb := (Box.at (w := w.alloc (FC na xa ya)) (g := w.heap.size + 1) (by simp) nb xb yb).drew
  have hB0 : Below w.heap.size w ((w.alloc (FC na xa ya)).alloc (FC nb xb yb)).drew := (((Below.refl _ w).alloc (Nat.le_refl _) _).alloc (by simp) _).drew
  go_upto_region 1 with fail
  go_region_held3 (fun w' => (w'.cell? ⟨w.heap.size, 0, none⟩ = some (.bool na) ∧ w'.cell? ⟨w.heap.size, 1, none⟩ = some (.string xa) ∧ w'.cell? ⟨w.heap.size, 2, none⟩ = some (.string ya) ∧ w'.cell? ⟨w.heap.size + 1, 0, none⟩ = some (.bool nb) ∧ w'.cell? ⟨w.heap.size + 1, 1, none⟩ = some (.string xb) ∧ w'.cell? ⟨w.heap.size + 1, 2, none⟩ = some (.string yb)) ∧ Hid (Box w' w.heap.size na xa ya ∧ Box w' (w.heap.size + 1) nb xb yb ∧ Below w.heap.size w w'))
    (first
      | exact six_of hba2 hbb2 hB2 | exact six_of hba1 hbb1 hB1 | exact six_of hba hbb hB0)
    (first
      | (have hba1' := hba1; go_at_call 45; refine (together_any na (!nb) xa ya xb yb _ hxa hya hxb hyb).mono ?_; rintro e w2 ⟨n, x, d, rfl, hd, hv, sx, sd, hb2⟩; have hba2 := hba1'.below hb2 hba1'.lt; have hbb2 := hbb1.below hb2 hbb1.lt; have hB2 := hB1.trans (hb2.mono hB1.size); have hcmp := hide (cmp_of hd (hv.trans HQ.out)); clear hv)
      | (go_at_call 47; refine (opposite_any nb xb yb _).mono ?_; rintro e w1 ⟨rfl, hb1⟩; have hba1 := hba.below hb1 hba.lt; have hbb1 := hbb.below hb1 hbb.lt; have hB1 := hB0.trans (hb1.mono hB0.size)))
  have hN : ∀ V : World, Calls Tryd.prog 48 #[.string (B x)] V fun e w' => e = .returned (.bool (decide (x = 0))) ∧ w' = V := fun V => by
    have := isNought_any (B x) V
    rwa [N_B] at this
  have HN := hide hN
  clear hN
  go_wp2_with fail
  refine (HN.out _).mono ?_
  rintro e w3 ⟨rfl, hw⟩
  subst hw
  by_cases h0 : x = 0
  · rw [decide_eq_true h0]
    go_wp2
    go_ret
    exact ⟨by rw [hcmp.out, if_pos h0]; rfl, hB2⟩
  · rw [decide_eq_false h0]
    cases n
    · go_wp2
      go_ret
      exact ⟨by rw [hcmp.out, if_neg h0]; rfl, hB2⟩
    · go_wp2
      go_ret
      exact ⟨by rw [hcmp.out, if_neg h0]; rfl, hB2⟩
end Go.Proofs.YtghjhflfcambjaaDoor
