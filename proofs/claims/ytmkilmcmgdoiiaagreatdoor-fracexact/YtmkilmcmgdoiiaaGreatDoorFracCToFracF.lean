/- Package frac's sums, differences, products and quotients. -/
import Derived.Test.YtmkilmcmgdoiiaaGreatDoorFracAToFracB
import Derived.Laws.ResultCell
namespace Go.Proofs.YtmkilmcmgdoiiaaGreatDoor
open Go.RowKit

/-- The fields of a rational number, as package frac writes them. -/
def sgn (q : Rat) : Bool := decide (q.num < 0)
def nu (q : Rat) : ByteArray := B q.num.natAbs
def de (q : Rat) : ByteArray := B q.den
theorem C_eq (q : Rat) : C q = .agg #[.bool (sgn q), .string (nu q), .string (de q)] := rfl
theorem val_own (q : Rat) : val (sgn q) (nu q) (de q) = q := val_C q
theorem own_size (q : Rat) : (nu q).size + (de q).size = qw q := rfl

set_option maxRecDepth 100000 in
set_option maxHeartbeats 1000000 in
theorem Canon_any (n : Bool) (x y : ByteArray) (w : World) (hx : x.size ≤ 1099511627776) (hy : y.size ≤ 1099511627776) :
    Calls Tryz.prog 36 #[.agg #[.bool n, .string x, .string y]] w fun e w' => e = .returned (C (val n x y)) ∧ Below w.heap.size w w' := by
  go_enter Tryz.func36, Tryz.ntmps36
  have hbx := Box.at (w := w.alloc (FC n x y)) (g := w.heap.size + 1) (by simp) false ⟨#[]⟩ ⟨#[]⟩
  have hB0 : Below w.heap.size w ((w.alloc (FC n x y)).alloc (FC false ⟨#[]⟩ ⟨#[]⟩)) := ((Below.refl _ w).alloc (Nat.le_refl _) _).alloc (by simp) _
  go_wp2_with fail
  refine (Make_any n x y _ hx hy).mono ?_
  rintro e w1 ⟨rfl, hb1⟩
  have hx1 := hbx.below hb1 hbx.lt
  have hB1 : Below w.heap.size w w1 := hB0.trans (hb1.mono hB0.size)
  obtain ⟨k0, k1, k2, f0, f1, f2⟩ := hx1.facts
  clear hbx hB0
  rw [C_eq]
  go_wp2
  refine bodyPost_ret ((hx1.put _ _ _).result rfl _ rfl) rfl ?_
  exact ⟨rfl, below_put hB1 (by omega) _ _ _⟩

set_option maxRecDepth 100000 in
set_option maxHeartbeats 1000000 in
theorem fAdd_any (na nb : Bool) (xa ya xb yb : ByteArray) (w : World) (hxa : xa.size ≤ 137438953472) (hya : ya.size ≤ 137438953472) (hxb : xb.size ≤ 137438953472) (hyb : yb.size ≤ 137438953472) :
    Calls Tryz.prog 39 #[.agg #[.bool na, .string xa, .string ya], .agg #[.bool nb, .string xb, .string yb]] w fun e w' => e = .returned (C (val na xa ya + val nb xb yb)) ∧ Below w.heap.size w w' := by
  go_enter Tryz.func39, Tryz.ntmps39
  have hbx := Box.at (w := (w.alloc (FC na xa ya)).alloc (FC nb xb yb)) (g := w.heap.size + 2) (by simp) false ⟨#[]⟩ ⟨#[]⟩
  have hB0 : Below w.heap.size w (((w.alloc (FC na xa ya)).alloc (FC nb xb yb)).alloc (FC false ⟨#[]⟩ ⟨#[]⟩)) := (((Below.refl _ w).alloc (Nat.le_refl _) _).alloc (by simp) _).alloc (by simp; omega) _
  go_wp2_with fail
  refine (together_any na nb xa ya xb yb _ hxa hya hxb hyb).mono ?_
  rintro e w1 ⟨n, x, d, rfl, hd, hv, sx, sd, hb1⟩
  have hx1 := hbx.below hb1 hbx.lt
  have hB1 : Below w.heap.size w w1 := hB0.trans (hb1.mono hB0.size)
  clear hbx hB0
  go_wp2_with fail
  refine (Make_any n (B x) (B d) _ sx sd).mono ?_
  rintro e w2 ⟨rfl, hb2⟩
  have hx2 := hx1.below hb2 hx1.lt
  have hB2 : Below w.heap.size w w2 := hB1.trans (hb2.mono hB1.size)
  have hq : val n (B x) (B d) = val na xa ya + val nb xb yb := by rw [← hv, val, N_B, N_B]
  rw [hq]
  clear hx1 hB1 hq hv
  obtain ⟨k0, k1, k2, f0, f1, f2⟩ := hx2.facts
  rw [C_eq]
  go_wp2
  refine bodyPost_ret ((hx2.put _ _ _).result rfl _ rfl) rfl ?_
  exact ⟨rfl, below_put hB2 (by omega) _ _ _⟩
end Go.Proofs.YtmkilmcmgdoiiaaGreatDoor

/- Package frac's differences, products, quotients and comparisons. -/
namespace Go.Proofs.YtmkilmcmgdoiiaaGreatDoor
open Go.RowKit

theorem Box.far3 {w : World} {g g' : Nat} {neg : Bool} {num den : ByteArray} (h : Box w g neg num den) (hg : g ≠ g') (u v x : Value) : Box (((w.setCell ⟨g', 0, none⟩ u).setCell ⟨g', 1, none⟩ v).setCell ⟨g', 2, none⟩ x) g neg num den :=
  ((h.far hg u).far hg v).far hg x
theorem six_of {w w' : World} {g h : Nat} {n m : Bool} {x y u v : ByteArray} (h1 : Box w' g n x y) (h2 : Box w' h m u v) (h3 : Below w.heap.size w w') : (w'.cell? ⟨g, 0, none⟩ = some (.bool n) ∧ w'.cell? ⟨g, 1, none⟩ = some (.string x) ∧ w'.cell? ⟨g, 2, none⟩ = some (.string y) ∧ w'.cell? ⟨h, 0, none⟩ = some (.bool m) ∧ w'.cell? ⟨h, 1, none⟩ = some (.string u) ∧ w'.cell? ⟨h, 2, none⟩ = some (.string v)) ∧ Hid (Box w' g n x y ∧ Box w' h m u v ∧ Below w.heap.size w w') :=
  ⟨⟨h1.c0, h1.c1, h1.c2, h2.c0, h2.c1, h2.c2⟩, h1, h2, h3⟩

set_option maxRecDepth 100000 in
set_option maxHeartbeats 4000000 in
theorem fMul_any (na nb : Bool) (xa ya xb yb : ByteArray) (w : World) (hxa : xa.size ≤ 137438953472) (hya : ya.size ≤ 137438953472) (hxb : xb.size ≤ 137438953472) (hyb : yb.size ≤ 137438953472) :
    Calls Tryz.prog 43 #[.agg #[.bool na, .string xa, .string ya], .agg #[.bool nb, .string xb, .string yb]] w fun e w' => e = .returned (C (val na xa ya * val nb xb yb)) ∧ Below w.heap.size w w' := by
  have sx : (B (N xa * N xb)).size ≤ 1099511627776 := by have := sz_mul (N xa) (N xb); have := B_size_le xa; have := B_size_le xb; omega
  have sy : (B (N ya * N yb)).size ≤ 1099511627776 := by have := sz_mul (N ya) (N yb); have := B_size_le ya; have := B_size_le yb; omega
  have hq : val (na != nb) (B (N xa * N xb)) (B (N ya * N yb)) = val na xa ya * val nb xb yb := by rw [← val_mul, val, N_B, N_B]
  have HQ := hide hq
  clear hq
  have hxa' : xa.size ≤ 1099511627776 := by omega
  have hya' : ya.size ≤ 1099511627776 := by omega
  have hxb' : xb.size ≤ 1099511627776 := by omega
  have hyb' : yb.size ≤ 1099511627776 := by omega
  clear hxa hya hxb hyb
  go_enter Tryz.func43, Tryz.ntmps43
  have hba := (((Box.at (w := w) rfl na xa ya).alloc (FC nb xb yb)).alloc (FC false ⟨#[]⟩ ⟨#[]⟩)).drew
  have hbb := ((Box.at (w := w.alloc (FC na xa ya)) (g := w.heap.size + 1) (by simp) nb xb yb).alloc (FC false ⟨#[]⟩ ⟨#[]⟩)).drew
  have hbr := (Box.at (w := (w.alloc (FC na xa ya)).alloc (FC nb xb yb)) (g := w.heap.size + 2) (by simp) false ⟨#[]⟩ ⟨#[]⟩).drew
  have hB0 : Below w.heap.size w (((w.alloc (FC na xa ya)).alloc (FC nb xb yb)).alloc (FC false ⟨#[]⟩ ⟨#[]⟩)).drew := ((((Below.refl _ w).alloc (Nat.le_refl _) _).alloc (by simp) _).alloc (by simp; omega) _).drew
  go_upto_region 1 with fail
  go_region_held3 (fun w' => (w'.cell? ⟨w.heap.size, 0, none⟩ = some (.bool na) ∧ w'.cell? ⟨w.heap.size, 1, none⟩ = some (.string xa) ∧ w'.cell? ⟨w.heap.size, 2, none⟩ = some (.string ya) ∧ w'.cell? ⟨w.heap.size + 1, 0, none⟩ = some (.bool nb) ∧ w'.cell? ⟨w.heap.size + 1, 1, none⟩ = some (.string xb) ∧ w'.cell? ⟨w.heap.size + 1, 2, none⟩ = some (.string yb)) ∧ Hid (Box w' w.heap.size na xa ya ∧ Box w' (w.heap.size + 1) nb xb yb ∧ Below w.heap.size w w'))
    (first
      | exact six_of (hba3.far3 (by omega) _ _ _) (hbb3.far3 (by omega) _ _ _) (below_put hB3 (by omega) _ _ _)
      | exact six_of hba3 hbb3 hB3 | exact six_of hba2 hbb2 hB2 | exact six_of hba1 hbb1 hB1 | exact six_of hba hbb hB0)
    (first
      | (have hba2' := hba2; go_at_call 34; refine (Make_any _ _ _ _ sx sy).mono ?_; rintro e w3 ⟨rfl, hb3⟩; have hba3 := hba2'.below hb3 hba2'.lt; have hbb3 := hbb2.below hb3 hbb2.lt; have hbr3 := hbr2.below hb3 hbr2.lt; have hB3 := hB2.trans (hb3.mono hB2.size); obtain ⟨k0, k1, k2, f0, f1, f2⟩ := hbr3.facts; rw [C_eq])
      | (have hba1' := hba1; go_at_call 16; refine (Mul_any ya yb _ hya' hyb').mono ?_; rintro e w2 ⟨rfl, hb2⟩; have hba2 := hba1'.below hb2 hba1'.lt; have hbb2 := hbb1.below hb2 hbb1.lt; have hbr2 := hbr1.below hb2 hbr1.lt; have hB2 := hB1.trans (hb2.mono hB1.size))
      | (go_at_call 16; refine (Mul_any xa xb _ hxa' hxb').mono ?_; rintro e w1 ⟨rfl, hb1⟩; have hba1 := hba.below hb1 hba.lt; have hbb1 := hbb.below hb1 hbb.lt; have hbr1 := hbr.below hb1 hbr.lt; have hB1 := hB0.trans (hb1.mono hB0.size)))
  go_wp2
  refine bodyPost_ret ((hbr3.put _ _ _).result rfl _ rfl) rfl ?_
  exact ⟨by rw [← HQ.out]; rfl, below_put hB3 (by omega) _ _ _⟩
end Go.Proofs.YtmkilmcmgdoiiaaGreatDoor

/- Package frac's differences, comparisons and quotients. -/
namespace Go.Proofs.YtmkilmcmgdoiiaaGreatDoor
open Go.RowKit

theorem Box.result2 {w : World} {g : Nat} {neg : Bool} {num den : ByteArray} (h : Box w g neg num den) {fn : Func} {p u : Tmp} (hr : fn.results = #[.cell p 39, .tmp u]) (tmps : Array Value) (hp : tmps.getD p undef = .pointer (some ⟨g, 0, none⟩)) :
    (results fn tmps).run Tryz.prog w = .ok (.tuple #[.agg #[.bool neg, .string num, .string den], tmps.getD u undef]) w := by
  rw [results_cell_tmp hr, hp]
  simp only [asAddr, Sem.run_pure, Result.andThen_ok]
  rw [run_loadVar_row w g _ 39 _ _ _ h Tryz.underlying39 rfl (by kernel_rfl)]
  simp only [Result.andThen_ok]

set_option maxRecDepth 100000 in
set_option maxHeartbeats 4000000 in
theorem fSub_any (na nb : Bool) (xa ya xb yb : ByteArray) (w : World) (hxa : xa.size ≤ 137438953472) (hya : ya.size ≤ 137438953472) (hxb : xb.size ≤ 137438953472) (hyb : yb.size ≤ 137438953472) :
    Calls Tryz.prog 41 #[.agg #[.bool na, .string xa, .string ya], .agg #[.bool nb, .string xb, .string yb]] w fun e w' => e = .returned (C (val na xa ya - val nb xb yb)) ∧ Below w.heap.size w w' := by
  have hq : val na xa ya + val (!nb) xb yb = val na xa ya - val nb xb yb := by rw [val_not, Rat.sub_eq_add_neg]
  have HQ := hide hq
  clear hq
  go_enter Tryz.func41, Tryz.ntmps41
  have hba := (((Box.at (w := w) rfl na xa ya).alloc (FC nb xb yb)).alloc (FC false ⟨#[]⟩ ⟨#[]⟩)).drew
  have hbb := ((Box.at (w := w.alloc (FC na xa ya)) (g := w.heap.size + 1) (by simp) nb xb yb).alloc (FC false ⟨#[]⟩ ⟨#[]⟩)).drew
  have hbr := (Box.at (w := (w.alloc (FC na xa ya)).alloc (FC nb xb yb)) (g := w.heap.size + 2) (by simp) false ⟨#[]⟩ ⟨#[]⟩).drew
  have hB0 : Below w.heap.size w (((w.alloc (FC na xa ya)).alloc (FC nb xb yb)).alloc (FC false ⟨#[]⟩ ⟨#[]⟩)).drew := ((((Below.refl _ w).alloc (Nat.le_refl _) _).alloc (by simp) _).alloc (by simp; omega) _).drew
  go_upto_region 1 with fail
  go_region_held3 (fun w' => (w'.cell? ⟨w.heap.size, 0, none⟩ = some (.bool na) ∧ w'.cell? ⟨w.heap.size, 1, none⟩ = some (.string xa) ∧ w'.cell? ⟨w.heap.size, 2, none⟩ = some (.string ya) ∧ w'.cell? ⟨w.heap.size + 1, 0, none⟩ = some (.bool nb) ∧ w'.cell? ⟨w.heap.size + 1, 1, none⟩ = some (.string xb) ∧ w'.cell? ⟨w.heap.size + 1, 2, none⟩ = some (.string yb)) ∧ Hid (Box w' w.heap.size na xa ya ∧ Box w' (w.heap.size + 1) nb xb yb ∧ Below w.heap.size w w'))
    (first
      | exact six_of (hba2.far3 (by omega) _ _ _) (hbb2.far3 (by omega) _ _ _) (below_put hB2 (by omega) _ _ _)
      | exact six_of hba2 hbb2 hB2 | exact six_of hba1 hbb1 hB1 | exact six_of hba hbb hB0)
    (first
      | (have hba1' := hba1; go_at_call 39; refine (fAdd_any na (!nb) xa ya xb yb _ hxa hya hxb hyb).mono ?_; rintro e w2 ⟨rfl, hb2⟩; have hba2 := hba1'.below hb2 hba1'.lt; have hbb2 := hbb1.below hb2 hbb1.lt; have hbr2 := hbr1.below hb2 hbr1.lt; have hB2 := hB1.trans (hb2.mono hB1.size); obtain ⟨k0, k1, k2, f0, f1, f2⟩ := hbr2.facts; rw [C_eq])
      | (go_at_call 83; refine (opposite_any nb xb yb _).mono ?_; rintro e w1 ⟨rfl, hb1⟩; have hba1 := hba.below hb1 hba.lt; have hbb1 := hbb.below hb1 hbb.lt; have hbr1 := hbr.below hb1 hbr.lt; have hB1 := hB0.trans (hb1.mono hB0.size)))
  go_wp2
  refine bodyPost_ret ((hbr2.put _ _ _).result rfl _ rfl) rfl ?_
  exact ⟨by rw [← HQ.out]; rfl, below_put hB2 (by omega) _ _ _⟩

theorem cmp_of {p q : Rat} {n : Bool} {x d : Nat} (hd : d ≠ 0) (h : mkRat (sg n x) d = p - q) : cmpQ p q = if x = 0 then 0 else if n = true then -1 else 1 := by
  by_cases hx : x = 0
  · rw [if_pos hx]
    rw [hx, sg_zero, Rat.zero_mkRat] at h
    have : p = q := by grind
    subst this
    rw [cmpQ, if_neg (by grind), if_pos rfl]
  · rw [if_neg hx]
    obtain ⟨h1, h2⟩ := mk_sign n x d hd hx
    cases n
    · have := h2 rfl
      rw [h] at this
      rw [if_neg (by decide), cmpQ, if_neg (by grind), if_neg (by grind)]
    · have := h1 rfl
      rw [h] at this
      rw [if_pos rfl, cmpQ, if_pos (by grind)]

set_option maxRecDepth 100000 in
set_option maxHeartbeats 4000000 in
theorem fCmp_any (na nb : Bool) (xa ya xb yb : ByteArray) (w : World) (hxa : xa.size ≤ 137438953472) (hya : ya.size ≤ 137438953472) (hxb : xb.size ≤ 137438953472) (hyb : yb.size ≤ 137438953472) :
    Calls Tryz.prog 45 #[.agg #[.bool na, .string xa, .string ya], .agg #[.bool nb, .string xb, .string yb]] w fun e w' => e = .returned (.int .i64 (cmpQ (val na xa ya) (val nb xb yb))) ∧ Below w.heap.size w w' := by
  have hq : val na xa ya + val (!nb) xb yb = val na xa ya - val nb xb yb := by rw [val_not, Rat.sub_eq_add_neg]
  have HQ := hide hq
  clear hq
  go_enter Tryz.func45, Tryz.ntmps45
  have hba := ((Box.at (w := w) rfl na xa ya).alloc (FC nb xb yb)).drew
  have hbb := (Box.at (w := w.alloc (FC na xa ya)) (g := w.heap.size + 1) (by simp) nb xb yb).drew
  have hB0 : Below w.heap.size w ((w.alloc (FC na xa ya)).alloc (FC nb xb yb)).drew := (((Below.refl _ w).alloc (Nat.le_refl _) _).alloc (by simp) _).drew
  go_upto_region 1 with fail
  go_region_held3 (fun w' => (w'.cell? ⟨w.heap.size, 0, none⟩ = some (.bool na) ∧ w'.cell? ⟨w.heap.size, 1, none⟩ = some (.string xa) ∧ w'.cell? ⟨w.heap.size, 2, none⟩ = some (.string ya) ∧ w'.cell? ⟨w.heap.size + 1, 0, none⟩ = some (.bool nb) ∧ w'.cell? ⟨w.heap.size + 1, 1, none⟩ = some (.string xb) ∧ w'.cell? ⟨w.heap.size + 1, 2, none⟩ = some (.string yb)) ∧ Hid (Box w' w.heap.size na xa ya ∧ Box w' (w.heap.size + 1) nb xb yb ∧ Below w.heap.size w w'))
    (first
      | exact six_of hba2 hbb2 hB2 | exact six_of hba1 hbb1 hB1 | exact six_of hba hbb hB0)
    (first
      | (have hba1' := hba1; go_at_call 82; refine (together_any na (!nb) xa ya xb yb _ hxa hya hxb hyb).mono ?_; rintro e w2 ⟨n, x, d, rfl, hd, hv, sx, sd, hb2⟩; have hba2 := hba1'.below hb2 hba1'.lt; have hbb2 := hbb1.below hb2 hbb1.lt; have hB2 := hB1.trans (hb2.mono hB1.size); have hcmp := hide (cmp_of hd (hv.trans HQ.out)); clear hv)
      | (go_at_call 83; refine (opposite_any nb xb yb _).mono ?_; rintro e w1 ⟨rfl, hb1⟩; have hba1 := hba.below hb1 hba.lt; have hbb1 := hbb.below hb1 hbb.lt; have hB1 := hB0.trans (hb1.mono hB0.size)))
  have hN : ∀ V : World, Calls Tryz.prog 74 #[.string (B x)] V fun e w' => e = .returned (.bool (decide (x = 0))) ∧ w' = V := fun V => by
    have := isNought_any (B x) V
    rwa [N_B] at this
  have HN := hide hN
  clear hN
  go_wp2_with fail
  refine (HN.out _).mono ?_
  rintro e w3 ⟨rfl, hw⟩
  subst hw
  by_cases h0 : x = 0
  · rw [decide_eq_true h0]
    go_wp2
    go_ret
    exact ⟨by rw [hcmp.out, if_pos h0]; rfl, hB2⟩
  · rw [decide_eq_false h0]
    cases n
    · go_wp2
      go_ret
      exact ⟨by rw [hcmp.out, if_neg h0]; rfl, hB2⟩
    · go_wp2
      go_ret
      exact ⟨by rw [hcmp.out, if_neg h0]; rfl, hB2⟩
end Go.Proofs.YtmkilmcmgdoiiaaGreatDoor

/- Package frac's quotients and whole numbers. -/
namespace Go.Proofs.YtmkilmcmgdoiiaaGreatDoor
open Go.RowKit

set_option maxRecDepth 100000 in
set_option maxHeartbeats 1000000 in
theorem fDiv_no (na nb : Bool) (xa ya xb yb : ByteArray) (w : World) (h : N xb = 0 ∨ N yb = 0) :
    Calls Tryz.prog 29 #[.agg #[.bool na, .string xa, .string ya], .agg #[.bool nb, .string xb, .string yb]] w fun e w' => e = .returned (.tuple #[.agg #[.bool false, .string ⟨#[]⟩, .string ⟨#[]⟩], .int .i64 3]) ∧ Below w.heap.size w w' := by
  have hX := fun V => isNought_any xb V
  have hY := fun V => isNought_any yb V
  have HX := hide hX
  have HY := hide hY
  clear hX hY
  go_enter Tryz.func29, Tryz.ntmps29
  have hbr := Box.at (w := (w.alloc (FC na xa ya)).alloc (FC nb xb yb)) (g := w.heap.size + 2) (by simp) false ⟨#[]⟩ ⟨#[]⟩
  have hB0 : Below w.heap.size w (((w.alloc (FC na xa ya)).alloc (FC nb xb yb)).alloc (FC false ⟨#[]⟩ ⟨#[]⟩)) := (((Below.refl _ w).alloc (Nat.le_refl _) _).alloc (by simp) _).alloc (by simp; omega) _
  by_cases h0 : N xb = 0
  · go_wp2_with fail
    refine (HX.out _).mono ?_
    rintro e w1 ⟨rfl, hw⟩
    subst hw
    rw [decide_eq_true h0]
    go_wp2
    refine bodyPost_ret (hbr.result2 rfl _ rfl) rfl ?_
    exact ⟨rfl, hB0⟩
  · have h1 : N yb = 0 := h.resolve_left h0
    go_wp2_with fail
    refine (HX.out _).mono ?_
    rintro e w1 ⟨rfl, hw⟩
    subst hw
    rw [decide_eq_false h0]
    go_wp2_with fail
    refine (HY.out _).mono ?_
    rintro e w1 ⟨rfl, hw⟩
    subst hw
    rw [decide_eq_true h1]
    go_wp2
    refine bodyPost_ret (hbr.result2 rfl _ rfl) rfl ?_
    exact ⟨rfl, hB0⟩

set_option maxRecDepth 100000 in
set_option maxHeartbeats 1000000 in
theorem fDiv_yes (na nb : Bool) (xa ya xb yb : ByteArray) (w : World) (h0 : N xb ≠ 0) (h1 : N yb ≠ 0) (hxa : xa.size ≤ 137438953472) (hya : ya.size ≤ 137438953472) (hxb : xb.size ≤ 137438953472) (hyb : yb.size ≤ 137438953472) :
    Calls Tryz.prog 29 #[.agg #[.bool na, .string xa, .string ya], .agg #[.bool nb, .string xb, .string yb]] w fun e w' => e = .returned (.tuple #[C (val na xa ya / val nb xb yb), .int .i64 0]) ∧ Below w.heap.size w w' := by
  have hX := fun V => isNought_any xb V
  have hY := fun V => isNought_any yb V
  have HX := hide hX
  have HY := hide hY
  clear hX hY
  have hq : val na xa ya * val nb yb xb = val na xa ya / val nb xb yb := by rw [val_inv nb xb yb h0 h1, Rat.div_def]
  go_enter Tryz.func29, Tryz.ntmps29
  have hbr := Box.at (w := (w.alloc (FC na xa ya)).alloc (FC nb xb yb)) (g := w.heap.size + 2) (by simp) false ⟨#[]⟩ ⟨#[]⟩
  have hB0 : Below w.heap.size w (((w.alloc (FC na xa ya)).alloc (FC nb xb yb)).alloc (FC false ⟨#[]⟩ ⟨#[]⟩)) := (((Below.refl _ w).alloc (Nat.le_refl _) _).alloc (by simp) _).alloc (by simp; omega) _
  go_wp2_with fail
  refine (HX.out _).mono ?_
  rintro e w1 ⟨rfl, hw⟩
  subst hw
  rw [decide_eq_false h0]
  go_wp2_with fail
  refine (HY.out _).mono ?_
  rintro e w1 ⟨rfl, hw⟩
  subst hw
  rw [decide_eq_false h1]
  go_wp2_with fail
  refine (fMul_any na nb xa ya yb xb _ hxa hya hyb hxb).mono ?_
  rintro e w1 ⟨rfl, hb1⟩
  rw [hq]
  have hx1 := hbr.below hb1 hbr.lt
  have hB1 : Below w.heap.size w w1 := hB0.trans (hb1.mono hB0.size)
  obtain ⟨k0, k1, k2, f0, f1, f2⟩ := hx1.facts
  clear hbr hB0
  rw [C_eq]
  go_wp2
  refine bodyPost_ret ((hx1.put _ _ _).result2 rfl _ rfl) rfl ?_
  exact ⟨rfl, below_put hB1 (by omega) _ _ _⟩

set_option maxRecDepth 100000 in
set_option maxHeartbeats 1000000 in
theorem fOf_nat (n : Nat) (w : World) (h : n ≤ 9223372036854775807) :
    Calls Tryz.prog 37 #[.int .i64 (n : Int)] w fun e w' => e = .returned (C (n : Rat)) ∧ Below w.heap.size w w' := by
  have hq : val false (B n) (B 1) = (n : Rat) := by
    rw [val, N_B, N_B]
    show mkRat (n : Int) 1 = _
    rw [Rat.mkRat_one]
    rfl
  have s1 := B_one_size
  have s2 : (B n).size ≤ 1099511627776 := by
    have := bn_fits 8 n (by show n < 18446744073709551616; omega)
    rw [← B_size n] at this
    omega
  go_enter Tryz.func37, Tryz.ntmps37
  have hbr := Box.at (w := w) rfl false ⟨#[]⟩ ⟨#[]⟩
  have hB0 : Below w.heap.size w (w.alloc (FC false ⟨#[]⟩ ⟨#[]⟩)) := (Below.refl _ w).alloc (Nat.le_refl _) _
  have hB := Below.refl (w.alloc (FC false ⟨#[]⟩ ⟨#[]⟩)).heap.size (w.alloc (FC false ⟨#[]⟩ ⟨#[]⟩))
  go_wp2_with fail
  refine (Of_to n hB rfl (by omega)).mono ?_
  rintro e w1 ⟨rfl, hB⟩
  go_wp2_with fail
  refine (Of_to 1 hB rfl (by omega)).mono ?_
  rintro e w1 ⟨rfl, hB⟩
  go_wp2_with fail
  refine (Make_any false (B n) (B 1) _ s2 (by omega)).mono ?_
  rintro e w2 ⟨rfl, hb2⟩
  rw [hq]
  have hx1 := (hbr.below hB hbr.lt).below hb2 (hbr.below hB hbr.lt).lt
  have hB1 : Below w.heap.size w w2 := (hB0.trans (hB.mono hB0.size)).trans (hb2.mono (hB0.trans (hB.mono hB0.size)).size)
  obtain ⟨k0, k1, k2, f0, f1, f2⟩ := hx1.facts
  clear hbr hB0 hB
  rw [C_eq]
  go_wp2
  refine bodyPost_ret ((hx1.put _ _ _).result rfl _ rfl) rfl ?_
  exact ⟨rfl, below_put hB1 (by omega) _ _ _⟩
end Go.Proofs.YtmkilmcmgdoiiaaGreatDoor
