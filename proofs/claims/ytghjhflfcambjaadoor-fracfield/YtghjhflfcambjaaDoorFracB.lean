/- together of package frac: the sum of two fractions, before it is cut. -/
import Derived.Test.YtghjhflfcambjaaDoorFracA
import Derived.Deep.CutRange
namespace Go.Proofs.YtghjhflfcambjaaDoor
open Go.RowKit

/-- divisible of three fields. -/
theorem divisible_any (n : Bool) (x y : ByteArray) (hx : x.size ≤ 1099511627776) (hy : y.size ≤ 1099511627776) : ∃ (n' : Bool) (x' y' : ByteArray), N y' ≠ 0 ∧ val n' x' y' = val n x y ∧ x'.size ≤ 1099511627776 ∧ y'.size ≤ 1099511627776 ∧ x'.size + y'.size ≤ x.size + y.size + 1 ∧ ∀ V : World,
    Calls Tryd.prog 70 #[.agg #[.bool n, .string x, .string y]] V fun e w' => e = .returned (.agg #[.bool n', .string x', .string y']) ∧ Below V.heap.size V w' := by
  have h1 := B_one_size
  by_cases h : N y = 0
  · refine ⟨false, ⟨#[]⟩, B 1, by rw [N_B]; decide, ?_, ?_, ?_, ?_, fun V => ?_⟩
    · rw [val_num0 N_empty, val_den0 h]
    · show 0 ≤ _; omega
    · omega
    · show 0 + _ ≤ _; omega
    · have := divisible_no n x y V h
      rwa [C_zero] at this
  · exact ⟨n, x, y, h, rfl, hx, hy, by omega, fun V => divisible_yes n x y V h⟩

theorem sg_add (a : Bool) (m n : Nat) : sg a (m + n) = sg a m + sg a n := by cases a <;> simp [sg, Int.neg_add]
theorem sg_sub {a b : Bool} (h : ¬ a = b) {m n k : Nat} (e : m = n + k) : sg a k = sg a m + sg b n := by
  cases a <;> cases b <;> simp [sg] at h ⊢ <;> omega
theorem sg_sub' {a b : Bool} (h : ¬ a = b) {m n k : Nat} (e : n = m + k) : sg b k = sg a m + sg b n := by
  cases a <;> cases b <;> simp [sg] at h ⊢ <;> omega

theorem one_of {w w' : World} {g : Nat} {n : Bool} {x y : ByteArray} (h1 : Box w' g n x y) (h3 : Below w.heap.size w w') : w'.cell? ⟨g, 0, none⟩ = some (.bool n) ∧ Hid (Box w' g n x y ∧ Below w.heap.size w w') :=
  ⟨h1.c0, h1, h3⟩
theorem two_of {w w' : World} {g h : Nat} {n m : Bool} {x y u v : ByteArray} (h1 : Box w' g n x y) (h2 : Box w' h m u v) (h3 : Below w.heap.size w w') : (w'.cell? ⟨g, 1, none⟩ = some (.string x) ∧ w'.cell? ⟨g, 2, none⟩ = some (.string y) ∧ w'.cell? ⟨h, 1, none⟩ = some (.string u) ∧ w'.cell? ⟨h, 2, none⟩ = some (.string v)) ∧ Hid (Box w' g n x y ∧ Box w' h m u v ∧ Below w.heap.size w w') :=
  ⟨⟨h1.c1, h1.c2, h2.c1, h2.c2⟩, h1, h2, h3⟩

set_option maxRecDepth 100000 in
set_option maxHeartbeats 4000000 in
theorem together_any (na nb : Bool) (xa ya xb yb : ByteArray) (w : World) (hxa : xa.size ≤ 137438953472) (hya : ya.size ≤ 137438953472) (hxb : xb.size ≤ 137438953472) (hyb : yb.size ≤ 137438953472) :
    Calls Tryd.prog 45 #[.agg #[.bool na, .string xa, .string ya], .agg #[.bool nb, .string xb, .string yb]] w fun e w' =>
      ∃ (n : Bool) (x d : Nat), e = .returned (.tuple #[.bool n, .string (B x), .string (B d)]) ∧ d ≠ 0 ∧ mkRat (sg n x) d = val na xa ya + val nb xb yb ∧ (B x).size ≤ 1099511627776 ∧ (B d).size ≤ 1099511627776 ∧ Below w.heap.size w w' := by
  obtain ⟨na', xa', ya', hya0, hva, sxa, sya, ssa, HA⟩ := divisible_any na xa ya (by omega) (by omega)
  obtain ⟨nb', xb', yb', hyb0, hvb, sxb, syb, ssb, HB⟩ := divisible_any nb xb yb (by omega) (by omega)
  have HA2 := hide HA
  have HB2 := hide HB
  clear HA HB
  go_enter Tryd.func45, Tryd.ntmps45
  have hba := ((Box.at (w := w) rfl na xa ya).alloc (FC nb xb yb)).drew
  have hbb := (Box.at (w := w.alloc (FC na xa ya)) (g := w.heap.size + 1) (by simp) nb xb yb).drew
  have hB0 : Below w.heap.size w ((w.alloc (FC na xa ya)).alloc (FC nb xb yb)).drew := (((Below.refl _ w).alloc (Nat.le_refl _) _).alloc (by simp) _).drew
  go_upto_region 1 with fail
  go_cut [] from 11 to 14 (fun wx => Box wx w.heap.size na' xa' ya' ∧ Box wx (w.heap.size + 1) nb' xb' yb' ∧ Below w.heap.size w wx)
  case first =>
    go_region_with (first
      | (have hba1' := hba1; go_at_call 70; refine (HB2.out _).mono ?_; rintro e w2 ⟨rfl, hb2⟩; have hba2 := Box.below hba1' hb2 hba1'.lt; have hbb2 := Box.below hbb1 hb2 hbb1.lt; have hB2 := hB1.trans (hb2.mono hB1.size); obtain ⟨k0, k1, k2, f0, f1, f2⟩ := hba2.facts; obtain ⟨j0, j1, j2, i0, i1, i2⟩ := hbb2.facts)
      | (go_at_call 70; refine (HA2.out _).mono ?_; rintro e w1 ⟨rfl, hb1⟩; have hba1 := Box.below hba hb1 hba.lt; have hbb1 := Box.below hbb hb1 hbb.lt; have hB1 := hB0.trans (hb1.mono hB0.size); obtain ⟨k0, k1, k2, f0, f1, f2⟩ := hba1.facts; obtain ⟨j0, j1, j2, i0, i1, i2⟩ := hbb1.facts))
    all_goals go_wp2_with fail
    all_goals go_meet
    all_goals exact ⟨((((hba2.put _ _ _).far (by omega) _).far (by omega) _).far (by omega) _), (((hbb2.far (by omega) _).far (by omega) _).far (by omega) _).put _ _ _, below_put (below_put hB2 (Nat.le_refl _) _ _ _) (by omega) _ _ _⟩
  case rest =>
    obtain ⟨hba, hbb, hB⟩ := hcut
    obtain ⟨k0, k1, k2, f0, f1, f2⟩ := hba.facts
    obtain ⟨j0, j1, j2, i0, i1, i2⟩ := hbb.facts
    clear HA2 HB2
    have sla := sz_mul (N xa') (N yb')
    have slb := sz_mul (N xb') (N ya')
    have sld := sz_mul (N ya') (N yb')
    have b1 := B_size_le xa'
    have b2 := B_size_le ya'
    have b3 := B_size_le xb'
    have b4 := B_size_le yb'
    go_upto_region 2 with fail
    go_cut [7, 8] from 15 to 24 (fun s7 s8 wx => s7 = .string (B (N xa' * N yb')) ∧ s8 = .string (B (N xb' * N ya')) ∧ Box wx w.heap.size na' xa' ya' ∧ Box wx (w.heap.size + 1) nb' xb' yb' ∧ Below w.heap.size w wx)
    case first =>
      clear hva hvb hya0 hyb0 ssa ssb b1 b2 b3 b4 sla slb sld k0 k1 k2 f0 f1 f2 j0 j1 j2 i0 i1 i2 hxa hya hxb hyb
      go_region_held3 (fun w' => (w'.cell? ⟨w.heap.size, 1, none⟩ = some (.string xa') ∧ w'.cell? ⟨w.heap.size, 2, none⟩ = some (.string ya') ∧ w'.cell? ⟨w.heap.size + 1, 1, none⟩ = some (.string xb') ∧ w'.cell? ⟨w.heap.size + 1, 2, none⟩ = some (.string yb')) ∧ Hid (Box w' w.heap.size na' xa' ya' ∧ Box w' (w.heap.size + 1) nb' xb' yb' ∧ Below w.heap.size w w'))
        (first | exact two_of hba2 hbb2 hB2 | exact two_of hba1 hbb1 hB1 | exact two_of hba.drew hbb.drew hB.drew)
        (first
          | (have hba1' := hba1; go_at_call 7; refine (Mul_any xb' ya' _ sxb sya).mono ?_; rintro e w2 ⟨rfl, hb2⟩; have hba2 := hba1'.below hb2 hba1'.lt; have hbb2 := hbb1.below hb2 hbb1.lt; have hB2 := hB1.trans (hb2.mono hB1.size))
          | (go_at_call 7; refine (Mul_any xa' yb' _ sxa syb).mono ?_; rintro e w1 ⟨rfl, hb1⟩; have hba1 := hba.drew.below hb1 hba.lt; have hbb1 := hbb.drew.below hb1 hbb.lt; have hB1 := hB.drew.trans (hb1.mono hB.size)))
      go_wp2_with fail
      go_meet
      exact ⟨rfl, rfl, hba2, hbb2, hB2⟩
    case rest =>
      obtain ⟨rfl, rfl, hba, hbb, hB⟩ := hcut
      obtain ⟨k0, k1, k2, f0, f1, f2⟩ := hba.facts
      obtain ⟨j0, j1, j2, i0, i1, i2⟩ := hbb.facts
      go_wp2_with fail
      refine (Mul_any ya' yb' _ sya syb).mono ?_
      rintro e w3 ⟨rfl, hb3⟩
      have hba3 := hba.below hb3 hba.lt
      have hbb3 := hbb.below hb3 hbb.lt
      have hB3 := hB.trans (hb3.mono hB.size)
      clear hba hbb hB k0 k1 k2 f0 f1 f2 j0 j1 j2 i0 i1 i2 hb3
      obtain ⟨k0, k1, k2, f0, f1, f2⟩ := hba3.facts
      obtain ⟨j0, j1, j2, i0, i1, i2⟩ := hbb3.facts
      have sl : (B (N xa' * N yb')).size ≤ 1099511627776 := by omega
      have sr : (B (N xb' * N ya')).size ≤ 1099511627776 := by omega
      have sd : (B (N ya' * N yb')).size ≤ 1099511627776 := by omega
      have sa := sz_add (N xa' * N yb') (N xb' * N ya')
      have sm := sz_mono (Nat.sub_le (N xa' * N yb') (N xb' * N ya'))
      have sn := sz_mono (Nat.sub_le (N xb' * N ya') (N xa' * N yb'))
      by_cases hn : na' = nb'
      · subst hn
        go_upto_region 5 with fail
        go_region_held3 (fun w' => w'.cell? ⟨w.heap.size, 0, none⟩ = some (.bool na') ∧ Hid (Box w' w.heap.size na' xa' ya' ∧ Below w.heap.size w w'))
          (first | exact one_of hba4 hB4 | exact one_of hba3.drew hB3.drew)
          (first
            | (go_at_call 6; refine (Add_any _ _ _ sl sr).mono ?_; rintro e w4 ⟨rfl, hb4⟩; have hba4 := hba3.drew.below hb4 hba3.lt; have hB4 := hB3.drew.trans (hb4.mono hB3.size)))
        go_wp2
        go_ret3
        refine ⟨na', N xa' * N yb' + N xb' * N ya', N ya' * N yb', by rw [N_B, N_B]; rfl, Nat.mul_ne_zero hya0 hyb0, ?_, by omega, by omega, hB4⟩
        rw [← hva, ← hvb, sg_add, val_add _ _ _ _ _ _ hya0 hyb0]
      · have hB' := Below.refl w3.heap.size w3
        have hn1 : (na' == nb') = false := by simp [hn]
        have hn2 : decide (na' = nb') = false := decide_eq_false hn
        by_cases hle : N xb' * N ya' ≤ N xa' * N yb'
        · go_wp2_with fail
          refine (Sub_to (N xa' * N yb' - N xb' * N ya') hB' (by rw [N_B, N_B]; omega) sl sr).mono ?_
          rintro e w4 ⟨rfl, hb4⟩
          have hba4 := hba3.below hb4 hba3.lt
          have hB4 := hB3.trans (hb4.mono hB3.size)
          obtain ⟨k0, k1, k2, f0, f1, f2⟩ := hba4.facts
          go_wp2
          go_ret3
          refine ⟨na', N xa' * N yb' - N xb' * N ya', N ya' * N yb', rfl, Nat.mul_ne_zero hya0 hyb0, ?_, by omega, by omega, hB4⟩
          rw [← hva, ← hvb, sg_sub hn (m := N xa' * N yb') (n := N xb' * N ya') (by omega), val_add _ _ _ _ _ _ hya0 hyb0]
        · go_wp2_with fail
          refine (Sub_not hB' (by rw [N_B, N_B]; omega)).mono ?_
          rintro e w4 ⟨rfl, hb4⟩
          have hbb4 := hbb3.below hb4 hbb3.lt
          have hB4 := hB3.trans (hb4.mono hB3.size)
          have hB'' := Below.refl w4.heap.size w4
          go_wp2_with fail
          refine (Sub_to (N xb' * N ya' - N xa' * N yb') hB'' (by rw [N_B, N_B]; omega) sr sl).mono ?_
          rintro e w5 ⟨rfl, hb5⟩
          have hbb5 := hbb4.below hb5 hbb4.lt
          have hB5 := hB4.trans (hb5.mono hB4.size)
          obtain ⟨j0, j1, j2, i0, i1, i2⟩ := hbb5.facts
          go_wp2
          go_ret3
          refine ⟨nb', N xb' * N ya' - N xa' * N yb', N ya' * N yb', rfl, Nat.mul_ne_zero hya0 hyb0, ?_, by omega, by omega, hB5⟩
          rw [← hva, ← hvb, sg_sub' hn (m := N xa' * N yb') (n := N xb' * N ya') (by omega), val_add _ _ _ _ _ _ hya0 hyb0]
end Go.Proofs.YtghjhflfcambjaaDoor
