/- The law FracField answers true: fractions are a field in order. -/
import Derived.Test.YtghjhflfcambjaaDoorFieldA
namespace Go.Proofs.YtghjhflfcambjaaDoor
open Go.RowKit

set_option maxRecDepth 100000 in
set_option maxHeartbeats 16000000 in
theorem fracField_walk (na nb nc : Bool) (xa ya xb yb xc yc : ByteArray) (a b c : Rat) (w : World) (hxa : xa.size ≤ 140737488355328) (hya : ya.size ≤ 140737488355328) (hxb : xb.size ≤ 140737488355328) (hyb : yb.size ≤ 140737488355328) (hxc : xc.size ≤ 140737488355328) (hyc : yc.size ≤ 140737488355328)
    (HA : Hid (val na xa ya = a)) (HB : Hid (val nb xb yb = b)) (HC : Hid (val nc xc yc = c)) :
    Calls Tryd.prog 5 #[.agg #[.bool na, .string xa, .string ya], .agg #[.bool nb, .string xb, .string yb], .agg #[.bool nc, .string xc, .string yc]] w fun e w' => e = .returned (.bool true) ∧ Below w.heap.size w w' := by
  go_enter Tryd.func5, Tryd.ntmps5
  have hba := ((Box.at (w := w) rfl na xa ya).alloc (FC nb xb yb)).alloc (FC nc xc yc)
  have hbb := (Box.at (w := w.alloc (FC na xa ya)) (g := w.heap.size + 1) (by simp) nb xb yb).alloc (FC nc xc yc)
  have hbc := Box.at (w := (w.alloc (FC na xa ya)).alloc (FC nb xb yb)) (g := w.heap.size + 2) (by simp) nc xc yc
  have hB0 : Below w.heap.size w (((w.alloc (FC na xa ya)).alloc (FC nb xb yb)).alloc (FC nc xc yc)) := (((Below.refl _ w).alloc (Nat.le_refl _) _).alloc (by simp) _).alloc (by simp; omega) _
  go_wp2_with fail
  refine (fracBytes_trio (w.heap.size + 3) na nb nc xa ya xb yb xc yc _ ?_ hxa hya hxb hyb hxc hyc).mono ?_
  · show (World.alloc _ _).heap[w.heap.size + 3]? = _
    rw [show w.heap.size + 3 = (((w.alloc (FC na xa ya)).alloc (FC nb xb yb)).alloc (FC nc xc yc)).heap.size by simp]
    exact heap_alloc_new _ _
  rintro e w1 ⟨⟨r, rfl, hr⟩, hb1⟩
  have hba1 := (hba.alloc (.cells #[.bool na, .string xa, .string ya, .bool nb, .string xb, .string yb, .bool nc, .string xc, .string yc] 38)).below hb1 (hba.alloc _).lt
  have hbb1 := (hbb.alloc (.cells #[.bool na, .string xa, .string ya, .bool nb, .string xb, .string yb, .bool nc, .string xc, .string yc] 38)).below hb1 (hbb.alloc _).lt
  have hbc1 := (hbc.alloc (.cells #[.bool na, .string xa, .string ya, .bool nb, .string xb, .string yb, .bool nc, .string xc, .string yc] 38)).below hb1 (hbc.alloc _).lt
  have hV1 := hB0.alloc hB0.size (.cells #[.bool na, .string xa, .string ya, .bool nb, .string xb, .string yb, .bool nc, .string xc, .string yc] 38)
  have hB1 : Below w.heap.size w w1 := hV1.trans (hb1.mono hV1.size)
  clear hba hbb hbc hB0 hV1 hb1
  by_cases h200 : r ≤ 200
  case neg =>
    go_wp2
    go_ret
    exact ⟨rfl, hB1⟩
  have hsum := hr h200
  have sa : xa.size + ya.size ≤ 100000 := by omega
  have sb : xb.size + yb.size ≤ 100000 := by omega
  have sc : xc.size + yc.size ≤ 100000 := by omega
  have HL := hide (long_of HA.out HB.out HC.out (by omega) (by omega) (by omega))
  have hS := hide (show xa.size + ya.size ≤ 1000 ∧ xb.size + yb.size ≤ 1000 ∧ xc.size + yc.size ≤ 1000 by omega)
  clear hr hsum hxa hya hxb hyb hxc hyc
  obtain ⟨k0, k1, k2, -⟩ := hba1.facts
  obtain ⟨j0, j1, j2, -⟩ := hbb1.facts
  go_wp2_with fail
  refine (fAdd_q (a + b) HA.out HB.out rfl sa sb).mono ?_
  rintro e w2 ⟨rfl, hb2⟩
  have hba2 := hba1.below hb2 hba1.lt
  have hbb2 := hbb1.below hb2 hbb1.lt
  have hbc2 := hbc1.below hb2 hbc1.lt
  have hB2 := hB1.trans (hb2.mono hB1.size)
  clear hba1 hbb1 hbc1 hB1 hb2 k0 k1 k2 j0 j1 j2
  have hba3 := hba2.alloc (FC (sgn (a + b)) (nu (a + b)) (de (a + b)))
  have hbb3 := hbb2.alloc (FC (sgn (a + b)) (nu (a + b)) (de (a + b)))
  have hbc3 := hbc2.alloc (FC (sgn (a + b)) (nu (a + b)) (de (a + b)))
  have hbs3 := Box.at (w := w2) rfl (sgn (a + b)) (nu (a + b)) (de (a + b))
  have hB3 := hB2.alloc hB2.size (FC (sgn (a + b)) (nu (a + b)) (de (a + b)))
  obtain ⟨k0, k1, k2, -⟩ := hba2.facts
  obtain ⟨j0, j1, j2, -⟩ := hbb2.facts
  have l1 := hba2.lt
  have l2 := hbb2.lt
  have l3 : ¬ w.heap.size = w2.heap.size := by omega
  have l4 : ¬ w.heap.size + 1 = w2.heap.size := by omega
  go_wp2_with fail
  refine (fMul_q (a * b) HA.out HB.out rfl sa sb).mono ?_
  rintro e w3 ⟨rfl, hb3⟩
  have hba4 := hba3.below hb3 hba3.lt
  have hbb4 := hbb3.below hb3 hbb3.lt
  have hbc4 := hbc3.below hb3 hbc3.lt
  have hbs4 := hbs3.below hb3 hbs3.lt
  have hB4 := hB3.trans (hb3.mono hB3.size)
  generalize hgs : w2.heap.size = gs at *
  clear hba2 hbb2 hbc2 hB2 hba3 hbb3 hbc3 hbs3 hB3 hb3 k0 k1 k2 j0 j1 j2 l1 l2 l3 l4
  have H0 : Five w (w3.alloc (FC (sgn (a * b)) (nu (a * b)) (de (a * b)))) gs w3.heap.size na nb nc xa ya xb yb xc yc (a + b) (a * b) := ⟨hba4.alloc _, hbb4.alloc _, hbc4.alloc _, hbs4.alloc _, Box.at rfl _ _ _, hB4.alloc hB4.size _⟩
  clear hba4 hbb4 hbc4 hbs4 hB4
  go_upto_region 5 with fail
  generalize hgp : w3.heap.size = gp at *
  obtain ⟨V, hV⟩ : ∃ V, V = w3.alloc (FC (sgn (a * b)) (nu (a * b)) (de (a * b))) := ⟨_, rfl⟩
  rw [← hV] at H0
  rw [← hV]
  clear hV hgp hgs
  go_cut [58, 0, 1, 2] from 13 to 58 (fun s _ _ _ wx => s = .bool false ∧ Five w wx gs gp na nb nc xa ya xb yb xc yc (a + b) (a * b))
  case first =>
    have H0 := H0.drew
    obtain ⟨⟨t1, t2, t3, t4, t5, t6⟩, t7, t8, t9⟩ := HL.out
    go_region_held3 (fun V => (V.cell? ⟨w.heap.size, 0, none⟩ = some (.bool na) ∧ V.cell? ⟨w.heap.size, 1, none⟩ = some (.string xa) ∧ V.cell? ⟨w.heap.size, 2, none⟩ = some (.string ya) ∧ V.cell? ⟨w.heap.size + 1, 0, none⟩ = some (.bool nb) ∧ V.cell? ⟨w.heap.size + 1, 1, none⟩ = some (.string xb) ∧ V.cell? ⟨w.heap.size + 1, 2, none⟩ = some (.string yb) ∧ V.cell? ⟨w.heap.size + 2, 0, none⟩ = some (.bool nc) ∧ V.cell? ⟨w.heap.size + 2, 1, none⟩ = some (.string xc) ∧ V.cell? ⟨w.heap.size + 2, 2, none⟩ = some (.string yc) ∧ V.cell? ⟨gs, 0, none⟩ = some (.bool (sgn (a + b))) ∧ V.cell? ⟨gs, 1, none⟩ = some (.string (nu (a + b))) ∧ V.cell? ⟨gs, 2, none⟩ = some (.string (de (a + b))) ∧ V.cell? ⟨gp, 0, none⟩ = some (.bool (sgn (a * b))) ∧ V.cell? ⟨gp, 1, none⟩ = some (.string (nu (a * b))) ∧ V.cell? ⟨gp, 2, none⟩ = some (.string (de (a * b)))) ∧ Hid (Five w V gs gp na nb nc xa ya xb yb xc yc (a + b) (a * b)))
      (first | exact five_of H8 | exact five_of H7 | exact five_of H6 | exact five_of H5 | exact five_of H4 | exact five_of H3 | exact five_of H2 | exact five_of H1 | exact five_of H0)
      (first
        | (have HH := H7; go_at_call 18; refine (fMul_q (a * b * c) HA.out (val_own (b * c)) (Rat.mul_assoc a b c).symm sa t4).mono ?_; rintro e w8 ⟨rfl, hb8⟩; have H8 := HH.step hb8; clear hb8)
        | (have HH := H6; go_at_call 18; refine (fMul_q (b * c) HB.out HC.out rfl sb sc).mono ?_; rintro e w7 ⟨rfl, hb7⟩; have H7 := HH.step hb7; clear hb7)
        | (have HH := H5; go_at_call 18; refine (fMul_q (a * b * c) (val_own (a * b)) HC.out rfl t2 sc).mono ?_; rintro e w6 ⟨rfl, hb6⟩; have H6 := HH.step hb6; clear hb6)
        | (have HH := H4; go_at_call 17; refine (fAdd_q (a + b + c) HA.out (val_own (b + c)) (Rat.add_assoc a b c).symm sa t3).mono ?_; rintro e w5 ⟨rfl, hb5⟩; have H5 := HH.step hb5; clear hb5)
        | (have HH := H3; go_at_call 17; refine (fAdd_q (b + c) HB.out HC.out rfl sb sc).mono ?_; rintro e w4 ⟨rfl, hb4⟩; have H4 := HH.step hb4; clear hb4)
        | (have HH := H2; go_at_call 17; refine (fAdd_q (a + b + c) (val_own (a + b)) HC.out rfl t1 sc).mono ?_; rintro e w3 ⟨rfl, hb3⟩; have H3 := HH.step hb3; clear hb3)
        | (have HH := H1; go_at_call 18; refine (fMul_q (a * b) HB.out HA.out (Rat.mul_comm b a) sb sa).mono ?_; rintro e w2 ⟨rfl, hb2⟩; have H2 := HH.step hb2; clear hb2)
        | (go_at_call 17; refine (fAdd_q (a + b) HB.out HA.out (Rat.add_comm b a) sb sa).mono ?_; rintro e w1 ⟨rfl, hb1⟩; have H1 := H0.step hb1; clear hb1))
    go_wp2_with fail
    go_meet
    exact ⟨rfl, H8⟩
  case rest =>
  obtain ⟨rfl, H0⟩ := hcut
  go_upto_region 7 with fail
  go_cut [84] from 13 to 84 (fun s wx => s = .bool false ∧ Five w wx gs gp na nb nc xa ya xb yb xc yc (a + b) (a * b))
  case first =>
    have H0 := H0.drew
    obtain ⟨⟨t1, t2, t3, t4, t5, t6⟩, t7, t8, t9⟩ := HL.out
    go_region_held3 (fun V => (V.cell? ⟨w.heap.size, 0, none⟩ = some (.bool na) ∧ V.cell? ⟨w.heap.size, 1, none⟩ = some (.string xa) ∧ V.cell? ⟨w.heap.size, 2, none⟩ = some (.string ya) ∧ V.cell? ⟨w.heap.size + 1, 0, none⟩ = some (.bool nb) ∧ V.cell? ⟨w.heap.size + 1, 1, none⟩ = some (.string xb) ∧ V.cell? ⟨w.heap.size + 1, 2, none⟩ = some (.string yb) ∧ V.cell? ⟨w.heap.size + 2, 0, none⟩ = some (.bool nc) ∧ V.cell? ⟨w.heap.size + 2, 1, none⟩ = some (.string xc) ∧ V.cell? ⟨w.heap.size + 2, 2, none⟩ = some (.string yc) ∧ V.cell? ⟨gs, 0, none⟩ = some (.bool (sgn (a + b))) ∧ V.cell? ⟨gs, 1, none⟩ = some (.string (nu (a + b))) ∧ V.cell? ⟨gs, 2, none⟩ = some (.string (de (a + b))) ∧ V.cell? ⟨gp, 0, none⟩ = some (.bool (sgn (a * b))) ∧ V.cell? ⟨gp, 1, none⟩ = some (.string (nu (a * b))) ∧ V.cell? ⟨gp, 2, none⟩ = some (.string (de (a * b)))) ∧ Hid (Five w V gs gp na nb nc xa ya xb yb xc yc (a + b) (a * b)))
      (first | exact five_of H8 | exact five_of H7 | exact five_of H6 | exact five_of H5 | exact five_of H4 | exact five_of H3 | exact five_of H2 | exact five_of H1 | exact five_of H0)
      (first
        | (have HH := H7; go_at_call 21; refine (fOf_q 0 0 rfl (by decide) (by rfl)).mono ?_; rintro e w8 ⟨rfl, hb8⟩; have H8 := HH.step hb8; clear hb8)
        | (have HH := H6; go_at_call 19; refine (fSub_q (0) HA.out HA.out (by grind) sa sa).mono ?_; rintro e w7 ⟨rfl, hb7⟩; have H7 := HH.step hb7; clear hb7)
        | (have HH := H5; go_at_call 20; refine (Canon_q (a) HA.out sa).mono ?_; rintro e w6 ⟨rfl, hb6⟩; have H6 := HH.step hb6; clear hb6)
        | (have HH := H4; go_at_call 19; refine (fSub_q (a) (val_own (a + b)) HB.out (by grind) t1 sb).mono ?_; rintro e w5 ⟨rfl, hb5⟩; have H5 := HH.step hb5; clear hb5)
        | (have HH := H3; go_at_call 17; refine (fAdd_q ((a + b) * c) (val_own (a * c)) (val_own (b * c)) (Rat.add_mul a b c).symm t5 t4).mono ?_; rintro e w4 ⟨rfl, hb4⟩; have H4 := HH.step hb4; clear hb4)
        | (have HH := H2; go_at_call 18; refine (fMul_q (b * c) HB.out HC.out rfl sb sc).mono ?_; rintro e w3 ⟨rfl, hb3⟩; have H3 := HH.step hb3; clear hb3)
        | (have HH := H1; go_at_call 18; refine (fMul_q (a * c) HA.out HC.out rfl sa sc).mono ?_; rintro e w2 ⟨rfl, hb2⟩; have H2 := HH.step hb2; clear hb2)
        | (go_at_call 18; refine (fMul_q ((a + b) * c) (val_own (a + b)) HC.out rfl t1 sc).mono ?_; rintro e w1 ⟨rfl, hb1⟩; have H1 := H0.step hb1; clear hb1))
    go_wp2_with fail
    go_meet
    exact ⟨rfl, H8⟩
  case rest =>
  obtain ⟨rfl, H0⟩ := hcut
  go_upto_region 9 with fail
  go_cut [9, 10] from 85 to 90 (fun s t wx => (∃ gq, s = .pointer (some ⟨gq, 0, none⟩) ∧ (¬ b = 0 → Box wx gq (sgn a) (nu a) (de a))) ∧ (∃ k : Int, t = .int .i64 k ∧ Hid ((b = 0 → k = 3) ∧ (¬ b = 0 → k = 0))) ∧ Five w wx gs gp na nb nc xa ya xb yb xc yc (a + b) (a * b))
  case first =>
    obtain ⟨⟨t1, t2, t3, t4, t5, t6⟩, t7, t8, t9⟩ := HL.out
    obtain ⟨k0, k1, k2, j0, j1, j2, i0, i1, i2, m0, m1, m2, n0, n1, n2⟩ := H0.cells
    by_cases hb0 : b = 0
    · have HB0 := hide hb0
      clear hb0
      go_wp2_with fail
      refine (fDiv_z (HB.out.trans HB0.out)).mono ?_
      rintro e w1 ⟨rfl, hb1⟩
      have H1 := H0.step hb1
      clear hb1 H0 k0 k1 k2 j0 j1 j2 i0 i1 i2 m0 m1 m2 n0 n1 n2
      go_wp2_with fail
      go_meet
      exact ⟨⟨_, rfl, fun h => absurd HB0.out h⟩, ⟨_, rfl, ⟨fun _ => rfl, fun h => absurd HB0.out h⟩⟩, H1.alloc _⟩
    · have HB0 := hide hb0
      have hqd : a * b / b = a := by grind
      clear hb0
      go_wp2_with fail
      refine (fDiv_q a (val_own (a * b)) HB.out HB0.out hqd t2 sb).mono ?_
      rintro e w1 ⟨rfl, hb1⟩
      have H1 := H0.step hb1
      clear hb1 H0 k0 k1 k2 j0 j1 j2 i0 i1 i2 m0 m1 m2 n0 n1 n2
      go_wp2_with fail
      go_meet
      exact ⟨⟨_, rfl, fun _ => Box.at rfl _ _ _⟩, ⟨_, rfl, ⟨fun h => absurd h HB0.out, fun _ => rfl⟩⟩, H1.alloc _⟩
  case rest =>
  obtain ⟨⟨gq, rfl, hgq⟩, ⟨kq, rfl, hkq⟩, H0⟩ := hcut
  go_upto_region 10 with fail
  go_cut [11] from 91 to 94 (fun s wx => s = .bool (decide (b = 0)) ∧ (¬ b = 0 → Box wx gq (sgn a) (nu a) (de a)) ∧ Five w wx gs gp na nb nc xa ya xb yb xc yc (a + b) (a * b))
  case first =>
    obtain ⟨k0, k1, k2, j0, j1, j2, i0, i1, i2, m0, m1, m2, n0, n1, n2⟩ := H0.cells
    by_cases hb0 : b = 0
    · have HB0 := hide hb0
      clear hb0
      go_wp2_with fail
      refine (Canon_q 0 (HB.out.trans HB0.out) sb).mono ?_
      rintro e w1 ⟨rfl, hb1⟩
      have H1 := H0.step hb1
      have hq1 : ¬ b = 0 → Box w1 gq (sgn a) (nu a) (de a) := fun h => (hgq h).below hb1 (hgq h).lt
      clear hb1 H0 k0 k1 k2 j0 j1 j2 i0 i1 i2 m0 m1 m2 n0 n1 n2 hgq
      go_wp2_with fail
      refine (fOf_q 0 0 rfl (by decide) (by rfl)).mono ?_
      rintro e w2 ⟨rfl, hb2⟩
      have H2 := H1.step hb2
      have hq2 : ¬ b = 0 → Box w2 gq (sgn a) (nu a) (de a) := fun h => (hq1 h).below hb2 (hq1 h).lt
      clear hb2 H1 hq1
      go_wp2_with fail
      go_meet
      exact ⟨by rw [decide_eq_true HB0.out], hq2, H2⟩
    · have HB0 := hide hb0
      clear hb0
      go_wp2_with fail
      refine (Canon_q b HB.out sb).mono ?_
      rintro e w1 ⟨rfl, hb1⟩
      have H1 := H0.step hb1
      have hq1 : ¬ b = 0 → Box w1 gq (sgn a) (nu a) (de a) := fun h => (hgq h).below hb1 (hgq h).lt
      clear hb1 H0 k0 k1 k2 j0 j1 j2 i0 i1 i2 m0 m1 m2 n0 n1 n2 hgq
      go_wp2_with fail
      refine (fOf_q 0 0 rfl (by decide) (by rfl)).mono ?_
      rintro e w2 ⟨rfl, hb2⟩
      have H2 := H1.step hb2
      have hq2 : ¬ b = 0 → Box w2 gq (sgn a) (nu a) (de a) := fun h => (hq1 h).below hb2 (hq1 h).lt
      clear hb2 H1 hq1
      have hne := own_ne0 HB0.out
      go_wp2_with fail
      all_goals go_meet
      all_goals exact ⟨by rw [decide_eq_false HB0.out], hq2, H2⟩
  case rest =>
  obtain ⟨rfl, hgq, H0⟩ := hcut
  go_upto_region 11 with fail
  go_cut [112, 10, 11] from 95 to 112 (fun s _ _ wx => s = .bool false ∧ Five w wx gs gp na nb nc xa ya xb yb xc yc (a + b) (a * b))
  case first =>
    have HN := H0
    have H0 := H0.drew
    by_cases hb0 : b = 0
    · have hk := hkq.out.1 hb0
      subst hk
      rw [decide_eq_true hb0]
      have HB0 := hide hb0
      clear hb0
      go_quiet (fail)
      go_wp2_with fail
      go_meet
      exact ⟨rfl, HN.drewN _⟩
    · have hk := hkq.out.2 hb0
      subst hk
      rw [decide_eq_false hb0]
      have hq0 := (hgq hb0).drew
      have HB0 := hide hb0
      clear hb0
      go_region_held3 (fun V => (V.cell? ⟨w.heap.size, 0, none⟩ = some (.bool na) ∧ V.cell? ⟨w.heap.size, 1, none⟩ = some (.string xa) ∧ V.cell? ⟨w.heap.size, 2, none⟩ = some (.string ya) ∧ V.cell? ⟨w.heap.size + 1, 0, none⟩ = some (.bool nb) ∧ V.cell? ⟨w.heap.size + 1, 1, none⟩ = some (.string xb) ∧ V.cell? ⟨w.heap.size + 1, 2, none⟩ = some (.string yb) ∧ V.cell? ⟨w.heap.size + 2, 0, none⟩ = some (.bool nc) ∧ V.cell? ⟨w.heap.size + 2, 1, none⟩ = some (.string xc) ∧ V.cell? ⟨w.heap.size + 2, 2, none⟩ = some (.string yc) ∧ V.cell? ⟨gs, 0, none⟩ = some (.bool (sgn (a + b))) ∧ V.cell? ⟨gs, 1, none⟩ = some (.string (nu (a + b))) ∧ V.cell? ⟨gs, 2, none⟩ = some (.string (de (a + b))) ∧ V.cell? ⟨gp, 0, none⟩ = some (.bool (sgn (a * b))) ∧ V.cell? ⟨gp, 1, none⟩ = some (.string (nu (a * b))) ∧ V.cell? ⟨gp, 2, none⟩ = some (.string (de (a * b))) ∧ V.cell? ⟨gq, 0, none⟩ = some (.bool (sgn a)) ∧ V.cell? ⟨gq, 1, none⟩ = some (.string (nu a)) ∧ V.cell? ⟨gq, 2, none⟩ = some (.string (de a))) ∧ Hid (Box V gq (sgn a) (nu a) (de a) ∧ Five w V gs gp na nb nc xa ya xb yb xc yc (a + b) (a * b)))
        (first | exact six_more hq1 H1 | exact six_more hq0 H0)
        (first
          | (go_at_call 20; refine (Canon_q a HA.out sa).mono ?_; rintro e w1 ⟨rfl, hb1⟩; have H1 := H0.step hb1; have hq1 := hq0.below hb1 hq0.lt; clear hb1))
      go_wp2_with fail
      go_meet
      exact ⟨rfl, H1⟩
  case rest =>
  obtain ⟨rfl, H0⟩ := hcut
  clear hkq hgq
  go_upto_region 13 with fail
  go_cut [12] from 113 to 115 (fun s wx => (∃ k : Int, s = .int .i64 k ∧ Hid (cmpQ a b = k)) ∧ Five w wx gs gp na nb nc xa ya xb yb xc yc (a + b) (a * b))
  case first =>
    obtain ⟨k0, k1, k2, j0, j1, j2, i0, i1, i2, m0, m1, m2, n0, n1, n2⟩ := H0.cells
    go_wp2_with fail
    refine (fCmp_q (cmpQ a b) HA.out HB.out rfl sa sb).mono ?_
    rintro e w1 ⟨rfl, hb1⟩
    have H1 := H0.step hb1
    clear hb1 H0 k0 k1 k2 j0 j1 j2 i0 i1 i2 m0 m1 m2 n0 n1 n2
    go_wp2_with fail
    go_meet
    exact ⟨⟨_, rfl, rfl⟩, H1⟩
  case rest =>
  obtain ⟨⟨k, rfl, hk⟩, H0⟩ := hcut
  go_upto_region 14 with fail
  go_cut [142, 12] from 116 to 142 (fun s t wx => s = .bool false ∧ t = .int .i64 k ∧ Five w wx gs gp na nb nc xa ya xb yb xc yc (a + b) (a * b))
  case first =>
    have H0 := H0.drew
    obtain ⟨⟨t1, t2, t3, t4, t5, t6⟩, t7, t8, t9⟩ := HL.out
    by_cases h : a = b
    · have hkk := hide (show cmpQ (a + c) (b + c) = 0 from cmpQ_eq (by rw [h]))
      have hk1 := hk.out.symm.trans (cmpQ_eq h)
      subst hk1
      have hwr : IntKind.i64.wrap 0 = 0 := by rfl
      have hwr2 : IntKind.i64.wrap (-0) = 0 := by rfl
      have HK := hide h
      clear h
      go_region_held3 (fun V => (V.cell? ⟨w.heap.size, 0, none⟩ = some (.bool na) ∧ V.cell? ⟨w.heap.size, 1, none⟩ = some (.string xa) ∧ V.cell? ⟨w.heap.size, 2, none⟩ = some (.string ya) ∧ V.cell? ⟨w.heap.size + 1, 0, none⟩ = some (.bool nb) ∧ V.cell? ⟨w.heap.size + 1, 1, none⟩ = some (.string xb) ∧ V.cell? ⟨w.heap.size + 1, 2, none⟩ = some (.string yb) ∧ V.cell? ⟨w.heap.size + 2, 0, none⟩ = some (.bool nc) ∧ V.cell? ⟨w.heap.size + 2, 1, none⟩ = some (.string xc) ∧ V.cell? ⟨w.heap.size + 2, 2, none⟩ = some (.string yc) ∧ V.cell? ⟨gs, 0, none⟩ = some (.bool (sgn (a + b))) ∧ V.cell? ⟨gs, 1, none⟩ = some (.string (nu (a + b))) ∧ V.cell? ⟨gs, 2, none⟩ = some (.string (de (a + b))) ∧ V.cell? ⟨gp, 0, none⟩ = some (.bool (sgn (a * b))) ∧ V.cell? ⟨gp, 1, none⟩ = some (.string (nu (a * b))) ∧ V.cell? ⟨gp, 2, none⟩ = some (.string (de (a * b)))) ∧ Hid (Five w V gs gp na nb nc xa ya xb yb xc yc (a + b) (a * b)))
        (first | exact five_of H6 | exact five_of H5 | exact five_of H4 | exact five_of H3 | exact five_of H2 | exact five_of H1 | exact five_of H0)
        (first
          | (have HH := H5; go_at_call 23; refine (fCmp_q (0) (val_own (a + c)) (val_own (b + c)) hkk.out t6 t3).mono ?_; rintro e w6 ⟨rfl, hb6⟩; have H6 := HH.step hb6; clear hb6)
          | (have HH := H4; go_at_call 17; refine (fAdd_q (b + c) HB.out HC.out rfl sb sc).mono ?_; rintro e w5 ⟨rfl, hb5⟩; have H5 := HH.step hb5; clear hb5)
          | (have HH := H3; go_at_call 17; refine (fAdd_q (a + c) HA.out HC.out rfl sa sc).mono ?_; rintro e w4 ⟨rfl, hb4⟩; have H4 := HH.step hb4; clear hb4)
          | (have HH := H2; go_at_call 20; refine (Canon_q (a) (HB.out.trans HK.out.symm) sb).mono ?_; rintro e w3 ⟨rfl, hb3⟩; have H3 := HH.step hb3; clear hb3)
          | (have HH := H1; go_at_call 20; refine (Canon_q (a) HA.out sa).mono ?_; rintro e w2 ⟨rfl, hb2⟩; have H2 := HH.step hb2; clear hb2)
          | (go_at_call 23; refine (fCmp_q (0) HB.out HA.out (cmpQ_eq HK.out.symm) sb sa).mono ?_; rintro e w1 ⟨rfl, hb1⟩; have H1 := H0.step hb1; clear hb1))
      go_wp2_with fail
      go_meet
      exact ⟨rfl, rfl, H6⟩
    · have hkk := hide ((cmpQ_add a b c).trans hk.out)
      have hk1 := cmpQ_ne0 h hk.out
      have hk2 : (k == 0) = false := by simp [hk1]
      have hwr : IntKind.i64.wrap k = k := cmpQ_wrap hk.out
      have hwr2 : IntKind.i64.wrap (- -k) = k := by rw [Int.neg_neg, hwr]
      have hne := own_cases h
      have HK := hide h
      clear h
      rcases hne with hn1 | ⟨hn1, hn2⟩ | ⟨hn1, hn2, hn3⟩
      · go_region_held3 (fun V => (V.cell? ⟨w.heap.size, 0, none⟩ = some (.bool na) ∧ V.cell? ⟨w.heap.size, 1, none⟩ = some (.string xa) ∧ V.cell? ⟨w.heap.size, 2, none⟩ = some (.string ya) ∧ V.cell? ⟨w.heap.size + 1, 0, none⟩ = some (.bool nb) ∧ V.cell? ⟨w.heap.size + 1, 1, none⟩ = some (.string xb) ∧ V.cell? ⟨w.heap.size + 1, 2, none⟩ = some (.string yb) ∧ V.cell? ⟨w.heap.size + 2, 0, none⟩ = some (.bool nc) ∧ V.cell? ⟨w.heap.size + 2, 1, none⟩ = some (.string xc) ∧ V.cell? ⟨w.heap.size + 2, 2, none⟩ = some (.string yc) ∧ V.cell? ⟨gs, 0, none⟩ = some (.bool (sgn (a + b))) ∧ V.cell? ⟨gs, 1, none⟩ = some (.string (nu (a + b))) ∧ V.cell? ⟨gs, 2, none⟩ = some (.string (de (a + b))) ∧ V.cell? ⟨gp, 0, none⟩ = some (.bool (sgn (a * b))) ∧ V.cell? ⟨gp, 1, none⟩ = some (.string (nu (a * b))) ∧ V.cell? ⟨gp, 2, none⟩ = some (.string (de (a * b)))) ∧ Hid (Five w V gs gp na nb nc xa ya xb yb xc yc (a + b) (a * b)))
          (first | exact five_of H6 | exact five_of H5 | exact five_of H4 | exact five_of H3 | exact five_of H2 | exact five_of H1 | exact five_of H0)
          (first
            | (have HH := H5; go_at_call 23; refine (fCmp_q (k) (val_own (a + c)) (val_own (b + c)) hkk.out t6 t3).mono ?_; rintro e w6 ⟨rfl, hb6⟩; have H6 := HH.step hb6; clear hb6)
            | (have HH := H4; go_at_call 17; refine (fAdd_q (b + c) HB.out HC.out rfl sb sc).mono ?_; rintro e w5 ⟨rfl, hb5⟩; have H5 := HH.step hb5; clear hb5)
            | (have HH := H3; go_at_call 17; refine (fAdd_q (a + c) HA.out HC.out rfl sa sc).mono ?_; rintro e w4 ⟨rfl, hb4⟩; have H4 := HH.step hb4; clear hb4)
            | (have HH := H2; go_at_call 20; refine (Canon_q (b) HB.out sb).mono ?_; rintro e w3 ⟨rfl, hb3⟩; have H3 := HH.step hb3; clear hb3)
            | (have HH := H1; go_at_call 20; refine (Canon_q (a) HA.out sa).mono ?_; rintro e w2 ⟨rfl, hb2⟩; have H2 := HH.step hb2; clear hb2)
            | (go_at_call 23; refine (fCmp_q (-k) HB.out HA.out (cmpQ_swap hk.out) sb sa).mono ?_; rintro e w1 ⟨rfl, hb1⟩; have H1 := H0.step hb1; clear hb1))
        go_wp2_with fail
        go_meet
        exact ⟨rfl, rfl, H6⟩
      · go_region_held3 (fun V => (V.cell? ⟨w.heap.size, 0, none⟩ = some (.bool na) ∧ V.cell? ⟨w.heap.size, 1, none⟩ = some (.string xa) ∧ V.cell? ⟨w.heap.size, 2, none⟩ = some (.string ya) ∧ V.cell? ⟨w.heap.size + 1, 0, none⟩ = some (.bool nb) ∧ V.cell? ⟨w.heap.size + 1, 1, none⟩ = some (.string xb) ∧ V.cell? ⟨w.heap.size + 1, 2, none⟩ = some (.string yb) ∧ V.cell? ⟨w.heap.size + 2, 0, none⟩ = some (.bool nc) ∧ V.cell? ⟨w.heap.size + 2, 1, none⟩ = some (.string xc) ∧ V.cell? ⟨w.heap.size + 2, 2, none⟩ = some (.string yc) ∧ V.cell? ⟨gs, 0, none⟩ = some (.bool (sgn (a + b))) ∧ V.cell? ⟨gs, 1, none⟩ = some (.string (nu (a + b))) ∧ V.cell? ⟨gs, 2, none⟩ = some (.string (de (a + b))) ∧ V.cell? ⟨gp, 0, none⟩ = some (.bool (sgn (a * b))) ∧ V.cell? ⟨gp, 1, none⟩ = some (.string (nu (a * b))) ∧ V.cell? ⟨gp, 2, none⟩ = some (.string (de (a * b)))) ∧ Hid (Five w V gs gp na nb nc xa ya xb yb xc yc (a + b) (a * b)))
          (first | exact five_of H6 | exact five_of H5 | exact five_of H4 | exact five_of H3 | exact five_of H2 | exact five_of H1 | exact five_of H0)
          (first
            | (have HH := H5; go_at_call 23; refine (fCmp_q (k) (val_own (a + c)) (val_own (b + c)) hkk.out t6 t3).mono ?_; rintro e w6 ⟨rfl, hb6⟩; have H6 := HH.step hb6; clear hb6)
            | (have HH := H4; go_at_call 17; refine (fAdd_q (b + c) HB.out HC.out rfl sb sc).mono ?_; rintro e w5 ⟨rfl, hb5⟩; have H5 := HH.step hb5; clear hb5)
            | (have HH := H3; go_at_call 17; refine (fAdd_q (a + c) HA.out HC.out rfl sa sc).mono ?_; rintro e w4 ⟨rfl, hb4⟩; have H4 := HH.step hb4; clear hb4)
            | (have HH := H2; go_at_call 20; refine (Canon_q (b) HB.out sb).mono ?_; rintro e w3 ⟨rfl, hb3⟩; have H3 := HH.step hb3; clear hb3)
            | (have HH := H1; go_at_call 20; refine (Canon_q (a) HA.out sa).mono ?_; rintro e w2 ⟨rfl, hb2⟩; have H2 := HH.step hb2; clear hb2)
            | (go_at_call 23; refine (fCmp_q (-k) HB.out HA.out (cmpQ_swap hk.out) sb sa).mono ?_; rintro e w1 ⟨rfl, hb1⟩; have H1 := H0.step hb1; clear hb1))
        go_wp2_with fail
        go_meet
        exact ⟨rfl, rfl, H6⟩
      · go_region_held3 (fun V => (V.cell? ⟨w.heap.size, 0, none⟩ = some (.bool na) ∧ V.cell? ⟨w.heap.size, 1, none⟩ = some (.string xa) ∧ V.cell? ⟨w.heap.size, 2, none⟩ = some (.string ya) ∧ V.cell? ⟨w.heap.size + 1, 0, none⟩ = some (.bool nb) ∧ V.cell? ⟨w.heap.size + 1, 1, none⟩ = some (.string xb) ∧ V.cell? ⟨w.heap.size + 1, 2, none⟩ = some (.string yb) ∧ V.cell? ⟨w.heap.size + 2, 0, none⟩ = some (.bool nc) ∧ V.cell? ⟨w.heap.size + 2, 1, none⟩ = some (.string xc) ∧ V.cell? ⟨w.heap.size + 2, 2, none⟩ = some (.string yc) ∧ V.cell? ⟨gs, 0, none⟩ = some (.bool (sgn (a + b))) ∧ V.cell? ⟨gs, 1, none⟩ = some (.string (nu (a + b))) ∧ V.cell? ⟨gs, 2, none⟩ = some (.string (de (a + b))) ∧ V.cell? ⟨gp, 0, none⟩ = some (.bool (sgn (a * b))) ∧ V.cell? ⟨gp, 1, none⟩ = some (.string (nu (a * b))) ∧ V.cell? ⟨gp, 2, none⟩ = some (.string (de (a * b)))) ∧ Hid (Five w V gs gp na nb nc xa ya xb yb xc yc (a + b) (a * b)))
          (first | exact five_of H6 | exact five_of H5 | exact five_of H4 | exact five_of H3 | exact five_of H2 | exact five_of H1 | exact five_of H0)
          (first
            | (have HH := H5; go_at_call 23; refine (fCmp_q (k) (val_own (a + c)) (val_own (b + c)) hkk.out t6 t3).mono ?_; rintro e w6 ⟨rfl, hb6⟩; have H6 := HH.step hb6; clear hb6)
            | (have HH := H4; go_at_call 17; refine (fAdd_q (b + c) HB.out HC.out rfl sb sc).mono ?_; rintro e w5 ⟨rfl, hb5⟩; have H5 := HH.step hb5; clear hb5)
            | (have HH := H3; go_at_call 17; refine (fAdd_q (a + c) HA.out HC.out rfl sa sc).mono ?_; rintro e w4 ⟨rfl, hb4⟩; have H4 := HH.step hb4; clear hb4)
            | (have HH := H2; go_at_call 20; refine (Canon_q (b) HB.out sb).mono ?_; rintro e w3 ⟨rfl, hb3⟩; have H3 := HH.step hb3; clear hb3)
            | (have HH := H1; go_at_call 20; refine (Canon_q (a) HA.out sa).mono ?_; rintro e w2 ⟨rfl, hb2⟩; have H2 := HH.step hb2; clear hb2)
            | (go_at_call 23; refine (fCmp_q (-k) HB.out HA.out (cmpQ_swap hk.out) sb sa).mono ?_; rintro e w1 ⟨rfl, hb1⟩; have H1 := H0.step hb1; clear hb1))
        go_wp2_with fail
        go_meet
        exact ⟨rfl, rfl, H6⟩
  case rest =>
  obtain ⟨rfl, rfl, H0⟩ := hcut
  go_upto_region 16 with fail
  go_cut [157] from 143 to 157 (fun s wx => s = .bool false ∧ Five w wx gs gp na nb nc xa ya xb yb xc yc (a + b) (a * b))
  case first =>
    have H0 := H0.drew
    obtain ⟨⟨t1, t2, t3, t4, t5, t6⟩, t7, t8, t9⟩ := HL.out
    rcases rat_tri c 0 with h | h | h
    · have HK := hide h
      clear h
      refine wp_region_noPanic ?_
      refine wp_region_held_drew (S := (fun V => (V.cell? ⟨w.heap.size, 0, none⟩ = some (.bool na) ∧ V.cell? ⟨w.heap.size, 1, none⟩ = some (.string xa) ∧ V.cell? ⟨w.heap.size, 2, none⟩ = some (.string ya) ∧ V.cell? ⟨w.heap.size + 1, 0, none⟩ = some (.bool nb) ∧ V.cell? ⟨w.heap.size + 1, 1, none⟩ = some (.string xb) ∧ V.cell? ⟨w.heap.size + 1, 2, none⟩ = some (.string yb) ∧ V.cell? ⟨w.heap.size + 2, 0, none⟩ = some (.bool nc) ∧ V.cell? ⟨w.heap.size + 2, 1, none⟩ = some (.string xc) ∧ V.cell? ⟨w.heap.size + 2, 2, none⟩ = some (.string yc) ∧ V.cell? ⟨gs, 0, none⟩ = some (.bool (sgn (a + b))) ∧ V.cell? ⟨gs, 1, none⟩ = some (.string (nu (a + b))) ∧ V.cell? ⟨gs, 2, none⟩ = some (.string (de (a + b))) ∧ V.cell? ⟨gp, 0, none⟩ = some (.bool (sgn (a * b))) ∧ V.cell? ⟨gp, 1, none⟩ = some (.string (nu (a * b))) ∧ V.cell? ⟨gp, 2, none⟩ = some (.string (de (a * b)))) ∧ Hid (Five w V gs gp na nb nc xa ya xb yb xc yc (a + b) (a * b)))) (by kernel_rfl) (five_of H0) (fun hHeld => ?_)
      refine wpAnyH_take (i := 0) (oi := _) (v := .agg #[.bool nc, .string xc, .string yc]) rfl (by kernel_rfl) (by kernel_rfl) (by kernel_rfl) (fun _ _ _ h => h) (Or.inl ⟨by rfl, ?_⟩) (by assumption) ?_
      · intro w hSw
        (try dsimp only at hSw)
        go_simp
      (try simp only [List.getElem_toArray, List.getElem_cons_zero])
      (try simp only [Act.put, List.setIfInBounds_toArray, List.set_cons_zero, List.set_cons_succ])
      refine wpAnyH_ready (rs := [1]) (by kernel_rfl) (by simp) ?_
      refine AllReadyH.cons (o := _) rfl (fun K hK => ?_) AllReadyH.nil
      go_simp
      refine (fOf_q 0 0 rfl (by decide) (by rfl)).mono ?_
      rintro e w1 ⟨rfl, hb⟩
      have H1 := H0.step hb
      clear hb
      refine hK.out _ _ (five_of H1) (fun hHeld => ?_)
      clear hK K
      (try simp only [List.getElem_toArray, List.getElem_cons_zero, List.getElem_cons_succ])
      (try simp only [Act.put, List.setIfInBounds_toArray, List.set_cons_zero, List.set_cons_succ])
      refine wpAnyH_ready (rs := [2]) (by kernel_rfl) (by simp) ?_
      refine AllReadyH.cons (o := _) rfl (fun K hK => ?_) AllReadyH.nil
      go_simp
      refine (fCmp_q (-1) HC.out (val_own (0)) (cmpQ_lt HK.out) sc t8).mono ?_
      rintro e w2 ⟨rfl, hb⟩
      have H2 := H1.step hb
      clear hb
      refine hK.out _ _ (five_of H2) (fun hHeld => ?_)
      clear hK K
      (try simp only [List.getElem_toArray, List.getElem_cons_zero, List.getElem_cons_succ])
      (try simp only [Act.put, List.setIfInBounds_toArray, List.set_cons_zero, List.set_cons_succ])
      refine wpAnyH_take (i := 3) (oi := _) (v := .bool false) rfl (by kernel_rfl) (by kernel_rfl) (by kernel_rfl) (fun _ _ _ h => h) (Or.inl ⟨by rfl, ?_⟩) (by assumption) ?_
      · intro w hSw
        (try dsimp only at hSw)
        go_simp
      (try simp only [List.getElem_toArray, List.getElem_cons_zero, List.getElem_cons_succ])
      (try simp only [Act.put, List.setIfInBounds_toArray, List.set_cons_zero, List.set_cons_succ])
      refine wpAnyH_take (i := 4) (oi := _) (v := .bool false) rfl (by kernel_rfl) (by kernel_rfl) (by kernel_rfl) (fun _ _ _ h => h) (Or.inl ⟨by rfl, ?_⟩) (by assumption) ?_
      · intro w hSw
        (try dsimp only at hSw)
        go_simp
      (try simp only [List.getElem_toArray, List.getElem_cons_zero, List.getElem_cons_succ])
      (try simp only [Act.put, List.setIfInBounds_toArray, List.set_cons_zero, List.set_cons_succ])
      refine wpAnyH_take (i := 5) (oi := _) (v := undef) rfl (by kernel_rfl) (by kernel_rfl) (by kernel_rfl) (fun _ _ _ h => h) (Or.inr ⟨by rfl, rfl⟩) (by assumption) ?_
      (try simp only [List.getElem_toArray, List.getElem_cons_zero, List.getElem_cons_succ])
      (try simp only [Act.put, List.setIfInBounds_toArray, List.set_cons_zero, List.set_cons_succ])
      refine wpAnyH_take (i := 6) (oi := _) (v := undef) rfl (by kernel_rfl) (by kernel_rfl) (by kernel_rfl) (fun _ _ _ h => h) (Or.inr ⟨by rfl, rfl⟩) (by assumption) ?_
      (try simp only [List.getElem_toArray, List.getElem_cons_zero, List.getElem_cons_succ])
      (try simp only [Act.put, List.setIfInBounds_toArray, List.set_cons_zero, List.set_cons_succ])
      refine wpAnyH_take (i := 8) (oi := _) (v := undef) rfl (by kernel_rfl) (by kernel_rfl) (by kernel_rfl) (fun _ _ _ h => h) (Or.inr ⟨by rfl, rfl⟩) (by assumption) ?_
      (try simp only [List.getElem_toArray, List.getElem_cons_zero, List.getElem_cons_succ])
      (try simp only [Act.put, List.setIfInBounds_toArray, List.set_cons_zero, List.set_cons_succ])
      refine wpAnyH_take (i := 9) (oi := _) (v := undef) rfl (by kernel_rfl) (by kernel_rfl) (by kernel_rfl) (fun _ _ _ h => h) (Or.inr ⟨by rfl, rfl⟩) (by assumption) ?_
      (try simp only [List.getElem_toArray, List.getElem_cons_zero, List.getElem_cons_succ])
      (try simp only [Act.put, List.setIfInBounds_toArray, List.set_cons_zero, List.set_cons_succ])
      refine wpAnyH_take (i := 12) (oi := _) (v := undef) rfl (by kernel_rfl) (by kernel_rfl) (by kernel_rfl) (fun _ _ _ h => h) (Or.inr ⟨by rfl, rfl⟩) (by assumption) ?_
      (try simp only [List.getElem_toArray, List.getElem_cons_zero, List.getElem_cons_succ])
      (try simp only [Act.put, List.setIfInBounds_toArray, List.set_cons_zero, List.set_cons_succ])
      refine wpAnyH_ready (rs := [7]) (by kernel_rfl) (by simp) ?_
      refine AllReadyH.cons (o := _) rfl (fun K hK => ?_) AllReadyH.nil
      go_simp
      refine hK.out _ _ (five_of H2) (fun hHeld => ?_)
      clear hK K
      (try simp only [List.getElem_toArray, List.getElem_cons_zero, List.getElem_cons_succ])
      (try simp only [Act.put, List.setIfInBounds_toArray, List.set_cons_zero, List.set_cons_succ])
      refine wpAnyH_ready (rs := [10]) (by kernel_rfl) (by simp) ?_
      refine AllReadyH.cons (o := _) rfl (fun K hK => ?_) AllReadyH.nil
      go_simp
      refine hK.out _ _ (five_of H2) (fun hHeld => ?_)
      clear hK K
      (try simp only [List.getElem_toArray, List.getElem_cons_zero, List.getElem_cons_succ])
      (try simp only [Act.put, List.setIfInBounds_toArray, List.set_cons_zero, List.set_cons_succ])
      refine wpAnyH_ready (rs := [11]) (by kernel_rfl) (by simp) ?_
      refine AllReadyH.cons (o := _) rfl (fun K hK => ?_) AllReadyH.nil
      go_simp
      refine hK.out _ _ (five_of H2) (fun hHeld => ?_)
      clear hK K
      (try simp only [List.getElem_toArray, List.getElem_cons_zero, List.getElem_cons_succ])
      (try simp only [Act.put, List.setIfInBounds_toArray, List.set_cons_zero, List.set_cons_succ])
      refine wpAnyH_take (i := 13) (oi := _) (v := undef) rfl (by kernel_rfl) (by kernel_rfl) (by kernel_rfl) (fun _ _ _ h => h) (Or.inr ⟨by rfl, rfl⟩) (by assumption) ?_
      (try simp only [List.getElem_toArray, List.getElem_cons_zero, List.getElem_cons_succ])
      (try simp only [Act.put, List.setIfInBounds_toArray, List.set_cons_zero, List.set_cons_succ])
      refine wpAnyH_take (i := 14) (oi := _) (v := .bool false) rfl (by kernel_rfl) (by kernel_rfl) (by kernel_rfl) (fun _ _ _ h => h) (Or.inl ⟨by rfl, ?_⟩) (by assumption) ?_
      · intro w hSw
        (try dsimp only at hSw)
        go_simp
      (try simp only [List.getElem_toArray, List.getElem_cons_zero, List.getElem_cons_succ])
      (try simp only [Act.put, List.setIfInBounds_toArray, List.set_cons_zero, List.set_cons_succ])
      refine wpAnyH_done (by kernel_rfl) ?_ _
      refine NoPanic.normal ?_
      go_wp2_with fail
      go_meet
      exact ⟨rfl, H2⟩
    · have HK := hide h
      clear h
      refine wp_region_noPanic ?_
      refine wp_region_held_drew (S := (fun V => (V.cell? ⟨w.heap.size, 0, none⟩ = some (.bool na) ∧ V.cell? ⟨w.heap.size, 1, none⟩ = some (.string xa) ∧ V.cell? ⟨w.heap.size, 2, none⟩ = some (.string ya) ∧ V.cell? ⟨w.heap.size + 1, 0, none⟩ = some (.bool nb) ∧ V.cell? ⟨w.heap.size + 1, 1, none⟩ = some (.string xb) ∧ V.cell? ⟨w.heap.size + 1, 2, none⟩ = some (.string yb) ∧ V.cell? ⟨w.heap.size + 2, 0, none⟩ = some (.bool nc) ∧ V.cell? ⟨w.heap.size + 2, 1, none⟩ = some (.string xc) ∧ V.cell? ⟨w.heap.size + 2, 2, none⟩ = some (.string yc) ∧ V.cell? ⟨gs, 0, none⟩ = some (.bool (sgn (a + b))) ∧ V.cell? ⟨gs, 1, none⟩ = some (.string (nu (a + b))) ∧ V.cell? ⟨gs, 2, none⟩ = some (.string (de (a + b))) ∧ V.cell? ⟨gp, 0, none⟩ = some (.bool (sgn (a * b))) ∧ V.cell? ⟨gp, 1, none⟩ = some (.string (nu (a * b))) ∧ V.cell? ⟨gp, 2, none⟩ = some (.string (de (a * b)))) ∧ Hid (Five w V gs gp na nb nc xa ya xb yb xc yc (a + b) (a * b)))) (by kernel_rfl) (five_of H0) (fun hHeld => ?_)
      refine wpAnyH_take (i := 0) (oi := _) (v := .agg #[.bool nc, .string xc, .string yc]) rfl (by kernel_rfl) (by kernel_rfl) (by kernel_rfl) (fun _ _ _ h => h) (Or.inl ⟨by rfl, ?_⟩) (by assumption) ?_
      · intro w hSw
        (try dsimp only at hSw)
        go_simp
      (try simp only [List.getElem_toArray, List.getElem_cons_zero])
      (try simp only [Act.put, List.setIfInBounds_toArray, List.set_cons_zero, List.set_cons_succ])
      refine wpAnyH_ready (rs := [1]) (by kernel_rfl) (by simp) ?_
      refine AllReadyH.cons (o := _) rfl (fun K hK => ?_) AllReadyH.nil
      go_simp
      refine (fOf_q 0 0 rfl (by decide) (by rfl)).mono ?_
      rintro e w1 ⟨rfl, hb⟩
      have H1 := H0.step hb
      clear hb
      refine hK.out _ _ (five_of H1) (fun hHeld => ?_)
      clear hK K
      (try simp only [List.getElem_toArray, List.getElem_cons_zero, List.getElem_cons_succ])
      (try simp only [Act.put, List.setIfInBounds_toArray, List.set_cons_zero, List.set_cons_succ])
      refine wpAnyH_ready (rs := [2]) (by kernel_rfl) (by simp) ?_
      refine AllReadyH.cons (o := _) rfl (fun K hK => ?_) AllReadyH.nil
      go_simp
      refine (fCmp_q (0) HC.out (val_own (0)) (cmpQ_eq HK.out) sc t8).mono ?_
      rintro e w2 ⟨rfl, hb⟩
      have H2 := H1.step hb
      clear hb
      refine hK.out _ _ (five_of H2) (fun hHeld => ?_)
      clear hK K
      (try simp only [List.getElem_toArray, List.getElem_cons_zero, List.getElem_cons_succ])
      (try simp only [Act.put, List.setIfInBounds_toArray, List.set_cons_zero, List.set_cons_succ])
      refine wpAnyH_take (i := 3) (oi := _) (v := .bool false) rfl (by kernel_rfl) (by kernel_rfl) (by kernel_rfl) (fun _ _ _ h => h) (Or.inl ⟨by rfl, ?_⟩) (by assumption) ?_
      · intro w hSw
        (try dsimp only at hSw)
        go_simp
      (try simp only [List.getElem_toArray, List.getElem_cons_zero, List.getElem_cons_succ])
      (try simp only [Act.put, List.setIfInBounds_toArray, List.set_cons_zero, List.set_cons_succ])
      refine wpAnyH_take (i := 4) (oi := _) (v := .bool false) rfl (by kernel_rfl) (by kernel_rfl) (by kernel_rfl) (fun _ _ _ h => h) (Or.inl ⟨by rfl, ?_⟩) (by assumption) ?_
      · intro w hSw
        (try dsimp only at hSw)
        go_simp
      (try simp only [List.getElem_toArray, List.getElem_cons_zero, List.getElem_cons_succ])
      (try simp only [Act.put, List.setIfInBounds_toArray, List.set_cons_zero, List.set_cons_succ])
      refine wpAnyH_take (i := 5) (oi := _) (v := undef) rfl (by kernel_rfl) (by kernel_rfl) (by kernel_rfl) (fun _ _ _ h => h) (Or.inr ⟨by rfl, rfl⟩) (by assumption) ?_
      (try simp only [List.getElem_toArray, List.getElem_cons_zero, List.getElem_cons_succ])
      (try simp only [Act.put, List.setIfInBounds_toArray, List.set_cons_zero, List.set_cons_succ])
      refine wpAnyH_take (i := 6) (oi := _) (v := undef) rfl (by kernel_rfl) (by kernel_rfl) (by kernel_rfl) (fun _ _ _ h => h) (Or.inr ⟨by rfl, rfl⟩) (by assumption) ?_
      (try simp only [List.getElem_toArray, List.getElem_cons_zero, List.getElem_cons_succ])
      (try simp only [Act.put, List.setIfInBounds_toArray, List.set_cons_zero, List.set_cons_succ])
      refine wpAnyH_take (i := 8) (oi := _) (v := undef) rfl (by kernel_rfl) (by kernel_rfl) (by kernel_rfl) (fun _ _ _ h => h) (Or.inr ⟨by rfl, rfl⟩) (by assumption) ?_
      (try simp only [List.getElem_toArray, List.getElem_cons_zero, List.getElem_cons_succ])
      (try simp only [Act.put, List.setIfInBounds_toArray, List.set_cons_zero, List.set_cons_succ])
      refine wpAnyH_take (i := 9) (oi := _) (v := undef) rfl (by kernel_rfl) (by kernel_rfl) (by kernel_rfl) (fun _ _ _ h => h) (Or.inr ⟨by rfl, rfl⟩) (by assumption) ?_
      (try simp only [List.getElem_toArray, List.getElem_cons_zero, List.getElem_cons_succ])
      (try simp only [Act.put, List.setIfInBounds_toArray, List.set_cons_zero, List.set_cons_succ])
      refine wpAnyH_take (i := 12) (oi := _) (v := undef) rfl (by kernel_rfl) (by kernel_rfl) (by kernel_rfl) (fun _ _ _ h => h) (Or.inr ⟨by rfl, rfl⟩) (by assumption) ?_
      (try simp only [List.getElem_toArray, List.getElem_cons_zero, List.getElem_cons_succ])
      (try simp only [Act.put, List.setIfInBounds_toArray, List.set_cons_zero, List.set_cons_succ])
      refine wpAnyH_ready (rs := [7]) (by kernel_rfl) (by simp) ?_
      refine AllReadyH.cons (o := _) rfl (fun K hK => ?_) AllReadyH.nil
      go_simp
      refine hK.out _ _ (five_of H2) (fun hHeld => ?_)
      clear hK K
      (try simp only [List.getElem_toArray, List.getElem_cons_zero, List.getElem_cons_succ])
      (try simp only [Act.put, List.setIfInBounds_toArray, List.set_cons_zero, List.set_cons_succ])
      refine wpAnyH_ready (rs := [10]) (by kernel_rfl) (by simp) ?_
      refine AllReadyH.cons (o := _) rfl (fun K hK => ?_) AllReadyH.nil
      go_simp
      refine hK.out _ _ (five_of H2) (fun hHeld => ?_)
      clear hK K
      (try simp only [List.getElem_toArray, List.getElem_cons_zero, List.getElem_cons_succ])
      (try simp only [Act.put, List.setIfInBounds_toArray, List.set_cons_zero, List.set_cons_succ])
      refine wpAnyH_ready (rs := [11]) (by kernel_rfl) (by simp) ?_
      refine AllReadyH.cons (o := _) rfl (fun K hK => ?_) AllReadyH.nil
      go_simp
      refine hK.out _ _ (five_of H2) (fun hHeld => ?_)
      clear hK K
      (try simp only [List.getElem_toArray, List.getElem_cons_zero, List.getElem_cons_succ])
      (try simp only [Act.put, List.setIfInBounds_toArray, List.set_cons_zero, List.set_cons_succ])
      refine wpAnyH_take (i := 13) (oi := _) (v := undef) rfl (by kernel_rfl) (by kernel_rfl) (by kernel_rfl) (fun _ _ _ h => h) (Or.inr ⟨by rfl, rfl⟩) (by assumption) ?_
      (try simp only [List.getElem_toArray, List.getElem_cons_zero, List.getElem_cons_succ])
      (try simp only [Act.put, List.setIfInBounds_toArray, List.set_cons_zero, List.set_cons_succ])
      refine wpAnyH_take (i := 14) (oi := _) (v := .bool false) rfl (by kernel_rfl) (by kernel_rfl) (by kernel_rfl) (fun _ _ _ h => h) (Or.inl ⟨by rfl, ?_⟩) (by assumption) ?_
      · intro w hSw
        (try dsimp only at hSw)
        go_simp
      (try simp only [List.getElem_toArray, List.getElem_cons_zero, List.getElem_cons_succ])
      (try simp only [Act.put, List.setIfInBounds_toArray, List.set_cons_zero, List.set_cons_succ])
      refine wpAnyH_done (by kernel_rfl) ?_ _
      refine NoPanic.normal ?_
      go_wp2_with fail
      go_meet
      exact ⟨rfl, H2⟩
    · have hkk := hide ((cmpQ_mul a b h).trans hk.out)
      have HK := hide h
      clear h
      go_region_held3 (fun V => (V.cell? ⟨w.heap.size, 0, none⟩ = some (.bool na) ∧ V.cell? ⟨w.heap.size, 1, none⟩ = some (.string xa) ∧ V.cell? ⟨w.heap.size, 2, none⟩ = some (.string ya) ∧ V.cell? ⟨w.heap.size + 1, 0, none⟩ = some (.bool nb) ∧ V.cell? ⟨w.heap.size + 1, 1, none⟩ = some (.string xb) ∧ V.cell? ⟨w.heap.size + 1, 2, none⟩ = some (.string yb) ∧ V.cell? ⟨w.heap.size + 2, 0, none⟩ = some (.bool nc) ∧ V.cell? ⟨w.heap.size + 2, 1, none⟩ = some (.string xc) ∧ V.cell? ⟨w.heap.size + 2, 2, none⟩ = some (.string yc) ∧ V.cell? ⟨gs, 0, none⟩ = some (.bool (sgn (a + b))) ∧ V.cell? ⟨gs, 1, none⟩ = some (.string (nu (a + b))) ∧ V.cell? ⟨gs, 2, none⟩ = some (.string (de (a + b))) ∧ V.cell? ⟨gp, 0, none⟩ = some (.bool (sgn (a * b))) ∧ V.cell? ⟨gp, 1, none⟩ = some (.string (nu (a * b))) ∧ V.cell? ⟨gp, 2, none⟩ = some (.string (de (a * b)))) ∧ Hid (Five w V gs gp na nb nc xa ya xb yb xc yc (a + b) (a * b)))
        (first | exact five_of H5 | exact five_of H4 | exact five_of H3 | exact five_of H2 | exact five_of H1 | exact five_of H0)
        (first
          | (have HH := H4; go_at_call 23; refine (fCmp_q (k) (val_own (a * c)) (val_own (b * c)) hkk.out t5 t4).mono ?_; rintro e w5 ⟨rfl, hb5⟩; have H5 := HH.step hb5; clear hb5)
          | (have HH := H3; go_at_call 18; refine (fMul_q (b * c) HB.out HC.out rfl sb sc).mono ?_; rintro e w4 ⟨rfl, hb4⟩; have H4 := HH.step hb4; clear hb4)
          | (have HH := H2; go_at_call 18; refine (fMul_q (a * c) HA.out HC.out rfl sa sc).mono ?_; rintro e w3 ⟨rfl, hb3⟩; have H3 := HH.step hb3; clear hb3)
          | (have HH := H1; go_at_call 23; refine (fCmp_q (1) HC.out (val_own (0)) (cmpQ_gt HK.out) sc t8).mono ?_; rintro e w2 ⟨rfl, hb2⟩; have H2 := HH.step hb2; clear hb2)
          | (go_at_call 21; refine (fOf_q 0 0 rfl (by decide) (by rfl)).mono ?_; rintro e w1 ⟨rfl, hb1⟩; have H1 := H0.step hb1; clear hb1))
      go_wp2_with fail
      go_meet
      exact ⟨rfl, H5⟩
  case rest =>
  obtain ⟨rfl, H0⟩ := hcut
  go_upto_region 18 with fail
  have H0 := H0.drew
  obtain ⟨⟨t1, t2, t3, t4, t5, t6⟩, t7, t8, t9⟩ := HL.out
  go_region_held3 (fun V => (V.cell? ⟨w.heap.size, 0, none⟩ = some (.bool na) ∧ V.cell? ⟨w.heap.size, 1, none⟩ = some (.string xa) ∧ V.cell? ⟨w.heap.size, 2, none⟩ = some (.string ya) ∧ V.cell? ⟨w.heap.size + 1, 0, none⟩ = some (.bool nb) ∧ V.cell? ⟨w.heap.size + 1, 1, none⟩ = some (.string xb) ∧ V.cell? ⟨w.heap.size + 1, 2, none⟩ = some (.string yb) ∧ V.cell? ⟨w.heap.size + 2, 0, none⟩ = some (.bool nc) ∧ V.cell? ⟨w.heap.size + 2, 1, none⟩ = some (.string xc) ∧ V.cell? ⟨w.heap.size + 2, 2, none⟩ = some (.string yc) ∧ V.cell? ⟨gs, 0, none⟩ = some (.bool (sgn (a + b))) ∧ V.cell? ⟨gs, 1, none⟩ = some (.string (nu (a + b))) ∧ V.cell? ⟨gs, 2, none⟩ = some (.string (de (a + b))) ∧ V.cell? ⟨gp, 0, none⟩ = some (.bool (sgn (a * b))) ∧ V.cell? ⟨gp, 1, none⟩ = some (.string (nu (a * b))) ∧ V.cell? ⟨gp, 2, none⟩ = some (.string (de (a * b)))) ∧ Hid (Five w V gs gp na nb nc xa ya xb yb xc yc (a + b) (a * b)))
    (first | exact five_of (H0.alloc _) | exact five_of H8 | exact five_of H7 | exact five_of H6 | exact five_of H5 | exact five_of H4 | exact five_of H3 | exact five_of H2 | exact five_of H1 | exact five_of H0)
    (first
      | (have HH := H7; go_at_call 23; refine (fCmp_q (1) (val_own (1)) (val_own (0)) (cmpQ_gt (by decide)) t9 t8).mono ?_; rintro e w8 ⟨rfl, hb8⟩; have H8 := HH.step hb8; clear hb8)
      | (have HH := H6; go_at_call 21; refine (fOf_q 0 0 rfl (by decide) (by rfl)).mono ?_; rintro e w7 ⟨rfl, hb7⟩; have H7 := HH.step hb7; clear hb7)
      | (have HH := H5; go_at_call 21; refine (fOf_q 1 1 rfl (by decide) (by rfl)).mono ?_; rintro e w6 ⟨rfl, hb6⟩; have H6 := HH.step hb6; clear hb6)
      | (have HH := H4; go_at_call 20; refine (Canon_q (a) HA.out sa).mono ?_; rintro e w5 ⟨rfl, hb5⟩; have H5 := HH.step hb5; clear hb5)
      | (have HH := H3; go_at_call 20; refine (Canon_q (a) (val_own (a)) t7).mono ?_; rintro e w4 ⟨rfl, hb4⟩; have H4 := HH.step hb4; clear hb4)
      | (have HH := H2; go_at_call 20; refine (Canon_q (a) HA.out sa).mono ?_; rintro e w3 ⟨rfl, hb3⟩; have H3 := HH.step hb3; clear hb3)
      | (have HH := H1; go_at_call 17; refine (fAdd_q (a + b + c) (val_own (a + b)) HC.out rfl t1 sc).mono ?_; rintro e w2 ⟨rfl, hb2⟩; have H2 := HH.step hb2; clear hb2)
      | (go_at_call 24; refine (Sum_new (a + b + c) HA.out HB.out HC.out rfl hS.out.1 hS.out.2.1 hS.out.2.2).mono ?_; rintro e w1 ⟨rfl, hb1⟩; have H1 := (H0.alloc _).step hb1; clear hb1))
  go_wp2
  go_ret
  exact ⟨rfl, H8.2.2.2.2.2⟩
end Go.Proofs.YtghjhflfcambjaaDoor
