/- Package table: the assignment of a place, in memory of its own. -/
import Derived.Test.YtmdjhefcohcjhaaGreatDoorAsgAToStandB
import Derived.Test.YtmdjhefcohcjhaaGreatDoorRtBToNetD
namespace Go.Proofs.YtmdjhefcohcjhaaGreatDoor
open Go.RowKit Go.Shelf

attribute [local go_sem] Oper.semAt_some

set_option maxRecDepth 100000 in
set_option maxHeartbeats 1000000 in
theorem assignment_own (a b : Option Addr) (ca cb : Nat) (sizes vars : List Int) (K : Nat) (w : World) (hs : IntS w a sizes) (hv : IntS w b vars) (hfi : Fine sizes) (hup : Up vars sizes.length) (hK : K < cnt (toN sizes) (toN vars)) :
    Calls Tryz.prog 64 #[.slice a sizes.length ca, .slice b vars.length cb, .int .i64 (K : Nat)] w fun e w' => ∃ (g : Nat) (cc : Nat), e = .returned (.slice (some ⟨g, 0, none⟩) (digs (toN sizes) (toN vars) K).length cc) ∧ w.heap.size ≤ g ∧ RowI w' g (digs (toN sizes) (toN vars) K) ∧ Below w.heap.size w w' := by
  refine (callsIn_wide (n := 6)).1 ?_
  have hl8 := hfi.eight
  have hvl := hup.length
  have hsm : cnt (toN sizes) (toN vars) ≤ 65536 := cnt_small hfi.sz_le (by rw [toN_length]; omega)
  have hmk := fun V => run_make_row' (P := Tryz.prog) 34 3 (.int .i64 0) 8 Tryz.underlying34 Tryz.infoInt rfl .i64 .i64 vars.length (by omega) (by omega) V
  have HS := hid hs
  have HV := hid hv
  have HFI := hid hfi
  have HUP := hid hup
  have hdl : (digs (toN sizes) (toN vars) K).length = vars.length := by rw [digs_length, toN_length]
  have HALL := hid (asgF_all hK)
  rw [toN_length] at HALL
  rw [hdl]
  clear hs hv hfi hup
  refine callsIn_of_wp_marks Tryz.func64 rfl trivial ?_ rfl
  simp only [Tryz.ntmps64, List.size_toArray, List.length_cons, List.length_nil, Nat.reduceAdd, Nat.reduceSub, Array.replicate_succ, Array.replicate_zero, List.push_toArray, List.append_toArray, List.nil_append, List.cons_append]
  gi_wp2_with ((refine ⟨trivial, ?_⟩; gi_at_call 101; refine (backward_in _ _ _ _ _).mono ?_; rintro e w2 ⟨rfl, rfl⟩))
  obtain ⟨W0, hW0⟩ : ∃ W0, W0 = (((((w.alloc (.cells #[.slice a sizes.length ca] 34)).alloc (.cells #[.int .i64 (K : Nat)] 3)).alloc (.cells (madeCells #[.int .i64 0] vars.length) 3)).alloc (.cells #[.slice (some ⟨w.heap.size + 1 + 1, 0, none⟩) vars.length vars.length] 34)).alloc (.cells #[.slice b vars.length cb] 34)) := ⟨_, rfl⟩
  have hsz0 : W0.heap.size = w.heap.size + 1 + 1 + 1 + 1 + 1 := by rw [hW0]; simp
  have b0 : Boxed W0 w.heap.size 34 (.slice a sizes.length ca) := by rw [hW0]; exact ((((Boxed.new w _ _).alloc _).alloc _).alloc _).alloc _
  have b1 : Boxed W0 (w.heap.size + 1) 3 (.int .i64 (K : Nat)) := by
    have h := ((((Boxed.new (w.alloc (.cells #[.slice a sizes.length ca] 34)) 3 (.int .i64 (K : Nat))).alloc (.cells (madeCells #[.int .i64 0] vars.length) 3)).alloc (.cells #[.slice (some ⟨w.heap.size + 1 + 1, 0, none⟩) vars.length vars.length] 34)).alloc (.cells #[.slice b vars.length cb] 34))
    rw [World.size_alloc] at h
    rw [hW0]; exact h
  have r2 : RowI W0 (w.heap.size + 1 + 1) (List.replicate vars.length 0) := by
    have h := ((made_row ((w.alloc (.cells #[.slice a sizes.length ca] 34)).alloc (.cells #[.int .i64 (K : Nat)] 3)) vars.length).alloc (.cells #[.slice (some ⟨w.heap.size + 1 + 1, 0, none⟩) vars.length vars.length] 34)).alloc (.cells #[.slice b vars.length cb] 34)
    rw [World.size_alloc, World.size_alloc] at h
    rw [hW0]; exact h
  have b3 : Boxed W0 (w.heap.size + 1 + 1 + 1) 34 (.slice (some ⟨w.heap.size + 1 + 1, 0, none⟩) vars.length vars.length) := by
    have h := (Boxed.new (((w.alloc (.cells #[.slice a sizes.length ca] 34)).alloc (.cells #[.int .i64 (K : Nat)] 3)).alloc (.cells (madeCells #[.int .i64 0] vars.length) 3)) 34 (.slice (some ⟨w.heap.size + 1 + 1, 0, none⟩) vars.length vars.length)).alloc (.cells #[.slice b vars.length cb] 34)
    rw [World.size_alloc, World.size_alloc, World.size_alloc] at h
    rw [hW0]; exact h
  have b4 : Boxed W0 (w.heap.size + 1 + 1 + 1 + 1) 34 (.slice b vars.length cb) := by
    have h := Boxed.new ((((w.alloc (.cells #[.slice a sizes.length ca] 34)).alloc (.cells #[.int .i64 (K : Nat)] 3)).alloc (.cells (madeCells #[.int .i64 0] vars.length) 3)).alloc (.cells #[.slice (some ⟨w.heap.size + 1 + 1, 0, none⟩) vars.length vars.length] 34)) 34 (.slice b vars.length cb)
    rw [World.size_alloc, World.size_alloc, World.size_alloc, World.size_alloc] at h
    rw [hW0]; exact h
  have hB0 : Below w.heap.size w W0 := by
    rw [hW0]
    exact (((((Below.refl _ w).alloc (Nat.le_refl _) _).alloc (by simp) _).alloc (by simp; omega) _).alloc (by simp; omega) _).alloc (by simp; omega) _
  rw [← hW0]
  clear hW0
  refine wpIn_rangeFunc_ownG (α := At vars) rfl (by omega) (gf := 130) (lb := #[.pointer (some ⟨w.heap.size + 1 + 1 + 1 + 1, 0, none⟩)]) rfl trivial (enters_of Tryz.func130 (by kernel_rfl) rfl)
    (backward_stops 5 (by omega) (w.heap.size + 1 + 1 + 1 + 1) w.heap.size b cb vars (by omega) W0 (by omega) (by omega) b4.cell (HV.out.toB.below hB0)) KeepsB.t (KeepsB.b (by omega) (by omega)) (Below.refl _ _) (fun _ => rfl)
    (fun (pre : List (At vars)) V => Boxed V w.heap.size 34 (.slice a sizes.length ca) ∧ Boxed V (w.heap.size + 1) 3 (.int .i64 ((asgF (toN sizes) (toN vars) K vars.length (pre.map (·.1))).1 : Nat)) ∧ RowI V (w.heap.size + 1 + 1) (asgF (toN sizes) (toN vars) K vars.length (pre.map (·.1))).2 ∧ Boxed V (w.heap.size + 1 + 1 + 1) 34 (.slice (some ⟨w.heap.size + 1 + 1, 0, none⟩) vars.length vars.length) ∧ Boxed V (w.heap.size + 1 + 1 + 1 + 1) 34 (.slice b vars.length cb) ∧ Below w.heap.size w V)
    (fun _ _ _ => False)
    (OwnFrom.and (Own.from (boxed_own _ _ (fun _ => _)) _) (OwnFrom.and (Own.from (boxed_own _ _ (fun pre : List (At vars) => .int .i64 ((asgF (toN sizes) (toN vars) K vars.length (pre.map (·.1))).1 : Nat))) _) (OwnFrom.and (Own.from (row_own _ (fun pre : List (At vars) => (asgF (toN sizes) (toN vars) K vars.length (pre.map (·.1))).2)) _) (OwnFrom.and (Own.from (boxed_own _ _ (fun _ => _)) _) (OwnFrom.and (Own.from (boxed_own _ _ (fun _ => _)) _) (ownFrom_below (Nat.le_refl _) (by omega)))))))
    (fun _ _ _ _ _ hs _ _ => hs)
    ⟨b0, b1, r2, b3, b4, hB0⟩
    (fun x => { tmps := #[.slice a sizes.length ca, .slice b vars.length cb, .int .i64 (K : Nat), .pointer (some ⟨w.heap.size, 0, none⟩), undef, .pointer (some ⟨w.heap.size + 1, 0, none⟩), .slice none 0 0, .pointer (some ⟨w.heap.size + 1 + 1 + 1, 0, none⟩), .int .i64 (x.1 : Nat), .int .i64 (vars[x.1]'x.2), .slice b vars.length cb, .int .i64 (vars.length : Nat), .slice (some ⟨w.heap.size + 1 + 1, 0, none⟩) vars.length vars.length, .slice b vars.length cb, .func (.func 130) #[] #[.pointer (some ⟨w.heap.size + 1 + 1 + 1 + 1, 0, none⟩)], .int .i64 (x.1 : Nat), .int .i64 (vars[x.1]'x.2), undef, undef, undef, undef, undef, undef, undef, undef, undef, undef, undef, undef, undef, undef, undef, undef], defers := [] }) ?assign ?body ?done ?stop
  case assign =>
    intro l x V K hK
    gi_wp2
    exact hK
  case body =>
    rintro l pre ⟨i, hi⟩ V ⟨h0, h1, h2, h3, h4, hB⟩ hlt
    obtain ⟨hvi, hvn⟩ := HUP.out.nat hi
    have HST : Hid (asgF (toN sizes) (toN vars) K vars.length ((pre ++ [(⟨i, hi⟩ : At vars)]).map (·.1)) = ((asgF (toN sizes) (toN vars) K vars.length (pre.map (·.1))).1 / sz (toN sizes) vars[i].toNat, (asgF (toN sizes) (toN vars) K vars.length (pre.map (·.1))).2.set i ((asgF (toN sizes) (toN vars) K vars.length (pre.map (·.1))).1 % sz (toN sizes) vars[i].toNat))) := by
      show _ = _
      rw [List.map_append, List.map_cons, List.map_nil, asgF_snoc, bst, getN_eq (show i < (toN vars).length by rw [toN_length]; exact hi), toN_get hi]
    obtain ⟨hpk, hpl⟩ := asgF_le (toN sizes) (toN vars) K vars.length (pre.map (·.1))
    have hz := sz_pos HFI.out.pos vars[i].toNat
    have hz4 := HFI.out.sz_le vars[i].toNat
    generalize hV : vars[i].toNat = v at *
    rw [← hvi]
    obtain ⟨g', o', rfl, hg', c1⟩ := (HS.out.below hB) v hvn
    rw [← HFI.out.sz_eq hvn] at c1
    have hg2 : g' < w.heap.size := by
      obtain ⟨g3, o3, e3, h3, _⟩ := HS.out v hvn
      cases e3
      exact h3
    clear hvi hV
    generalize asgF (toN sizes) (toN vars) K vars.length (pre.map (·.1)) = st at *
    obtain ⟨p, at0⟩ := st
    simp only at h1 h2 hpk hpl HST
    generalize sz (toN sizes) v = s0 at *
    have hrow := h2.cell i (by omega)
    have hfz := h2.fz i
    have k0 := h0.cell
    have k1 := h1.cell
    have k3 := h3.cell
    have f1 := h1.frozen
    have hq1 : (p : Int) % (s0 : Int) = ((p % s0 : Nat) : Int) := (Int.natCast_emod _ _).symm
    have hq2 : (p : Int) / (s0 : Int) = ((p / s0 : Nat) : Int) := (Int.natCast_ediv _ _).symm
    have hm1 : p % s0 ≤ 65536 := Nat.le_trans (Nat.mod_le _ _) (by omega)
    have hm2 : p / s0 ≤ 65536 := Nat.le_trans (Nat.div_le_self _ _) (by omega)
    generalize p % s0 = mm at *
    generalize p / s0 = dd at *
    have hz1 : ¬ (s0 : Int) = 0 := by omega
    have hne1 : ¬ w.heap.size + 1 + 1 = w.heap.size + 1 := by omega
    have hne2 : ¬ w.heap.size + 1 = w.heap.size + 1 + 1 := by omega
    have hpi : i < at0.length := by omega
    generalize at0[i] = z at *
    have hw1 : IntKind.i64.wrap ((p : Int) % (s0 : Int)) = (p : Int) % (s0 : Int) := by rw [hq1, IntKind.wrap_i64]; omega
    have hw2 : IntKind.i64.wrap ((p : Int) / (s0 : Int)) = (p : Int) / (s0 : Int) := by rw [hq2, IntKind.wrap_i64]; omega
    have HQ1 := hid hq1
    have HQ2 := hid hq2
    clear hq1 hq2
    clear hmk b0 b1 r2 b3 b4 hB0 hsz0 hdl HALL HUP HFI HV hsm hK hpl
    gi_wp2_with fail
    refine region_round (fun u => u.cell? ⟨w.heap.size + 1 + 1 + 1, 0, none⟩ = some (.slice (some ⟨w.heap.size + 1 + 1, 0, none⟩) vars.length vars.length) ∧ u.cell? ⟨w.heap.size + 1, 0, none⟩ = some (.int .i64 (p : Nat)) ∧ u.cell? ⟨w.heap.size, 0, none⟩ = some (.slice (some ⟨g', o', none⟩) sizes.length ca) ∧ u.cell? ⟨g', o' + v, none⟩ = some (.int .i64 (s0 : Nat))) (by kernel_rfl) (by kernel_rfl) (fun ⟨_, _, h⟩ => h) ⟨k3, k1, k0, c1⟩ ?_
    intro hSd
    refine wpAnyH_take (i := 0) (oi := _) (v := .slice (some ⟨w.heap.size + 1 + 1, 0, none⟩) vars.length vars.length) rfl (by kernel_rfl) (by kernel_rfl) (by kernel_rfl) (fun _ _ _ h => h) (Or.inl ⟨by rfl, ?_⟩) (by assumption) ?_
    · intro u hSu
      obtain ⟨s1, s2, s3, s4⟩ := hSu
      simp only [List.getElem_toArray, List.getElem_cons_zero]
      go_simp
    simp only [List.getElem_toArray, List.getElem_cons_zero, Act.put, List.setIfInBounds_toArray, List.set_cons_zero, List.set_cons_succ]
    refine wpAnyH_take (i := 1) (oi := _) (v := .int .i64 (i : Nat)) rfl (by kernel_rfl) (by kernel_rfl) (by kernel_rfl) (fun _ _ _ h => h) (Or.inl ⟨by rfl, ?_⟩) (by assumption) ?_
    · intro u hSu
      obtain ⟨s1, s2, s3, s4⟩ := hSu
      simp only [List.getElem_toArray, List.getElem_cons_zero, List.getElem_cons_succ]
      go_simp
    simp only [List.getElem_toArray, List.getElem_cons_zero, List.getElem_cons_succ, Act.put, List.setIfInBounds_toArray, List.set_cons_zero, List.set_cons_succ]
    refine wpAnyH_take (i := 2) (oi := _) (v := .int .i64 (p : Nat)) rfl (by kernel_rfl) (by kernel_rfl) (by kernel_rfl) (fun _ _ _ h => h) (Or.inl ⟨by rfl, ?_⟩) (by assumption) ?_
    · intro u hSu
      obtain ⟨s1, s2, s3, s4⟩ := hSu
      simp only [List.getElem_toArray, List.getElem_cons_zero, List.getElem_cons_succ]
      go_simp
    simp only [List.getElem_toArray, List.getElem_cons_zero, List.getElem_cons_succ, Act.put, List.setIfInBounds_toArray, List.set_cons_zero, List.set_cons_succ]
    refine wpAnyH_take (i := 3) (oi := _) (v := .slice (some ⟨g', o', none⟩) sizes.length ca) rfl (by kernel_rfl) (by kernel_rfl) (by kernel_rfl) (fun _ _ _ h => h) (Or.inl ⟨by rfl, ?_⟩) (by assumption) ?_
    · intro u hSu
      obtain ⟨s1, s2, s3, s4⟩ := hSu
      simp only [List.getElem_toArray, List.getElem_cons_zero, List.getElem_cons_succ]
      go_simp
    simp only [List.getElem_toArray, List.getElem_cons_zero, List.getElem_cons_succ, Act.put, List.setIfInBounds_toArray, List.set_cons_zero, List.set_cons_succ]
    refine wpAnyH_take (i := 4) (oi := _) (v := .int .i64 (v : Nat)) rfl (by kernel_rfl) (by kernel_rfl) (by kernel_rfl) (fun _ _ _ h => h) (Or.inl ⟨by rfl, ?_⟩) (by assumption) ?_
    · intro u hSu
      obtain ⟨s1, s2, s3, s4⟩ := hSu
      simp only [List.getElem_toArray, List.getElem_cons_zero, List.getElem_cons_succ]
      go_simp
    simp only [List.getElem_toArray, List.getElem_cons_zero, List.getElem_cons_succ, Act.put, List.setIfInBounds_toArray, List.set_cons_zero, List.set_cons_succ]
    refine wpAnyH_take (i := 5) (oi := _) (v := .pointer (some ⟨g', o' + v, none⟩)) rfl (by kernel_rfl) (by kernel_rfl) (by kernel_rfl) (fun _ _ _ h => h) (Or.inl ⟨by rfl, ?_⟩) (by assumption) ?_
    · intro u hSu
      obtain ⟨s1, s2, s3, s4⟩ := hSu
      simp only [List.getElem_toArray, List.getElem_cons_zero, List.getElem_cons_succ]
      go_simp
    simp only [List.getElem_toArray, List.getElem_cons_zero, List.getElem_cons_succ, Act.put, List.setIfInBounds_toArray, List.set_cons_zero, List.set_cons_succ]
    refine wpAnyH_take (i := 6) (oi := _) (v := .int .i64 (s0 : Nat)) rfl (by kernel_rfl) (by kernel_rfl) (by kernel_rfl) (fun _ _ _ h => h) (Or.inl ⟨by rfl, ?_⟩) (by assumption) ?_
    · intro u hSu
      obtain ⟨s1, s2, s3, s4⟩ := hSu
      simp only [List.getElem_toArray, List.getElem_cons_zero, List.getElem_cons_succ]
      go_simp
    simp only [List.getElem_toArray, List.getElem_cons_zero, List.getElem_cons_succ, Act.put, List.setIfInBounds_toArray, List.set_cons_zero, List.set_cons_succ]
    refine wpAnyH_take (i := 7) (oi := _) (v := .int .i64 ((p : Int) % (s0 : Int))) rfl (by kernel_rfl) (by kernel_rfl) (by kernel_rfl) (fun _ _ _ h => h) (Or.inl ⟨by rfl, ?_⟩) (by assumption) ?_
    · intro u hSu
      obtain ⟨s1, s2, s3, s4⟩ := hSu
      simp only [List.getElem_toArray, List.getElem_cons_zero, List.getElem_cons_succ]
      go_simp
      rw [if_neg (show ¬ s0 = 0 by omega), Int.tmod_eq_emod_of_nonneg (Int.natCast_nonneg _)]
    simp only [List.getElem_toArray, List.getElem_cons_zero, List.getElem_cons_succ, Act.put, List.setIfInBounds_toArray, List.set_cons_zero, List.set_cons_succ]
    refine wpAnyH_take (i := 8) (oi := _) (v := .pointer (some ⟨w.heap.size + 1 + 1, i, none⟩)) rfl (by kernel_rfl) (by kernel_rfl) (by kernel_rfl) (fun _ _ _ h => h) (Or.inl ⟨by rfl, ?_⟩) (by assumption) ?_
    · intro u hSu
      obtain ⟨s1, s2, s3, s4⟩ := hSu
      simp only [List.getElem_toArray, List.getElem_cons_zero, List.getElem_cons_succ]
      go_simp
    simp only [List.getElem_toArray, List.getElem_cons_zero, List.getElem_cons_succ, Act.put, List.setIfInBounds_toArray, List.set_cons_zero, List.set_cons_succ]
    refine wpAnyH_ready (rs := [9]) (by kernel_rfl) (by simp) (AllReadyH.cons rfl ?_ AllReadyH.nil)
    intro K' hK'
    simp only [List.getElem_toArray, List.getElem_cons_zero, List.getElem_cons_succ]
    go_simp
    have far : ∀ (b j : Nat) (y : Value), ¬ w.heap.size + 1 + 1 = b → (V.setCell ⟨w.heap.size + 1 + 1, i, none⟩ y).drew.cell? ⟨b, j, none⟩ = V.cell? ⟨b, j, none⟩ := fun b j y hb => World.cell?_setCell_other _ _ _ _ (fun e => hb (by cases e; rfl))
    refine hK'.out _ _ ⟨(far _ _ _ (by omega)).trans k3, (far _ _ _ (by omega)).trans k1, (far _ _ _ (by omega)).trans k0, (far _ _ _ (by omega)).trans c1⟩ (fun _ => wpAnyH_done (by kernel_rfl) ?_ _)
    clear hK' K' hSd
    have m0 := (far w.heap.size 0 (.int .i64 ((p : Int) % (s0 : Int))) (by omega)).trans k0
    have m1 := (far (w.heap.size + 1) 0 (.int .i64 ((p : Int) % (s0 : Int))) (by omega)).trans k1
    have m2 := (far g' (o' + v) (.int .i64 ((p : Int) % (s0 : Int))) (by omega)).trans c1
    have hr1 := h2.set i mm
    rw [← HQ1.out] at hr1
    have q0 : Boxed (V.setCell ⟨w.heap.size + 1 + 1, i, none⟩ (.int .i64 ((p : Int) % (s0 : Int)))).drew w.heap.size 34 (.slice (some ⟨g', o', none⟩) sizes.length ca) := boxed_off h0 _ i _ (by omega)
    have q1 : Boxed (V.setCell ⟨w.heap.size + 1 + 1, i, none⟩ (.int .i64 ((p : Int) % (s0 : Int)))).drew (w.heap.size + 1) 3 (.int .i64 (p : Nat)) := boxed_off h1 _ i _ (by omega)
    have q3 : Boxed (V.setCell ⟨w.heap.size + 1 + 1, i, none⟩ (.int .i64 ((p : Int) % (s0 : Int)))).drew (w.heap.size + 1 + 1 + 1) 34 (.slice (some ⟨w.heap.size + 1 + 1, 0, none⟩) vars.length vars.length) := boxed_off h3 _ i _ (by omega)
    have q4 : Boxed (V.setCell ⟨w.heap.size + 1 + 1, i, none⟩ (.int .i64 ((p : Int) % (s0 : Int)))).drew (w.heap.size + 1 + 1 + 1 + 1) 34 (.slice b vars.length cb) := boxed_off h4 _ i _ (by omega)
    have q2 : RowI (V.setCell ⟨w.heap.size + 1 + 1, i, none⟩ (.int .i64 ((p : Int) % (s0 : Int)))).drew (w.heap.size + 1 + 1) (at0.set i mm) := hr1
    have qB : Below w.heap.size w (V.setCell ⟨w.heap.size + 1 + 1, i, none⟩ (.int .i64 ((p : Int) % (s0 : Int)))).drew := (hB.setCell (p := ⟨w.heap.size + 1 + 1, i, none⟩) (by simp; omega) _).drew
    have qK : Below w.heap.size V (V.setCell ⟨w.heap.size + 1 + 1, i, none⟩ (.int .i64 ((p : Int) % (s0 : Int)))).drew := ((Below.refl w.heap.size V).setCell (p := ⟨w.heap.size + 1 + 1, i, none⟩) (by simp; omega) _).drew
    have qO : KeepsOthers V (V.setCell ⟨w.heap.size + 1 + 1, i, none⟩ (.int .i64 ((p : Int) % (s0 : Int)))).drew := (KeepsOthers.setCell V _ _).trans (KeepsOthers.drew _)
    have fU := q1.frozen
    have j4 : KeepsBox (w.heap.size + 1 + 1 + 1 + 1) V (V.setCell ⟨w.heap.size + 1 + 1, i, none⟩ (.int .i64 ((p : Int) % (s0 : Int)))).drew := q4.cell.trans h4.cell.symm
    clear far
    generalize (V.setCell ⟨w.heap.size + 1 + 1, i, none⟩ (.int .i64 ((p : Int) % (s0 : Int)))).drew = U at *
    gi_wp2_with fail
    refine region_round (fun u => u.cell? ⟨w.heap.size, 0, none⟩ = some (.slice (some ⟨g', o', none⟩) sizes.length ca) ∧ u.cell? ⟨g', o' + v, none⟩ = some (.int .i64 (s0 : Nat))) (by kernel_rfl) (by kernel_rfl) (fun ⟨_, _, h⟩ => h) ⟨m0, m2⟩ ?_
    intro hSd
    refine wpAnyH_take (i := 1) (oi := _) (v := .slice (some ⟨g', o', none⟩) sizes.length ca) rfl (by kernel_rfl) (by kernel_rfl) (by kernel_rfl) (fun _ _ _ h => h) (Or.inl ⟨by rfl, ?_⟩) (by assumption) ?_
    · intro u hSu
      obtain ⟨s3, s4⟩ := hSu
      simp only [List.getElem_toArray, List.getElem_cons_zero, List.getElem_cons_succ]
      go_simp
    simp only [List.getElem_toArray, List.getElem_cons_zero, List.getElem_cons_succ, Act.put, List.setIfInBounds_toArray, List.set_cons_zero, List.set_cons_succ]
    refine wpAnyH_take (i := 2) (oi := _) (v := .int .i64 (v : Nat)) rfl (by kernel_rfl) (by kernel_rfl) (by kernel_rfl) (fun _ _ _ h => h) (Or.inl ⟨by rfl, ?_⟩) (by assumption) ?_
    · intro u hSu
      obtain ⟨s3, s4⟩ := hSu
      simp only [List.getElem_toArray, List.getElem_cons_zero, List.getElem_cons_succ]
      go_simp
    simp only [List.getElem_toArray, List.getElem_cons_zero, List.getElem_cons_succ, Act.put, List.setIfInBounds_toArray, List.set_cons_zero, List.set_cons_succ]
    refine wpAnyH_take (i := 3) (oi := _) (v := .pointer (some ⟨g', o' + v, none⟩)) rfl (by kernel_rfl) (by kernel_rfl) (by kernel_rfl) (fun _ _ _ h => h) (Or.inl ⟨by rfl, ?_⟩) (by assumption) ?_
    · intro u hSu
      obtain ⟨s3, s4⟩ := hSu
      simp only [List.getElem_toArray, List.getElem_cons_zero, List.getElem_cons_succ]
      go_simp
    simp only [List.getElem_toArray, List.getElem_cons_zero, List.getElem_cons_succ, Act.put, List.setIfInBounds_toArray, List.set_cons_zero, List.set_cons_succ]
    refine wpAnyH_take (i := 4) (oi := _) (v := .int .i64 (s0 : Nat)) rfl (by kernel_rfl) (by kernel_rfl) (by kernel_rfl) (fun _ _ _ h => h) (Or.inl ⟨by rfl, ?_⟩) (by assumption) ?_
    · intro u hSu
      obtain ⟨s3, s4⟩ := hSu
      simp only [List.getElem_toArray, List.getElem_cons_zero, List.getElem_cons_succ]
      go_simp
    simp only [List.getElem_toArray, List.getElem_cons_zero, List.getElem_cons_succ, Act.put, List.setIfInBounds_toArray, List.set_cons_zero, List.set_cons_succ]
    refine wpAnyH_ready (rs := [0]) (by kernel_rfl) (by simp) (AllReadyH.cons rfl ?_ AllReadyH.nil)
    intro K' hK'
    simp only [List.getElem_toArray, List.getElem_cons_zero]
    go_simp
    refine hK'.out _ _ hSd (fun _ => ?_)
    clear hK' K'
    refine wpAnyH_take (i := 5) (oi := _) (v := .int .i64 ((p : Int) / (s0 : Int))) rfl (by kernel_rfl) (by kernel_rfl) (by kernel_rfl) (fun _ _ _ h => h) (Or.inl ⟨by rfl, ?_⟩) (by assumption) ?_
    · intro u hSu
      obtain ⟨s3, s4⟩ := hSu
      simp only [List.getElem_toArray, List.getElem_cons_zero, List.getElem_cons_succ]
      go_simp
      omega
    simp only [List.getElem_toArray, List.getElem_cons_zero, List.getElem_cons_succ, Act.put, List.setIfInBounds_toArray, List.set_cons_zero, List.set_cons_succ]
    refine wpAnyH_ready (rs := [6]) (by kernel_rfl) (by simp) (AllReadyH.cons rfl ?_ AllReadyH.nil)
    intro K' hK'
    simp only [List.getElem_toArray, List.getElem_cons_zero, List.getElem_cons_succ]
    go_simp
    refine hK'.out _ _ ⟨(boxed_off q0 (w.heap.size + 1) 0 _ (by omega)).cell, (World.cell?_setCell_other _ _ _ _ (fun e => (show ¬ w.heap.size + 1 = g' by omega) (congrArg Addr.block e))).trans m2⟩ (fun _ => wpAnyH_done (by kernel_rfl) ?_ _)
    clear hK' K' hSd
    gi_wp2
    rw [HQ2.out]
    refine ⟨(qO.trans ((KeepsOthers.setCell U _ _).trans (KeepsOthers.drew _))).from _, ⟨j4.t ((boxed_off q4 (w.heap.size + 1) 0 (.int .i64 (dd : Nat)) (by omega)).cell.trans q4.cell.symm), (qK.setCell (p := ⟨w.heap.size + 1, 0, none⟩) (by simp) _).drew⟩, ?_⟩
    refine ⟨boxed_off q0 _ 0 _ (by omega), ?_, ?_, boxed_off q3 _ 0 _ (by omega), boxed_off q4 _ 0 _ (by omega), (qB.setCell (p := ⟨w.heap.size + 1, 0, none⟩) (by simp) _).drew⟩
    · rw [HST.out]; exact q1.set _
    · rw [HST.out]; exact q2.off _ 0 _ (by omega)
  case done =>
    rintro D ys V hD hys ⟨h0, h1, h2, h3, h4, hB⟩ hK
    rw [hys, HALL.out] at h2
    have hc := h3.cell
    gi_wp2
    refine ⟨by simp, .inl ⟨_, _, rfl, run_takeDeferred hK, ?_⟩⟩
    refine ⟨_, results_tmp rfl _ _ _, ?_⟩
    refine ⟨w.heap.size + 1 + 1, ⟨vars.length, rfl⟩, by omega, ?_, hB.trans (belowK_b (w := w) (Nat.le_refl _) V D _ _ (by omega) hK rfl rfl)⟩
    have h2' : RowI (V.putObj D (.deferred none)) (w.heap.size + 1 + 1) (digs (toN sizes) (toN vars) K) := row_own (w.heap.size + 1 + 1) (fun (_ : Unit) => digs (toN sizes) (toN vars) K) () V _ (some D) h2 (grownBy_putObj' V D _) (fun r e => by cases e; exact ⟨_, hK, rfl⟩)
    exact h2'
  case stop =>
    rintro D c pre V _ _ h _
    exact h.elim
set_option maxRecDepth 100000 in
set_option maxHeartbeats 400000 in
theorem tWhere_own (a b : Option Addr) (ca cb K : Nat) (sizes vars : List Int) (w : World) (hs : IntS w a sizes) (hv : IntS w b vars) (hfi : Fine sizes) (hup : Up vars sizes.length) (hK : K < cnt (toN sizes) (toN vars)) :
    Calls Tryz.prog 38 #[.slice a sizes.length ca, .slice b vars.length cb, .int .i64 (K : Nat)] w fun e w' => ∃ (g : Nat) (cc : Nat), e = .returned (.tuple #[.slice (some ⟨g, 0, none⟩) vars.length cc, .int .i64 0]) ∧ w.heap.size ≤ g ∧ RowI w' g (digs (toN sizes) (toN vars) K) ∧ Below w.heap.size w w' := by
  have hl8 := hfi.eight
  have hvl := hup.length
  have HS := hid hs
  have HV := hid hv
  have hcb : countB sizes vars = true := countB_of hfi hup
  have HC := hid (fun V h1 h2 => tCount_any a b ca cb sizes vars V h1 h2 (by omega) (by omega))
  rw [countA_yes hcb] at HC
  simp only at HC
  have HA := hid (fun V h1 h2 => assignment_own a b ca cb sizes vars K V h1 h2 hfi hup hK)
  have hdl : (digs (toN sizes) (toN vars) K).length = vars.length := by rw [digs_length, toN_length]
  rw [hdl] at HA
  clear hs hv hcb hfi hup hdl
  generalize digs (toN sizes) (toN vars) K = ds at *
  generalize cnt (toN sizes) (toN vars) = N0 at *
  have hk0 : (0 : Int) ≤ (K : Int) := by omega
  have hk1 : (K : Int) < (N0 : Int) := by omega
  go_enter Tryz.func38, Tryz.ntmps38
  go_wp2_with fail
  refine (HC.out _ HS.out HV.out).mono ?_
  rintro e w1 ⟨rfl, hb1⟩
  go_wp2_with fail
  refine (HA.out _ (HS.out.below hb1) (HV.out.below hb1)).mono ?_
  rintro e w2 ⟨c, cc, rfl, hge, hi2, hb2⟩
  have hs1 := hb1.size
  go_wp2
  go_ret2
  exact ⟨c, cc, rfl, by omega, hi2, hb1.trans (hb2.mono hb1.size)⟩
end Go.Proofs.YtmdjhefcohcjhaaGreatDoor

