/- Package table: how far apart the values of the variables stand. -/
import Derived.Test.YtknlhejhnopnaaaGreatDoorAsgAToTabP3
namespace Go.Proofs.YtknlhejhnopnaaaGreatDoor
open Go.RowKit Go.Shelf

attribute [local go_sem] Oper.semAt_some

/-- How far apart two values stand, variable by variable. -/
def stpL (S : List Nat) (n : Nat) (vs : List Nat) : List Nat := (List.range n).map (stp S vs)
theorem stpL_length (S : List Nat) (n : Nat) (vs : List Nat) : (stpL S n vs).length = n := by simp [stpL]
theorem stpL_nil (S : List Nat) (n : Nat) : stpL S n [] = List.replicate n 0 := by
  apply List.ext_getElem <;> simp [stpL, stp]
theorem stpL_cons (S : List Nat) (n u : Nat) (vs : List Nat) : (stpL S n vs).set u (cnt S vs) = stpL S n (u :: vs) := by
  apply List.ext_getElem
  · simp [stpL]
  · intro i h1 h2
    simp only [stpL, List.getElem_set, List.getElem_map, List.getElem_range, stp]
    by_cases e : u = i
    · rw [if_pos e, if_pos e.symm]
    · rw [if_neg e, if_neg (fun h => e h.symm)]
theorem stpL_get (S : List Nat) (n : Nat) (vs : List Nat) {v : Nat} (h : v < n) : (stpL S n vs)[v]'(by rw [stpL_length]; exact h) = stp S vs v := by simp [stpL]
/-- One step of telling them from the end: the step, and what is written. -/
def sst (S vs : List Nat) (st : Nat × List Nat) (i : Nat) : Nat × List Nat := (st.1 * sz S (vs.getD i 0), st.2.set (vs.getD i 0) st.1)
def stpF (S vs : List Nat) (n : Nat) (pre : List Nat) : Nat × List Nat := pre.foldl (sst S vs) (1, List.replicate n 0)
theorem stpF_snoc (S vs : List Nat) (n : Nat) (pre : List Nat) (i : Nat) : stpF S vs n (pre ++ [i]) = sst S vs (stpF S vs n pre) i := by simp [stpF]
theorem stpF_backs (S vs : List Nat) (n : Nat) : ∀ m, m ≤ vs.length → stpF S vs n (backs vs.length m) = (cnt S (vs.drop (vs.length - m)), stpL S n (vs.drop (vs.length - m)))
  | 0, _ => by simp [stpF, backs, cnt, stpL_nil]
  | m + 1, h => by
    rw [backs_succ, stpF_snoc, stpF_backs S vs n m (by omega)]
    have hj : vs.length - 1 - m < vs.length := by omega
    have e1 : vs.length - (m + 1) = vs.length - 1 - m := by omega
    have e2 : vs.length - m = (vs.length - 1 - m) + 1 := by omega
    have hd : vs.drop (vs.length - 1 - m) = vs[vs.length - 1 - m] :: vs.drop ((vs.length - 1 - m) + 1) := List.drop_eq_getElem_cons hj
    rw [e1, e2, hd, sst, getN_eq hj]
    simp only [cnt, stpL_cons]
    rw [Nat.mul_comm]
theorem stpF_le {S : List Nat} (hs : ∀ v, sz S v ≤ 4) (vs : List Nat) (n : Nat) (pre : List Nat) : (stpF S vs n pre).1 ≤ 4 ^ pre.length ∧ (stpF S vs n pre).2.length = n := by
  have key : ∀ (l : List Nat) (st : Nat × List Nat), st.2.length = n → (l.foldl (sst S vs) st).1 ≤ st.1 * 4 ^ l.length ∧ (l.foldl (sst S vs) st).2.length = n := by
    intro l
    induction l with
    | nil => intro st h2; exact ⟨by simp, h2⟩
    | cons i l ih =>
      intro st h2
      obtain ⟨h3, h4⟩ := ih (sst S vs st i) (by simp [sst, h2])
      refine ⟨Nat.le_trans h3 ?_, h4⟩
      show st.1 * sz S (vs.getD i 0) * 4 ^ l.length ≤ st.1 * 4 ^ (l.length + 1)
      rw [Nat.pow_succ, Nat.mul_comm (4 ^ l.length), ← Nat.mul_assoc]
      exact Nat.mul_le_mul_right _ (Nat.mul_le_mul_left _ (hs _))
  have h := key pre (1, List.replicate n 0) (by simp)
  rwa [Nat.one_mul] at h
theorem stpF_all (S vs : List Nat) (n : Nat) : stpF S vs n (backs vs.length vs.length) = (cnt S vs, stpL S n vs) := by
  rw [stpF_backs S vs n _ (Nat.le_refl _), Nat.sub_self, List.drop_zero]

set_option maxRecDepth 100000 in
set_option maxHeartbeats 1000000 in
theorem steps_any (a b : Option Addr) (ca cb : Nat) (sizes vars : List Int) (w : World) (hs : IntS w a sizes) (hv : IntS w b vars) (hfi : Fine sizes) (hup : Up vars sizes.length) :
    Calls Tryz.prog 102 #[.slice a sizes.length ca, .slice b vars.length cb] w fun e w' => ∃ (c cc : Nat), e = .returned (.slice (some ⟨c, 0, none⟩) sizes.length cc) ∧ w.heap.size ≤ c ∧ IntS w' (some ⟨c, 0, none⟩) (iL (stpL (toN sizes) sizes.length (toN vars))) ∧ Below w.heap.size w w' := by
  refine (callsIn_wide (n := 6)).1 ?_
  have hl8 := hfi.eight
  have hvl := hup.length
  have hsm : cnt (toN sizes) (toN vars) ≤ 65536 := cnt_small hfi.sz_le (by rw [toN_length]; omega)
  have hmk := fun V => run_make_row' (P := Tryz.prog) 22 3 (.int .i64 0) 8 Tryz.underlying22 Tryz.infoInt rfl .i64 .i64 sizes.length (by omega) (by omega) V
  have HS := hid hs
  have HV := hid hv
  have HFI := hid hfi
  have HUP := hid hup
  have HALL := hid (stpF_all (toN sizes) (toN vars) sizes.length)
  rw [toN_length] at HALL
  clear hs hv hfi hup
  refine callsIn_of_wp_marks Tryz.func102 rfl trivial ?_ rfl
  simp only [Tryz.ntmps102, List.size_toArray, List.length_cons, List.length_nil, Nat.reduceAdd, Nat.reduceSub, Array.replicate_succ, Array.replicate_zero, List.push_toArray, List.append_toArray, List.nil_append, List.cons_append]
  gi_wp2_with ((refine ⟨trivial, ?_⟩; gi_at_call 98; refine (backward_in _ _ _ _ _).mono ?_; rintro e w2 ⟨rfl, rfl⟩))
  obtain ⟨W0, hW0⟩ : ∃ W0, W0 = (((((w.alloc (.cells #[.slice a sizes.length ca] 22)).alloc (.cells #[.int .i64 1] 3)).alloc (.cells (madeCells #[.int .i64 0] sizes.length) 3)).alloc (.cells #[.slice (some ⟨w.heap.size + 1 + 1, 0, none⟩) sizes.length sizes.length] 22)).alloc (.cells #[.slice b vars.length cb] 22)) := ⟨_, rfl⟩
  have hsz0 : W0.heap.size = w.heap.size + 1 + 1 + 1 + 1 + 1 := by rw [hW0]; simp
  have b0 : Boxed W0 w.heap.size 22 (.slice a sizes.length ca) := by rw [hW0]; exact ((((Boxed.new w _ _).alloc _).alloc _).alloc _).alloc _
  have b1 : Boxed W0 (w.heap.size + 1) 3 (.int .i64 1) := by
    have h := ((((Boxed.new (w.alloc (.cells #[.slice a sizes.length ca] 22)) 3 (.int .i64 1)).alloc (.cells (madeCells #[.int .i64 0] sizes.length) 3)).alloc (.cells #[.slice (some ⟨w.heap.size + 1 + 1, 0, none⟩) sizes.length sizes.length] 22)).alloc (.cells #[.slice b vars.length cb] 22))
    rw [World.size_alloc] at h
    rw [hW0]; exact h
  have r2 : RowI W0 (w.heap.size + 1 + 1) (List.replicate sizes.length 0) := by
    have h := ((made_row ((w.alloc (.cells #[.slice a sizes.length ca] 22)).alloc (.cells #[.int .i64 1] 3)) sizes.length).alloc (.cells #[.slice (some ⟨w.heap.size + 1 + 1, 0, none⟩) sizes.length sizes.length] 22)).alloc (.cells #[.slice b vars.length cb] 22)
    rw [World.size_alloc, World.size_alloc] at h
    rw [hW0]; exact h
  have b3 : Boxed W0 (w.heap.size + 1 + 1 + 1) 22 (.slice (some ⟨w.heap.size + 1 + 1, 0, none⟩) sizes.length sizes.length) := by
    have h := (Boxed.new (((w.alloc (.cells #[.slice a sizes.length ca] 22)).alloc (.cells #[.int .i64 1] 3)).alloc (.cells (madeCells #[.int .i64 0] sizes.length) 3)) 22 (.slice (some ⟨w.heap.size + 1 + 1, 0, none⟩) sizes.length sizes.length)).alloc (.cells #[.slice b vars.length cb] 22)
    rw [World.size_alloc, World.size_alloc, World.size_alloc] at h
    rw [hW0]; exact h
  have b4 : Boxed W0 (w.heap.size + 1 + 1 + 1 + 1) 22 (.slice b vars.length cb) := by
    have h := Boxed.new ((((w.alloc (.cells #[.slice a sizes.length ca] 22)).alloc (.cells #[.int .i64 1] 3)).alloc (.cells (madeCells #[.int .i64 0] sizes.length) 3)).alloc (.cells #[.slice (some ⟨w.heap.size + 1 + 1, 0, none⟩) sizes.length sizes.length] 22)) 22 (.slice b vars.length cb)
    rw [World.size_alloc, World.size_alloc, World.size_alloc, World.size_alloc] at h
    rw [hW0]; exact h
  have hB0 : Below w.heap.size w W0 := by
    rw [hW0]
    exact (((((Below.refl _ w).alloc (Nat.le_refl _) _).alloc (by simp) _).alloc (by simp; omega) _).alloc (by simp; omega) _).alloc (by simp; omega) _
  rw [← hW0]
  clear hW0
  refine wpIn_rangeFunc_ownG (α := At vars) rfl (by omega) (gf := 133) (lb := #[.pointer (some ⟨w.heap.size + 1 + 1 + 1 + 1, 0, none⟩)]) rfl trivial (enters_of Tryz.func133 (by kernel_rfl) rfl)
    (backward_stops 5 (by omega) (w.heap.size + 1 + 1 + 1 + 1) w.heap.size b cb vars (by omega) W0 (by omega) (by omega) b4.cell (HV.out.toB.below hB0)) KeepsB.t (KeepsB.b (by omega) (by omega)) (Below.refl _ _) (fun _ => rfl)
    (fun (pre : List (At vars)) V => Boxed V w.heap.size 22 (.slice a sizes.length ca) ∧ Boxed V (w.heap.size + 1) 3 (.int .i64 ((stpF (toN sizes) (toN vars) sizes.length (pre.map (·.1))).1 : Nat)) ∧ RowI V (w.heap.size + 1 + 1) (stpF (toN sizes) (toN vars) sizes.length (pre.map (·.1))).2 ∧ Boxed V (w.heap.size + 1 + 1 + 1) 22 (.slice (some ⟨w.heap.size + 1 + 1, 0, none⟩) sizes.length sizes.length) ∧ Boxed V (w.heap.size + 1 + 1 + 1 + 1) 22 (.slice b vars.length cb) ∧ Below w.heap.size w V)
    (fun _ _ _ => False)
    (OwnFrom.and (Own.from (boxed_own _ _ (fun _ => _)) _) (OwnFrom.and (Own.from (boxed_own _ _ (fun pre : List (At vars) => .int .i64 ((stpF (toN sizes) (toN vars) sizes.length (pre.map (·.1))).1 : Nat))) _) (OwnFrom.and (Own.from (row_own _ (fun pre : List (At vars) => (stpF (toN sizes) (toN vars) sizes.length (pre.map (·.1))).2)) _) (OwnFrom.and (Own.from (boxed_own _ _ (fun _ => _)) _) (OwnFrom.and (Own.from (boxed_own _ _ (fun _ => _)) _) (ownFrom_below (Nat.le_refl _) (by omega)))))))
    (fun _ _ _ _ _ hs _ _ => hs)
    ⟨b0, b1, r2, b3, b4, hB0⟩
    (fun x => { tmps := #[.slice a sizes.length ca, .slice b vars.length cb, .pointer (some ⟨w.heap.size, 0, none⟩), undef, .slice none 0 0, .pointer (some ⟨w.heap.size + 1, 0, none⟩), .pointer (some ⟨w.heap.size + 1 + 1 + 1, 0, none⟩), undef, .int .i64 (vars[x.1]'x.2), .slice a sizes.length ca, .int .i64 (sizes.length : Nat), .slice (some ⟨w.heap.size + 1 + 1, 0, none⟩) sizes.length sizes.length, .slice b vars.length cb, .func (.func 133) #[] #[.pointer (some ⟨w.heap.size + 1 + 1 + 1 + 1, 0, none⟩)], .int .i64 (x.1 : Nat), .int .i64 (vars[x.1]'x.2), undef, undef, undef, undef, undef, undef, undef, undef, undef, undef, undef], defers := [] }) ?assign ?body ?done ?stop
  case assign =>
    intro l x V K hK
    gi_wp2
    exact hK
  case body =>
    rintro l pre ⟨i, hi⟩ V ⟨h0, h1, h2, h3, h4, hB⟩ hlt
    obtain ⟨hvi, hvn⟩ := HUP.out.nat hi
    have HST : Hid (stpF (toN sizes) (toN vars) sizes.length ((pre ++ [(⟨i, hi⟩ : At vars)]).map (·.1)) = ((stpF (toN sizes) (toN vars) sizes.length (pre.map (·.1))).1 * sz (toN sizes) vars[i].toNat, (stpF (toN sizes) (toN vars) sizes.length (pre.map (·.1))).2.set vars[i].toNat (stpF (toN sizes) (toN vars) sizes.length (pre.map (·.1))).1)) := by
      show _ = _
      rw [List.map_append, List.map_cons, List.map_nil, stpF_snoc, sst, getN_eq (show i < (toN vars).length by rw [toN_length]; exact hi), toN_get hi]
    obtain ⟨hpk, hpl⟩ := stpF_le HFI.out.sz_le (toN vars) sizes.length (pre.map (·.1))
    have hp7 : (4 : Nat) ^ (pre.map (·.1)).length ≤ 16384 := Nat.le_trans (Nat.pow_le_pow_right (by omega) (show (pre.map (·.1)).length ≤ 7 by rw [List.length_map]; omega)) (by decide)
    have hpk' := Nat.le_trans hpk hp7
    have hz := sz_pos HFI.out.pos vars[i].toNat
    have hz4 := HFI.out.sz_le vars[i].toNat
    clear hpk hp7
    generalize hV : vars[i].toNat = v at *
    rw [← hvi]
    obtain ⟨g', o', rfl, hg', c1⟩ := (HS.out.below hB) v hvn
    rw [← HFI.out.sz_eq hvn] at c1
    have hg2 : g' < w.heap.size := by
      obtain ⟨g3, o3, e3, h3, _⟩ := HS.out v hvn
      cases e3
      exact h3
    clear hvi hV
    generalize stpF (toN sizes) (toN vars) sizes.length (pre.map (·.1)) = st at *
    obtain ⟨p, at0⟩ := st
    simp only at h1 h2 hpk' hpl HST
    generalize sz (toN sizes) v = s0 at *
    have hrow := h2.cell v (by omega)
    have hfz := h2.fz v
    have k0 := h0.cell
    have k1 := h1.cell
    have k3 := h3.cell
    have hps : p * s0 ≤ 65536 := Nat.le_trans (Nat.mul_le_mul hpk' hz4) (by decide)
    have hpm : (p : Int) * (s0 : Int) = ((p * s0 : Nat) : Int) := (Int.natCast_mul _ _).symm
    have hpi : v < at0.length := by omega
    generalize at0[v] = z at *
    have hw2 : IntKind.i64.wrap ((p : Int) * (s0 : Int)) = (p : Int) * (s0 : Int) := by rw [hpm, IntKind.wrap_i64]; omega
    have HPM := hid hpm
    clear hpm
    clear hmk b0 b1 r2 b3 b4 hB0 hsz0 HALL HUP HFI HV hsm hpl
    gi_wp2_with fail
    have far : ∀ (b j : Nat), ¬ w.heap.size + 1 + 1 = b → (V.setCell ⟨w.heap.size + 1 + 1, v, none⟩ (.int .i64 (p : Int))).cell? ⟨b, j, none⟩ = V.cell? ⟨b, j, none⟩ := fun b j hb => World.cell?_setCell_other _ _ _ _ (fun e => hb (by cases e; rfl))
    have m2 := (far g' (o' + v) (by omega)).trans c1
    have q0 : Boxed (V.setCell ⟨w.heap.size + 1 + 1, v, none⟩ (.int .i64 (p : Int))) w.heap.size 22 (.slice (some ⟨g', o', none⟩) sizes.length ca) := boxed_off h0 _ v _ (by omega)
    have q1 : Boxed (V.setCell ⟨w.heap.size + 1 + 1, v, none⟩ (.int .i64 (p : Int))) (w.heap.size + 1) 3 (.int .i64 (p : Nat)) := boxed_off h1 _ v _ (by omega)
    have q3 : Boxed (V.setCell ⟨w.heap.size + 1 + 1, v, none⟩ (.int .i64 (p : Int))) (w.heap.size + 1 + 1 + 1) 22 (.slice (some ⟨w.heap.size + 1 + 1, 0, none⟩) sizes.length sizes.length) := boxed_off h3 _ v _ (by omega)
    have q4 : Boxed (V.setCell ⟨w.heap.size + 1 + 1, v, none⟩ (.int .i64 (p : Int))) (w.heap.size + 1 + 1 + 1 + 1) 22 (.slice b vars.length cb) := boxed_off h4 _ v _ (by omega)
    have q2 : RowI (V.setCell ⟨w.heap.size + 1 + 1, v, none⟩ (.int .i64 (p : Int))) (w.heap.size + 1 + 1) (at0.set v p) := h2.set v p
    have qB : Below w.heap.size w (V.setCell ⟨w.heap.size + 1 + 1, v, none⟩ (.int .i64 (p : Int))) := hB.setCell (p := ⟨w.heap.size + 1 + 1, v, none⟩) (by simp; omega) _
    have qK : Below w.heap.size V (V.setCell ⟨w.heap.size + 1 + 1, v, none⟩ (.int .i64 (p : Int))) := (Below.refl w.heap.size V).setCell (p := ⟨w.heap.size + 1 + 1, v, none⟩) (by simp; omega) _
    have qO : KeepsOthers V (V.setCell ⟨w.heap.size + 1 + 1, v, none⟩ (.int .i64 (p : Int))) := KeepsOthers.setCell V _ _
    have j4 : KeepsBox (w.heap.size + 1 + 1 + 1 + 1) V (V.setCell ⟨w.heap.size + 1 + 1, v, none⟩ (.int .i64 (p : Int))) := q4.cell.trans h4.cell.symm
    have m0 := q0.cell
    have m1 := q1.cell
    have fU := q1.frozen
    clear far
    generalize (V.setCell ⟨w.heap.size + 1 + 1, v, none⟩ (.int .i64 (p : Int))) = U at *
    refine region_round (fun u => u.cell? ⟨w.heap.size, 0, none⟩ = some (.slice (some ⟨g', o', none⟩) sizes.length ca) ∧ u.cell? ⟨g', o' + v, none⟩ = some (.int .i64 (s0 : Nat))) (by kernel_rfl) (by kernel_rfl) (fun ⟨_, _, h⟩ => h) ⟨m0, m2⟩ ?_
    intro hSd
    refine wpAnyH_take (i := 1) (oi := _) (v := .slice (some ⟨g', o', none⟩) sizes.length ca) rfl (by kernel_rfl) (by kernel_rfl) (by kernel_rfl) (fun _ _ _ h => h) (Or.inl ⟨by rfl, ?_⟩) (by assumption) ?_
    · intro u hSu
      obtain ⟨s3, s4⟩ := hSu
      simp only [List.getElem_toArray, List.getElem_cons_zero, List.getElem_cons_succ]
      go_simp
    simp only [List.getElem_toArray, List.getElem_cons_zero, List.getElem_cons_succ, Act.put, List.setIfInBounds_toArray, List.set_cons_zero, List.set_cons_succ]
    refine wpAnyH_take (i := 2) (oi := _) (v := .int .i64 (v : Nat)) rfl (by kernel_rfl) (by kernel_rfl) (by kernel_rfl) (fun _ _ _ h => h) (Or.inl ⟨by rfl, ?_⟩) (by assumption) ?_
    · intro u hSu
      obtain ⟨s3, s4⟩ := hSu
      simp only [List.getElem_toArray, List.getElem_cons_zero, List.getElem_cons_succ]
      go_simp
    simp only [List.getElem_toArray, List.getElem_cons_zero, List.getElem_cons_succ, Act.put, List.setIfInBounds_toArray, List.set_cons_zero, List.set_cons_succ]
    refine wpAnyH_take (i := 3) (oi := _) (v := .pointer (some ⟨g', o' + v, none⟩)) rfl (by kernel_rfl) (by kernel_rfl) (by kernel_rfl) (fun _ _ _ h => h) (Or.inl ⟨by rfl, ?_⟩) (by assumption) ?_
    · intro u hSu
      obtain ⟨s3, s4⟩ := hSu
      simp only [List.getElem_toArray, List.getElem_cons_zero, List.getElem_cons_succ]
      go_simp
    simp only [List.getElem_toArray, List.getElem_cons_zero, List.getElem_cons_succ, Act.put, List.setIfInBounds_toArray, List.set_cons_zero, List.set_cons_succ]
    refine wpAnyH_take (i := 4) (oi := _) (v := .int .i64 (s0 : Nat)) rfl (by kernel_rfl) (by kernel_rfl) (by kernel_rfl) (fun _ _ _ h => h) (Or.inl ⟨by rfl, ?_⟩) (by assumption) ?_
    · intro u hSu
      obtain ⟨s3, s4⟩ := hSu
      simp only [List.getElem_toArray, List.getElem_cons_zero, List.getElem_cons_succ]
      go_simp
    simp only [List.getElem_toArray, List.getElem_cons_zero, List.getElem_cons_succ, Act.put, List.setIfInBounds_toArray, List.set_cons_zero, List.set_cons_succ]
    refine wpAnyH_ready (rs := [0]) (by kernel_rfl) (by simp) (AllReadyH.cons rfl ?_ AllReadyH.nil)
    intro K' hK'
    simp only [List.getElem_toArray, List.getElem_cons_zero]
    go_simp
    refine hK'.out _ _ hSd (fun _ => ?_)
    clear hK' K'
    refine wpAnyH_take (i := 5) (oi := _) (v := .int .i64 ((p : Int) * (s0 : Int))) rfl (by kernel_rfl) (by kernel_rfl) (by kernel_rfl) (fun _ _ _ h => h) (Or.inl ⟨by rfl, ?_⟩) (by assumption) ?_
    · intro u hSu
      obtain ⟨s3, s4⟩ := hSu
      simp only [List.getElem_toArray, List.getElem_cons_zero, List.getElem_cons_succ]
      go_simp
    simp only [List.getElem_toArray, List.getElem_cons_zero, List.getElem_cons_succ, Act.put, List.setIfInBounds_toArray, List.set_cons_zero, List.set_cons_succ]
    refine wpAnyH_ready (rs := [6]) (by kernel_rfl) (by simp) (AllReadyH.cons rfl ?_ AllReadyH.nil)
    intro K' hK'
    simp only [List.getElem_toArray, List.getElem_cons_zero, List.getElem_cons_succ]
    go_simp
    refine hK'.out _ _ ⟨(boxed_off q0 (w.heap.size + 1) 0 _ (by omega)).cell, (World.cell?_setCell_other _ _ _ _ (fun e => (show ¬ w.heap.size + 1 = g' by omega) (congrArg Addr.block e))).trans m2⟩ (fun _ => wpAnyH_done (by kernel_rfl) ?_ _)
    clear hK' K' hSd
    gi_wp2
    rw [HPM.out]
    refine ⟨(qO.trans ((KeepsOthers.setCell U _ _).trans (KeepsOthers.drew _))).from _, ⟨j4.t ((boxed_off q4 (w.heap.size + 1) 0 (.int .i64 ((p * s0 : Nat) : Int)) (by omega)).cell.trans q4.cell.symm), (qK.setCell (p := ⟨w.heap.size + 1, 0, none⟩) (by simp) _).drew⟩, ?_⟩
    refine ⟨boxed_off q0 _ 0 _ (by omega), ?_, ?_, boxed_off q3 _ 0 _ (by omega), boxed_off q4 _ 0 _ (by omega), (qB.setCell (p := ⟨w.heap.size + 1, 0, none⟩) (by simp) _).drew⟩
    · rw [HST.out]; exact q1.set _
    · rw [HST.out]; exact q2.off _ 0 _ (by omega)
  case done =>
    rintro D ys V hD hys ⟨h0, h1, h2, h3, h4, hB⟩ hK
    rw [hys, HALL.out] at h2
    have hc := h3.cell
    gi_wp2
    refine ⟨by simp, .inl ⟨_, _, rfl, run_takeDeferred hK, ?_⟩⟩
    refine ⟨_, results_tmp rfl _ _ _, ?_⟩
    refine ⟨w.heap.size + 1 + 1, ⟨sizes.length, rfl⟩, by omega, ?_, hB.trans (belowK_b (w := w) (Nat.le_refl _) V D _ _ (by omega) hK rfl rfl)⟩
    have h2' : RowI (V.putObj D (.deferred none)) (w.heap.size + 1 + 1) (stpL (toN sizes) sizes.length (toN vars)) := row_own (w.heap.size + 1 + 1) (fun (_ : Unit) => stpL (toN sizes) sizes.length (toN vars)) () V _ (some D) h2 (grownBy_putObj' V D _) (fun r e => by cases e; exact ⟨_, hK, rfl⟩)
    exact h2'.ints
  case stop =>
    rintro D c pre V _ _ h _
    exact h.elim
end Go.Proofs.YtknlhejhnopnaaaGreatDoor
