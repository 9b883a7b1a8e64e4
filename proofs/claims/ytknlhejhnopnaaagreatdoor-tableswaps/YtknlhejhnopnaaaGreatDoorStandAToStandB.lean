/- Package table: where an assignment stands in another table (the closure). -/
import Derived.Test.YtknlhejhnopnaaaGreatDoorStepsAOwn
namespace Go.Proofs.YtknlhejhnopnaaaGreatDoor
open Go.RowKit Go.Shelf

attribute [local go_sem] Oper.semAt_some

/-- One step of telling the place from the end: what is left, and the sum. -/
def tst (S vs ts : List Nat) (st : Nat × Nat) (i : Nat) : Nat × Nat := (st.1 / sz S (vs.getD i 0), st.2 + st.1 % sz S (vs.getD i 0) * ts.getD (vs.getD i 0) 0)
def stdF (S vs ts : List Nat) (K : Nat) (pre : List Nat) : Nat × Nat := pre.foldl (tst S vs ts) (K, 0)
theorem stdF_snoc (S vs ts : List Nat) (K : Nat) (pre : List Nat) (i : Nat) : stdF S vs ts K (pre ++ [i]) = tst S vs ts (stdF S vs ts K pre) i := by simp [stdF]
theorem stdF_le {S : List Nat} (hp : Pos S) (hs : ∀ v, sz S v ≤ 4) (vs ts : List Nat) (ht : ∀ v, ts.getD v 0 ≤ 65536) (K : Nat) (pre : List Nat) : (stdF S vs ts K pre).1 ≤ K ∧ (stdF S vs ts K pre).2 ≤ 262144 * pre.length := by
  have key : ∀ (l : List Nat) (st : Nat × Nat), (l.foldl (tst S vs ts) st).1 ≤ st.1 ∧ (l.foldl (tst S vs ts) st).2 ≤ st.2 + 262144 * l.length := by
    intro l
    induction l with
    | nil => intro st; exact ⟨Nat.le_refl _, by simp⟩
    | cons i l ih =>
      intro st
      obtain ⟨h3, h4⟩ := ih (tst S vs ts st i)
      refine ⟨Nat.le_trans h3 (Nat.div_le_self _ _), Nat.le_trans h4 ?_⟩
      have h1 := Nat.mod_lt st.1 (show 0 < sz S (vs.getD i 0) from sz_pos hp _)
      have h2 : st.1 % sz S (vs.getD i 0) * ts.getD (vs.getD i 0) 0 ≤ 4 * 65536 := Nat.mul_le_mul (by have := hs (vs.getD i 0); omega) (ht _)
      show st.2 + st.1 % sz S (vs.getD i 0) * ts.getD (vs.getD i 0) 0 + _ ≤ _
      rw [List.length_cons]
      omega
  have h := key pre (K, 0)
  rwa [Nat.zero_add] at h
theorem stdF_backs {S vs : List Nat} (hn : vs.Nodup) (ts : List Nat) (K : Nat) : ∀ m, m ≤ vs.length → stdF S vs ts K (backs vs.length m) = (K / cnt S (vs.drop (vs.length - m)), sumL (fun v => asg S (vs.drop (vs.length - m)) (K % cnt S (vs.drop (vs.length - m))) v * ts.getD v 0) (vs.drop (vs.length - m)))
  | 0, _ => by simp [stdF, backs, cnt, sumL]
  | m + 1, h => by
    rw [backs_succ, stdF_snoc, stdF_backs hn ts K m (by omega)]
    have hj : vs.length - 1 - m < vs.length := by omega
    have e1 : vs.length - (m + 1) = vs.length - 1 - m := by omega
    have e2 : vs.length - m = (vs.length - 1 - m) + 1 := by omega
    have hd : vs.drop (vs.length - 1 - m) = vs[vs.length - 1 - m] :: vs.drop ((vs.length - 1 - m) + 1) := List.drop_eq_getElem_cons hj
    have hnd : (vs.drop (vs.length - 1 - m)).Nodup := hn.sublist (List.drop_sublist _ _)
    rw [hd, List.nodup_cons] at hnd
    rw [e1, e2, hd, tst, getN_eq hj]
    generalize vs.drop ((vs.length - 1 - m) + 1) = rest at hnd ⊢
    generalize vs[vs.length - 1 - m] = u at hnd ⊢
    simp only [asg_step]
    rw [cnt, Nat.div_div_eq_div_mul, Nat.mul_comm (cnt S rest), sumL, if_pos rfl, Nat.add_comm]
    congr 2
    refine sumL_congr fun v hv => ?_
    rw [if_neg (fun e => hnd.1 (by rw [← e]; exact hv))]
theorem stdF_all {S vs : List Nat} (hn : vs.Nodup) (ts : List Nat) {K : Nat} (h : K < cnt S vs) : stdF S vs ts K (backs vs.length vs.length) = (0, sumL (fun v => asg S vs K v * ts.getD v 0) vs) := by
  rw [stdF_backs hn ts K _ (Nat.le_refl _), Nat.sub_self, List.drop_zero, Nat.mod_eq_of_lt h, Nat.div_eq_of_lt h]

set_option maxRecDepth 100000 in
set_option maxHeartbeats 1000000 in
theorem standing1_any (Bv Bs Bt : Nat) (a b t : Option Addr) (ca cb ct : Nat) (sizes vars : List Int) (ts : List Nat) (K : Nat) (w : World) (hBv : Bv < w.heap.size) (hBs : Bs < w.heap.size) (hBt : Bt < w.heap.size) (xv : w.cell? ⟨Bv, 0, none⟩ = some (.slice b vars.length cb)) (xs : w.cell? ⟨Bs, 0, none⟩ = some (.slice a sizes.length ca)) (xt : w.cell? ⟨Bt, 0, none⟩ = some (.slice t sizes.length ct))
    (hs : IntS w a sizes) (hv : IntS w b vars) (ht : IntS w t (iL ts)) (htl : ts.length = sizes.length) (htb : ∀ v, ts.getD v 0 ≤ 65536) (hfi : Fine sizes) (hup : Up vars sizes.length) (hK : K < cnt (toN sizes) (toN vars)) (hnd : (toN vars).Nodup) :
    Calls Tryz.prog 103 #[.int .i64 (K : Nat), .pointer (some ⟨Bv, 0, none⟩), .pointer (some ⟨Bs, 0, none⟩), .pointer (some ⟨Bt, 0, none⟩)] w fun e w' => e = .returned (.int .i64 (sumL (fun v => asg (toN sizes) (toN vars) K v * ts.getD v 0) (toN vars) : Nat)) ∧ Below w.heap.size w w' := by
  refine (callsIn_wide (n := 6)).1 ?_
  have hl8 := hfi.eight
  have hvl := hup.length
  have hsm : cnt (toN sizes) (toN vars) ≤ 65536 := cnt_small hfi.sz_le (by rw [toN_length]; omega)
  have HS := hid hs
  have HV := hid hv
  have HT := hid ht
  have HFI := hid hfi
  have HUP := hid hup
  have HTB := hid htb
  have HALL := hid (stdF_all hnd ts hK)
  rw [toN_length] at HALL
  clear hs hv hfi hup ht htb
  refine callsIn_of_wp_marks Tryz.func103 rfl trivial ?_ rfl
  simp only [Tryz.ntmps103, List.size_toArray, List.length_cons, List.length_nil, Nat.reduceAdd, Nat.reduceSub, Array.replicate_succ, Array.replicate_zero, List.push_toArray, List.append_toArray, List.nil_append, List.cons_append]
  gi_wp2_with ((refine ⟨trivial, ?_⟩; gi_at_call 98; refine (backward_in _ _ _ _ _).mono ?_; rintro e w2 ⟨rfl, rfl⟩))
  obtain ⟨W0, hW0⟩ : ∃ W0, W0 = (((w.alloc (.cells #[.int .i64 (K : Nat)] 3)).alloc (.cells #[.int .i64 0] 3)).alloc (.cells #[.slice b vars.length cb] 22)) := ⟨_, rfl⟩
  have hsz0 : W0.heap.size = w.heap.size + 1 + 1 + 1 := by rw [hW0]; simp
  have b0 : Boxed W0 w.heap.size 3 (.int .i64 (K : Nat)) := by rw [hW0]; exact ((Boxed.new w _ _).alloc _).alloc _
  have b1 : Boxed W0 (w.heap.size + 1) 3 (.int .i64 0) := by
    have h := (Boxed.new (w.alloc (.cells #[.int .i64 (K : Nat)] 3)) 3 (.int .i64 0)).alloc (.cells #[.slice b vars.length cb] 22)
    rw [World.size_alloc] at h
    rw [hW0]; exact h
  have b4 : Boxed W0 (w.heap.size + 1 + 1) 22 (.slice b vars.length cb) := by
    have h := Boxed.new ((w.alloc (.cells #[.int .i64 (K : Nat)] 3)).alloc (.cells #[.int .i64 0] 3)) 22 (.slice b vars.length cb)
    rw [World.size_alloc, World.size_alloc] at h
    rw [hW0]; exact h
  have hB0 : Below w.heap.size w W0 := by
    rw [hW0]
    exact (((Below.refl _ w).alloc (Nat.le_refl _) _).alloc (by simp) _).alloc (by simp; omega) _
  rw [← hW0]
  clear hW0
  refine wpIn_rangeFunc_ownG (α := At vars) rfl (by omega) (gf := 133) (lb := #[.pointer (some ⟨w.heap.size + 1 + 1, 0, none⟩)]) rfl trivial (enters_of Tryz.func133 (by kernel_rfl) rfl)
    (backward_stops 5 (by omega) (w.heap.size + 1 + 1) w.heap.size b cb vars (by omega) W0 (by omega) (by omega) b4.cell (HV.out.toB.below hB0)) KeepsB.t (KeepsB.b (by omega) (by omega)) (Below.refl _ _) (fun _ => rfl)
    (fun (pre : List (At vars)) V => Boxed V w.heap.size 3 (.int .i64 ((stdF (toN sizes) (toN vars) ts K (pre.map (·.1))).1 : Nat)) ∧ Boxed V (w.heap.size + 1) 3 (.int .i64 ((stdF (toN sizes) (toN vars) ts K (pre.map (·.1))).2 : Nat)) ∧ Boxed V (w.heap.size + 1 + 1) 22 (.slice b vars.length cb) ∧ Below w.heap.size w V)
    (fun _ _ _ => False)
    (OwnFrom.and (Own.from (boxed_own _ _ (fun pre : List (At vars) => .int .i64 ((stdF (toN sizes) (toN vars) ts K (pre.map (·.1))).1 : Nat))) _) (OwnFrom.and (Own.from (boxed_own _ _ (fun pre : List (At vars) => .int .i64 ((stdF (toN sizes) (toN vars) ts K (pre.map (·.1))).2 : Nat))) _) (OwnFrom.and (Own.from (boxed_own _ _ (fun _ => _)) _) (ownFrom_below (Nat.le_refl _) (by omega)))))
    (fun _ _ _ _ _ hs _ _ => hs)
    ⟨b0, b1, b4, hB0⟩
    (fun x => { tmps := #[.int .i64 (K : Nat), .pointer (some ⟨Bv, 0, none⟩), .pointer (some ⟨Bs, 0, none⟩), .pointer (some ⟨Bt, 0, none⟩), .pointer (some ⟨w.heap.size, 0, none⟩), .int .i64 0, .pointer (some ⟨w.heap.size + 1, 0, none⟩), undef, .int .i64 (vars[x.1]'x.2), .slice b vars.length cb, .func (.func 133) #[] #[.pointer (some ⟨w.heap.size + 1 + 1, 0, none⟩)], .int .i64 (x.1 : Nat), .int .i64 (vars[x.1]'x.2), undef, undef, undef, undef, undef, undef, undef, undef, undef, undef, undef, undef, undef, undef, undef, undef, undef, undef, undef, undef], defers := [] }) ?assign ?body ?done ?stop
  case assign =>
    intro l x V K hK
    gi_wp2
    exact hK
  case body =>
    rintro l pre ⟨i, hi⟩ V ⟨h0, h1, h4, hB⟩ hlt
    obtain ⟨hvi, hvn⟩ := HUP.out.nat hi
    have HST : Hid (stdF (toN sizes) (toN vars) ts K ((pre ++ [(⟨i, hi⟩ : At vars)]).map (·.1)) = ((stdF (toN sizes) (toN vars) ts K (pre.map (·.1))).1 / sz (toN sizes) vars[i].toNat, (stdF (toN sizes) (toN vars) ts K (pre.map (·.1))).2 + (stdF (toN sizes) (toN vars) ts K (pre.map (·.1))).1 % sz (toN sizes) vars[i].toNat * ts.getD vars[i].toNat 0)) := by
      show _ = _
      rw [List.map_append, List.map_cons, List.map_nil, stdF_snoc, tst, getN_eq (show i < (toN vars).length by rw [toN_length]; exact hi), toN_get hi]
    obtain ⟨hpk, hpl⟩ := stdF_le HFI.out.pos HFI.out.sz_le (toN vars) ts HTB.out K (pre.map (·.1))
    rw [List.length_map] at hpl
    have hz := sz_pos HFI.out.pos vars[i].toNat
    have hz4 := HFI.out.sz_le vars[i].toNat
    have htb := HTB.out vars[i].toNat
    generalize hV : vars[i].toNat = v at *
    rw [← hvi]
    obtain ⟨g', o', rfl, hg', c1⟩ := (HS.out.below hB) v hvn
    rw [← HFI.out.sz_eq hvn] at c1
    have hg2 : g' < w.heap.size := by
      obtain ⟨g3, o3, e3, h3, _⟩ := HS.out v hvn
      cases e3
      exact h3
    have hvt : v < (iL ts).length := by rw [iL_length]; omega
    obtain ⟨gt, ot, rfl, hgt', c2⟩ := (HT.out.below hB) v hvt
    have hgt2 : gt < w.heap.size := by
      obtain ⟨g3, o3, e3, h3, _⟩ := HT.out v hvt
      cases e3
      exact h3
    have htv : (iL ts)[v] = ((ts.getD v 0 : Nat) : Int) := by rw [getN_eq (by omega)]; simp [iL]
    rw [htv] at c2
    clear htv hvi hV
    generalize stdF (toN sizes) (toN vars) ts K (pre.map (·.1)) = st at *
    obtain ⟨p, r0⟩ := st
    simp only at h0 h1 hpk hpl HST
    generalize sz (toN sizes) v = s0 at *
    generalize ts.getD v 0 = t0 at *
    have k0 := h0.cell
    have k1 := h1.cell
    have ks := (hB.cell (p := ⟨Bs, 0, none⟩) hBs).trans xs
    have kt := (hB.cell (p := ⟨Bt, 0, none⟩) hBt).trans xt
    have f1 := h1.frozen
    have hq1 : (p : Int) % (s0 : Int) = ((p % s0 : Nat) : Int) := (Int.natCast_emod _ _).symm
    have hq2 : (p : Int) / (s0 : Int) = ((p / s0 : Nat) : Int) := (Int.natCast_ediv _ _).symm
    have hm1 : p % s0 ≤ 3 := by have := Nat.mod_lt p (show 0 < s0 by omega); omega
    have hm2 : p / s0 ≤ 65536 := Nat.le_trans (Nat.div_le_self _ _) (by omega)
    generalize p % s0 = mm at *
    generalize p / s0 = dd at *
    have hmt : mm * t0 ≤ 196608 := Nat.le_trans (Nat.mul_le_mul hm1 htb) (by decide)
    have hmc : (mm : Int) * (t0 : Int) = ((mm * t0 : Nat) : Int) := (Int.natCast_mul _ _).symm
    have hw2 : IntKind.i64.wrap ((p : Int) / (s0 : Int)) = (p : Int) / (s0 : Int) := by rw [hq2, IntKind.wrap_i64]; omega
    have hw3 : IntKind.i64.wrap ((mm : Int) * (t0 : Int)) = (mm : Int) * (t0 : Int) := by rw [hmc, IntKind.wrap_i64]; omega
    have hw4 : IntKind.i64.wrap ((r0 : Int) + (mm : Int) * (t0 : Int)) = (r0 : Int) + (mm : Int) * (t0 : Int) := by rw [hmc, IntKind.wrap_i64]; omega
    have HQ1 := hid hq1
    have HQ2 := hid hq2
    have HSU : Hid ((r0 : Int) + (mm : Int) * (t0 : Int) = ((r0 + mm * t0 : Nat) : Int)) := by show _ = _; rw [hmc]; exact (Int.natCast_add _ _).symm
    clear hq1 hq2 hmc
    clear b0 b1 b4 hB0 hsz0 HALL HUP HFI HV HTB hsm hK
    gi_wp2_with fail
    refine region_round (fun u => u.cell? ⟨w.heap.size, 0, none⟩ = some (.int .i64 (p : Nat)) ∧ u.cell? ⟨Bs, 0, none⟩ = some (.slice (some ⟨g', o', none⟩) sizes.length ca) ∧ u.cell? ⟨g', o' + v, none⟩ = some (.int .i64 (s0 : Nat)) ∧ u.cell? ⟨Bt, 0, none⟩ = some (.slice (some ⟨gt, ot, none⟩) sizes.length ct) ∧ u.cell? ⟨gt, ot + v, none⟩ = some (.int .i64 (t0 : Nat))) (by kernel_rfl) (by kernel_rfl) (fun ⟨_, _, h⟩ => h) ⟨k0, ks, c1, kt, c2⟩ ?_
    intro hSd
    refine wpAnyH_take (i := 1) (oi := _) (v := .int .i64 (p : Nat)) rfl (by kernel_rfl) (by kernel_rfl) (by kernel_rfl) (fun _ _ _ h => h) (Or.inl ⟨by rfl, ?_⟩) (by assumption) ?_
    · intro u hSu
      obtain ⟨s1, s2, s3, s4, s5⟩ := hSu
      simp only [List.getElem_toArray, List.getElem_cons_zero, List.getElem_cons_succ]
      go_simp
    simp only [List.getElem_toArray, List.getElem_cons_zero, List.getElem_cons_succ, Act.put, List.setIfInBounds_toArray, List.set_cons_zero, List.set_cons_succ]
    refine wpAnyH_take (i := 2) (oi := _) (v := .slice (some ⟨g', o', none⟩) sizes.length ca) rfl (by kernel_rfl) (by kernel_rfl) (by kernel_rfl) (fun _ _ _ h => h) (Or.inl ⟨by rfl, ?_⟩) (by assumption) ?_
    · intro u hSu
      obtain ⟨s1, s2, s3, s4, s5⟩ := hSu
      simp only [List.getElem_toArray, List.getElem_cons_zero, List.getElem_cons_succ]
      go_simp
    simp only [List.getElem_toArray, List.getElem_cons_zero, List.getElem_cons_succ, Act.put, List.setIfInBounds_toArray, List.set_cons_zero, List.set_cons_succ]
    refine wpAnyH_take (i := 3) (oi := _) (v := .int .i64 (v : Nat)) rfl (by kernel_rfl) (by kernel_rfl) (by kernel_rfl) (fun _ _ _ h => h) (Or.inl ⟨by rfl, ?_⟩) (by assumption) ?_
    · intro u hSu
      obtain ⟨s1, s2, s3, s4, s5⟩ := hSu
      simp only [List.getElem_toArray, List.getElem_cons_zero, List.getElem_cons_succ]
      go_simp
    simp only [List.getElem_toArray, List.getElem_cons_zero, List.getElem_cons_succ, Act.put, List.setIfInBounds_toArray, List.set_cons_zero, List.set_cons_succ]
    refine wpAnyH_take (i := 4) (oi := _) (v := .pointer (some ⟨g', o' + v, none⟩)) rfl (by kernel_rfl) (by kernel_rfl) (by kernel_rfl) (fun _ _ _ h => h) (Or.inl ⟨by rfl, ?_⟩) (by assumption) ?_
    · intro u hSu
      obtain ⟨s1, s2, s3, s4, s5⟩ := hSu
      simp only [List.getElem_toArray, List.getElem_cons_zero, List.getElem_cons_succ]
      go_simp
    simp only [List.getElem_toArray, List.getElem_cons_zero, List.getElem_cons_succ, Act.put, List.setIfInBounds_toArray, List.set_cons_zero, List.set_cons_succ]
    refine wpAnyH_take (i := 5) (oi := _) (v := .int .i64 (s0 : Nat)) rfl (by kernel_rfl) (by kernel_rfl) (by kernel_rfl) (fun _ _ _ h => h) (Or.inl ⟨by rfl, ?_⟩) (by assumption) ?_
    · intro u hSu
      obtain ⟨s1, s2, s3, s4, s5⟩ := hSu
      simp only [List.getElem_toArray, List.getElem_cons_zero, List.getElem_cons_succ]
      go_simp
    simp only [List.getElem_toArray, List.getElem_cons_zero, List.getElem_cons_succ, Act.put, List.setIfInBounds_toArray, List.set_cons_zero, List.set_cons_succ]
    refine wpAnyH_take (i := 6) (oi := _) (v := .int .i64 (mm : Nat)) rfl (by kernel_rfl) (by kernel_rfl) (by kernel_rfl) (fun _ _ _ h => h) (Or.inl ⟨by rfl, ?_⟩) (by assumption) ?_
    · intro u hSu
      obtain ⟨s1, s2, s3, s4, s5⟩ := hSu
      simp only [List.getElem_toArray, List.getElem_cons_zero, List.getElem_cons_succ]
      go_simp
      rw [if_neg (show ¬ s0 = 0 by omega), Int.tmod_eq_emod_of_nonneg (Int.natCast_nonneg _), HQ1.out]
    simp only [List.getElem_toArray, List.getElem_cons_zero, List.getElem_cons_succ, Act.put, List.setIfInBounds_toArray, List.set_cons_zero, List.set_cons_succ]
    refine wpAnyH_take (i := 7) (oi := _) (v := .slice (some ⟨gt, ot, none⟩) sizes.length ct) rfl (by kernel_rfl) (by kernel_rfl) (by kernel_rfl) (fun _ _ _ h => h) (Or.inl ⟨by rfl, ?_⟩) (by assumption) ?_
    · intro u hSu
      obtain ⟨s1, s2, s3, s4, s5⟩ := hSu
      simp only [List.getElem_toArray, List.getElem_cons_zero, List.getElem_cons_succ]
      go_simp
    simp only [List.getElem_toArray, List.getElem_cons_zero, List.getElem_cons_succ, Act.put, List.setIfInBounds_toArray, List.set_cons_zero, List.set_cons_succ]
    refine wpAnyH_take (i := 8) (oi := _) (v := .int .i64 (v : Nat)) rfl (by kernel_rfl) (by kernel_rfl) (by kernel_rfl) (fun _ _ _ h => h) (Or.inl ⟨by rfl, ?_⟩) (by assumption) ?_
    · intro u hSu
      obtain ⟨s1, s2, s3, s4, s5⟩ := hSu
      simp only [List.getElem_toArray, List.getElem_cons_zero, List.getElem_cons_succ]
      go_simp
    simp only [List.getElem_toArray, List.getElem_cons_zero, List.getElem_cons_succ, Act.put, List.setIfInBounds_toArray, List.set_cons_zero, List.set_cons_succ]
    refine wpAnyH_take (i := 9) (oi := _) (v := .pointer (some ⟨gt, ot + v, none⟩)) rfl (by kernel_rfl) (by kernel_rfl) (by kernel_rfl) (fun _ _ _ h => h) (Or.inl ⟨by rfl, ?_⟩) (by assumption) ?_
    · intro u hSu
      obtain ⟨s1, s2, s3, s4, s5⟩ := hSu
      simp only [List.getElem_toArray, List.getElem_cons_zero, List.getElem_cons_succ]
      go_simp
    simp only [List.getElem_toArray, List.getElem_cons_zero, List.getElem_cons_succ, Act.put, List.setIfInBounds_toArray, List.set_cons_zero, List.set_cons_succ]
    refine wpAnyH_take (i := 10) (oi := _) (v := .int .i64 (t0 : Nat)) rfl (by kernel_rfl) (by kernel_rfl) (by kernel_rfl) (fun _ _ _ h => h) (Or.inl ⟨by rfl, ?_⟩) (by assumption) ?_
    · intro u hSu
      obtain ⟨s1, s2, s3, s4, s5⟩ := hSu
      simp only [List.getElem_toArray, List.getElem_cons_zero, List.getElem_cons_succ]
      go_simp
    simp only [List.getElem_toArray, List.getElem_cons_zero, List.getElem_cons_succ, Act.put, List.setIfInBounds_toArray, List.set_cons_zero, List.set_cons_succ]
    refine wpAnyH_take (i := 11) (oi := _) (v := .int .i64 ((mm : Int) * (t0 : Int))) rfl (by kernel_rfl) (by kernel_rfl) (by kernel_rfl) (fun _ _ _ h => h) (Or.inl ⟨by rfl, ?_⟩) (by assumption) ?_
    · intro u hSu
      obtain ⟨s1, s2, s3, s4, s5⟩ := hSu
      simp only [List.getElem_toArray, List.getElem_cons_zero, List.getElem_cons_succ]
      go_simp
    simp only [List.getElem_toArray, List.getElem_cons_zero, List.getElem_cons_succ, Act.put, List.setIfInBounds_toArray, List.set_cons_zero, List.set_cons_succ]
    refine wpAnyH_ready (rs := [0]) (by kernel_rfl) (by simp) (AllReadyH.cons rfl ?_ AllReadyH.nil)
    intro K' hK'
    simp only [List.getElem_toArray, List.getElem_cons_zero]
    go_simp
    refine hK'.out _ _ hSd (fun _ => ?_)
    clear hK' K'
    refine wpAnyH_take (i := 12) (oi := _) (v := .int .i64 ((r0 : Int) + (mm : Int) * (t0 : Int))) rfl (by kernel_rfl) (by kernel_rfl) (by kernel_rfl) (fun _ _ _ h => h) (Or.inl ⟨by rfl, ?_⟩) (by assumption) ?_
    · intro u hSu
      obtain ⟨s1, s2, s3, s4, s5⟩ := hSu
      simp only [List.getElem_toArray, List.getElem_cons_zero, List.getElem_cons_succ]
      go_simp
    simp only [List.getElem_toArray, List.getElem_cons_zero, List.getElem_cons_succ, Act.put, List.setIfInBounds_toArray, List.set_cons_zero, List.set_cons_succ]
    refine wpAnyH_ready (rs := [13]) (by kernel_rfl) (by simp) (AllReadyH.cons rfl ?_ AllReadyH.nil)
    intro K' hK'
    simp only [List.getElem_toArray, List.getElem_cons_zero, List.getElem_cons_succ]
    go_simp
    have far : ∀ (b j : Nat), ¬ w.heap.size + 1 = b → (V.setCell ⟨w.heap.size + 1, 0, none⟩ (.int .i64 ((r0 : Int) + (mm : Int) * (t0 : Int)))).drew.cell? ⟨b, j, none⟩ = V.cell? ⟨b, j, none⟩ := fun b j hb => World.cell?_setCell_other _ _ _ _ (fun e => hb (by cases e; rfl))
    have m0 := (far w.heap.size 0 (by omega)).trans k0
    have ms := (far Bs 0 (by omega)).trans ks
    have mc := (far g' (o' + v) (by omega)).trans c1
    refine hK'.out _ _ ⟨m0, ms, mc, (far Bt 0 (by omega)).trans kt, (far gt (ot + v) (by omega)).trans c2⟩ (fun _ => wpAnyH_done (by kernel_rfl) ?_ _)
    clear hK' K' hSd far
    have q0 : Boxed (V.setCell ⟨w.heap.size + 1, 0, none⟩ (.int .i64 ((r0 : Int) + (mm : Int) * (t0 : Int)))).drew w.heap.size 3 (.int .i64 (p : Nat)) := boxed_off h0 _ 0 _ (by omega)
    have q1 : Boxed (V.setCell ⟨w.heap.size + 1, 0, none⟩ (.int .i64 ((r0 : Int) + (mm : Int) * (t0 : Int)))).drew (w.heap.size + 1) 3 (.int .i64 ((r0 : Int) + (mm : Int) * (t0 : Int))) := h1.set _
    have q4 : Boxed (V.setCell ⟨w.heap.size + 1, 0, none⟩ (.int .i64 ((r0 : Int) + (mm : Int) * (t0 : Int)))).drew (w.heap.size + 1 + 1) 22 (.slice b vars.length cb) := boxed_off h4 _ 0 _ (by omega)
    have qB : Below w.heap.size w (V.setCell ⟨w.heap.size + 1, 0, none⟩ (.int .i64 ((r0 : Int) + (mm : Int) * (t0 : Int)))).drew := (hB.setCell (p := ⟨w.heap.size + 1, 0, none⟩) (by simp) _).drew
    have qK : Below w.heap.size V (V.setCell ⟨w.heap.size + 1, 0, none⟩ (.int .i64 ((r0 : Int) + (mm : Int) * (t0 : Int)))).drew := ((Below.refl w.heap.size V).setCell (p := ⟨w.heap.size + 1, 0, none⟩) (by simp) _).drew
    have qO : KeepsOthers V (V.setCell ⟨w.heap.size + 1, 0, none⟩ (.int .i64 ((r0 : Int) + (mm : Int) * (t0 : Int)))).drew := (KeepsOthers.setCell V _ _).trans (KeepsOthers.drew _)
    have j4 : KeepsBox (w.heap.size + 1 + 1) V (V.setCell ⟨w.heap.size + 1, 0, none⟩ (.int .i64 ((r0 : Int) + (mm : Int) * (t0 : Int)))).drew := q4.cell.trans h4.cell.symm
    have fU := q0.frozen
    generalize (V.setCell ⟨w.heap.size + 1, 0, none⟩ (.int .i64 ((r0 : Int) + (mm : Int) * (t0 : Int)))).drew = U at *
    gi_wp2_with fail
    refine region_round (fun u => u.cell? ⟨Bs, 0, none⟩ = some (.slice (some ⟨g', o', none⟩) sizes.length ca) ∧ u.cell? ⟨g', o' + v, none⟩ = some (.int .i64 (s0 : Nat))) (by kernel_rfl) (by kernel_rfl) (fun ⟨_, _, h⟩ => h) ⟨ms, mc⟩ ?_
    intro hSd
    refine wpAnyH_take (i := 1) (oi := _) (v := .slice (some ⟨g', o', none⟩) sizes.length ca) rfl (by kernel_rfl) (by kernel_rfl) (by kernel_rfl) (fun _ _ _ h => h) (Or.inl ⟨by rfl, ?_⟩) (by assumption) ?_
    · intro u hSu
      obtain ⟨s3, s4⟩ := hSu
      simp only [List.getElem_toArray, List.getElem_cons_zero, List.getElem_cons_succ]
      go_simp
    simp only [List.getElem_toArray, List.getElem_cons_zero, List.getElem_cons_succ, Act.put, List.setIfInBounds_toArray, List.set_cons_zero, List.set_cons_succ]
    refine wpAnyH_take (i := 2) (oi := _) (v := .int .i64 (v : Nat)) rfl (by kernel_rfl) (by kernel_rfl) (by kernel_rfl) (fun _ _ _ h => h) (Or.inl ⟨by rfl, ?_⟩) (by assumption) ?_
    · intro u hSu
      obtain ⟨s3, s4⟩ := hSu
      simp only [List.getElem_toArray, List.getElem_cons_zero, List.getElem_cons_succ]
      go_simp
    simp only [List.getElem_toArray, List.getElem_cons_zero, List.getElem_cons_succ, Act.put, List.setIfInBounds_toArray, List.set_cons_zero, List.set_cons_succ]
    refine wpAnyH_take (i := 3) (oi := _) (v := .pointer (some ⟨g', o' + v, none⟩)) rfl (by kernel_rfl) (by kernel_rfl) (by kernel_rfl) (fun _ _ _ h => h) (Or.inl ⟨by rfl, ?_⟩) (by assumption) ?_
    · intro u hSu
      obtain ⟨s3, s4⟩ := hSu
      simp only [List.getElem_toArray, List.getElem_cons_zero, List.getElem_cons_succ]
      go_simp
    simp only [List.getElem_toArray, List.getElem_cons_zero, List.getElem_cons_succ, Act.put, List.setIfInBounds_toArray, List.set_cons_zero, List.set_cons_succ]
    refine wpAnyH_take (i := 4) (oi := _) (v := .int .i64 (s0 : Nat)) rfl (by kernel_rfl) (by kernel_rfl) (by kernel_rfl) (fun _ _ _ h => h) (Or.inl ⟨by rfl, ?_⟩) (by assumption) ?_
    · intro u hSu
      obtain ⟨s3, s4⟩ := hSu
      simp only [List.getElem_toArray, List.getElem_cons_zero, List.getElem_cons_succ]
      go_simp
    simp only [List.getElem_toArray, List.getElem_cons_zero, List.getElem_cons_succ, Act.put, List.setIfInBounds_toArray, List.set_cons_zero, List.set_cons_succ]
    refine wpAnyH_ready (rs := [0]) (by kernel_rfl) (by simp) (AllReadyH.cons rfl ?_ AllReadyH.nil)
    intro K' hK'
    simp only [List.getElem_toArray, List.getElem_cons_zero]
    go_simp
    refine hK'.out _ _ hSd (fun _ => ?_)
    clear hK' K'
    refine wpAnyH_take (i := 5) (oi := _) (v := .int .i64 ((p : Int) / (s0 : Int))) rfl (by kernel_rfl) (by kernel_rfl) (by kernel_rfl) (fun _ _ _ h => h) (Or.inl ⟨by rfl, ?_⟩) (by assumption) ?_
    · intro u hSu
      obtain ⟨s3, s4⟩ := hSu
      simp only [List.getElem_toArray, List.getElem_cons_zero, List.getElem_cons_succ]
      go_simp
      omega
    simp only [List.getElem_toArray, List.getElem_cons_zero, List.getElem_cons_succ, Act.put, List.setIfInBounds_toArray, List.set_cons_zero, List.set_cons_succ]
    refine wpAnyH_ready (rs := [6]) (by kernel_rfl) (by simp) (AllReadyH.cons rfl ?_ AllReadyH.nil)
    intro K' hK'
    simp only [List.getElem_toArray, List.getElem_cons_zero, List.getElem_cons_succ]
    go_simp
    refine hK'.out _ _ ⟨(World.cell?_setCell_other _ _ _ _ (fun e => (show ¬ w.heap.size = Bs by omega) (congrArg Addr.block e))).trans ms, (World.cell?_setCell_other _ _ _ _ (fun e => (show ¬ w.heap.size = g' by omega) (congrArg Addr.block e))).trans mc⟩ (fun _ => wpAnyH_done (by kernel_rfl) ?_ _)
    clear hK' K' hSd
    gi_wp2
    rw [HQ2.out]
    rw [HSU.out] at q1
    refine ⟨(qO.trans ((KeepsOthers.setCell U _ _).trans (KeepsOthers.drew _))).from _, ⟨j4.t ((boxed_off q4 w.heap.size 0 (.int .i64 (dd : Nat)) (by omega)).cell.trans q4.cell.symm), (qK.setCell (p := ⟨w.heap.size, 0, none⟩) (by simp) _).drew⟩, ?_⟩
    refine ⟨?_, ?_, boxed_off q4 _ 0 _ (by omega), (qB.setCell (p := ⟨w.heap.size, 0, none⟩) (by simp) _).drew⟩
    · rw [HST.out]; exact q0.set _
    · rw [HST.out]; exact boxed_off q1 _ 0 _ (by omega)
  case done =>
    rintro D ys V hD hys ⟨h0, h1, h4, hB⟩ hK
    rw [hys, HALL.out] at h1
    have hc := h1.cell
    gi_wp2
    refine ⟨by simp, .inl ⟨_, _, rfl, run_takeDeferred hK, ?_⟩⟩
    refine ⟨_, results_tmp rfl _ _ _, ?_⟩
    exact ⟨rfl, hB.trans (belowK_b (w := w) (Nat.le_refl _) V D _ _ (by omega) hK rfl rfl)⟩
  case stop =>
    rintro D c pre V _ _ h _
    exact h.elim
end Go.Proofs.YtknlhejhnopnaaaGreatDoor

/- Package table: where an assignment stands in another table. -/
namespace Go.Proofs.YtknlhejhnopnaaaGreatDoor
open Go.RowKit Go.Shelf

theorem stp_le {S : List Nat} (hs : ∀ v, sz S v ≤ 4) : ∀ (vs : List Nat) (v : Nat), vs.length ≤ 8 → stp S vs v ≤ 65536
  | [], _, _ => by simp [stp]
  | u :: vs, v, h => by
    rw [stp]
    have h' : vs.length ≤ 8 := by simp at h; omega
    by_cases e : v = u
    · rw [if_pos e]; exact cnt_small hs h'
    · rw [if_neg e]; exact stp_le hs vs v h'
theorem stpL_getD (S : List Nat) (n : Nat) (vs : List Nat) (v : Nat) : (stpL S n vs).getD v 0 = if v < n then stp S vs v else 0 := by
  by_cases h : v < n
  · rw [if_pos h, getN_eq (by rw [stpL_length]; exact h), stpL_get S n vs h]
  · rw [if_neg h, List.getD_eq_getElem?_getD, List.getElem?_eq_none (by rw [stpL_length]; omega)]
    rfl

/-- A function that tells where an assignment of vars stands in a table of other; what it holds of its own lies at n or above, below m. -/
def StandF (W : World) (n m : Nat) (f : Value) (a b : Option Addr) (ca cb : Nat) (sizes vars other : List Int) : Prop :=
  ∃ (Bv Bs Bt g ct : Nat), f = .func (.func 103) #[] #[.pointer (some ⟨Bv, 0, none⟩), .pointer (some ⟨Bs, 0, none⟩), .pointer (some ⟨Bt, 0, none⟩)] ∧ (n ≤ Bv ∧ n ≤ Bs ∧ n ≤ Bt ∧ n ≤ g) ∧ (Bv < m ∧ Bs < m ∧ Bt < m ∧ g < m) ∧ m ≤ W.heap.size ∧
    W.cell? ⟨Bv, 0, none⟩ = some (.slice b vars.length cb) ∧ W.cell? ⟨Bs, 0, none⟩ = some (.slice a sizes.length ca) ∧ W.cell? ⟨Bt, 0, none⟩ = some (.slice (some ⟨g, 0, none⟩) sizes.length ct) ∧ IntS W (some ⟨g, 0, none⟩) (iL (stpL (toN sizes) sizes.length (toN other)))
/-- What lies at n or above, below m, is kept. -/
def KeepsIn (n m : Nat) (W V : World) : Prop := m ≤ V.heap.size ∧ ∀ k, n ≤ k → k < m → V.heap[k]? = W.heap[k]?
theorem KeepsIn.of_below {n m : Nat} {W V : World} (h : Below W.heap.size W V) (hm : m ≤ W.heap.size) : KeepsIn n m W V := ⟨Nat.le_trans hm h.size, fun k _ hk => h.block k (Nat.lt_of_lt_of_le hk hm)⟩
theorem KeepsIn.set {n m : Nat} (W : World) {B : Nat} (j : Nat) (y : Value) (hm : m ≤ W.heap.size) (hB : B < n ∨ m ≤ B) : KeepsIn n m W (W.setCell ⟨B, j, none⟩ y) := ⟨Nat.le_trans hm (KeepsOthers.setCell W _ _).size, fun k h1 h2 => Below.heap_setCell W ⟨B, j, none⟩ y k (by show k ≠ B; omega)⟩
theorem StandF.kept {W V : World} {n m : Nat} {f : Value} {a b : Option Addr} {ca cb : Nat} {sizes vars other : List Int} (h : StandF W n m f a b ca cb sizes vars other) (hk : KeepsIn n m W V) : StandF V n m f a b ca cb sizes vars other := by
  obtain ⟨Bv, Bs, Bt, g, ct, h0, ⟨n1, n2, n3, n4⟩, ⟨m1, m2, m3, m4⟩, hm, h4, h5, h6, h7⟩ := h
  refine ⟨Bv, Bs, Bt, g, ct, h0, ⟨n1, n2, n3, n4⟩, ⟨m1, m2, m3, m4⟩, hk.1, (World.cell?_of_block (hk.2 Bv n1 m1)).trans h4, (World.cell?_of_block (hk.2 Bs n2 m2)).trans h5, (World.cell?_of_block (hk.2 Bt n3 m3)).trans h6, fun k hk' => ?_⟩
  obtain ⟨g', o', e, h1, h2⟩ := h7 k hk'
  cases e
  exact ⟨g, 0, rfl, Nat.lt_of_lt_of_le m4 hk.1, (World.cell?_of_block (hk.2 g n4 m4)).trans h2⟩
theorem StandF.top {W : World} {n m : Nat} {f : Value} {a b : Option Addr} {ca cb : Nat} {sizes vars other : List Int} (h : StandF W n m f a b ca cb sizes vars other) : m ≤ W.heap.size := by
  obtain ⟨_, _, _, _, _, _, _, _, hm, _⟩ := h
  exact hm
theorem StandF.wider {W : World} {n m n' m' : Nat} {f : Value} {a b : Option Addr} {ca cb : Nat} {sizes vars other : List Int} (h : StandF W n m f a b ca cb sizes vars other) (hn : n' ≤ n) (hm' : m ≤ m') (hW : m' ≤ W.heap.size) : StandF W n' m' f a b ca cb sizes vars other := by
  obtain ⟨Bv, Bs, Bt, g, ct, h0, ⟨n1, n2, n3, n4⟩, ⟨m1, m2, m3, m4⟩, hm, h4, h5, h6, h7⟩ := h
  exact ⟨Bv, Bs, Bt, g, ct, h0, ⟨by omega, by omega, by omega, by omega⟩, ⟨by omega, by omega, by omega, by omega⟩, hW, h4, h5, h6, h7⟩
theorem StandF.below {W V : World} {n m : Nat} {f : Value} {a b : Option Addr} {ca cb : Nat} {sizes vars other : List Int} (h : StandF W n m f a b ca cb sizes vars other) (hb : Below W.heap.size W V) : StandF V n m f a b ca cb sizes vars other := h.kept (KeepsIn.of_below hb h.top)
theorem StandF.shape {W : World} {n m : Nat} {f : Value} {a b : Option Addr} {ca cb : Nat} {sizes vars other : List Int} (h : StandF W n m f a b ca cb sizes vars other) : ∃ lb, f = .func (.func 103) #[] lb := by
  obtain ⟨Bv, Bs, Bt, g, ct, he, _⟩ := h
  exact ⟨_, he⟩
theorem StandF.calls {V : World} {n m : Nat} {lb : Array Value} {a b : Option Addr} {ca cb : Nat} {sizes vars other : List Int} (h : StandF V n m (.func (.func 103) #[] lb) a b ca cb sizes vars other) (hs : IntS V a sizes) (hv : IntS V b vars) (hfi : Fine sizes) (hup : Up vars sizes.length) (huo : Up other sizes.length) {K : Nat} (hK : K < cnt (toN sizes) (toN vars)) :
    Calls Tryz.prog 103 (#[.int .i64 (K : Nat)] ++ lb) V fun e w' => e = .returned (.int .i64 (pos (toN sizes) (asg (toN sizes) (toN vars) K) (toN other) : Nat)) ∧ Below V.heap.size V w' := by
  obtain ⟨Bv, Bs, Bt, g, ct, he, _, ⟨h1, h2, h3, _⟩, hm, h4, h5, h6, h7⟩ := h
  simp only [Value.func.injEq, true_and] at he
  rw [he]
  have hol := huo.length
  have hl8 := hfi.eight
  have e1 := standing1_any Bv Bs Bt a b _ ca cb ct sizes vars (stpL (toN sizes) sizes.length (toN other)) K V (by omega) (by omega) (by omega) h4 h5 h6 hs hv h7 (stpL_length _ _ _) (fun v => by
    rw [stpL_getD]
    by_cases hv : v < sizes.length
    · rw [if_pos hv]; exact stp_le hfi.sz_le _ _ (by rw [toN_length]; omega)
    · rw [if_neg hv]; omega) hfi hup hK hup.nodup
  have e2 : sumL (fun v => asg (toN sizes) (toN vars) K v * (stpL (toN sizes) sizes.length (toN other)).getD v 0) (toN vars) = pos (toN sizes) (asg (toN sizes) (toN vars) K) (toN other) := by
    rw [← stand sizes.length K hup.nodup huo.nodup hup.below huo.below]
    exact sumL_congr fun v hv => by rw [stpL_getD, if_pos (hup.below v hv)]
  rw [e2] at e1
  exact e1

set_option maxRecDepth 100000 in
set_option maxHeartbeats 400000 in
theorem standing_any (a b c : Option Addr) (ca cb cc : Nat) (sizes vars other : List Int) (w : World) (hs : IntS w a sizes) (ho : IntS w c other) (hfi : Fine sizes) (huo : Up other sizes.length) :
    Calls Tryz.prog 52 #[.slice a sizes.length ca, .slice b vars.length cb, .slice c other.length cc] w fun e w' => ∃ f, e = .returned f ∧ StandF w' w.heap.size w'.heap.size f a b ca cb sizes vars other ∧ Below w.heap.size w w' := by
  have HS := hid hs
  have HO := hid ho
  have HA := hid (fun V h1 h2 => steps_any a c ca cc sizes other V h1 h2 hfi huo)
  clear hs ho
  go_enter Tryz.func52, Tryz.ntmps52
  go_wp2_with fail
  have hb0 : Below w.heap.size w ((w.alloc (.cells #[.slice a sizes.length ca] 22)).alloc (.cells #[.slice b vars.length cb] 22)) := ((Below.refl _ w).alloc (Nat.le_refl _) _).alloc (by simp) _
  have b0 : Boxed ((w.alloc (.cells #[.slice a sizes.length ca] 22)).alloc (.cells #[.slice b vars.length cb] 22)) w.heap.size 22 (.slice a sizes.length ca) := (Boxed.new w _ _).alloc _
  have b1 : Boxed ((w.alloc (.cells #[.slice a sizes.length ca] 22)).alloc (.cells #[.slice b vars.length cb] 22)) (w.heap.size + 1) 22 (.slice b vars.length cb) := by
    have h := Boxed.new (w.alloc (.cells #[.slice a sizes.length ca] 22)) 22 (.slice b vars.length cb)
    rwa [World.size_alloc] at h
  have hsz : ((w.alloc (.cells #[.slice a sizes.length ca] 22)).alloc (.cells #[.slice b vars.length cb] 22)).heap.size = w.heap.size + 1 + 1 := by simp
  generalize ((w.alloc (.cells #[.slice a sizes.length ca] 22)).alloc (.cells #[.slice b vars.length cb] 22)) = W at *
  refine (HA.out _ (HS.out.below hb0) (HO.out.below hb0)).mono ?_
  rintro e w1 ⟨t, ct, rfl, ht1, hi1, hb1⟩
  have hs1 := hb1.size
  have htl : t < w1.heap.size := by
    obtain ⟨g3, o3, e3, h3, _⟩ := hi1 0 (by rw [iL_length, stpL_length]; exact hfi.one)
    cases e3
    exact h3
  go_wp2
  go_ret
  have hb2 : Below w1.heap.size w1 (w1.alloc (.cells #[.slice (some ⟨t, 0, none⟩) sizes.length ct] 22)) := (Below.refl _ w1).alloc (Nat.le_refl _) _
  have hbW : Below W.heap.size W (w1.alloc (.cells #[.slice (some ⟨t, 0, none⟩) sizes.length ct] 22)) := hb1.trans (hb2.mono hs1)
  refine ⟨_, rfl, ⟨w.heap.size + 1, w.heap.size, w1.heap.size, t, ct, rfl, ⟨by omega, by omega, by omega, by omega⟩, ⟨by simp; omega, by simp; omega, by simp, by simp; omega⟩, Nat.le_refl _, (hbW.cell (p := ⟨w.heap.size + 1, 0, none⟩) (by simp; omega)).trans b1.cell, (hbW.cell (p := ⟨w.heap.size, 0, none⟩) (by simp; omega)).trans b0.cell, (Boxed.new w1 22 _).cell, hi1.below hb2⟩, hb0.trans (hbW.mono (by omega))⟩
end Go.Proofs.YtknlhejhnopnaaaGreatDoor
