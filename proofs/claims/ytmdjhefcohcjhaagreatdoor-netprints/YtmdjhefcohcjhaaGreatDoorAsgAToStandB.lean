/- Package table: the assignment of a place. -/
import Derived.Test.YtmdjhefcohcjhaaGreatDoorNameCToRoundA
import Derived.Deep.OwnRows
namespace Go.Proofs.YtmdjhefcohcjhaaGreatDoor
open Go.RowKit Go.Shelf

attribute [local go_sem] Oper.semAt_some

/-- One step of telling an assignment from its end: what is left of the place, and the values. -/
def bst (S vs : List Nat) (st : Nat × List Nat) (i : Nat) : Nat × List Nat := (st.1 / sz S (vs.getD i 0), st.2.set i (st.1 % sz S (vs.getD i 0)))
def asgF (S vs : List Nat) (K n : Nat) (pre : List Nat) : Nat × List Nat := pre.foldl (bst S vs) (K, List.replicate n 0)
theorem asgF_snoc (S vs : List Nat) (K n : Nat) (pre : List Nat) (i : Nat) : asgF S vs K n (pre ++ [i]) = bst S vs (asgF S vs K n pre) i := by simp [asgF]
theorem asgF_le (S vs : List Nat) (K n : Nat) (pre : List Nat) : (asgF S vs K n pre).1 ≤ K ∧ (asgF S vs K n pre).2.length = n := by
  have key : ∀ (l : List Nat) (st : Nat × List Nat), st.1 ≤ K → st.2.length = n → (l.foldl (bst S vs) st).1 ≤ K ∧ (l.foldl (bst S vs) st).2.length = n := by
    intro l
    induction l with
    | nil => intro st h1 h2; exact ⟨h1, h2⟩
    | cons i l ih =>
      intro st h1 h2
      exact ih _ (Nat.le_trans (Nat.div_le_self _ _) h1) (by simp [bst, h2])
  exact key pre _ (Nat.le_refl _) (by simp)
theorem asgF_backs (S vs : List Nat) (K : Nat) : ∀ m, m ≤ vs.length → asgF S vs K vs.length (backs vs.length m) = (K / cnt S (vs.drop (vs.length - m)), List.replicate (vs.length - m) 0 ++ digs S (vs.drop (vs.length - m)) (K % cnt S (vs.drop (vs.length - m))))
  | 0, _ => by simp [asgF, backs, cnt, digs]
  | m + 1, h => by
    rw [backs_succ, asgF_snoc, asgF_backs S vs K m (by omega)]
    have hj : vs.length - 1 - m < vs.length := by omega
    have e1 : vs.length - (m + 1) = vs.length - 1 - m := by omega
    have e2 : vs.length - m = (vs.length - 1 - m) + 1 := by omega
    have hd : vs.drop (vs.length - 1 - m) = vs[vs.length - 1 - m] :: vs.drop ((vs.length - 1 - m) + 1) := List.drop_eq_getElem_cons hj
    rw [e1, e2, hd, bst, getN_eq hj]
    generalize vs.drop ((vs.length - 1 - m) + 1) = rest
    generalize vs[vs.length - 1 - m] = v
    generalize vs.length - 1 - m = j
    simp only [cnt, digs]
    rw [mod_div, mod_mod_c, Nat.div_div_eq_div_mul, Nat.mul_comm (cnt S rest), List.replicate_succ', List.append_assoc, List.set_append_right _ _ (by simp)]
    simp
theorem asgF_all {S vs : List Nat} {K : Nat} (h : K < cnt S vs) : asgF S vs K vs.length (backs vs.length vs.length) = (0, digs S vs K) := by
  rw [asgF_backs S vs K _ (Nat.le_refl _), Nat.sub_self]
  simp [Nat.mod_eq_of_lt h, Nat.div_eq_of_lt h]

set_option maxHeartbeats 400000 in
theorem backward_in (n : Nat) (a : Option Addr) (len cap : Nat) (w : World) :
    CallsIn Fence.wide n Tryz.prog 101 #[.slice a len cap] w fun e w' => e = .returned (.func (.func 130) #[] #[.pointer (some ⟨w.heap.size, 0, none⟩)]) ∧ w' = w.alloc (.cells #[.slice a len cap] 34) := by
  refine callsIn_of_wp Tryz.func101 rfl trivial ?_ rfl
  simp only [Tryz.ntmps101, List.size_toArray, List.length_cons, List.length_nil, Nat.reduceAdd, Nat.reduceSub, Array.replicate_succ, Array.replicate_zero, List.push_toArray, List.append_toArray, List.nil_append, List.cons_append]
  gi_wp2
  go_ret
  exact ⟨rfl, rfl⟩
theorem backward_stops (n : Nat) (hn : 1 ≤ n) (Bn B : Nat) (a : Option Addr) (cap : Nat) (xs : List Int) (hl : xs.length ≤ 140737488355328) (w : World) (hBn : Bn < w.heap.size) (hB : B ≤ w.heap.size) (hc : w.cell? ⟨Bn, 0, none⟩ = some (.slice a xs.length cap)) (hx : IntB B w a xs) :
    SeqStopsK Fence.wide n Tryz.prog 130 #[.pointer (some ⟨Bn, 0, none⟩)] (atV xs) (KeepsB Bn B) (fun ys => ys.map (·.1) = backs xs.length xs.length) (fun pre => ∃ k, k ≤ xs.length ∧ pre.map (·.1) = backs xs.length k) xs.length w := fun l J Jx V hV _ _ hY h0 =>
  backward1_in n hn l Bn B a cap xs hl J Jx hY V ((hV.cell (p := ⟨Bn, 0, none⟩) hBn).trans hc) (hx.below (hV.mono hB)) h0

theorem row_own {β : Type} (g : Nat) (f : β → List Nat) : Own (fun s W => RowI W g (f s)) := fun s X Y row hs hg hrow => by
  refine (hg.block g hs.lt fun e' => ?_).trans hs
  obtain ⟨o, ho, hc⟩ := hrow g e'.symm
  rw [show X.heap[g]? = _ from hs] at ho
  cases ho; cases hc
theorem made_row (w : World) (n : Nat) : RowI (w.alloc (.cells (madeCells #[Value.int .i64 0] n) 3)) w.heap.size (List.replicate n 0) := by
  have h : (madeCells #[Value.int .i64 0] n).toList = (List.replicate n (0 : Nat)).map iv := by
    have := made_ints n
    rwa [Nat.mul_one, show (Value.int .i64 0).cells = #[Value.int .i64 0] from rfl] at this
  have e : madeCells #[Value.int .i64 0] n = ((List.replicate n (0 : Nat)).map iv).toArray := by rw [← h]
  rw [RowI, ← e]
  exact heap_alloc_new _ _
theorem RowI.alloc {w : World} {g : Nat} {l : List Nat} (h : RowI w g l) (o : Obj) : RowI (w.alloc o) g l := (Below.heap_alloc w o g h.lt).trans h

theorem boxed_off {V : World} {k : Nat} {t : TypeId} {v : Value} (h : Boxed V k t v) (b j : Nat) (y : Value) (hne : k ≠ b) : Boxed (V.setCell ⟨b, j, none⟩ y) k t v := (Below.heap_setCell V ⟨b, j, none⟩ y k hne).trans h
theorem RowI.off {V : World} {g : Nat} {l : List Nat} (h : RowI V g l) (b j : Nat) (y : Value) (hne : g ≠ b) : RowI (V.setCell ⟨b, j, none⟩ y) g l := (Below.heap_setCell V ⟨b, j, none⟩ y g hne).trans h

set_option maxRecDepth 100000 in
set_option maxHeartbeats 1000000 in
theorem assignment_any (a b : Option Addr) (ca cb : Nat) (sizes vars : List Int) (K : Nat) (w : World) (hs : IntS w a sizes) (hv : IntS w b vars) (hfi : Fine sizes) (hup : Up vars sizes.length) (hK : K < cnt (toN sizes) (toN vars)) :
    Calls Tryz.prog 64 #[.slice a sizes.length ca, .slice b vars.length cb, .int .i64 (K : Nat)] w fun e w' => ∃ (c : Option Addr) (cc : Nat), e = .returned (.slice c (digs (toN sizes) (toN vars) K).length cc) ∧ IntS w' c (iL (digs (toN sizes) (toN vars) K)) ∧ Below w.heap.size w w' := by
  refine (callsIn_wide (n := 6)).1 ?_
  have hl8 := hfi.eight
  have hvl := hup.length
  have hsm : cnt (toN sizes) (toN vars) ≤ 65536 := cnt_small hfi.sz_le (by rw [toN_length]; omega)
  have hmk := fun V => run_make_row' (P := Tryz.prog) 34 3 (.int .i64 0) 8 Tryz.underlying34 Tryz.infoInt rfl .i64 .i64 vars.length (by omega) (by omega) V
  have HS := hid hs
  have HV := hid hv
  have HFI := hid hfi
  have HUP := hid hup
  have hdl : (digs (toN sizes) (toN vars) K).length = vars.length := by rw [digs_length, toN_length]
  have HALL := hid (asgF_all hK)
  rw [toN_length] at HALL
  rw [hdl]
  clear hs hv hfi hup
  refine callsIn_of_wp_marks Tryz.func64 rfl trivial ?_ rfl
  simp only [Tryz.ntmps64, List.size_toArray, List.length_cons, List.length_nil, Nat.reduceAdd, Nat.reduceSub, Array.replicate_succ, Array.replicate_zero, List.push_toArray, List.append_toArray, List.nil_append, List.cons_append]
  gi_wp2_with ((refine ⟨trivial, ?_⟩; gi_at_call 101; refine (backward_in _ _ _ _ _).mono ?_; rintro e w2 ⟨rfl, rfl⟩))
  obtain ⟨W0, hW0⟩ : ∃ W0, W0 = (((((w.alloc (.cells #[.slice a sizes.length ca] 34)).alloc (.cells #[.int .i64 (K : Nat)] 3)).alloc (.cells (madeCells #[.int .i64 0] vars.length) 3)).alloc (.cells #[.slice (some ⟨w.heap.size + 1 + 1, 0, none⟩) vars.length vars.length] 34)).alloc (.cells #[.slice b vars.length cb] 34)) := ⟨_, rfl⟩
  have hsz0 : W0.heap.size = w.heap.size + 1 + 1 + 1 + 1 + 1 := by rw [hW0]; simp
  have b0 : Boxed W0 w.heap.size 34 (.slice a sizes.length ca) := by rw [hW0]; exact ((((Boxed.new w _ _).alloc _).alloc _).alloc _).alloc _
  have b1 : Boxed W0 (w.heap.size + 1) 3 (.int .i64 (K : Nat)) := by
    have h := ((((Boxed.new (w.alloc (.cells #[.slice a sizes.length ca] 34)) 3 (.int .i64 (K : Nat))).alloc (.cells (madeCells #[.int .i64 0] vars.length) 3)).alloc (.cells #[.slice (some ⟨w.heap.size + 1 + 1, 0, none⟩) vars.length vars.length] 34)).alloc (.cells #[.slice b vars.length cb] 34))
    rw [World.size_alloc] at h
    rw [hW0]; exact h
  have r2 : RowI W0 (w.heap.size + 1 + 1) (List.replicate vars.length 0) := by
    have h := ((made_row ((w.alloc (.cells #[.slice a sizes.length ca] 34)).alloc (.cells #[.int .i64 (K : Nat)] 3)) vars.length).alloc (.cells #[.slice (some ⟨w.heap.size + 1 + 1, 0, none⟩) vars.length vars.length] 34)).alloc (.cells #[.slice b vars.length cb] 34)
    rw [World.size_alloc, World.size_alloc] at h
    rw [hW0]; exact h
  have b3 : Boxed W0 (w.heap.size + 1 + 1 + 1) 34 (.slice (some ⟨w.heap.size + 1 + 1, 0, none⟩) vars.length vars.length) := by
    have h := (Boxed.new (((w.alloc (.cells #[.slice a sizes.length ca] 34)).alloc (.cells #[.int .i64 (K : Nat)] 3)).alloc (.cells (madeCells #[.int .i64 0] vars.length) 3)) 34 (.slice (some ⟨w.heap.size + 1 + 1, 0, none⟩) vars.length vars.length)).alloc (.cells #[.slice b vars.length cb] 34)
    rw [World.size_alloc, World.size_alloc, World.size_alloc] at h
    rw [hW0]; exact h
  have b4 : Boxed W0 (w.heap.size + 1 + 1 + 1 + 1) 34 (.slice b vars.length cb) := by
    have h := Boxed.new ((((w.alloc (.cells #[.slice a sizes.length ca] 34)).alloc (.cells #[.int .i64 (K : Nat)] 3)).alloc (.cells (madeCells #[.int .i64 0] vars.length) 3)).alloc (.cells #[.slice (some ⟨w.heap.size + 1 + 1, 0, none⟩) vars.length vars.length] 34)) 34 (.slice b vars.length cb)
    rw [World.size_alloc, World.size_alloc, World.size_alloc, World.size_alloc] at h
    rw [hW0]; exact h
  have hB0 : Below w.heap.size w W0 := by
    rw [hW0]
    exact (((((Below.refl _ w).alloc (Nat.le_refl _) _).alloc (by simp) _).alloc (by simp; omega) _).alloc (by simp; omega) _).alloc (by simp; omega) _
  rw [← hW0]
  clear hW0
  refine wpIn_rangeFunc_ownG (α := At vars) rfl (by omega) (gf := 130) (lb := #[.pointer (some ⟨w.heap.size + 1 + 1 + 1 + 1, 0, none⟩)]) rfl trivial (enters_of Tryz.func130 (by kernel_rfl) rfl)
    (backward_stops 5 (by omega) (w.heap.size + 1 + 1 + 1 + 1) w.heap.size b cb vars (by omega) W0 (by omega) (by omega) b4.cell (HV.out.toB.below hB0)) KeepsB.t (KeepsB.b (by omega) (by omega)) (Below.refl _ _) (fun _ => rfl)
    (fun (pre : List (At vars)) V => Boxed V w.heap.size 34 (.slice a sizes.length ca) ∧ Boxed V (w.heap.size + 1) 3 (.int .i64 ((asgF (toN sizes) (toN vars) K vars.length (pre.map (·.1))).1 : Nat)) ∧ RowI V (w.heap.size + 1 + 1) (asgF (toN sizes) (toN vars) K vars.length (pre.map (·.1))).2 ∧ Boxed V (w.heap.size + 1 + 1 + 1) 34 (.slice (some ⟨w.heap.size + 1 + 1, 0, none⟩) vars.length vars.length) ∧ Boxed V (w.heap.size + 1 + 1 + 1 + 1) 34 (.slice b vars.length cb) ∧ Below w.heap.size w V)
    (fun _ _ _ => False)
    (OwnFrom.and (Own.from (boxed_own _ _ (fun _ => _)) _) (OwnFrom.and (Own.from (boxed_own _ _ (fun pre : List (At vars) => .int .i64 ((asgF (toN sizes) (toN vars) K vars.length (pre.map (·.1))).1 : Nat))) _) (OwnFrom.and (Own.from (row_own _ (fun pre : List (At vars) => (asgF (toN sizes) (toN vars) K vars.length (pre.map (·.1))).2)) _) (OwnFrom.and (Own.from (boxed_own _ _ (fun _ => _)) _) (OwnFrom.and (Own.from (boxed_own _ _ (fun _ => _)) _) (ownFrom_below (Nat.le_refl _) (by omega)))))))
    (fun _ _ _ _ _ hs _ _ => hs)
    ⟨b0, b1, r2, b3, b4, hB0⟩
    (fun x => { tmps := #[.slice a sizes.length ca, .slice b vars.length cb, .int .i64 (K : Nat), .pointer (some ⟨w.heap.size, 0, none⟩), undef, .pointer (some ⟨w.heap.size + 1, 0, none⟩), .slice none 0 0, .pointer (some ⟨w.heap.size + 1 + 1 + 1, 0, none⟩), .int .i64 (x.1 : Nat), .int .i64 (vars[x.1]'x.2), .slice b vars.length cb, .int .i64 (vars.length : Nat), .slice (some ⟨w.heap.size + 1 + 1, 0, none⟩) vars.length vars.length, .slice b vars.length cb, .func (.func 130) #[] #[.pointer (some ⟨w.heap.size + 1 + 1 + 1 + 1, 0, none⟩)], .int .i64 (x.1 : Nat), .int .i64 (vars[x.1]'x.2), undef, undef, undef, undef, undef, undef, undef, undef, undef, undef, undef, undef, undef, undef, undef, undef], defers := [] }) ?assign ?body ?done ?stop
  case assign =>
    intro l x V K hK
    gi_wp2
    exact hK
  case body =>
    rintro l pre ⟨i, hi⟩ V ⟨h0, h1, h2, h3, h4, hB⟩ hlt
    obtain ⟨hvi, hvn⟩ := HUP.out.nat hi
    have HST : Hid (asgF (toN sizes) (toN vars) K vars.length ((pre ++ [(⟨i, hi⟩ : At vars)]).map (·.1)) = ((asgF (toN sizes) (toN vars) K vars.length (pre.map (·.1))).1 / sz (toN sizes) vars[i].toNat, (asgF (toN sizes) (toN vars) K vars.length (pre.map (·.1))).2.set i ((asgF (toN sizes) (toN vars) K vars.length (pre.map (·.1))).1 % sz (toN sizes) vars[i].toNat))) := by
      show _ = _
      rw [List.map_append, List.map_cons, List.map_nil, asgF_snoc, bst, getN_eq (show i < (toN vars).length by rw [toN_length]; exact hi), toN_get hi]
    obtain ⟨hpk, hpl⟩ := asgF_le (toN sizes) (toN vars) K vars.length (pre.map (·.1))
    have hz := sz_pos HFI.out.pos vars[i].toNat
    have hz4 := HFI.out.sz_le vars[i].toNat
    generalize hV : vars[i].toNat = v at *
    rw [← hvi]
    obtain ⟨g', o', rfl, hg', c1⟩ := (HS.out.below hB) v hvn
    rw [← HFI.out.sz_eq hvn] at c1
    have hg2 : g' < w.heap.size := by
      obtain ⟨g3, o3, e3, h3, _⟩ := HS.out v hvn
      cases e3
      exact h3
    clear hvi hV
    generalize asgF (toN sizes) (toN vars) K vars.length (pre.map (·.1)) = st at *
    obtain ⟨p, at0⟩ := st
    simp only at h1 h2 hpk hpl HST
    generalize sz (toN sizes) v = s0 at *
    have hrow := h2.cell i (by omega)
    have hfz := h2.fz i
    have k0 := h0.cell
    have k1 := h1.cell
    have k3 := h3.cell
    have f1 := h1.frozen
    have hq1 : (p : Int) % (s0 : Int) = ((p % s0 : Nat) : Int) := (Int.natCast_emod _ _).symm
    have hq2 : (p : Int) / (s0 : Int) = ((p / s0 : Nat) : Int) := (Int.natCast_ediv _ _).symm
    have hm1 : p % s0 ≤ 65536 := Nat.le_trans (Nat.mod_le _ _) (by omega)
    have hm2 : p / s0 ≤ 65536 := Nat.le_trans (Nat.div_le_self _ _) (by omega)
    generalize p % s0 = mm at *
    generalize p / s0 = dd at *
    have hz1 : ¬ (s0 : Int) = 0 := by omega
    have hne1 : ¬ w.heap.size + 1 + 1 = w.heap.size + 1 := by omega
    have hne2 : ¬ w.heap.size + 1 = w.heap.size + 1 + 1 := by omega
    have hpi : i < at0.length := by omega
    generalize at0[i] = z at *
    have hw1 : IntKind.i64.wrap ((p : Int) % (s0 : Int)) = (p : Int) % (s0 : Int) := by rw [hq1, IntKind.wrap_i64]; omega
    have hw2 : IntKind.i64.wrap ((p : Int) / (s0 : Int)) = (p : Int) / (s0 : Int) := by rw [hq2, IntKind.wrap_i64]; omega
    have HQ1 := hid hq1
    have HQ2 := hid hq2
    clear hq1 hq2
    clear hmk b0 b1 r2 b3 b4 hB0 hsz0 hdl HALL HUP HFI HV hsm hK hpl
    gi_wp2_with fail
    refine region_round (fun u => u.cell? ⟨w.heap.size + 1 + 1 + 1, 0, none⟩ = some (.slice (some ⟨w.heap.size + 1 + 1, 0, none⟩) vars.length vars.length) ∧ u.cell? ⟨w.heap.size + 1, 0, none⟩ = some (.int .i64 (p : Nat)) ∧ u.cell? ⟨w.heap.size, 0, none⟩ = some (.slice (some ⟨g', o', none⟩) sizes.length ca) ∧ u.cell? ⟨g', o' + v, none⟩ = some (.int .i64 (s0 : Nat))) (by kernel_rfl) (by kernel_rfl) (fun ⟨_, _, h⟩ => h) ⟨k3, k1, k0, c1⟩ ?_
    intro hSd
    refine wpAnyH_take (i := 0) (oi := _) (v := .slice (some ⟨w.heap.size + 1 + 1, 0, none⟩) vars.length vars.length) rfl (by kernel_rfl) (by kernel_rfl) (by kernel_rfl) (fun _ _ _ h => h) (Or.inl ⟨by rfl, ?_⟩) (by assumption) ?_
    · intro u hSu
      obtain ⟨s1, s2, s3, s4⟩ := hSu
      simp only [List.getElem_toArray, List.getElem_cons_zero]
      go_simp
    simp only [List.getElem_toArray, List.getElem_cons_zero, Act.put, List.setIfInBounds_toArray, List.set_cons_zero, List.set_cons_succ]
    refine wpAnyH_take (i := 1) (oi := _) (v := .int .i64 (i : Nat)) rfl (by kernel_rfl) (by kernel_rfl) (by kernel_rfl) (fun _ _ _ h => h) (Or.inl ⟨by rfl, ?_⟩) (by assumption) ?_
    · intro u hSu
      obtain ⟨s1, s2, s3, s4⟩ := hSu
      simp only [List.getElem_toArray, List.getElem_cons_zero, List.getElem_cons_succ]
      go_simp
    simp only [List.getElem_toArray, List.getElem_cons_zero, List.getElem_cons_succ, Act.put, List.setIfInBounds_toArray, List.set_cons_zero, List.set_cons_succ]
    refine wpAnyH_take (i := 2) (oi := _) (v := .int .i64 (p : Nat)) rfl (by kernel_rfl) (by kernel_rfl) (by kernel_rfl) (fun _ _ _ h => h) (Or.inl ⟨by rfl, ?_⟩) (by assumption) ?_
    · intro u hSu
      obtain ⟨s1, s2, s3, s4⟩ := hSu
      simp only [List.getElem_toArray, List.getElem_cons_zero, List.getElem_cons_succ]
      go_simp
    simp only [List.getElem_toArray, List.getElem_cons_zero, List.getElem_cons_succ, Act.put, List.setIfInBounds_toArray, List.set_cons_zero, List.set_cons_succ]
    refine wpAnyH_take (i := 3) (oi := _) (v := .slice (some ⟨g', o', none⟩) sizes.length ca) rfl (by kernel_rfl) (by kernel_rfl) (by kernel_rfl) (fun _ _ _ h => h) (Or.inl ⟨by rfl, ?_⟩) (by assumption) ?_
    · intro u hSu
      obtain ⟨s1, s2, s3, s4⟩ := hSu
      simp only [List.getElem_toArray, List.getElem_cons_zero, List.getElem_cons_succ]
      go_simp
    simp only [List.getElem_toArray, List.getElem_cons_zero, List.getElem_cons_succ, Act.put, List.setIfInBounds_toArray, List.set_cons_zero, List.set_cons_succ]
    refine wpAnyH_take (i := 4) (oi := _) (v := .int .i64 (v : Nat)) rfl (by kernel_rfl) (by kernel_rfl) (by kernel_rfl) (fun _ _ _ h => h) (Or.inl ⟨by rfl, ?_⟩) (by assumption) ?_
    · intro u hSu
      obtain ⟨s1, s2, s3, s4⟩ := hSu
      simp only [List.getElem_toArray, List.getElem_cons_zero, List.getElem_cons_succ]
      go_simp
    simp only [List.getElem_toArray, List.getElem_cons_zero, List.getElem_cons_succ, Act.put, List.setIfInBounds_toArray, List.set_cons_zero, List.set_cons_succ]
    refine wpAnyH_take (i := 5) (oi := _) (v := .pointer (some ⟨g', o' + v, none⟩)) rfl (by kernel_rfl) (by kernel_rfl) (by kernel_rfl) (fun _ _ _ h => h) (Or.inl ⟨by rfl, ?_⟩) (by assumption) ?_
    · intro u hSu
      obtain ⟨s1, s2, s3, s4⟩ := hSu
      simp only [List.getElem_toArray, List.getElem_cons_zero, List.getElem_cons_succ]
      go_simp
    simp only [List.getElem_toArray, List.getElem_cons_zero, List.getElem_cons_succ, Act.put, List.setIfInBounds_toArray, List.set_cons_zero, List.set_cons_succ]
    refine wpAnyH_take (i := 6) (oi := _) (v := .int .i64 (s0 : Nat)) rfl (by kernel_rfl) (by kernel_rfl) (by kernel_rfl) (fun _ _ _ h => h) (Or.inl ⟨by rfl, ?_⟩) (by assumption) ?_
    · intro u hSu
      obtain ⟨s1, s2, s3, s4⟩ := hSu
      simp only [List.getElem_toArray, List.getElem_cons_zero, List.getElem_cons_succ]
      go_simp
    simp only [List.getElem_toArray, List.getElem_cons_zero, List.getElem_cons_succ, Act.put, List.setIfInBounds_toArray, List.set_cons_zero, List.set_cons_succ]
    refine wpAnyH_take (i := 7) (oi := _) (v := .int .i64 ((p : Int) % (s0 : Int))) rfl (by kernel_rfl) (by kernel_rfl) (by kernel_rfl) (fun _ _ _ h => h) (Or.inl ⟨by rfl, ?_⟩) (by assumption) ?_
    · intro u hSu
      obtain ⟨s1, s2, s3, s4⟩ := hSu
      simp only [List.getElem_toArray, List.getElem_cons_zero, List.getElem_cons_succ]
      go_simp
      rw [if_neg (show ¬ s0 = 0 by omega), Int.tmod_eq_emod_of_nonneg (Int.natCast_nonneg _)]
    simp only [List.getElem_toArray, List.getElem_cons_zero, List.getElem_cons_succ, Act.put, List.setIfInBounds_toArray, List.set_cons_zero, List.set_cons_succ]
    refine wpAnyH_take (i := 8) (oi := _) (v := .pointer (some ⟨w.heap.size + 1 + 1, i, none⟩)) rfl (by kernel_rfl) (by kernel_rfl) (by kernel_rfl) (fun _ _ _ h => h) (Or.inl ⟨by rfl, ?_⟩) (by assumption) ?_
    · intro u hSu
      obtain ⟨s1, s2, s3, s4⟩ := hSu
      simp only [List.getElem_toArray, List.getElem_cons_zero, List.getElem_cons_succ]
      go_simp
    simp only [List.getElem_toArray, List.getElem_cons_zero, List.getElem_cons_succ, Act.put, List.setIfInBounds_toArray, List.set_cons_zero, List.set_cons_succ]
    refine wpAnyH_ready (rs := [9]) (by kernel_rfl) (by simp) (AllReadyH.cons rfl ?_ AllReadyH.nil)
    intro K' hK'
    simp only [List.getElem_toArray, List.getElem_cons_zero, List.getElem_cons_succ]
    go_simp
    have far : ∀ (b j : Nat) (y : Value), ¬ w.heap.size + 1 + 1 = b → (V.setCell ⟨w.heap.size + 1 + 1, i, none⟩ y).drew.cell? ⟨b, j, none⟩ = V.cell? ⟨b, j, none⟩ := fun b j y hb => World.cell?_setCell_other _ _ _ _ (fun e => hb (by cases e; rfl))
    refine hK'.out _ _ ⟨(far _ _ _ (by omega)).trans k3, (far _ _ _ (by omega)).trans k1, (far _ _ _ (by omega)).trans k0, (far _ _ _ (by omega)).trans c1⟩ (fun _ => wpAnyH_done (by kernel_rfl) ?_ _)
    clear hK' K' hSd
    have m0 := (far w.heap.size 0 (.int .i64 ((p : Int) % (s0 : Int))) (by omega)).trans k0
    have m1 := (far (w.heap.size + 1) 0 (.int .i64 ((p : Int) % (s0 : Int))) (by omega)).trans k1
    have m2 := (far g' (o' + v) (.int .i64 ((p : Int) % (s0 : Int))) (by omega)).trans c1
    have hr1 := h2.set i mm
    rw [← HQ1.out] at hr1
    have q0 : Boxed (V.setCell ⟨w.heap.size + 1 + 1, i, none⟩ (.int .i64 ((p : Int) % (s0 : Int)))).drew w.heap.size 34 (.slice (some ⟨g', o', none⟩) sizes.length ca) := boxed_off h0 _ i _ (by omega)
    have q1 : Boxed (V.setCell ⟨w.heap.size + 1 + 1, i, none⟩ (.int .i64 ((p : Int) % (s0 : Int)))).drew (w.heap.size + 1) 3 (.int .i64 (p : Nat)) := boxed_off h1 _ i _ (by omega)
    have q3 : Boxed (V.setCell ⟨w.heap.size + 1 + 1, i, none⟩ (.int .i64 ((p : Int) % (s0 : Int)))).drew (w.heap.size + 1 + 1 + 1) 34 (.slice (some ⟨w.heap.size + 1 + 1, 0, none⟩) vars.length vars.length) := boxed_off h3 _ i _ (by omega)
    have q4 : Boxed (V.setCell ⟨w.heap.size + 1 + 1, i, none⟩ (.int .i64 ((p : Int) % (s0 : Int)))).drew (w.heap.size + 1 + 1 + 1 + 1) 34 (.slice b vars.length cb) := boxed_off h4 _ i _ (by omega)
    have q2 : RowI (V.setCell ⟨w.heap.size + 1 + 1, i, none⟩ (.int .i64 ((p : Int) % (s0 : Int)))).drew (w.heap.size + 1 + 1) (at0.set i mm) := hr1
    have qB : Below w.heap.size w (V.setCell ⟨w.heap.size + 1 + 1, i, none⟩ (.int .i64 ((p : Int) % (s0 : Int)))).drew := (hB.setCell (p := ⟨w.heap.size + 1 + 1, i, none⟩) (by simp; omega) _).drew
    have qK : Below w.heap.size V (V.setCell ⟨w.heap.size + 1 + 1, i, none⟩ (.int .i64 ((p : Int) % (s0 : Int)))).drew := ((Below.refl w.heap.size V).setCell (p := ⟨w.heap.size + 1 + 1, i, none⟩) (by simp; omega) _).drew
    have qO : KeepsOthers V (V.setCell ⟨w.heap.size + 1 + 1, i, none⟩ (.int .i64 ((p : Int) % (s0 : Int)))).drew := (KeepsOthers.setCell V _ _).trans (KeepsOthers.drew _)
    have fU := q1.frozen
    have j4 : KeepsBox (w.heap.size + 1 + 1 + 1 + 1) V (V.setCell ⟨w.heap.size + 1 + 1, i, none⟩ (.int .i64 ((p : Int) % (s0 : Int)))).drew := q4.cell.trans h4.cell.symm
    clear far
    generalize (V.setCell ⟨w.heap.size + 1 + 1, i, none⟩ (.int .i64 ((p : Int) % (s0 : Int)))).drew = U at *
    gi_wp2_with fail
    refine region_round (fun u => u.cell? ⟨w.heap.size, 0, none⟩ = some (.slice (some ⟨g', o', none⟩) sizes.length ca) ∧ u.cell? ⟨g', o' + v, none⟩ = some (.int .i64 (s0 : Nat))) (by kernel_rfl) (by kernel_rfl) (fun ⟨_, _, h⟩ => h) ⟨m0, m2⟩ ?_
    intro hSd
    refine wpAnyH_take (i := 1) (oi := _) (v := .slice (some ⟨g', o', none⟩) sizes.length ca) rfl (by kernel_rfl) (by kernel_rfl) (by kernel_rfl) (fun _ _ _ h => h) (Or.inl ⟨by rfl, ?_⟩) (by assumption) ?_
    · intro u hSu
      obtain ⟨s3, s4⟩ := hSu
      simp only [List.getElem_toArray, List.getElem_cons_zero, List.getElem_cons_succ]
      go_simp
    simp only [List.getElem_toArray, List.getElem_cons_zero, List.getElem_cons_succ, Act.put, List.setIfInBounds_toArray, List.set_cons_zero, List.set_cons_succ]
    refine wpAnyH_take (i := 2) (oi := _) (v := .int .i64 (v : Nat)) rfl (by kernel_rfl) (by kernel_rfl) (by kernel_rfl) (fun _ _ _ h => h) (Or.inl ⟨by rfl, ?_⟩) (by assumption) ?_
    · intro u hSu
      obtain ⟨s3, s4⟩ := hSu
      simp only [List.getElem_toArray, List.getElem_cons_zero, List.getElem_cons_succ]
      go_simp
    simp only [List.getElem_toArray, List.getElem_cons_zero, List.getElem_cons_succ, Act.put, List.setIfInBounds_toArray, List.set_cons_zero, List.set_cons_succ]
    refine wpAnyH_take (i := 3) (oi := _) (v := .pointer (some ⟨g', o' + v, none⟩)) rfl (by kernel_rfl) (by kernel_rfl) (by kernel_rfl) (fun _ _ _ h => h) (Or.inl ⟨by rfl, ?_⟩) (by assumption) ?_
    · intro u hSu
      obtain ⟨s3, s4⟩ := hSu
      simp only [List.getElem_toArray, List.getElem_cons_zero, List.getElem_cons_succ]
      go_simp
    simp only [List.getElem_toArray, List.getElem_cons_zero, List.getElem_cons_succ, Act.put, List.setIfInBounds_toArray, List.set_cons_zero, List.set_cons_succ]
    refine wpAnyH_take (i := 4) (oi := _) (v := .int .i64 (s0 : Nat)) rfl (by kernel_rfl) (by kernel_rfl) (by kernel_rfl) (fun _ _ _ h => h) (Or.inl ⟨by rfl, ?_⟩) (by assumption) ?_
    · intro u hSu
      obtain ⟨s3, s4⟩ := hSu
      simp only [List.getElem_toArray, List.getElem_cons_zero, List.getElem_cons_succ]
      go_simp
    simp only [List.getElem_toArray, List.getElem_cons_zero, List.getElem_cons_succ, Act.put, List.setIfInBounds_toArray, List.set_cons_zero, List.set_cons_succ]
    refine wpAnyH_ready (rs := [0]) (by kernel_rfl) (by simp) (AllReadyH.cons rfl ?_ AllReadyH.nil)
    intro K' hK'
    simp only [List.getElem_toArray, List.getElem_cons_zero]
    go_simp
    refine hK'.out _ _ hSd (fun _ => ?_)
    clear hK' K'
    refine wpAnyH_take (i := 5) (oi := _) (v := .int .i64 ((p : Int) / (s0 : Int))) rfl (by kernel_rfl) (by kernel_rfl) (by kernel_rfl) (fun _ _ _ h => h) (Or.inl ⟨by rfl, ?_⟩) (by assumption) ?_
    · intro u hSu
      obtain ⟨s3, s4⟩ := hSu
      simp only [List.getElem_toArray, List.getElem_cons_zero, List.getElem_cons_succ]
      go_simp
      omega
    simp only [List.getElem_toArray, List.getElem_cons_zero, List.getElem_cons_succ, Act.put, List.setIfInBounds_toArray, List.set_cons_zero, List.set_cons_succ]
    refine wpAnyH_ready (rs := [6]) (by kernel_rfl) (by simp) (AllReadyH.cons rfl ?_ AllReadyH.nil)
    intro K' hK'
    simp only [List.getElem_toArray, List.getElem_cons_zero, List.getElem_cons_succ]
    go_simp
    refine hK'.out _ _ ⟨(boxed_off q0 (w.heap.size + 1) 0 _ (by omega)).cell, (World.cell?_setCell_other _ _ _ _ (fun e => (show ¬ w.heap.size + 1 = g' by omega) (congrArg Addr.block e))).trans m2⟩ (fun _ => wpAnyH_done (by kernel_rfl) ?_ _)
    clear hK' K' hSd
    gi_wp2
    rw [HQ2.out]
    refine ⟨(qO.trans ((KeepsOthers.setCell U _ _).trans (KeepsOthers.drew _))).from _, ⟨j4.t ((boxed_off q4 (w.heap.size + 1) 0 (.int .i64 (dd : Nat)) (by omega)).cell.trans q4.cell.symm), (qK.setCell (p := ⟨w.heap.size + 1, 0, none⟩) (by simp) _).drew⟩, ?_⟩
    refine ⟨boxed_off q0 _ 0 _ (by omega), ?_, ?_, boxed_off q3 _ 0 _ (by omega), boxed_off q4 _ 0 _ (by omega), (qB.setCell (p := ⟨w.heap.size + 1, 0, none⟩) (by simp) _).drew⟩
    · rw [HST.out]; exact q1.set _
    · rw [HST.out]; exact q2.off _ 0 _ (by omega)
  case done =>
    rintro D ys V hD hys ⟨h0, h1, h2, h3, h4, hB⟩ hK
    rw [hys, HALL.out] at h2
    have hc := h3.cell
    gi_wp2
    refine ⟨by simp, .inl ⟨_, _, rfl, run_takeDeferred hK, ?_⟩⟩
    refine ⟨_, results_tmp rfl _ _ _, ?_⟩
    refine ⟨some ⟨w.heap.size + 1 + 1, 0, none⟩, ⟨vars.length, rfl⟩, ?_, hB.trans (belowK_b (w := w) (Nat.le_refl _) V D _ _ (by omega) hK rfl rfl)⟩
    have h2' : RowI (V.putObj D (.deferred none)) (w.heap.size + 1 + 1) (digs (toN sizes) (toN vars) K) := row_own (w.heap.size + 1 + 1) (fun (_ : Unit) => digs (toN sizes) (toN vars) K) () V _ (some D) h2 (grownBy_putObj' V D _) (fun r e => by cases e; exact ⟨_, hK, rfl⟩)
    exact h2'.ints
  case stop =>
    rintro D c pre V _ _ h _
    exact h.elim
end Go.Proofs.YtmdjhefcohcjhaaGreatDoor


/- Package table: the assignment of a place. -/
namespace Go.Proofs.YtmdjhefcohcjhaaGreatDoor
open Go.RowKit

set_option maxRecDepth 100000 in
set_option maxHeartbeats 400000 in
theorem tWhere_any (a b : Option Addr) (ca cb : Nat) (sizes vars : List Int) (k : Int) (w : World) (hs : IntS w a sizes) (hv : IntS w b vars) (hn : sizes.length ≤ 140737488355328) (hm : vars.length ≤ 140737488355328) :
    Calls Tryz.prog 38 #[.slice a sizes.length ca, .slice b vars.length cb, .int .i64 k] w fun e w' => ∃ (c : Option Addr) (cc : Nat), e = .returned (.tuple #[.slice c (whereL sizes vars k).length cc, .int .i64 (whereE sizes vars k)]) ∧ IntS w' c (iL (whereL sizes vars k)) ∧ Below w.heap.size w w' := by
  have HS := hid hs
  have HV := hid hv
  have HC := hid (fun V h1 h2 => tCount_any a b ca cb sizes vars V h1 h2 hn hm)
  clear hs hv
  cases hcb : countB sizes vars with
  | false =>
    have HL : Hid (whereL sizes vars k = []) := if_neg (by rw [hcb]; simp)
    have HE : Hid (whereE sizes vars k = 11) := if_neg (by rw [hcb]; decide)
    rw [countA_no hcb] at HC
    simp only at HC
    generalize whereL sizes vars k = rl at *
    generalize whereE sizes vars k = re at *
    go_enter Tryz.func38, Tryz.ntmps38
    go_wp2_with fail
    refine (HC.out _ HS.out HV.out).mono ?_
    rintro e w1 ⟨rfl, hb1⟩
    go_wp2
    go_ret2
    exact ⟨none, 0, by rw [HL.out, HE.out]; rfl, by rw [HL.out]; exact fun k hk => absurd hk (by simp [iL]), hb1⟩
  | true =>
    rw [countA_yes hcb] at HC
    simp only at HC
    obtain ⟨hfi, hup⟩ := countB_parts hcb
    by_cases hk : 0 ≤ k ∧ k < (cnt (toN sizes) (toN vars) : Int)
    · have HL : Hid (whereL sizes vars k = digs (toN sizes) (toN vars) k.toNat) := if_pos ⟨hcb, hk⟩
      have HE : Hid (whereE sizes vars k = 0) := by show _ = _; rw [whereE, if_pos hcb, if_pos hk]
      rw [HL.out, HE.out]
      obtain ⟨hk0, hk1⟩ := hk
      obtain ⟨K, rfl⟩ : ∃ K : Nat, k = K := ⟨k.toNat, by omega⟩
      rw [Int.toNat_natCast]
      have hK : K < cnt (toN sizes) (toN vars) := by omega
      have HA := hid (fun V h1 h2 => assignment_any a b ca cb sizes vars K V h1 h2 hfi hup hK)
      clear HL HE hcb hfi hup
      generalize digs (toN sizes) (toN vars) K = ds at *
      generalize cnt (toN sizes) (toN vars) = N0 at *
      go_enter Tryz.func38, Tryz.ntmps38
      go_wp2_with fail
      refine (HC.out _ HS.out HV.out).mono ?_
      rintro e w1 ⟨rfl, hb1⟩
      go_wp2_with fail
      refine (HA.out _ (HS.out.below hb1) (HV.out.below hb1)).mono ?_
      rintro e w2 ⟨c, cc, rfl, hi2, hb2⟩
      go_wp2
      go_ret2
      exact ⟨c, cc, rfl, hi2, hb1.trans (hb2.mono hb1.size)⟩
    · have HL : Hid (whereL sizes vars k = []) := if_neg (fun h => hk h.2)
      have HE : Hid (whereE sizes vars k = 15) := by show _ = _; rw [whereE, if_pos hcb, if_neg hk]
      rw [HL.out, HE.out]
      clear HL HE hcb hfi hup
      generalize cnt (toN sizes) (toN vars) = N0 at *
      go_enter Tryz.func38, Tryz.ntmps38
      go_wp2_with fail
      refine (HC.out _ HS.out HV.out).mono ?_
      rintro e w1 ⟨rfl, hb1⟩
      by_cases hk0 : 0 ≤ k
      · have hk1 : (N0 : Int) ≤ k := by omega
        go_wp2
        go_ret2
        exact ⟨none, 0, rfl, fun k hk => absurd hk (by simp [iL]), hb1⟩
      · have hk1 : k < 0 := by omega
        go_wp2
        go_ret2
        exact ⟨none, 0, rfl, fun k hk => absurd hk (by simp [iL]), hb1⟩
end Go.Proofs.YtmdjhefcohcjhaaGreatDoor


/- Package table: how far apart the values of the variables stand. -/
namespace Go.Proofs.YtmdjhefcohcjhaaGreatDoor
open Go.RowKit Go.Shelf

attribute [local go_sem] Oper.semAt_some

/-- How far apart two values stand, variable by variable. -/
def stpL (S : List Nat) (n : Nat) (vs : List Nat) : List Nat := (List.range n).map (stp S vs)
theorem stpL_length (S : List Nat) (n : Nat) (vs : List Nat) : (stpL S n vs).length = n := by simp [stpL]
theorem stpL_nil (S : List Nat) (n : Nat) : stpL S n [] = List.replicate n 0 := by
  apply List.ext_getElem <;> simp [stpL, stp]
theorem stpL_cons (S : List Nat) (n u : Nat) (vs : List Nat) : (stpL S n vs).set u (cnt S vs) = stpL S n (u :: vs) := by
  apply List.ext_getElem
  · simp [stpL]
  · intro i h1 h2
    simp only [stpL, List.getElem_set, List.getElem_map, List.getElem_range, stp]
    by_cases e : u = i
    · rw [if_pos e, if_pos e.symm]
    · rw [if_neg e, if_neg (fun h => e h.symm)]
theorem stpL_get (S : List Nat) (n : Nat) (vs : List Nat) {v : Nat} (h : v < n) : (stpL S n vs)[v]'(by rw [stpL_length]; exact h) = stp S vs v := by simp [stpL]
/-- One step of telling them from the end: the step, and what is written. -/
def sst (S vs : List Nat) (st : Nat × List Nat) (i : Nat) : Nat × List Nat := (st.1 * sz S (vs.getD i 0), st.2.set (vs.getD i 0) st.1)
def stpF (S vs : List Nat) (n : Nat) (pre : List Nat) : Nat × List Nat := pre.foldl (sst S vs) (1, List.replicate n 0)
theorem stpF_snoc (S vs : List Nat) (n : Nat) (pre : List Nat) (i : Nat) : stpF S vs n (pre ++ [i]) = sst S vs (stpF S vs n pre) i := by simp [stpF]
theorem stpF_backs (S vs : List Nat) (n : Nat) : ∀ m, m ≤ vs.length → stpF S vs n (backs vs.length m) = (cnt S (vs.drop (vs.length - m)), stpL S n (vs.drop (vs.length - m)))
  | 0, _ => by simp [stpF, backs, cnt, stpL_nil]
  | m + 1, h => by
    rw [backs_succ, stpF_snoc, stpF_backs S vs n m (by omega)]
    have hj : vs.length - 1 - m < vs.length := by omega
    have e1 : vs.length - (m + 1) = vs.length - 1 - m := by omega
    have e2 : vs.length - m = (vs.length - 1 - m) + 1 := by omega
    have hd : vs.drop (vs.length - 1 - m) = vs[vs.length - 1 - m] :: vs.drop ((vs.length - 1 - m) + 1) := List.drop_eq_getElem_cons hj
    rw [e1, e2, hd, sst, getN_eq hj]
    simp only [cnt, stpL_cons]
    rw [Nat.mul_comm]
theorem stpF_le {S : List Nat} (hs : ∀ v, sz S v ≤ 4) (vs : List Nat) (n : Nat) (pre : List Nat) : (stpF S vs n pre).1 ≤ 4 ^ pre.length ∧ (stpF S vs n pre).2.length = n := by
  have key : ∀ (l : List Nat) (st : Nat × List Nat), st.2.length = n → (l.foldl (sst S vs) st).1 ≤ st.1 * 4 ^ l.length ∧ (l.foldl (sst S vs) st).2.length = n := by
    intro l
    induction l with
    | nil => intro st h2; exact ⟨by simp, h2⟩
    | cons i l ih =>
      intro st h2
      obtain ⟨h3, h4⟩ := ih (sst S vs st i) (by simp [sst, h2])
      refine ⟨Nat.le_trans h3 ?_, h4⟩
      show st.1 * sz S (vs.getD i 0) * 4 ^ l.length ≤ st.1 * 4 ^ (l.length + 1)
      rw [Nat.pow_succ, Nat.mul_comm (4 ^ l.length), ← Nat.mul_assoc]
      exact Nat.mul_le_mul_right _ (Nat.mul_le_mul_left _ (hs _))
  have h := key pre (1, List.replicate n 0) (by simp)
  rwa [Nat.one_mul] at h
theorem stpF_all (S vs : List Nat) (n : Nat) : stpF S vs n (backs vs.length vs.length) = (cnt S vs, stpL S n vs) := by
  rw [stpF_backs S vs n _ (Nat.le_refl _), Nat.sub_self, List.drop_zero]

end Go.Proofs.YtmdjhefcohcjhaaGreatDoor


/- Package table: where an assignment stands in another table (the closure). -/
namespace Go.Proofs.YtmdjhefcohcjhaaGreatDoor
open Go.RowKit Go.Shelf

attribute [local go_sem] Oper.semAt_some

/-- One step of telling the place from the end: what is left, and the sum. -/
def tst (S vs ts : List Nat) (st : Nat × Nat) (i : Nat) : Nat × Nat := (st.1 / sz S (vs.getD i 0), st.2 + st.1 % sz S (vs.getD i 0) * ts.getD (vs.getD i 0) 0)
def stdF (S vs ts : List Nat) (K : Nat) (pre : List Nat) : Nat × Nat := pre.foldl (tst S vs ts) (K, 0)
theorem stdF_snoc (S vs ts : List Nat) (K : Nat) (pre : List Nat) (i : Nat) : stdF S vs ts K (pre ++ [i]) = tst S vs ts (stdF S vs ts K pre) i := by simp [stdF]
theorem stdF_le {S : List Nat} (hp : Pos S) (hs : ∀ v, sz S v ≤ 4) (vs ts : List Nat) (ht : ∀ v, ts.getD v 0 ≤ 65536) (K : Nat) (pre : List Nat) : (stdF S vs ts K pre).1 ≤ K ∧ (stdF S vs ts K pre).2 ≤ 262144 * pre.length := by
  have key : ∀ (l : List Nat) (st : Nat × Nat), (l.foldl (tst S vs ts) st).1 ≤ st.1 ∧ (l.foldl (tst S vs ts) st).2 ≤ st.2 + 262144 * l.length := by
    intro l
    induction l with
    | nil => intro st; exact ⟨Nat.le_refl _, by simp⟩
    | cons i l ih =>
      intro st
      obtain ⟨h3, h4⟩ := ih (tst S vs ts st i)
      refine ⟨Nat.le_trans h3 (Nat.div_le_self _ _), Nat.le_trans h4 ?_⟩
      have h1 := Nat.mod_lt st.1 (show 0 < sz S (vs.getD i 0) from sz_pos hp _)
      have h2 : st.1 % sz S (vs.getD i 0) * ts.getD (vs.getD i 0) 0 ≤ 4 * 65536 := Nat.mul_le_mul (by have := hs (vs.getD i 0); omega) (ht _)
      show st.2 + st.1 % sz S (vs.getD i 0) * ts.getD (vs.getD i 0) 0 + _ ≤ _
      rw [List.length_cons]
      omega
  have h := key pre (K, 0)
  rwa [Nat.zero_add] at h
theorem stdF_backs {S vs : List Nat} (hn : vs.Nodup) (ts : List Nat) (K : Nat) : ∀ m, m ≤ vs.length → stdF S vs ts K (backs vs.length m) = (K / cnt S (vs.drop (vs.length - m)), sumL (fun v => asg S (vs.drop (vs.length - m)) (K % cnt S (vs.drop (vs.length - m))) v * ts.getD v 0) (vs.drop (vs.length - m)))
  | 0, _ => by simp [stdF, backs, cnt, sumL]
  | m + 1, h => by
    rw [backs_succ, stdF_snoc, stdF_backs hn ts K m (by omega)]
    have hj : vs.length - 1 - m < vs.length := by omega
    have e1 : vs.length - (m + 1) = vs.length - 1 - m := by omega
    have e2 : vs.length - m = (vs.length - 1 - m) + 1 := by omega
    have hd : vs.drop (vs.length - 1 - m) = vs[vs.length - 1 - m] :: vs.drop ((vs.length - 1 - m) + 1) := List.drop_eq_getElem_cons hj
    have hnd : (vs.drop (vs.length - 1 - m)).Nodup := hn.sublist (List.drop_sublist _ _)
    rw [hd, List.nodup_cons] at hnd
    rw [e1, e2, hd, tst, getN_eq hj]
    generalize vs.drop ((vs.length - 1 - m) + 1) = rest at hnd ⊢
    generalize vs[vs.length - 1 - m] = u at hnd ⊢
    simp only [asg_step]
    rw [cnt, Nat.div_div_eq_div_mul, Nat.mul_comm (cnt S rest), sumL, if_pos rfl, Nat.add_comm]
    congr 2
    refine sumL_congr fun v hv => ?_
    rw [if_neg (fun e => hnd.1 (by rw [← e]; exact hv))]
theorem stdF_all {S vs : List Nat} (hn : vs.Nodup) (ts : List Nat) {K : Nat} (h : K < cnt S vs) : stdF S vs ts K (backs vs.length vs.length) = (0, sumL (fun v => asg S vs K v * ts.getD v 0) vs) := by
  rw [stdF_backs hn ts K _ (Nat.le_refl _), Nat.sub_self, List.drop_zero, Nat.mod_eq_of_lt h, Nat.div_eq_of_lt h]

end Go.Proofs.YtmdjhefcohcjhaaGreatDoor


/- Package table: where an assignment stands in another table. -/
namespace Go.Proofs.YtmdjhefcohcjhaaGreatDoor
open Go.RowKit Go.Shelf

theorem stp_le {S : List Nat} (hs : ∀ v, sz S v ≤ 4) : ∀ (vs : List Nat) (v : Nat), vs.length ≤ 8 → stp S vs v ≤ 65536
  | [], _, _ => by simp [stp]
  | u :: vs, v, h => by
    rw [stp]
    have h' : vs.length ≤ 8 := by simp at h; omega
    by_cases e : v = u
    · rw [if_pos e]; exact cnt_small hs h'
    · rw [if_neg e]; exact stp_le hs vs v h'
theorem stpL_getD (S : List Nat) (n : Nat) (vs : List Nat) (v : Nat) : (stpL S n vs).getD v 0 = if v < n then stp S vs v else 0 := by
  by_cases h : v < n
  · rw [if_pos h, getN_eq (by rw [stpL_length]; exact h), stpL_get S n vs h]
  · rw [if_neg h, List.getD_eq_getElem?_getD, List.getElem?_eq_none (by rw [stpL_length]; omega)]
    rfl

/-- What lies at n or above, below m, is kept. -/
def KeepsIn (n m : Nat) (W V : World) : Prop := m ≤ V.heap.size ∧ ∀ k, n ≤ k → k < m → V.heap[k]? = W.heap[k]?
theorem KeepsIn.of_below {n m : Nat} {W V : World} (h : Below W.heap.size W V) (hm : m ≤ W.heap.size) : KeepsIn n m W V := ⟨Nat.le_trans hm h.size, fun k _ hk => h.block k (Nat.lt_of_lt_of_le hk hm)⟩
theorem KeepsIn.set {n m : Nat} (W : World) {B : Nat} (j : Nat) (y : Value) (hm : m ≤ W.heap.size) (hB : B < n ∨ m ≤ B) : KeepsIn n m W (W.setCell ⟨B, j, none⟩ y) := ⟨Nat.le_trans hm (KeepsOthers.setCell W _ _).size, fun k h1 h2 => Below.heap_setCell W ⟨B, j, none⟩ y k (by show k ≠ B; omega)⟩
end Go.Proofs.YtmdjhefcohcjhaaGreatDoor

