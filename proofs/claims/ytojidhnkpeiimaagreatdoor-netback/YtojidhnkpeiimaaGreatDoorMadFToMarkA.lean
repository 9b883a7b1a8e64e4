/- What Made makes may be: Check says nothing. -/
import Derived.Test.YtojidhnkpeiimaaGreatDoorGivCToMadD
import Derived.Test.YtojidhnkpeiimaaGreatDoorIterBToNetC
import Derived.Test.YtojidhnkpeiimaaGreatDoorRowAToTextC
import Derived.ArgAppend
namespace Go.Proofs.YtojidhnkpeiimaaGreatDoor
open Go.RowKit Go.Shelf Go.Lib
theorem up_ris {l : List Int} {n : Nat} (h2 : Up l n) : risB l n = true := by
  rw [risB, List.all_eq_true]
  intro i hi
  have hi' := List.mem_range.1 hi
  rw [okAt, decide_eq_true_iff, getD_eq hi']
  refine ⟨(h2.each i hi').1, (h2.each i hi').2, fun h0 => ?_⟩
  rw [getD_eq (show i - 1 < l.length by omega)]
  exact h2.lt (i - 1) i hi' (by omega)
theorem pars_up {bk : Bool} {n : Nat} {S : List Nat} {Ls : List PL} {Rs : List PR} (h : LK2 bk n n S Ls Rs) {v : Nat} (hv : v < (lOf Ls).length) : ParOK bk n v (lOf Ls)[v] := by
  have hv' : v < Ls.length := by simpa [lOf] using hv
  simpa [lOf] using h.pars v hv'
theorem range_sub : ∀ (n : Nat) (l : List Nat), (∀ v, v < n → v ∈ l) → n ≤ l.length
  | 0, _, _ => Nat.zero_le _
  | n + 1, l, h => by
    have hm := h n (by omega)
    have h1 := range_sub n (l.erase n) fun v hv => (List.mem_erase_of_ne (by omega)).2 (h v (by omega))
    have h2 := List.length_erase_of_mem hm
    have h3 := List.length_pos_of_mem hm
    omega
theorem ord_rank {P : List (List Nat)} (r : Nat → Nat) (h : ∀ v, v < P.length → ∀ u ∈ P.getD v [], u < P.length ∧ r u < r v) : ∀ k, k ≤ P.length → (ordN P k).length = k
  | 0, _ => rfl
  | k + 1, hk => by
    have ih := ord_rank r h k (by omega)
    cases e : nextV P (ordN P k) with
    | some v => rw [ord_some e, List.length_append, ih]; rfl
    | none =>
      exfalso
      have hno : ∀ v, v < P.length → freeB P (ordN P k) v = false := fun v hv => by
        have := List.find?_eq_none.1 e v (List.mem_range.2 hv)
        simpa using this
      have hall : ∀ m v, v < P.length → r v ≤ m → v ∈ ordN P k := by
        intro m
        induction m with
        | zero =>
          intro v hv hr
          refine Classical.byContradiction fun hm => ?_
          have hf := hno v hv
          rw [freeB, Bool.and_eq_false_iff] at hf
          rcases hf with hf | hf
          · exact absurd hm (by simpa using hf)
          · have hf' := of_decide_eq_false hf
            refine hf' fun u hu => ?_
            have := (h v hv u hu).2
            omega
        | succ m ihm =>
          intro v hv hr
          refine Classical.byContradiction fun hm => ?_
          have hf := hno v hv
          rw [freeB, Bool.and_eq_false_iff] at hf
          rcases hf with hf | hf
          · exact absurd hm (by simpa using hf)
          · have hf' := of_decide_eq_false hf
            refine hf' fun u hu => ?_
            obtain ⟨h1, h2⟩ := h v hv u hu
            exact ihm u h1 (by omega)
      have hle := range_sub P.length (ordN P k) fun v hv => hall (r v) v hv (Nat.le_refl _)
      omega
theorem made_gcE {bk : Bool} {n : Nat} {S : List Nat} {Ls : List PL} {Rs : List PR} (h : LK2 bk n n S Ls Rs) (h1 : 1 ≤ n) (h6 : n ≤ 6) : gcE (lOf Ls) = 0 := by
  have hl : (lOf Ls).length = n := by simp [lOf, h.len]
  have hrk : ∀ v (hv : v < (lOf Ls).length), ∀ x ∈ (lOf Ls)[v], (0 ≤ x ∧ x < n) ∧ (if bk = true then (v : Int) < x else x < (v : Int)) := fun v hv x hx =>
    ⟨(up_iff.1 (pars_up h hv).up).1 x hx, (pars_up h hv).rank x hx⟩
  have hgb : gB (lOf Ls) = true := by
    rw [gB, Bool.and_eq_true, Bool.and_eq_true]
    refine ⟨⟨decide_eq_true ⟨by omega, by omega⟩, ?_⟩, ?_⟩
    · rw [allRis, List.all_eq_true]
      intro l hlm
      obtain ⟨v, hv, rfl⟩ := List.getElem_of_mem hlm
      rw [hl]
      exact up_ris (pars_up h hv).up
    · rw [noSelf, List.all_eq_true]
      intro v hv
      have hv' : v < (lOf Ls).length := List.mem_range.1 hv
      rw [List.getD_eq_getElem?_getD, List.getElem?_eq_getElem hv']
      simp only [Option.getD_some, Bool.not_eq_true', decide_eq_false_iff_not]
      intro hm
      obtain ⟨x, hx, e⟩ := List.mem_map.1 hm
      obtain ⟨⟨h0, _⟩, hr⟩ := hrk v hv' x hx
      cases bk <;> simp at hr <;> omega
  rw [gcE, if_pos hgb, if_neg]
  have hp : (parN (lOf Ls)).length = n := by rw [parN_length, hl]
  have hord := ord_rank (P := parN (lOf Ls)) (fun v => if bk = true then n - v else v) (fun v hv u hu => by
    have hv' : v < (lOf Ls).length := by rw [parN_length] at hv; exact hv
    rw [parN_get hv'] at hu
    obtain ⟨x, hx, rfl⟩ := List.mem_map.1 hu
    obtain ⟨⟨h0, hn⟩, hr⟩ := hrk v hv' x hx
    refine ⟨by rw [hp]; omega, ?_⟩
    rw [hl] at hv'
    cases bk
    · simp at hr ⊢; omega
    · simp at hr ⊢; omega) n (by omega)
  rw [hl, hord]
  omega
theorem namesV_vOf {n : Nat} {Vs : List PV} (h : VK n Vs) : namesV (vOf Vs) = (List.range n).map (nmB 110) := by
  apply List.ext_getElem
  · simp [namesV, vOf, h.len]
  · intro i h1 h2
    have hi : i < Vs.length := by simpa [namesV, vOf] using h1
    simp [namesV, vOf, (h.each i hi).1]
theorem names_ok : ∀ n, n ≤ 6 → namesE ((List.range n).map (nmB 110)) = 0 := by
  intro n hn
  have h : n = 0 ∨ n = 1 ∨ n = 2 ∨ n = 3 ∨ n = 4 ∨ n = 5 ∨ n = 6 := by omega
  rcases h with rfl | rfl | rfl | rfl | rfl | rfl | rfl <;> decide +kernel
theorem vals_ok : ∀ k, k ≤ 3 → namesE (valsN k) = 0 := by
  intro n hn
  have h : n = 0 ∨ n = 1 ∨ n = 2 ∨ n = 3 := by omega
  rcases h with rfl | rfl | rfl | rfl <;> decide +kernel
theorem made_varsE {n : Nat} {Vs : List PV} (h : VK n Vs) (h6 : n ≤ 6) : varsE (vOf Vs) = 0 := by
  rw [varsE, namesV_vOf h, names_ok n h6, if_pos rfl]
  refine firstE_none fun j hj => ?_
  have hj' : j < Vs.length := by simpa [vOf] using hj
  obtain ⟨_, k, h1, h3, e⟩ := h.each j hj'
  have e2 : ((vOf Vs).getD j (⟨#[]⟩, [])).2 = valsN k := by
    rw [List.getD_eq_getElem?_getD, List.getElem?_eq_getElem hj]
    simp [vOf, e]
  rw [varE, e2, valsN_length, if_pos ⟨h1, by omega⟩, vals_ok k h3]
theorem made_netE {bk : Bool} {n : Nat} {Vs : List PV} {Ls : List PL} {Rs : List PR} (hV : VK n Vs) (h : LK2 bk n n (sizesN (vOf Vs)) Ls Rs) (h1 : 1 ≤ n) (h6 : n ≤ 6) : netE (vOf Vs) (lOf Ls) (rOf Rs) = 0 := by
  have hv : (vOf Vs).length = n := by simp [vOf, hV.len]
  have hl : (lOf Ls).length = n := by simp [lOf, h.len]
  have hr : (rOf Rs).length = n := by simp [rOf, h.lenR]
  rw [netE, if_pos ⟨by omega, by omega⟩, if_pos (made_gcE h h1 h6), if_pos (made_varsE hV h6)]
  refine firstE_none fun j hj => ?_
  have hjL : j < Ls.length := by have := h.len; omega
  have hjR : j < Rs.length := by have := h.lenR; omega
  have hro := h.rows j hjL hjR
  have e1 : (lOf Ls).getD j [] = Ls[j].2 := by rw [List.getD_eq_getElem?_getD, List.getElem?_eq_getElem (by simpa [lOf] using hjL)]; simp [lOf]
  have e2 : (rOf Rs).getD j [] = Rs[j].2 := by rw [List.getD_eq_getElem?_getD, List.getElem?_eq_getElem (by simpa [rOf] using hjR)]; simp [rOf]
  rw [rowE, e1, e2, if_pos hro.len, if_pos]
  rw [List.all_eq_true]
  intro i hi
  exact hro.rows i (List.mem_range.1 hi)
end Go.Proofs.YtojidhnkpeiimaaGreatDoor

/- Package table: the assignment of a place, in memory of its own. -/
namespace Go.Proofs.YtojidhnkpeiimaaGreatDoor
open Go.RowKit Go.Shelf
attribute [local go_sem] Oper.semAt_some
set_option maxRecDepth 100000 in
set_option maxHeartbeats 1000000 in
theorem assignment_own (a b : Option Addr) (ca cb : Nat) (sizes vars : List Int) (K : Nat) (w : World) (hs : IntS w a sizes) (hv : IntS w b vars) (hfi : Fine sizes) (hup : Up vars sizes.length) (hK : K < cnt (toN sizes) (toN vars)) :
    Calls Tryz.prog 84 #[.slice a sizes.length ca, .slice b vars.length cb, .int .i64 (K : Nat)] w fun e w' => ∃ (g : Nat) (cc : Nat), e = .returned (.slice (some ⟨g, 0, none⟩) (digs (toN sizes) (toN vars) K).length cc) ∧ w.heap.size ≤ g ∧ RowI w' g (digs (toN sizes) (toN vars) K) ∧ Below w.heap.size w w' := by
  refine (callsIn_wide (n := 6)).1 ?_
  have hl8 := hfi.eight
  have hvl := hup.length
  have hsm : cnt (toN sizes) (toN vars) ≤ 65536 := cnt_small hfi.sz_le (by rw [toN_length]; omega)
  have hmk := fun V => run_make_row' (P := Tryz.prog) 22 3 (.int .i64 0) 8 Tryz.underlying22 Tryz.infoInt rfl .i64 .i64 vars.length (by omega) (by omega) V
  have HS := hid hs
  have HV := hid hv
  have HFI := hid hfi
  have HUP := hid hup
  have hdl : (digs (toN sizes) (toN vars) K).length = vars.length := by rw [digs_length, toN_length]
  have HALL := hid (asgF_all hK)
  rw [toN_length] at HALL
  rw [hdl]
  clear hs hv hfi hup
  refine callsIn_of_wp_marks Tryz.func84 rfl trivial ?_ rfl
  simp only [Tryz.ntmps84, List.size_toArray, List.length_cons, List.length_nil, Nat.reduceAdd, Nat.reduceSub, Array.replicate_succ, Array.replicate_zero, List.push_toArray, List.append_toArray, List.nil_append, List.cons_append]
  gi_wp2_with ((refine ⟨trivial, ?_⟩; gi_at_call 120; refine (backward_in _ _ _ _ _).mono ?_; rintro e w2 ⟨rfl, rfl⟩))
  obtain ⟨W0, hW0⟩ : ∃ W0, W0 = (((((w.alloc (.cells #[.slice a sizes.length ca] 22)).alloc (.cells #[.int .i64 (K : Nat)] 3)).alloc (.cells (madeCells #[.int .i64 0] vars.length) 3)).alloc (.cells #[.slice (some ⟨w.heap.size + 1 + 1, 0, none⟩) vars.length vars.length] 22)).alloc (.cells #[.slice b vars.length cb] 22)) := ⟨_, rfl⟩
  have hsz0 : W0.heap.size = w.heap.size + 1 + 1 + 1 + 1 + 1 := by rw [hW0]; simp
  have b0 : Boxed W0 w.heap.size 22 (.slice a sizes.length ca) := by rw [hW0]; exact ((((Boxed.new w _ _).alloc _).alloc _).alloc _).alloc _
  have b1 : Boxed W0 (w.heap.size + 1) 3 (.int .i64 (K : Nat)) := by
    have h := ((((Boxed.new (w.alloc (.cells #[.slice a sizes.length ca] 22)) 3 (.int .i64 (K : Nat))).alloc (.cells (madeCells #[.int .i64 0] vars.length) 3)).alloc (.cells #[.slice (some ⟨w.heap.size + 1 + 1, 0, none⟩) vars.length vars.length] 22)).alloc (.cells #[.slice b vars.length cb] 22))
    rw [World.size_alloc] at h
    rw [hW0]; exact h
  have r2 : RowI W0 (w.heap.size + 1 + 1) (List.replicate vars.length 0) := by
    have h := ((made_row ((w.alloc (.cells #[.slice a sizes.length ca] 22)).alloc (.cells #[.int .i64 (K : Nat)] 3)) vars.length).alloc (.cells #[.slice (some ⟨w.heap.size + 1 + 1, 0, none⟩) vars.length vars.length] 22)).alloc (.cells #[.slice b vars.length cb] 22)
    rw [World.size_alloc, World.size_alloc] at h
    rw [hW0]; exact h
  have b3 : Boxed W0 (w.heap.size + 1 + 1 + 1) 22 (.slice (some ⟨w.heap.size + 1 + 1, 0, none⟩) vars.length vars.length) := by
    have h := (Boxed.new (((w.alloc (.cells #[.slice a sizes.length ca] 22)).alloc (.cells #[.int .i64 (K : Nat)] 3)).alloc (.cells (madeCells #[.int .i64 0] vars.length) 3)) 22 (.slice (some ⟨w.heap.size + 1 + 1, 0, none⟩) vars.length vars.length)).alloc (.cells #[.slice b vars.length cb] 22)
    rw [World.size_alloc, World.size_alloc, World.size_alloc] at h
    rw [hW0]; exact h
  have b4 : Boxed W0 (w.heap.size + 1 + 1 + 1 + 1) 22 (.slice b vars.length cb) := by
    have h := Boxed.new ((((w.alloc (.cells #[.slice a sizes.length ca] 22)).alloc (.cells #[.int .i64 (K : Nat)] 3)).alloc (.cells (madeCells #[.int .i64 0] vars.length) 3)).alloc (.cells #[.slice (some ⟨w.heap.size + 1 + 1, 0, none⟩) vars.length vars.length] 22)) 22 (.slice b vars.length cb)
    rw [World.size_alloc, World.size_alloc, World.size_alloc, World.size_alloc] at h
    rw [hW0]; exact h
  have hB0 : Below w.heap.size w W0 := by
    rw [hW0]
    exact (((((Below.refl _ w).alloc (Nat.le_refl _) _).alloc (by simp) _).alloc (by simp; omega) _).alloc (by simp; omega) _).alloc (by simp; omega) _
  rw [← hW0]
  clear hW0
  refine wpIn_rangeFunc_ownG (α := At vars) rfl (by omega) (gf := 157) (lb := #[.pointer (some ⟨w.heap.size + 1 + 1 + 1 + 1, 0, none⟩)]) rfl trivial (enters_of Tryz.func157 (by kernel_rfl) rfl)
    (backward_stops 5 (by omega) (w.heap.size + 1 + 1 + 1 + 1) w.heap.size b cb vars (by omega) W0 (by omega) (by omega) b4.cell (HV.out.toB.below hB0)) KeepsB.t (KeepsB.b (by omega) (by omega)) (Below.refl _ _) (fun _ => rfl)
    (fun (pre : List (At vars)) V => Boxed V w.heap.size 22 (.slice a sizes.length ca) ∧ Boxed V (w.heap.size + 1) 3 (.int .i64 ((asgF (toN sizes) (toN vars) K vars.length (pre.map (·.1))).1 : Nat)) ∧ RowI V (w.heap.size + 1 + 1) (asgF (toN sizes) (toN vars) K vars.length (pre.map (·.1))).2 ∧ Boxed V (w.heap.size + 1 + 1 + 1) 22 (.slice (some ⟨w.heap.size + 1 + 1, 0, none⟩) vars.length vars.length) ∧ Boxed V (w.heap.size + 1 + 1 + 1 + 1) 22 (.slice b vars.length cb) ∧ Below w.heap.size w V)
    (fun _ _ _ => False)
    (OwnFrom.and (Own.from (boxed_own _ _ (fun _ => _)) _) (OwnFrom.and (Own.from (boxed_own _ _ (fun pre : List (At vars) => .int .i64 ((asgF (toN sizes) (toN vars) K vars.length (pre.map (·.1))).1 : Nat))) _) (OwnFrom.and (Own.from (row_own _ (fun pre : List (At vars) => (asgF (toN sizes) (toN vars) K vars.length (pre.map (·.1))).2)) _) (OwnFrom.and (Own.from (boxed_own _ _ (fun _ => _)) _) (OwnFrom.and (Own.from (boxed_own _ _ (fun _ => _)) _) (ownFrom_below (Nat.le_refl _) (by omega)))))))
    (fun _ _ _ _ _ hs _ _ => hs)
    ⟨b0, b1, r2, b3, b4, hB0⟩
    (fun x => { tmps := #[.slice a sizes.length ca, .slice b vars.length cb, .int .i64 (K : Nat), .pointer (some ⟨w.heap.size, 0, none⟩), undef, .pointer (some ⟨w.heap.size + 1, 0, none⟩), .slice none 0 0, .pointer (some ⟨w.heap.size + 1 + 1 + 1, 0, none⟩), .int .i64 (x.1 : Nat), .int .i64 (vars[x.1]'x.2), .slice b vars.length cb, .int .i64 (vars.length : Nat), .slice (some ⟨w.heap.size + 1 + 1, 0, none⟩) vars.length vars.length, .slice b vars.length cb, .func (.func 157) #[] #[.pointer (some ⟨w.heap.size + 1 + 1 + 1 + 1, 0, none⟩)], .int .i64 (x.1 : Nat), .int .i64 (vars[x.1]'x.2), undef, undef, undef, undef, undef, undef, undef, undef, undef, undef, undef, undef, undef, undef, undef, undef], defers := [] }) ?assign ?body ?done ?stop
  case assign =>
    intro l x V K hK
    gi_wp2
    exact hK
  case body =>
    rintro l pre ⟨i, hi⟩ V ⟨h0, h1, h2, h3, h4, hB⟩ hlt
    obtain ⟨hvi, hvn⟩ := HUP.out.nat hi
    have HST : Hid (asgF (toN sizes) (toN vars) K vars.length ((pre ++ [(⟨i, hi⟩ : At vars)]).map (·.1)) = ((asgF (toN sizes) (toN vars) K vars.length (pre.map (·.1))).1 / sz (toN sizes) vars[i].toNat, (asgF (toN sizes) (toN vars) K vars.length (pre.map (·.1))).2.set i ((asgF (toN sizes) (toN vars) K vars.length (pre.map (·.1))).1 % sz (toN sizes) vars[i].toNat))) := by
      show _ = _
      rw [List.map_append, List.map_cons, List.map_nil, asgF_snoc, bst, getN_eq (show i < (toN vars).length by rw [toN_length]; exact hi), toN_get hi]
    obtain ⟨hpk, hpl⟩ := asgF_le (toN sizes) (toN vars) K vars.length (pre.map (·.1))
    have hz := sz_pos HFI.out.pos vars[i].toNat
    have hz4 := HFI.out.sz_le vars[i].toNat
    generalize hV : vars[i].toNat = v at *
    rw [← hvi]
    obtain ⟨g', o', rfl, hg', c1⟩ := (HS.out.below hB) v hvn
    rw [← HFI.out.sz_eq hvn] at c1
    have hg2 : g' < w.heap.size := by
      obtain ⟨g3, o3, e3, h3, _⟩ := HS.out v hvn
      cases e3
      exact h3
    clear hvi hV
    generalize asgF (toN sizes) (toN vars) K vars.length (pre.map (·.1)) = st at *
    obtain ⟨p, at0⟩ := st
    simp only at h1 h2 hpk hpl HST
    generalize sz (toN sizes) v = s0 at *
    have hrow := h2.cell i (by omega)
    have hfz := h2.fz i
    have k0 := h0.cell
    have k1 := h1.cell
    have k3 := h3.cell
    have f1 := h1.frozen
    have hq1 : (p : Int) % (s0 : Int) = ((p % s0 : Nat) : Int) := (Int.natCast_emod _ _).symm
    have hq2 : (p : Int) / (s0 : Int) = ((p / s0 : Nat) : Int) := (Int.natCast_ediv _ _).symm
    have hm1 : p % s0 ≤ 65536 := Nat.le_trans (Nat.mod_le _ _) (by omega)
    have hm2 : p / s0 ≤ 65536 := Nat.le_trans (Nat.div_le_self _ _) (by omega)
    generalize p % s0 = mm at *
    generalize p / s0 = dd at *
    have hz1 : ¬ (s0 : Int) = 0 := by omega
    have hne1 : ¬ w.heap.size + 1 + 1 = w.heap.size + 1 := by omega
    have hne2 : ¬ w.heap.size + 1 = w.heap.size + 1 + 1 := by omega
    have hpi : i < at0.length := by omega
    generalize at0[i] = z at *
    have hw1 : IntKind.i64.wrap ((p : Int) % (s0 : Int)) = (p : Int) % (s0 : Int) := by rw [hq1, IntKind.wrap_i64]; omega
    have hw2 : IntKind.i64.wrap ((p : Int) / (s0 : Int)) = (p : Int) / (s0 : Int) := by rw [hq2, IntKind.wrap_i64]; omega
    have HQ1 := hid hq1
    have HQ2 := hid hq2
    clear hq1 hq2
    clear hmk b0 b1 r2 b3 b4 hB0 hsz0 hdl HALL HUP HFI HV hsm hK hpl
    gi_wp2_with fail
    refine region_round (fun u => u.cell? ⟨w.heap.size + 1 + 1 + 1, 0, none⟩ = some (.slice (some ⟨w.heap.size + 1 + 1, 0, none⟩) vars.length vars.length) ∧ u.cell? ⟨w.heap.size + 1, 0, none⟩ = some (.int .i64 (p : Nat)) ∧ u.cell? ⟨w.heap.size, 0, none⟩ = some (.slice (some ⟨g', o', none⟩) sizes.length ca) ∧ u.cell? ⟨g', o' + v, none⟩ = some (.int .i64 (s0 : Nat))) (by kernel_rfl) (by kernel_rfl) (fun ⟨_, _, h⟩ => h) ⟨k3, k1, k0, c1⟩ ?_
    intro hSd
    refine wpAnyH_take (i := 0) (oi := _) (v := .slice (some ⟨w.heap.size + 1 + 1, 0, none⟩) vars.length vars.length) rfl (by kernel_rfl) (by kernel_rfl) (by kernel_rfl) (fun _ _ _ h => h) (Or.inl ⟨by rfl, ?_⟩) (by assumption) ?_
    · intro u hSu
      obtain ⟨s1, s2, s3, s4⟩ := hSu
      simp only [List.getElem_toArray, List.getElem_cons_zero]
      go_simp
    simp only [List.getElem_toArray, List.getElem_cons_zero, Act.put, List.setIfInBounds_toArray, List.set_cons_zero, List.set_cons_succ]
    refine wpAnyH_take (i := 1) (oi := _) (v := .int .i64 (i : Nat)) rfl (by kernel_rfl) (by kernel_rfl) (by kernel_rfl) (fun _ _ _ h => h) (Or.inl ⟨by rfl, ?_⟩) (by assumption) ?_
    · intro u hSu
      obtain ⟨s1, s2, s3, s4⟩ := hSu
      simp only [List.getElem_toArray, List.getElem_cons_zero, List.getElem_cons_succ]
      go_simp
    simp only [List.getElem_toArray, List.getElem_cons_zero, List.getElem_cons_succ, Act.put, List.setIfInBounds_toArray, List.set_cons_zero, List.set_cons_succ]
    refine wpAnyH_take (i := 2) (oi := _) (v := .int .i64 (p : Nat)) rfl (by kernel_rfl) (by kernel_rfl) (by kernel_rfl) (fun _ _ _ h => h) (Or.inl ⟨by rfl, ?_⟩) (by assumption) ?_
    · intro u hSu
      obtain ⟨s1, s2, s3, s4⟩ := hSu
      simp only [List.getElem_toArray, List.getElem_cons_zero, List.getElem_cons_succ]
      go_simp
    simp only [List.getElem_toArray, List.getElem_cons_zero, List.getElem_cons_succ, Act.put, List.setIfInBounds_toArray, List.set_cons_zero, List.set_cons_succ]
    refine wpAnyH_take (i := 3) (oi := _) (v := .slice (some ⟨g', o', none⟩) sizes.length ca) rfl (by kernel_rfl) (by kernel_rfl) (by kernel_rfl) (fun _ _ _ h => h) (Or.inl ⟨by rfl, ?_⟩) (by assumption) ?_
    · intro u hSu
      obtain ⟨s1, s2, s3, s4⟩ := hSu
      simp only [List.getElem_toArray, List.getElem_cons_zero, List.getElem_cons_succ]
      go_simp
    simp only [List.getElem_toArray, List.getElem_cons_zero, List.getElem_cons_succ, Act.put, List.setIfInBounds_toArray, List.set_cons_zero, List.set_cons_succ]
    refine wpAnyH_take (i := 4) (oi := _) (v := .int .i64 (v : Nat)) rfl (by kernel_rfl) (by kernel_rfl) (by kernel_rfl) (fun _ _ _ h => h) (Or.inl ⟨by rfl, ?_⟩) (by assumption) ?_
    · intro u hSu
      obtain ⟨s1, s2, s3, s4⟩ := hSu
      simp only [List.getElem_toArray, List.getElem_cons_zero, List.getElem_cons_succ]
      go_simp
    simp only [List.getElem_toArray, List.getElem_cons_zero, List.getElem_cons_succ, Act.put, List.setIfInBounds_toArray, List.set_cons_zero, List.set_cons_succ]
    refine wpAnyH_take (i := 5) (oi := _) (v := .pointer (some ⟨g', o' + v, none⟩)) rfl (by kernel_rfl) (by kernel_rfl) (by kernel_rfl) (fun _ _ _ h => h) (Or.inl ⟨by rfl, ?_⟩) (by assumption) ?_
    · intro u hSu
      obtain ⟨s1, s2, s3, s4⟩ := hSu
      simp only [List.getElem_toArray, List.getElem_cons_zero, List.getElem_cons_succ]
      go_simp
    simp only [List.getElem_toArray, List.getElem_cons_zero, List.getElem_cons_succ, Act.put, List.setIfInBounds_toArray, List.set_cons_zero, List.set_cons_succ]
    refine wpAnyH_take (i := 6) (oi := _) (v := .int .i64 (s0 : Nat)) rfl (by kernel_rfl) (by kernel_rfl) (by kernel_rfl) (fun _ _ _ h => h) (Or.inl ⟨by rfl, ?_⟩) (by assumption) ?_
    · intro u hSu
      obtain ⟨s1, s2, s3, s4⟩ := hSu
      simp only [List.getElem_toArray, List.getElem_cons_zero, List.getElem_cons_succ]
      go_simp
    simp only [List.getElem_toArray, List.getElem_cons_zero, List.getElem_cons_succ, Act.put, List.setIfInBounds_toArray, List.set_cons_zero, List.set_cons_succ]
    refine wpAnyH_take (i := 7) (oi := _) (v := .int .i64 ((p : Int) % (s0 : Int))) rfl (by kernel_rfl) (by kernel_rfl) (by kernel_rfl) (fun _ _ _ h => h) (Or.inl ⟨by rfl, ?_⟩) (by assumption) ?_
    · intro u hSu
      obtain ⟨s1, s2, s3, s4⟩ := hSu
      simp only [List.getElem_toArray, List.getElem_cons_zero, List.getElem_cons_succ]
      go_simp
      rw [if_neg (show ¬ s0 = 0 by omega), Int.tmod_eq_emod_of_nonneg (Int.natCast_nonneg _)]
    simp only [List.getElem_toArray, List.getElem_cons_zero, List.getElem_cons_succ, Act.put, List.setIfInBounds_toArray, List.set_cons_zero, List.set_cons_succ]
    refine wpAnyH_take (i := 8) (oi := _) (v := .pointer (some ⟨w.heap.size + 1 + 1, i, none⟩)) rfl (by kernel_rfl) (by kernel_rfl) (by kernel_rfl) (fun _ _ _ h => h) (Or.inl ⟨by rfl, ?_⟩) (by assumption) ?_
    · intro u hSu
      obtain ⟨s1, s2, s3, s4⟩ := hSu
      simp only [List.getElem_toArray, List.getElem_cons_zero, List.getElem_cons_succ]
      go_simp
    simp only [List.getElem_toArray, List.getElem_cons_zero, List.getElem_cons_succ, Act.put, List.setIfInBounds_toArray, List.set_cons_zero, List.set_cons_succ]
    refine wpAnyH_ready (rs := [9]) (by kernel_rfl) (by simp) (AllReadyH.cons rfl ?_ AllReadyH.nil)
    intro K' hK'
    simp only [List.getElem_toArray, List.getElem_cons_zero, List.getElem_cons_succ]
    go_simp
    have far : ∀ (b j : Nat) (y : Value), ¬ w.heap.size + 1 + 1 = b → (V.setCell ⟨w.heap.size + 1 + 1, i, none⟩ y).drew.cell? ⟨b, j, none⟩ = V.cell? ⟨b, j, none⟩ := fun b j y hb => World.cell?_setCell_other _ _ _ _ (fun e => hb (by cases e; rfl))
    refine hK'.out _ _ ⟨(far _ _ _ (by omega)).trans k3, (far _ _ _ (by omega)).trans k1, (far _ _ _ (by omega)).trans k0, (far _ _ _ (by omega)).trans c1⟩ (fun _ => wpAnyH_done (by kernel_rfl) ?_ _)
    clear hK' K' hSd
    have m0 := (far w.heap.size 0 (.int .i64 ((p : Int) % (s0 : Int))) (by omega)).trans k0
    have m1 := (far (w.heap.size + 1) 0 (.int .i64 ((p : Int) % (s0 : Int))) (by omega)).trans k1
    have m2 := (far g' (o' + v) (.int .i64 ((p : Int) % (s0 : Int))) (by omega)).trans c1
    have hr1 := h2.set i mm
    rw [← HQ1.out] at hr1
    have q0 : Boxed (V.setCell ⟨w.heap.size + 1 + 1, i, none⟩ (.int .i64 ((p : Int) % (s0 : Int)))).drew w.heap.size 22 (.slice (some ⟨g', o', none⟩) sizes.length ca) := boxed_off h0 _ i _ (by omega)
    have q1 : Boxed (V.setCell ⟨w.heap.size + 1 + 1, i, none⟩ (.int .i64 ((p : Int) % (s0 : Int)))).drew (w.heap.size + 1) 3 (.int .i64 (p : Nat)) := boxed_off h1 _ i _ (by omega)
    have q3 : Boxed (V.setCell ⟨w.heap.size + 1 + 1, i, none⟩ (.int .i64 ((p : Int) % (s0 : Int)))).drew (w.heap.size + 1 + 1 + 1) 22 (.slice (some ⟨w.heap.size + 1 + 1, 0, none⟩) vars.length vars.length) := boxed_off h3 _ i _ (by omega)
    have q4 : Boxed (V.setCell ⟨w.heap.size + 1 + 1, i, none⟩ (.int .i64 ((p : Int) % (s0 : Int)))).drew (w.heap.size + 1 + 1 + 1 + 1) 22 (.slice b vars.length cb) := boxed_off h4 _ i _ (by omega)
    have q2 : RowI (V.setCell ⟨w.heap.size + 1 + 1, i, none⟩ (.int .i64 ((p : Int) % (s0 : Int)))).drew (w.heap.size + 1 + 1) (at0.set i mm) := hr1
    have qB : Below w.heap.size w (V.setCell ⟨w.heap.size + 1 + 1, i, none⟩ (.int .i64 ((p : Int) % (s0 : Int)))).drew := (hB.setCell (p := ⟨w.heap.size + 1 + 1, i, none⟩) (by simp; omega) _).drew
    have qK : Below w.heap.size V (V.setCell ⟨w.heap.size + 1 + 1, i, none⟩ (.int .i64 ((p : Int) % (s0 : Int)))).drew := ((Below.refl w.heap.size V).setCell (p := ⟨w.heap.size + 1 + 1, i, none⟩) (by simp; omega) _).drew
    have qO : KeepsOthers V (V.setCell ⟨w.heap.size + 1 + 1, i, none⟩ (.int .i64 ((p : Int) % (s0 : Int)))).drew := (KeepsOthers.setCell V _ _).trans (KeepsOthers.drew _)
    have fU := q1.frozen
    have j4 : KeepsBox (w.heap.size + 1 + 1 + 1 + 1) V (V.setCell ⟨w.heap.size + 1 + 1, i, none⟩ (.int .i64 ((p : Int) % (s0 : Int)))).drew := q4.cell.trans h4.cell.symm
    clear far
    generalize (V.setCell ⟨w.heap.size + 1 + 1, i, none⟩ (.int .i64 ((p : Int) % (s0 : Int)))).drew = U at *
    gi_wp2_with fail
    refine region_round (fun u => u.cell? ⟨w.heap.size, 0, none⟩ = some (.slice (some ⟨g', o', none⟩) sizes.length ca) ∧ u.cell? ⟨g', o' + v, none⟩ = some (.int .i64 (s0 : Nat))) (by kernel_rfl) (by kernel_rfl) (fun ⟨_, _, h⟩ => h) ⟨m0, m2⟩ ?_
    intro hSd
    refine wpAnyH_take (i := 1) (oi := _) (v := .slice (some ⟨g', o', none⟩) sizes.length ca) rfl (by kernel_rfl) (by kernel_rfl) (by kernel_rfl) (fun _ _ _ h => h) (Or.inl ⟨by rfl, ?_⟩) (by assumption) ?_
    · intro u hSu
      obtain ⟨s3, s4⟩ := hSu
      simp only [List.getElem_toArray, List.getElem_cons_zero, List.getElem_cons_succ]
      go_simp
    simp only [List.getElem_toArray, List.getElem_cons_zero, List.getElem_cons_succ, Act.put, List.setIfInBounds_toArray, List.set_cons_zero, List.set_cons_succ]
    refine wpAnyH_take (i := 2) (oi := _) (v := .int .i64 (v : Nat)) rfl (by kernel_rfl) (by kernel_rfl) (by kernel_rfl) (fun _ _ _ h => h) (Or.inl ⟨by rfl, ?_⟩) (by assumption) ?_
    · intro u hSu
      obtain ⟨s3, s4⟩ := hSu
      simp only [List.getElem_toArray, List.getElem_cons_zero, List.getElem_cons_succ]
      go_simp
    simp only [List.getElem_toArray, List.getElem_cons_zero, List.getElem_cons_succ, Act.put, List.setIfInBounds_toArray, List.set_cons_zero, List.set_cons_succ]
    refine wpAnyH_take (i := 3) (oi := _) (v := .pointer (some ⟨g', o' + v, none⟩)) rfl (by kernel_rfl) (by kernel_rfl) (by kernel_rfl) (fun _ _ _ h => h) (Or.inl ⟨by rfl, ?_⟩) (by assumption) ?_
    · intro u hSu
      obtain ⟨s3, s4⟩ := hSu
      simp only [List.getElem_toArray, List.getElem_cons_zero, List.getElem_cons_succ]
      go_simp
    simp only [List.getElem_toArray, List.getElem_cons_zero, List.getElem_cons_succ, Act.put, List.setIfInBounds_toArray, List.set_cons_zero, List.set_cons_succ]
    refine wpAnyH_take (i := 4) (oi := _) (v := .int .i64 (s0 : Nat)) rfl (by kernel_rfl) (by kernel_rfl) (by kernel_rfl) (fun _ _ _ h => h) (Or.inl ⟨by rfl, ?_⟩) (by assumption) ?_
    · intro u hSu
      obtain ⟨s3, s4⟩ := hSu
      simp only [List.getElem_toArray, List.getElem_cons_zero, List.getElem_cons_succ]
      go_simp
    simp only [List.getElem_toArray, List.getElem_cons_zero, List.getElem_cons_succ, Act.put, List.setIfInBounds_toArray, List.set_cons_zero, List.set_cons_succ]
    refine wpAnyH_ready (rs := [0]) (by kernel_rfl) (by simp) (AllReadyH.cons rfl ?_ AllReadyH.nil)
    intro K' hK'
    simp only [List.getElem_toArray, List.getElem_cons_zero]
    go_simp
    refine hK'.out _ _ hSd (fun _ => ?_)
    clear hK' K'
    refine wpAnyH_take (i := 5) (oi := _) (v := .int .i64 ((p : Int) / (s0 : Int))) rfl (by kernel_rfl) (by kernel_rfl) (by kernel_rfl) (fun _ _ _ h => h) (Or.inl ⟨by rfl, ?_⟩) (by assumption) ?_
    · intro u hSu
      obtain ⟨s3, s4⟩ := hSu
      simp only [List.getElem_toArray, List.getElem_cons_zero, List.getElem_cons_succ]
      go_simp
      omega
    simp only [List.getElem_toArray, List.getElem_cons_zero, List.getElem_cons_succ, Act.put, List.setIfInBounds_toArray, List.set_cons_zero, List.set_cons_succ]
    refine wpAnyH_ready (rs := [6]) (by kernel_rfl) (by simp) (AllReadyH.cons rfl ?_ AllReadyH.nil)
    intro K' hK'
    simp only [List.getElem_toArray, List.getElem_cons_zero, List.getElem_cons_succ]
    go_simp
    refine hK'.out _ _ ⟨(boxed_off q0 (w.heap.size + 1) 0 _ (by omega)).cell, (World.cell?_setCell_other _ _ _ _ (fun e => (show ¬ w.heap.size + 1 = g' by omega) (congrArg Addr.block e))).trans m2⟩ (fun _ => wpAnyH_done (by kernel_rfl) ?_ _)
    clear hK' K' hSd
    gi_wp2
    rw [HQ2.out]
    refine ⟨(qO.trans ((KeepsOthers.setCell U _ _).trans (KeepsOthers.drew _))).from _, ⟨j4.t ((boxed_off q4 (w.heap.size + 1) 0 (.int .i64 (dd : Nat)) (by omega)).cell.trans q4.cell.symm), (qK.setCell (p := ⟨w.heap.size + 1, 0, none⟩) (by simp) _).drew⟩, ?_⟩
    refine ⟨boxed_off q0 _ 0 _ (by omega), ?_, ?_, boxed_off q3 _ 0 _ (by omega), boxed_off q4 _ 0 _ (by omega), (qB.setCell (p := ⟨w.heap.size + 1, 0, none⟩) (by simp) _).drew⟩
    · rw [HST.out]; exact q1.set _
    · rw [HST.out]; exact q2.off _ 0 _ (by omega)
  case done =>
    rintro D ys V hD hys ⟨h0, h1, h2, h3, h4, hB⟩ hK
    rw [hys, HALL.out] at h2
    have hc := h3.cell
    gi_wp2
    refine ⟨by simp, .inl ⟨_, _, rfl, run_takeDeferred hK, ?_⟩⟩
    refine ⟨_, results_tmp rfl _ _ _, ?_⟩
    refine ⟨w.heap.size + 1 + 1, ⟨vars.length, rfl⟩, by omega, ?_, hB.trans (belowK_b (w := w) (Nat.le_refl _) V D _ _ (by omega) hK rfl rfl)⟩
    have h2' : RowI (V.putObj D (.deferred none)) (w.heap.size + 1 + 1) (digs (toN sizes) (toN vars) K) := row_own (w.heap.size + 1 + 1) (fun (_ : Unit) => digs (toN sizes) (toN vars) K) () V _ (some D) h2 (grownBy_putObj' V D _) (fun r e => by cases e; exact ⟨_, hK, rfl⟩)
    exact h2'
  case stop =>
    rintro D c pre V _ _ h _
    exact h.elim
set_option maxRecDepth 100000 in
set_option maxHeartbeats 400000 in
theorem tWhere_own (a b : Option Addr) (ca cb K : Nat) (sizes vars : List Int) (w : World) (hs : IntS w a sizes) (hv : IntS w b vars) (hfi : Fine sizes) (hup : Up vars sizes.length) (hK : K < cnt (toN sizes) (toN vars)) :
    Calls Tryz.prog 58 #[.slice a sizes.length ca, .slice b vars.length cb, .int .i64 (K : Nat)] w fun e w' => ∃ (g : Nat) (cc : Nat), e = .returned (.tuple #[.slice (some ⟨g, 0, none⟩) vars.length cc, .int .i64 0]) ∧ w.heap.size ≤ g ∧ RowI w' g (digs (toN sizes) (toN vars) K) ∧ Below w.heap.size w w' := by
  have hl8 := hfi.eight
  have hvl := hup.length
  have HS := hid hs
  have HV := hid hv
  have hcb : countB sizes vars = true := countB_of hfi hup
  have HC := hid (fun V h1 h2 => tCount_any a b ca cb sizes vars V h1 h2 (by omega) (by omega))
  rw [countA_yes hcb] at HC
  simp only at HC
  have HA := hid (fun V h1 h2 => assignment_own a b ca cb sizes vars K V h1 h2 hfi hup hK)
  have hdl : (digs (toN sizes) (toN vars) K).length = vars.length := by rw [digs_length, toN_length]
  rw [hdl] at HA
  clear hs hv hcb hfi hup hdl
  generalize digs (toN sizes) (toN vars) K = ds at *
  generalize cnt (toN sizes) (toN vars) = N0 at *
  have hk0 : (0 : Int) ≤ (K : Int) := by omega
  have hk1 : (K : Int) < (N0 : Int) := by omega
  go_enter Tryz.func58, Tryz.ntmps58
  go_wp2_with fail
  refine (HC.out _ HS.out HV.out).mono ?_
  rintro e w1 ⟨rfl, hb1⟩
  go_wp2_with fail
  refine (HA.out _ (HS.out.below hb1) (HV.out.below hb1)).mono ?_
  rintro e w2 ⟨c, cc, rfl, hge, hi2, hb2⟩
  have hs1 := hb1.size
  go_wp2
  go_ret2
  exact ⟨c, cc, rfl, by omega, hi2, hb1.trans (hb2.mono hb1.size)⟩
end Go.Proofs.YtojidhnkpeiimaaGreatDoor

/- Nets: what Given of package net does to memory. -/
namespace Go.Proofs.YtojidhnkpeiimaaGreatDoor
open Go.RowKit Go.Shelf Go.Sort Go.Lib
theorem holds_row {w : World} {g : Nat} {cs : Array Value} {l : List Int} (h : w.heap[g]? = some (.cells cs 3 (0, 0))) (hl : ∀ j (hj : j < l.length), cs[j]? = some (.int .i64 l[j])) : Holds (Value.int .i64) w g 0 l.toArray := fun j hj => by
  have hj' : j < l.length := by simpa using hj
  refine ⟨?_, frozen_of_row w g (0 + j) _ _ h⟩
  rw [Nat.zero_add, cell_of_row w g j _ _ (0, 0) h, hl j hj', getElem!_pos l.toArray j hj]
  simp
end Go.Proofs.YtojidhnkpeiimaaGreatDoor

/- Nets: Check of package net (of a contract of checkRows). -/
namespace Go.Proofs.YtojidhnkpeiimaaGreatDoor
open Go.RowKit Go.Shelf
set_option maxRecDepth 100000 in
set_option maxHeartbeats 1000000 in
theorem nCheck_any (a b c : Option Addr) (ca cb cc : Nat) (V : List Vr) (L : List (List Int)) (R : List (List Fr)) (w : World) (h : NetI w a b c V L R) (hs : NSm V L R)
    (hCR : L.length = V.length → R.length = V.length → gcE L = 0 → varsE V = 0 → ∀ U : World, NetI U a b c V L R → Calls Tryz.prog 25 #[.agg #[.slice a V.length ca, .slice b L.length cb, .slice c R.length cc]] U fun e w' => e = .returned (.int .i64 (firstE (rowE (sizesN V) L R) V.length)) ∧ Below U.heap.size U w') :
    Calls Tryz.prog 9 #[.agg #[.slice a V.length ca, .slice b L.length cb, .slice c R.length cc]] w fun e w' => e = .returned (.int .i64 (netE V L R)) ∧ Below w.heap.size w w' := by
  have HI := hid h
  have hV5 := hs.vars.1
  have hL5 := hs.pars.1
  have hR5 := hs.rows.1
  have HN8 : Hid (¬ (L.length = V.length ∧ R.length = V.length) → netE V L R = 8) := fun h => if_neg h
  have HNG : Hid (L.length = V.length → R.length = V.length → gcE L ≠ 0 → netE V L R = gcE L) := fun h1 h2 h3 => by rw [netE, if_pos ⟨h1, h2⟩, if_neg h3]
  have HNV : Hid (L.length = V.length → R.length = V.length → gcE L = 0 → varsE V ≠ 0 → netE V L R = varsE V) := fun h1 h2 h3 h4 => by rw [netE, if_pos ⟨h1, h2⟩, if_pos h3, if_neg h4]
  have HNR : Hid (L.length = V.length → R.length = V.length → gcE L = 0 → varsE V = 0 → netE V L R = firstE (rowE (sizesN V) L R) V.length) := fun h1 h2 h3 h4 => by rw [netE, if_pos ⟨h1, h2⟩, if_pos h3, if_pos h4]
  have HGC := hid (fun (U : World) (hU : LsS U b L) => gCheck_any b cb L U hU (fun l hl => by have := hs.pars.2 l hl; omega))
  have HVC := hid (fun (U : World) (hU : VsS U a V) => checkVars_any a ca V U hU hs.vars)
  have HCR := hid hCR
  generalize netE V L R = ne at *
  clear h hs hCR
  have HK0 := hid (NK.new w (.slice a V.length ca) (.slice b L.length cb) (.slice c R.length cc))
  obtain ⟨c0, c1, c2⟩ := HK0.out.1.cells
  by_cases hLV : L.length = V.length
  · by_cases hRV : R.length = V.length
    · have hlv : ((L.length : Int) != (V.length : Int)) = false := by rw [hLV]; simp
      have hrv : ((R.length : Int) != (V.length : Int)) = false := by rw [hRV]; simp
      have HNG' := hid (HNG.out hLV hRV)
      have HNV' := hid (HNV.out hLV hRV)
      have HNR' := hid (HNR.out hLV hRV)
      have HCR' := hid (HCR.out hLV hRV)
      clear hLV hRV HN8 HNG HNV HNR HCR
      generalize firstE (rowE (sizesN V) L R) V.length = fe at *
      generalize gcE L = ge at *
      generalize varsE V = ve at *
      go_enter Tryz.func9, Tryz.ntmps9
      go_wp2_with fail
      generalize (w.alloc (NC (.slice a V.length ca) (.slice b L.length cb) (.slice c R.length cc))) = w1 at *
      refine (HGC.out _ (HI.out.below HK0.out.2).pars).mono ?_
      rintro e w2 ⟨rfl, hb⟩
      have hK := HK0.out.step hb
      clear hb HK0 c0 c1 c2 hlv hrv HGC
      obtain ⟨c0, c1, c2⟩ := hK.1.cells
      by_cases hg : ge = 0
      · subst hg
        have HNV2 := hid (HNV'.out rfl)
        have HNR2 := hid (HNR'.out rfl)
        have HCR2 := hid (HCR'.out rfl)
        have HK := hid hK
        clear HNG' HNV' HNR' HCR' hK
        go_wp2_with fail
        refine (HVC.out _ (HI.out.below HK.out.2).vars).mono ?_
        rintro e w3 ⟨rfl, hb⟩
        have hK := HK.out.step hb
        clear hb HK c0 c1 c2 HVC
        obtain ⟨c0, c1, c2⟩ := hK.1.cells
        by_cases hv : ve = 0
        · subst hv
          have HQ := hid (HNR2.out rfl)
          have HCR3 := hid (HCR2.out rfl)
          have HK := hid hK
          clear HNV2 HNR2 HCR2 hK
          go_wp2_with fail
          refine (HCR3.out _ (HI.out.below HK.out.2)).mono ?_
          rintro e w4 ⟨rfl, hb⟩
          have hK := HK.out.step hb
          clear c0 c1 c2 hb
          go_wp2
          go_ret
          exact ⟨by rw [HQ.out]; rfl, hK.2⟩
        · have HQ := hid (HNV2.out hv)
          have hvb : (ve == 0) = false := by simpa using hv
          clear hv HNV2 HNR2 HCR2 c0 c1 c2
          go_wp2
          go_ret
          exact ⟨by rw [HQ.out]; rfl, hK.2⟩
      · have HQ := hid (HNG'.out hg)
        have hgb : (ge == 0) = false := by simpa using hg
        clear hg HNG' HNV' HNR' HCR' c0 c1 c2
        go_wp2
        go_ret
        exact ⟨by rw [HQ.out]; rfl, hK.2⟩
    · have HQ := hid (HN8.out fun h => hRV h.2)
      have hlv : ((L.length : Int) != (V.length : Int)) = false := by rw [hLV]; simp
      have hrv : ((R.length : Int) != (V.length : Int)) = true := by
        have : ¬ (R.length : Int) = (V.length : Int) := by omega
        simpa using this
      clear hLV hRV HN8 HCR
      go_enter Tryz.func9, Tryz.ntmps9
      go_wp2
      go_ret
      exact ⟨by rw [HQ.out]; rfl, HK0.out.2⟩
  · have HQ := hid (HN8.out fun h => hLV h.1)
    have hlv : ((L.length : Int) != (V.length : Int)) = true := by
      have : ¬ (L.length : Int) = (V.length : Int) := by omega
      simpa using this
    clear hLV HN8 HCR
    go_enter Tryz.func9, Tryz.ntmps9
    go_wp2
    go_ret
    exact ⟨by rw [HQ.out]; rfl, HK0.out.2⟩
end Go.Proofs.YtojidhnkpeiimaaGreatDoor

/- slices.Chunk over a slice of fractions: what a loop over it may lean on. -/
namespace Go.Proofs.YtojidhnkpeiimaaGreatDoor
open Go.RowKit Go.Shelf
attribute [local go_sem] Oper.semAt_some
def KeepsC (Bs Bk B : Nat) (V V' : World) : Prop := KeepsBox Bs V V' ∧ KeepsBox Bk V V' ∧ Below B V V'
theorem KeepsC.t {Bs Bk B : Nat} {X Y Z : World} (h : KeepsC Bs Bk B X Y) (k : KeepsC Bs Bk B Y Z) : KeepsC Bs Bk B X Z := ⟨h.1.t k.1, h.2.1.t k.2.1, h.2.2.trans k.2.2⟩
theorem KeepsC.b {Bs Bk B : Nat} {w : World} (hs : Bs < w.heap.size) (hk : Bk < w.heap.size) (hB : B ≤ w.heap.size) (V : World) (l : Nat) (o o' : Obj) (hl : w.heap.size ≤ l) (h1 : V.heap[l]? = some o) (h2 : o.isCells = false) (h3 : o.isWalk = false) : KeepsC Bs Bk B V (V.putObj l o') :=
  ⟨KeepsBox.b hs V l o o' hl h1 h2 h3, KeepsBox.b hk V l o o' hl h1 h2 h3, belowK_b hB V l o o' hl h1 h2 h3⟩
theorem grown_drew (w : World) : w.grownBy w.drew none := ⟨rfl, rfl, rfl, Nat.le_refl _, fun _ _ _ => rfl⟩
abbrev CAt (N : Nat) : Type := { i : Nat // i < N }
abbrev chV (gf of_ k N : Nat) (x : CAt N) : Array Value := #[.slice (some ⟨gf, of_ + x.1 * k * 3, none⟩) k k]
set_option maxRecDepth 100000 in
set_option maxHeartbeats 1000000 in
theorem chunk1_in (n : Nat) (hn : 1 ≤ n) (l Bs Bk B gf of_ cap k N T : Nat) (hT : T = N * k) (hk : 1 ≤ k) (hk4 : k ≤ 4) (hN : N ≤ 65536) (hcap : T ≤ cap) (J Jx : List (CAt N) → World → Prop) (hD : ∀ pre V, J pre V → J pre V.drew)
    (hY : ∀ pre x V, J pre V → pre.length < N → YieldAt Fence.wide (n - 1) Tryz.prog l (chV gf of_ k N x) V fun e V' =>
      (e = .returned (.bool true) ∧ J (pre ++ [x]) V' ∧ KeepsC Bs Bk B V V') ∨ (e = .returned (.bool false) ∧ Jx (pre ++ [x]) V'))
    (V : World) (hBs : V.cell? ⟨Bs, 0, none⟩ = some (.slice (some ⟨gf, of_, none⟩) T cap)) (hBk : V.cell? ⟨Bk, 0, none⟩ = some (.int .i64 (k : Nat))) (h0 : J [] V) :
    CallsIn Fence.wide n Tryz.prog 71 #[.func (.yield l) #[] #[], .pointer (some ⟨Bs, 0, none⟩), .pointer (some ⟨Bk, 0, none⟩)] V fun e V' => (∃ v, e = .returned v) ∧
      ((∃ ys : List (CAt N), ys.map (·.1) = List.range N ∧ J ys V') ∨ (∃ pre : List (CAt N), (∃ j, j ≤ N ∧ pre.map (·.1) = List.range j) ∧ Jx pre V')) := by
  refine callsIn_of_wp Tryz.func71 rfl trivial ?_ rfl
  simp only [Tryz.ntmps71, List.size_toArray, List.length_cons, List.length_nil, Nat.reduceAdd, Nat.reduceSub, Array.replicate_succ, Array.replicate_zero, List.push_toArray, List.append_toArray, List.nil_append, List.cons_append]
  have HTT := hid hT
  have hT4 : T ≤ 262144 := by rw [hT]; exact Nat.le_trans (Nat.mul_le_mul hN hk4) (by decide)
  clear hT
  gi_wp2
  gi_loopw [4] (fun i wr => ∃ (j : Nat) (pre : List (CAt N)), j ≤ N ∧ i = .int .i64 (j * k : Nat) ∧ Hid (pre.map (·.1) = List.range j) ∧ J pre wr ∧ wr.cell? ⟨Bs, 0, none⟩ = some (.slice (some ⟨gf, of_, none⟩) T cap) ∧ wr.cell? ⟨Bk, 0, none⟩ = some (.int .i64 (k : Nat)))
    (fun i _ => T - (intOf i).toNat)
  case atStart => exact ⟨0, [], Nat.zero_le _, by rw [Nat.zero_mul]; rfl, rfl, h0, hBs, hBk⟩
  case round =>
    obtain ⟨j, pre, hj, rfl, HP, hJs, hbs, hbk⟩ := hrel
    by_cases hlt : j < N
    · have hpl : pre.length = j := by have := congrArg List.length HP.out; rwa [List.length_map, List.length_range] at this
      have HS : Hid ((pre ++ [(⟨j, hlt⟩ : CAt N)]).map (·.1) = List.range (j + 1)) := by show _ = _; rw [List.map_append, HP.out, List.range_succ]; rfl
      have hj1 : (j + 1) * k ≤ T := by rw [HTT.out]; exact Nat.mul_le_mul_right k hlt
      have e2 : (j + 1) * k = j * k + k := by rw [Nat.add_mul, Nat.one_mul]
      have HEQ : Hid ((j + 1) * k = j * k + k) := e2
      have hlo : j * k + k ≤ T := by omega
      have HLO : Hid (j * k = j * k) := rfl
      clear e2 hj1
      have hYj := fun W hW => hY pre ⟨j, hlt⟩ W hW (by omega)
      simp only [chV] at hYj
      generalize hEm : j * k = lo at *
      have HYJ := hid hYj
      clear hYj HLO
      have HEM := hid hEm
      clear hEm
      have hc1 : ¬ cap = lo := by omega
      have hl1 : lo ≤ T := by omega
      have hmin : min (k : Int) ((T - lo : Nat) : Int) = (k : Int) := by omega
      gi_wp2
      gi_region
      have hJd := hD pre wr hJs
      have hbs' : wr.drew.cell? ⟨Bs, 0, none⟩ = some (.slice (some ⟨gf, of_, none⟩) T cap) := hbs
      have hbk' : wr.drew.cell? ⟨Bk, 0, none⟩ = some (.int .i64 (k : Nat)) := hbk
      clear hbs hbk hJs hmin
      generalize wr.drew = w2 at *
      obtain ⟨fn, tmps, assign, body, hy, hR⟩ := HYJ.out w2 hJd
      have HR := hid hR
      clear hR
      have hw1 : IntKind.i64.wrap ((lo : Int) + (k : Int)) = ((lo + k : Nat) : Int) := by rw [IntKind.wrap_i64]; omega
      have hd1 : (lo + k : Nat) - lo = k := by omega
      have hx1 : ((lo + k : Nat) : Int) ≤ (cap : Int) := by omega
      generalize hhi : lo + k = hi_ at *
      have hx2 : lo ≤ hi_ := by omega
      have HHI := hid hhi
      clear hhi
      gi_wp2
      refine HR.out.mono ?_
      rintro e W3 (⟨rfl, hJ3, hk3⟩ | ⟨rfl, hJx3⟩)
      · have hbs3 := Eq.trans hk3.1 hbs'
        have hbk3 := Eq.trans hk3.2.1 hbk'
        have HE : Hid ((j + 1) * k = hi_) := HEQ.out
        have hlt3 : lo < hi_ := by have := HHI.out; omega
        have hle3 : hi_ ≤ T := by have := HHI.out; omega
        clear hbs' hbk' hk3
        gi_wp2
        go_roundw
        case rel => exact ⟨j + 1, _, by omega, by rw [HE.out], HS, hJ3, hbs3, hbk3⟩
        case measure => simp [intOf]; omega
      · gi_wp2
        refine bodyPost_ret (results_none rfl _ _ _) rfl ?_
        exact ⟨⟨_, rfl⟩, .inr ⟨_, ⟨j + 1, by omega, HS.out⟩, hJx3⟩⟩
    · obtain rfl : j = N := by omega
      rw [← HTT.out]
      gi_wp2
      go_end0
      exact ⟨⟨_, rfl⟩, .inl ⟨_, HP.out, hJs⟩⟩
set_option maxRecDepth 100000 in
set_option maxHeartbeats 400000 in
theorem chunk_in (n : Nat) (a : Option Addr) (T cap k : Nat) (hk : 1 ≤ k) (w : World) :
    CallsIn Fence.wide n Tryz.prog 47 #[.slice a T cap, .int .i64 (k : Nat)] w fun e w' => e = .returned (.func (.func 71) #[] #[.pointer (some ⟨w.heap.size, 0, none⟩), .pointer (some ⟨w.heap.size + 1, 0, none⟩)]) ∧ w' = (w.alloc (.cells #[.slice a T cap] 51)).alloc (.cells #[.int .i64 (k : Nat)] 3) := by
  refine callsIn_of_wp Tryz.func47 rfl trivial ?_ rfl
  simp only [Tryz.ntmps47, List.size_toArray, List.length_cons, List.length_nil, Nat.reduceAdd, Nat.reduceSub, Array.replicate_succ, Array.replicate_zero, List.push_toArray, List.append_toArray, List.nil_append, List.cons_append]
  have e1 : (1 : Int) ≤ (k : Int) := by omega
  gi_wp2
  go_ret
  exact ⟨rfl, rfl⟩
theorem chunk_stops (n : Nat) (hn : 1 ≤ n) (Bs Bk B gf of_ cap k N T : Nat) (hT : T = N * k) (hk : 1 ≤ k) (hk4 : k ≤ 4) (hN : N ≤ 65536) (hcap : T ≤ cap) (w : World) (hBs : Bs < w.heap.size) (hBk : Bk < w.heap.size) (h1 : w.cell? ⟨Bs, 0, none⟩ = some (.slice (some ⟨gf, of_, none⟩) T cap)) (h2 : w.cell? ⟨Bk, 0, none⟩ = some (.int .i64 (k : Nat))) :
    SeqStopsK Fence.wide n Tryz.prog 71 #[.pointer (some ⟨Bs, 0, none⟩), .pointer (some ⟨Bk, 0, none⟩)] (chV gf of_ k N) (KeepsC Bs Bk B) (fun ys => ys.map (·.1) = List.range N) (fun pre => ∃ j, j ≤ N ∧ pre.map (·.1) = List.range j) N w := fun l J Jx V hV hJ _ hY h0 =>
  chunk1_in n hn l Bs Bk B gf of_ cap k N T hT hk hk4 hN hcap J Jx (fun pre U hU => hJ pre U U.drew none hU (grown_drew U) (fun r e => by cases e)) hY V ((hV.cell (p := ⟨Bs, 0, none⟩) hBs).trans h1) ((hV.cell (p := ⟨Bk, 0, none⟩) hBk).trans h2) h0
end Go.Proofs.YtojidhnkpeiimaaGreatDoor

/- Marks of finished ranges over functions: a function that held many leaves. -/
namespace Go.Proofs.YtojidhnkpeiimaaGreatDoor
open Go.RowKit Go.Shelf
def Shut (lo : Nat) : Nat → List Deferred → World → Prop
  | _, [], _ => True
  | B, d :: ds, W => ∃ r, lo ≤ r ∧ r < B ∧ d = { target := .collected r, args := #[] } ∧ W.heap[r]? = some (.deferred (some [])) ∧ Shut lo r ds W
theorem Shut.mono {lo : Nat} {B B' : Nat} {ds : List Deferred} {W : World} (h : Shut lo B ds W) (hb : B ≤ B') : Shut lo B' ds W := by
  cases ds with
  | nil => trivial
  | cons d ds =>
    obtain ⟨r, h1, h2, h3⟩ := h
    exact ⟨r, h1, by omega, h3⟩
theorem Shut.keep {lo : Nat} : ∀ {ds : List Deferred} {B : Nat} {W W' : World}, Shut lo B ds W → (∀ r, r < B → W'.heap[r]? = W.heap[r]?) → Shut lo B ds W'
  | [], _, _, _, _, _ => trivial
  | d :: ds, B, W, W', h, hk => by
    obtain ⟨r, h1, h2, h3, h4, h5⟩ := h
    exact ⟨r, h1, h2, h3, (hk r h2).trans h4, h5.keep fun k hlt => hk k (by omega)⟩
theorem Shut.below {lo B : Nat} {ds : List Deferred} {W W' : World} (h : Shut lo B ds W) (hb : Below B W W') : Shut lo B ds W' := h.keep fun r hr => hb.block r hr
theorem leaves_shut {F : Fence} {n : Nat} {P : Program} {fn : Func} {tmps : Array Value} {R : Ending → World → Prop} {lo : Nat} {K : World → Prop}
    (hK : ∀ W r, K W → lo ≤ r → W.heap[r]? = some (.deferred (some [])) → K (W.putObj r (.deferred none))) (hend : ∀ W, K W → LeavesInM F n P fn tmps R [] .returning W) :
    ∀ (ds : List Deferred) (B : Nat) (W : World), Shut lo B ds W → K W → LeavesInM F n P fn tmps R ds .returning W
  | [], _, W, _, hW => hend W hW
  | d :: ds, B, W, h, hW => by
    obtain ⟨r, h1, h2, rfl, h4, h5⟩ := h
    refine ⟨by simp, .inl ⟨r, _, rfl, run_takeDeferred h4, leaves_shut hK hend ds r _ ?_ (hK W r hW h1 h4)⟩⟩
    exact h5.keep fun k hk => World.putObj_heap_other (by omega)
end Go.Proofs.YtojidhnkpeiimaaGreatDoor
