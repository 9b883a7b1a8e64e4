/- What Made makes may be: Check says nothing. -/
import Derived.Test.YtncccbdledcibaaGreatDoorSumMToMadD
import Derived.Test.YtncccbdledcibaaGreatDoorTabR5ToStandA
import Derived.Test.YtncccbdledcibaaGreatDoorProdBToSwapT
import Derived.Test.YtncccbdledcibaaGreatDoorJntAToSumN
import Derived.ArgAppend
namespace Go.Proofs.YtncccbdledcibaaGreatDoor
open Go.RowKit Go.Shelf Go.Lib

theorem up_ris {l : List Int} {n : Nat} (h2 : Up l n) : risB l n = true := by
  rw [risB, List.all_eq_true]
  intro i hi
  have hi' := List.mem_range.1 hi
  rw [okAt, decide_eq_true_iff, getD_eq hi']
  refine ⟨(h2.each i hi').1, (h2.each i hi').2, fun h0 => ?_⟩
  rw [getD_eq (show i - 1 < l.length by omega)]
  exact h2.lt (i - 1) i hi' (by omega)
theorem pars_up {bk : Bool} {n : Nat} {S : List Nat} {Ls : List PL} {Rs : List PR} (h : LK2 bk n n S Ls Rs) {v : Nat} (hv : v < (lOf Ls).length) : ParOK bk n v (lOf Ls)[v] := by
  have hv' : v < Ls.length := by simpa [lOf] using hv
  simpa [lOf] using h.pars v hv'
theorem range_sub : ∀ (n : Nat) (l : List Nat), (∀ v, v < n → v ∈ l) → n ≤ l.length
  | 0, _, _ => Nat.zero_le _
  | n + 1, l, h => by
    have hm := h n (by omega)
    have h1 := range_sub n (l.erase n) fun v hv => (List.mem_erase_of_ne (by omega)).2 (h v (by omega))
    have h2 := List.length_erase_of_mem hm
    have h3 := List.length_pos_of_mem hm
    omega
/-- No way comes back: each hangs on what stands lower in a rank. -/
theorem ord_rank {P : List (List Nat)} (r : Nat → Nat) (h : ∀ v, v < P.length → ∀ u ∈ P.getD v [], u < P.length ∧ r u < r v) : ∀ k, k ≤ P.length → (ordN P k).length = k
  | 0, _ => rfl
  | k + 1, hk => by
    have ih := ord_rank r h k (by omega)
    cases e : nextV P (ordN P k) with
    | some v => rw [ord_some e, List.length_append, ih]; rfl
    | none =>
      exfalso
      have hno : ∀ v, v < P.length → freeB P (ordN P k) v = false := fun v hv => by
        have := List.find?_eq_none.1 e v (List.mem_range.2 hv)
        simpa using this
      have hall : ∀ m v, v < P.length → r v ≤ m → v ∈ ordN P k := by
        intro m
        induction m with
        | zero =>
          intro v hv hr
          refine Classical.byContradiction fun hm => ?_
          have hf := hno v hv
          rw [freeB, Bool.and_eq_false_iff] at hf
          rcases hf with hf | hf
          · exact absurd hm (by simpa using hf)
          · have hf' := of_decide_eq_false hf
            refine hf' fun u hu => ?_
            have := (h v hv u hu).2
            omega
        | succ m ihm =>
          intro v hv hr
          refine Classical.byContradiction fun hm => ?_
          have hf := hno v hv
          rw [freeB, Bool.and_eq_false_iff] at hf
          rcases hf with hf | hf
          · exact absurd hm (by simpa using hf)
          · have hf' := of_decide_eq_false hf
            refine hf' fun u hu => ?_
            obtain ⟨h1, h2⟩ := h v hv u hu
            exact ihm u h1 (by omega)
      have hle := range_sub P.length (ordN P k) fun v hv => hall (r v) v hv (Nat.le_refl _)
      omega
theorem made_gcE {bk : Bool} {n : Nat} {S : List Nat} {Ls : List PL} {Rs : List PR} (h : LK2 bk n n S Ls Rs) (h1 : 1 ≤ n) (h6 : n ≤ 6) : gcE (lOf Ls) = 0 := by
  have hl : (lOf Ls).length = n := by simp [lOf, h.len]
  have hrk : ∀ v (hv : v < (lOf Ls).length), ∀ x ∈ (lOf Ls)[v], (0 ≤ x ∧ x < n) ∧ (if bk = true then (v : Int) < x else x < (v : Int)) := fun v hv x hx =>
    ⟨(up_iff.1 (pars_up h hv).up).1 x hx, (pars_up h hv).rank x hx⟩
  have hgb : gB (lOf Ls) = true := by
    rw [gB, Bool.and_eq_true, Bool.and_eq_true]
    refine ⟨⟨decide_eq_true ⟨by omega, by omega⟩, ?_⟩, ?_⟩
    · rw [allRis, List.all_eq_true]
      intro l hlm
      obtain ⟨v, hv, rfl⟩ := List.getElem_of_mem hlm
      rw [hl]
      exact up_ris (pars_up h hv).up
    · rw [noSelf, List.all_eq_true]
      intro v hv
      have hv' : v < (lOf Ls).length := List.mem_range.1 hv
      rw [List.getD_eq_getElem?_getD, List.getElem?_eq_getElem hv']
      simp only [Option.getD_some, Bool.not_eq_true', decide_eq_false_iff_not]
      intro hm
      obtain ⟨x, hx, e⟩ := List.mem_map.1 hm
      obtain ⟨⟨h0, _⟩, hr⟩ := hrk v hv' x hx
      cases bk <;> simp at hr <;> omega
  rw [gcE, if_pos hgb, if_neg]
  have hp : (parN (lOf Ls)).length = n := by rw [parN_length, hl]
  have hord := ord_rank (P := parN (lOf Ls)) (fun v => if bk = true then n - v else v) (fun v hv u hu => by
    have hv' : v < (lOf Ls).length := by rw [parN_length] at hv; exact hv
    rw [parN_get hv'] at hu
    obtain ⟨x, hx, rfl⟩ := List.mem_map.1 hu
    obtain ⟨⟨h0, hn⟩, hr⟩ := hrk v hv' x hx
    refine ⟨by rw [hp]; omega, ?_⟩
    rw [hl] at hv'
    cases bk
    · simp at hr ⊢; omega
    · simp at hr ⊢; omega) n (by omega)
  rw [hl, hord]
  omega
theorem namesV_vOf {n : Nat} {Vs : List PV} (h : VK n Vs) : namesV (vOf Vs) = (List.range n).map (nmB 110) := by
  apply List.ext_getElem
  · simp [namesV, vOf, h.len]
  · intro i h1 h2
    have hi : i < Vs.length := by simpa [namesV, vOf] using h1
    simp [namesV, vOf, (h.each i hi).1]
theorem names_ok : ∀ n, n ≤ 6 → namesE ((List.range n).map (nmB 110)) = 0 := by
  intro n hn
  have h : n = 0 ∨ n = 1 ∨ n = 2 ∨ n = 3 ∨ n = 4 ∨ n = 5 ∨ n = 6 := by omega
  rcases h with rfl | rfl | rfl | rfl | rfl | rfl | rfl <;> decide +kernel
theorem vals_ok : ∀ k, k ≤ 3 → namesE (valsN k) = 0 := by
  intro n hn
  have h : n = 0 ∨ n = 1 ∨ n = 2 ∨ n = 3 := by omega
  rcases h with rfl | rfl | rfl | rfl <;> decide +kernel
theorem made_varsE {n : Nat} {Vs : List PV} (h : VK n Vs) (h6 : n ≤ 6) : varsE (vOf Vs) = 0 := by
  rw [varsE, namesV_vOf h, names_ok n h6, if_pos rfl]
  refine firstE_none fun j hj => ?_
  have hj' : j < Vs.length := by simpa [vOf] using hj
  obtain ⟨_, k, h1, h3, e⟩ := h.each j hj'
  have e2 : ((vOf Vs).getD j (⟨#[]⟩, [])).2 = valsN k := by
    rw [List.getD_eq_getElem?_getD, List.getElem?_eq_getElem hj]
    simp [vOf, e]
  rw [varE, e2, valsN_length, if_pos ⟨h1, by omega⟩, vals_ok k h3]
theorem made_netE {bk : Bool} {n : Nat} {Vs : List PV} {Ls : List PL} {Rs : List PR} (hV : VK n Vs) (h : LK2 bk n n (sizesN (vOf Vs)) Ls Rs) (h1 : 1 ≤ n) (h6 : n ≤ 6) : netE (vOf Vs) (lOf Ls) (rOf Rs) = 0 := by
  have hv : (vOf Vs).length = n := by simp [vOf, hV.len]
  have hl : (lOf Ls).length = n := by simp [lOf, h.len]
  have hr : (rOf Rs).length = n := by simp [rOf, h.lenR]
  rw [netE, if_pos ⟨by omega, by omega⟩, if_pos (made_gcE h h1 h6), if_pos (made_varsE hV h6)]
  refine firstE_none fun j hj => ?_
  have hjL : j < Ls.length := by have := h.len; omega
  have hjR : j < Rs.length := by have := h.lenR; omega
  have hro := h.rows j hjL hjR
  have e1 : (lOf Ls).getD j [] = Ls[j].2 := by rw [List.getD_eq_getElem?_getD, List.getElem?_eq_getElem (by simpa [lOf] using hjL)]; simp [lOf]
  have e2 : (rOf Rs).getD j [] = Rs[j].2 := by rw [List.getD_eq_getElem?_getD, List.getElem?_eq_getElem (by simpa [rOf] using hjR)]; simp [rOf]
  rw [rowE, e1, e2, if_pos hro.len, if_pos]
  rw [List.all_eq_true]
  intro i hi
  exact hro.rows i (List.mem_range.1 hi)
end Go.Proofs.YtncccbdledcibaaGreatDoor


/- Package table: the assignment of a place, in memory of its own. -/
namespace Go.Proofs.YtncccbdledcibaaGreatDoor
open Go.RowKit Go.Shelf

attribute [local go_sem] Oper.semAt_some

set_option maxRecDepth 100000 in
set_option maxHeartbeats 1000000 in
theorem assignment_own (a b : Option Addr) (ca cb : Nat) (sizes vars : List Int) (K : Nat) (w : World) (hs : IntS w a sizes) (hv : IntS w b vars) (hfi : Fine sizes) (hup : Up vars sizes.length) (hK : K < cnt (toN sizes) (toN vars)) :
    Calls Tryz.prog 65 #[.slice a sizes.length ca, .slice b vars.length cb, .int .i64 (K : Nat)] w fun e w' => ∃ (g : Nat) (cc : Nat), e = .returned (.slice (some ⟨g, 0, none⟩) (digs (toN sizes) (toN vars) K).length cc) ∧ w.heap.size ≤ g ∧ RowI w' g (digs (toN sizes) (toN vars) K) ∧ Below w.heap.size w w' := by
  refine (callsIn_wide (n := 6)).1 ?_
  have hl8 := hfi.eight
  have hvl := hup.length
  have hsm : cnt (toN sizes) (toN vars) ≤ 65536 := cnt_small hfi.sz_le (by rw [toN_length]; omega)
  have hmk := fun V => run_make_row' (P := Tryz.prog) 27 3 (.int .i64 0) 8 Tryz.underlying27 Tryz.infoInt rfl .i64 .i64 vars.length (by omega) (by omega) V
  have HS := hid hs
  have HV := hid hv
  have HFI := hid hfi
  have HUP := hid hup
  have hdl : (digs (toN sizes) (toN vars) K).length = vars.length := by rw [digs_length, toN_length]
  have HALL := hid (asgF_all hK)
  rw [toN_length] at HALL
  rw [hdl]
  clear hs hv hfi hup
  refine callsIn_of_wp_marks Tryz.func65 rfl trivial ?_ rfl
  simp only [Tryz.ntmps65, List.size_toArray, List.length_cons, List.length_nil, Nat.reduceAdd, Nat.reduceSub, Array.replicate_succ, Array.replicate_zero, List.push_toArray, List.append_toArray, List.nil_append, List.cons_append]
  gi_wp2_with ((refine ⟨trivial, ?_⟩; gi_at_call 95; refine (backward_in _ _ _ _ _).mono ?_; rintro e w2 ⟨rfl, rfl⟩))
  obtain ⟨W0, hW0⟩ : ∃ W0, W0 = (((((w.alloc (.cells #[.slice a sizes.length ca] 27)).alloc (.cells #[.int .i64 (K : Nat)] 3)).alloc (.cells (madeCells #[.int .i64 0] vars.length) 3)).alloc (.cells #[.slice (some ⟨w.heap.size + 1 + 1, 0, none⟩) vars.length vars.length] 27)).alloc (.cells #[.slice b vars.length cb] 27)) := ⟨_, rfl⟩
  have hsz0 : W0.heap.size = w.heap.size + 1 + 1 + 1 + 1 + 1 := by rw [hW0]; simp
  have b0 : Boxed W0 w.heap.size 27 (.slice a sizes.length ca) := by rw [hW0]; exact ((((Boxed.new w _ _).alloc _).alloc _).alloc _).alloc _
  have b1 : Boxed W0 (w.heap.size + 1) 3 (.int .i64 (K : Nat)) := by
    have h := ((((Boxed.new (w.alloc (.cells #[.slice a sizes.length ca] 27)) 3 (.int .i64 (K : Nat))).alloc (.cells (madeCells #[.int .i64 0] vars.length) 3)).alloc (.cells #[.slice (some ⟨w.heap.size + 1 + 1, 0, none⟩) vars.length vars.length] 27)).alloc (.cells #[.slice b vars.length cb] 27))
    rw [World.size_alloc] at h
    rw [hW0]; exact h
  have r2 : RowI W0 (w.heap.size + 1 + 1) (List.replicate vars.length 0) := by
    have h := ((made_row ((w.alloc (.cells #[.slice a sizes.length ca] 27)).alloc (.cells #[.int .i64 (K : Nat)] 3)) vars.length).alloc (.cells #[.slice (some ⟨w.heap.size + 1 + 1, 0, none⟩) vars.length vars.length] 27)).alloc (.cells #[.slice b vars.length cb] 27)
    rw [World.size_alloc, World.size_alloc] at h
    rw [hW0]; exact h
  have b3 : Boxed W0 (w.heap.size + 1 + 1 + 1) 27 (.slice (some ⟨w.heap.size + 1 + 1, 0, none⟩) vars.length vars.length) := by
    have h := (Boxed.new (((w.alloc (.cells #[.slice a sizes.length ca] 27)).alloc (.cells #[.int .i64 (K : Nat)] 3)).alloc (.cells (madeCells #[.int .i64 0] vars.length) 3)) 27 (.slice (some ⟨w.heap.size + 1 + 1, 0, none⟩) vars.length vars.length)).alloc (.cells #[.slice b vars.length cb] 27)
    rw [World.size_alloc, World.size_alloc, World.size_alloc] at h
    rw [hW0]; exact h
  have b4 : Boxed W0 (w.heap.size + 1 + 1 + 1 + 1) 27 (.slice b vars.length cb) := by
    have h := Boxed.new ((((w.alloc (.cells #[.slice a sizes.length ca] 27)).alloc (.cells #[.int .i64 (K : Nat)] 3)).alloc (.cells (madeCells #[.int .i64 0] vars.length) 3)).alloc (.cells #[.slice (some ⟨w.heap.size + 1 + 1, 0, none⟩) vars.length vars.length] 27)) 27 (.slice b vars.length cb)
    rw [World.size_alloc, World.size_alloc, World.size_alloc, World.size_alloc] at h
    rw [hW0]; exact h
  have hB0 : Below w.heap.size w W0 := by
    rw [hW0]
    exact (((((Below.refl _ w).alloc (Nat.le_refl _) _).alloc (by simp) _).alloc (by simp; omega) _).alloc (by simp; omega) _).alloc (by simp; omega) _
  rw [← hW0]
  clear hW0
  refine wpIn_rangeFunc_ownG (α := At vars) rfl (by omega) (gf := 125) (lb := #[.pointer (some ⟨w.heap.size + 1 + 1 + 1 + 1, 0, none⟩)]) rfl trivial (enters_of Tryz.func125 (by kernel_rfl) rfl)
    (backward_stops 5 (by omega) (w.heap.size + 1 + 1 + 1 + 1) w.heap.size b cb vars (by omega) W0 (by omega) (by omega) b4.cell (HV.out.toB.below hB0)) KeepsB.t (KeepsB.b (by omega) (by omega)) (Below.refl _ _) (fun _ => rfl)
    (fun (pre : List (At vars)) V => Boxed V w.heap.size 27 (.slice a sizes.length ca) ∧ Boxed V (w.heap.size + 1) 3 (.int .i64 ((asgF (toN sizes) (toN vars) K vars.length (pre.map (·.1))).1 : Nat)) ∧ RowI V (w.heap.size + 1 + 1) (asgF (toN sizes) (toN vars) K vars.length (pre.map (·.1))).2 ∧ Boxed V (w.heap.size + 1 + 1 + 1) 27 (.slice (some ⟨w.heap.size + 1 + 1, 0, none⟩) vars.length vars.length) ∧ Boxed V (w.heap.size + 1 + 1 + 1 + 1) 27 (.slice b vars.length cb) ∧ Below w.heap.size w V)
    (fun _ _ _ => False)
    (OwnFrom.and (Own.from (boxed_own _ _ (fun _ => _)) _) (OwnFrom.and (Own.from (boxed_own _ _ (fun pre : List (At vars) => .int .i64 ((asgF (toN sizes) (toN vars) K vars.length (pre.map (·.1))).1 : Nat))) _) (OwnFrom.and (Own.from (row_own _ (fun pre : List (At vars) => (asgF (toN sizes) (toN vars) K vars.length (pre.map (·.1))).2)) _) (OwnFrom.and (Own.from (boxed_own _ _ (fun _ => _)) _) (OwnFrom.and (Own.from (boxed_own _ _ (fun _ => _)) _) (ownFrom_below (Nat.le_refl _) (by omega)))))))
    (fun _ _ _ _ _ hs _ _ => hs)
    ⟨b0, b1, r2, b3, b4, hB0⟩
    (fun x => { tmps := #[.slice a sizes.length ca, .slice b vars.length cb, .int .i64 (K : Nat), .pointer (some ⟨w.heap.size, 0, none⟩), undef, .pointer (some ⟨w.heap.size + 1, 0, none⟩), .slice none 0 0, .pointer (some ⟨w.heap.size + 1 + 1 + 1, 0, none⟩), .int .i64 (x.1 : Nat), .int .i64 (vars[x.1]'x.2), .slice b vars.length cb, .int .i64 (vars.length : Nat), .slice (some ⟨w.heap.size + 1 + 1, 0, none⟩) vars.length vars.length, .slice b vars.length cb, .func (.func 125) #[] #[.pointer (some ⟨w.heap.size + 1 + 1 + 1 + 1, 0, none⟩)], .int .i64 (x.1 : Nat), .int .i64 (vars[x.1]'x.2), undef, undef, undef, undef, undef, undef, undef, undef, undef, undef, undef, undef, undef, undef, undef, undef], defers := [] }) ?assign ?body ?done ?stop
  case assign =>
    intro l x V K hK
    gi_wp2
    exact hK
  case body =>
    rintro l pre ⟨i, hi⟩ V ⟨h0, h1, h2, h3, h4, hB⟩ hlt
    obtain ⟨hvi, hvn⟩ := HUP.out.nat hi
    have HST : Hid (asgF (toN sizes) (toN vars) K vars.length ((pre ++ [(⟨i, hi⟩ : At vars)]).map (·.1)) = ((asgF (toN sizes) (toN vars) K vars.length (pre.map (·.1))).1 / sz (toN sizes) vars[i].toNat, (asgF (toN sizes) (toN vars) K vars.length (pre.map (·.1))).2.set i ((asgF (toN sizes) (toN vars) K vars.length (pre.map (·.1))).1 % sz (toN sizes) vars[i].toNat))) := by
      show _ = _
      rw [List.map_append, List.map_cons, List.map_nil, asgF_snoc, bst, getN_eq (show i < (toN vars).length by rw [toN_length]; exact hi), toN_get hi]
    obtain ⟨hpk, hpl⟩ := asgF_le (toN sizes) (toN vars) K vars.length (pre.map (·.1))
    have hz := sz_pos HFI.out.pos vars[i].toNat
    have hz4 := HFI.out.sz_le vars[i].toNat
    generalize hV : vars[i].toNat = v at *
    rw [← hvi]
    obtain ⟨g', o', rfl, hg', c1⟩ := (HS.out.below hB) v hvn
    rw [← HFI.out.sz_eq hvn] at c1
    have hg2 : g' < w.heap.size := by
      obtain ⟨g3, o3, e3, h3, _⟩ := HS.out v hvn
      cases e3
      exact h3
    clear hvi hV
    generalize asgF (toN sizes) (toN vars) K vars.length (pre.map (·.1)) = st at *
    obtain ⟨p, at0⟩ := st
    simp only at h1 h2 hpk hpl HST
    generalize sz (toN sizes) v = s0 at *
    have hrow := h2.cell i (by omega)
    have hfz := h2.fz i
    have k0 := h0.cell
    have k1 := h1.cell
    have k3 := h3.cell
    have f1 := h1.frozen
    have hq1 : (p : Int) % (s0 : Int) = ((p % s0 : Nat) : Int) := (Int.natCast_emod _ _).symm
    have hq2 : (p : Int) / (s0 : Int) = ((p / s0 : Nat) : Int) := (Int.natCast_ediv _ _).symm
    have hm1 : p % s0 ≤ 65536 := Nat.le_trans (Nat.mod_le _ _) (by omega)
    have hm2 : p / s0 ≤ 65536 := Nat.le_trans (Nat.div_le_self _ _) (by omega)
    generalize p % s0 = mm at *
    generalize p / s0 = dd at *
    have hz1 : ¬ (s0 : Int) = 0 := by omega
    have hne1 : ¬ w.heap.size + 1 + 1 = w.heap.size + 1 := by omega
    have hne2 : ¬ w.heap.size + 1 = w.heap.size + 1 + 1 := by omega
    have hpi : i < at0.length := by omega
    generalize at0[i] = z at *
    have hw1 : IntKind.i64.wrap ((p : Int) % (s0 : Int)) = (p : Int) % (s0 : Int) := by rw [hq1, IntKind.wrap_i64]; omega
    have hw2 : IntKind.i64.wrap ((p : Int) / (s0 : Int)) = (p : Int) / (s0 : Int) := by rw [hq2, IntKind.wrap_i64]; omega
    have HQ1 := hid hq1
    have HQ2 := hid hq2
    clear hq1 hq2
    clear hmk b0 b1 r2 b3 b4 hB0 hsz0 hdl HALL HUP HFI HV hsm hK hpl
    gi_wp2_with fail
    refine region_round (fun u => u.cell? ⟨w.heap.size + 1 + 1 + 1, 0, none⟩ = some (.slice (some ⟨w.heap.size + 1 + 1, 0, none⟩) vars.length vars.length) ∧ u.cell? ⟨w.heap.size + 1, 0, none⟩ = some (.int .i64 (p : Nat)) ∧ u.cell? ⟨w.heap.size, 0, none⟩ = some (.slice (some ⟨g', o', none⟩) sizes.length ca) ∧ u.cell? ⟨g', o' + v, none⟩ = some (.int .i64 (s0 : Nat))) (by kernel_rfl) (by kernel_rfl) (fun ⟨_, _, h⟩ => h) ⟨k3, k1, k0, c1⟩ ?_
    intro hSd
    refine wpAnyH_take (i := 0) (oi := _) (v := .slice (some ⟨w.heap.size + 1 + 1, 0, none⟩) vars.length vars.length) rfl (by kernel_rfl) (by kernel_rfl) (by kernel_rfl) (fun _ _ _ h => h) (Or.inl ⟨by rfl, ?_⟩) (by assumption) ?_
    · intro u hSu
      obtain ⟨s1, s2, s3, s4⟩ := hSu
      simp only [List.getElem_toArray, List.getElem_cons_zero]
      go_simp
    simp only [List.getElem_toArray, List.getElem_cons_zero, Act.put, List.setIfInBounds_toArray, List.set_cons_zero, List.set_cons_succ]
    refine wpAnyH_take (i := 1) (oi := _) (v := .int .i64 (i : Nat)) rfl (by kernel_rfl) (by kernel_rfl) (by kernel_rfl) (fun _ _ _ h => h) (Or.inl ⟨by rfl, ?_⟩) (by assumption) ?_
    · intro u hSu
      obtain ⟨s1, s2, s3, s4⟩ := hSu
      simp only [List.getElem_toArray, List.getElem_cons_zero, List.getElem_cons_succ]
      go_simp
    simp only [List.getElem_toArray, List.getElem_cons_zero, List.getElem_cons_succ, Act.put, List.setIfInBounds_toArray, List.set_cons_zero, List.set_cons_succ]
    refine wpAnyH_take (i := 2) (oi := _) (v := .int .i64 (p : Nat)) rfl (by kernel_rfl) (by kernel_rfl) (by kernel_rfl) (fun _ _ _ h => h) (Or.inl ⟨by rfl, ?_⟩) (by assumption) ?_
    · intro u hSu
      obtain ⟨s1, s2, s3, s4⟩ := hSu
      simp only [List.getElem_toArray, List.getElem_cons_zero, List.getElem_cons_succ]
      go_simp
    simp only [List.getElem_toArray, List.getElem_cons_zero, List.getElem_cons_succ, Act.put, List.setIfInBounds_toArray, List.set_cons_zero, List.set_cons_succ]
    refine wpAnyH_take (i := 3) (oi := _) (v := .slice (some ⟨g', o', none⟩) sizes.length ca) rfl (by kernel_rfl) (by kernel_rfl) (by kernel_rfl) (fun _ _ _ h => h) (Or.inl ⟨by rfl, ?_⟩) (by assumption) ?_
    · intro u hSu
      obtain ⟨s1, s2, s3, s4⟩ := hSu
      simp only [List.getElem_toArray, List.getElem_cons_zero, List.getElem_cons_succ]
      go_simp
    simp only [List.getElem_toArray, List.getElem_cons_zero, List.getElem_cons_succ, Act.put, List.setIfInBounds_toArray, List.set_cons_zero, List.set_cons_succ]
    refine wpAnyH_take (i := 4) (oi := _) (v := .int .i64 (v : Nat)) rfl (by kernel_rfl) (by kernel_rfl) (by kernel_rfl) (fun _ _ _ h => h) (Or.inl ⟨by rfl, ?_⟩) (by assumption) ?_
    · intro u hSu
      obtain ⟨s1, s2, s3, s4⟩ := hSu
      simp only [List.getElem_toArray, List.getElem_cons_zero, List.getElem_cons_succ]
      go_simp
    simp only [List.getElem_toArray, List.getElem_cons_zero, List.getElem_cons_succ, Act.put, List.setIfInBounds_toArray, List.set_cons_zero, List.set_cons_succ]
    refine wpAnyH_take (i := 5) (oi := _) (v := .pointer (some ⟨g', o' + v, none⟩)) rfl (by kernel_rfl) (by kernel_rfl) (by kernel_rfl) (fun _ _ _ h => h) (Or.inl ⟨by rfl, ?_⟩) (by assumption) ?_
    · intro u hSu
      obtain ⟨s1, s2, s3, s4⟩ := hSu
      simp only [List.getElem_toArray, List.getElem_cons_zero, List.getElem_cons_succ]
      go_simp
    simp only [List.getElem_toArray, List.getElem_cons_zero, List.getElem_cons_succ, Act.put, List.setIfInBounds_toArray, List.set_cons_zero, List.set_cons_succ]
    refine wpAnyH_take (i := 6) (oi := _) (v := .int .i64 (s0 : Nat)) rfl (by kernel_rfl) (by kernel_rfl) (by kernel_rfl) (fun _ _ _ h => h) (Or.inl ⟨by rfl, ?_⟩) (by assumption) ?_
    · intro u hSu
      obtain ⟨s1, s2, s3, s4⟩ := hSu
      simp only [List.getElem_toArray, List.getElem_cons_zero, List.getElem_cons_succ]
      go_simp
    simp only [List.getElem_toArray, List.getElem_cons_zero, List.getElem_cons_succ, Act.put, List.setIfInBounds_toArray, List.set_cons_zero, List.set_cons_succ]
    refine wpAnyH_take (i := 7) (oi := _) (v := .int .i64 ((p : Int) % (s0 : Int))) rfl (by kernel_rfl) (by kernel_rfl) (by kernel_rfl) (fun _ _ _ h => h) (Or.inl ⟨by rfl, ?_⟩) (by assumption) ?_
    · intro u hSu
      obtain ⟨s1, s2, s3, s4⟩ := hSu
      simp only [List.getElem_toArray, List.getElem_cons_zero, List.getElem_cons_succ]
      go_simp
      rw [if_neg (show ¬ s0 = 0 by omega), Int.tmod_eq_emod_of_nonneg (Int.natCast_nonneg _)]
    simp only [List.getElem_toArray, List.getElem_cons_zero, List.getElem_cons_succ, Act.put, List.setIfInBounds_toArray, List.set_cons_zero, List.set_cons_succ]
    refine wpAnyH_take (i := 8) (oi := _) (v := .pointer (some ⟨w.heap.size + 1 + 1, i, none⟩)) rfl (by kernel_rfl) (by kernel_rfl) (by kernel_rfl) (fun _ _ _ h => h) (Or.inl ⟨by rfl, ?_⟩) (by assumption) ?_
    · intro u hSu
      obtain ⟨s1, s2, s3, s4⟩ := hSu
      simp only [List.getElem_toArray, List.getElem_cons_zero, List.getElem_cons_succ]
      go_simp
    simp only [List.getElem_toArray, List.getElem_cons_zero, List.getElem_cons_succ, Act.put, List.setIfInBounds_toArray, List.set_cons_zero, List.set_cons_succ]
    refine wpAnyH_ready (rs := [9]) (by kernel_rfl) (by simp) (AllReadyH.cons rfl ?_ AllReadyH.nil)
    intro K' hK'
    simp only [List.getElem_toArray, List.getElem_cons_zero, List.getElem_cons_succ]
    go_simp
    have far : ∀ (b j : Nat) (y : Value), ¬ w.heap.size + 1 + 1 = b → (V.setCell ⟨w.heap.size + 1 + 1, i, none⟩ y).drew.cell? ⟨b, j, none⟩ = V.cell? ⟨b, j, none⟩ := fun b j y hb => World.cell?_setCell_other _ _ _ _ (fun e => hb (by cases e; rfl))
    refine hK'.out _ _ ⟨(far _ _ _ (by omega)).trans k3, (far _ _ _ (by omega)).trans k1, (far _ _ _ (by omega)).trans k0, (far _ _ _ (by omega)).trans c1⟩ (fun _ => wpAnyH_done (by kernel_rfl) ?_ _)
    clear hK' K' hSd
    have m0 := (far w.heap.size 0 (.int .i64 ((p : Int) % (s0 : Int))) (by omega)).trans k0
    have m1 := (far (w.heap.size + 1) 0 (.int .i64 ((p : Int) % (s0 : Int))) (by omega)).trans k1
    have m2 := (far g' (o' + v) (.int .i64 ((p : Int) % (s0 : Int))) (by omega)).trans c1
    have hr1 := h2.set i mm
    rw [← HQ1.out] at hr1
    have q0 : Boxed (V.setCell ⟨w.heap.size + 1 + 1, i, none⟩ (.int .i64 ((p : Int) % (s0 : Int)))).drew w.heap.size 27 (.slice (some ⟨g', o', none⟩) sizes.length ca) := boxed_off h0 _ i _ (by omega)
    have q1 : Boxed (V.setCell ⟨w.heap.size + 1 + 1, i, none⟩ (.int .i64 ((p : Int) % (s0 : Int)))).drew (w.heap.size + 1) 3 (.int .i64 (p : Nat)) := boxed_off h1 _ i _ (by omega)
    have q3 : Boxed (V.setCell ⟨w.heap.size + 1 + 1, i, none⟩ (.int .i64 ((p : Int) % (s0 : Int)))).drew (w.heap.size + 1 + 1 + 1) 27 (.slice (some ⟨w.heap.size + 1 + 1, 0, none⟩) vars.length vars.length) := boxed_off h3 _ i _ (by omega)
    have q4 : Boxed (V.setCell ⟨w.heap.size + 1 + 1, i, none⟩ (.int .i64 ((p : Int) % (s0 : Int)))).drew (w.heap.size + 1 + 1 + 1 + 1) 27 (.slice b vars.length cb) := boxed_off h4 _ i _ (by omega)
    have q2 : RowI (V.setCell ⟨w.heap.size + 1 + 1, i, none⟩ (.int .i64 ((p : Int) % (s0 : Int)))).drew (w.heap.size + 1 + 1) (at0.set i mm) := hr1
    have qB : Below w.heap.size w (V.setCell ⟨w.heap.size + 1 + 1, i, none⟩ (.int .i64 ((p : Int) % (s0 : Int)))).drew := (hB.setCell (p := ⟨w.heap.size + 1 + 1, i, none⟩) (by simp; omega) _).drew
    have qK : Below w.heap.size V (V.setCell ⟨w.heap.size + 1 + 1, i, none⟩ (.int .i64 ((p : Int) % (s0 : Int)))).drew := ((Below.refl w.heap.size V).setCell (p := ⟨w.heap.size + 1 + 1, i, none⟩) (by simp; omega) _).drew
    have qO : KeepsOthers V (V.setCell ⟨w.heap.size + 1 + 1, i, none⟩ (.int .i64 ((p : Int) % (s0 : Int)))).drew := (KeepsOthers.setCell V _ _).trans (KeepsOthers.drew _)
    have fU := q1.frozen
    have j4 : KeepsBox (w.heap.size + 1 + 1 + 1 + 1) V (V.setCell ⟨w.heap.size + 1 + 1, i, none⟩ (.int .i64 ((p : Int) % (s0 : Int)))).drew := q4.cell.trans h4.cell.symm
    clear far
    generalize (V.setCell ⟨w.heap.size + 1 + 1, i, none⟩ (.int .i64 ((p : Int) % (s0 : Int)))).drew = U at *
    gi_wp2_with fail
    refine region_round (fun u => u.cell? ⟨w.heap.size, 0, none⟩ = some (.slice (some ⟨g', o', none⟩) sizes.length ca) ∧ u.cell? ⟨g', o' + v, none⟩ = some (.int .i64 (s0 : Nat))) (by kernel_rfl) (by kernel_rfl) (fun ⟨_, _, h⟩ => h) ⟨m0, m2⟩ ?_
    intro hSd
    refine wpAnyH_take (i := 1) (oi := _) (v := .slice (some ⟨g', o', none⟩) sizes.length ca) rfl (by kernel_rfl) (by kernel_rfl) (by kernel_rfl) (fun _ _ _ h => h) (Or.inl ⟨by rfl, ?_⟩) (by assumption) ?_
    · intro u hSu
      obtain ⟨s3, s4⟩ := hSu
      simp only [List.getElem_toArray, List.getElem_cons_zero, List.getElem_cons_succ]
      go_simp
    simp only [List.getElem_toArray, List.getElem_cons_zero, List.getElem_cons_succ, Act.put, List.setIfInBounds_toArray, List.set_cons_zero, List.set_cons_succ]
    refine wpAnyH_take (i := 2) (oi := _) (v := .int .i64 (v : Nat)) rfl (by kernel_rfl) (by kernel_rfl) (by kernel_rfl) (fun _ _ _ h => h) (Or.inl ⟨by rfl, ?_⟩) (by assumption) ?_
    · intro u hSu
      obtain ⟨s3, s4⟩ := hSu
      simp only [List.getElem_toArray, List.getElem_cons_zero, List.getElem_cons_succ]
      go_simp
    simp only [List.getElem_toArray, List.getElem_cons_zero, List.getElem_cons_succ, Act.put, List.setIfInBounds_toArray, List.set_cons_zero, List.set_cons_succ]
    refine wpAnyH_take (i := 3) (oi := _) (v := .pointer (some ⟨g', o' + v, none⟩)) rfl (by kernel_rfl) (by kernel_rfl) (by kernel_rfl) (fun _ _ _ h => h) (Or.inl ⟨by rfl, ?_⟩) (by assumption) ?_
    · intro u hSu
      obtain ⟨s3, s4⟩ := hSu
      simp only [List.getElem_toArray, List.getElem_cons_zero, List.getElem_cons_succ]
      go_simp
    simp only [List.getElem_toArray, List.getElem_cons_zero, List.getElem_cons_succ, Act.put, List.setIfInBounds_toArray, List.set_cons_zero, List.set_cons_succ]
    refine wpAnyH_take (i := 4) (oi := _) (v := .int .i64 (s0 : Nat)) rfl (by kernel_rfl) (by kernel_rfl) (by kernel_rfl) (fun _ _ _ h => h) (Or.inl ⟨by rfl, ?_⟩) (by assumption) ?_
    · intro u hSu
      obtain ⟨s3, s4⟩ := hSu
      simp only [List.getElem_toArray, List.getElem_cons_zero, List.getElem_cons_succ]
      go_simp
    simp only [List.getElem_toArray, List.getElem_cons_zero, List.getElem_cons_succ, Act.put, List.setIfInBounds_toArray, List.set_cons_zero, List.set_cons_succ]
    refine wpAnyH_ready (rs := [0]) (by kernel_rfl) (by simp) (AllReadyH.cons rfl ?_ AllReadyH.nil)
    intro K' hK'
    simp only [List.getElem_toArray, List.getElem_cons_zero]
    go_simp
    refine hK'.out _ _ hSd (fun _ => ?_)
    clear hK' K'
    refine wpAnyH_take (i := 5) (oi := _) (v := .int .i64 ((p : Int) / (s0 : Int))) rfl (by kernel_rfl) (by kernel_rfl) (by kernel_rfl) (fun _ _ _ h => h) (Or.inl ⟨by rfl, ?_⟩) (by assumption) ?_
    · intro u hSu
      obtain ⟨s3, s4⟩ := hSu
      simp only [List.getElem_toArray, List.getElem_cons_zero, List.getElem_cons_succ]
      go_simp
      omega
    simp only [List.getElem_toArray, List.getElem_cons_zero, List.getElem_cons_succ, Act.put, List.setIfInBounds_toArray, List.set_cons_zero, List.set_cons_succ]
    refine wpAnyH_ready (rs := [6]) (by kernel_rfl) (by simp) (AllReadyH.cons rfl ?_ AllReadyH.nil)
    intro K' hK'
    simp only [List.getElem_toArray, List.getElem_cons_zero, List.getElem_cons_succ]
    go_simp
    refine hK'.out _ _ ⟨(boxed_off q0 (w.heap.size + 1) 0 _ (by omega)).cell, (World.cell?_setCell_other _ _ _ _ (fun e => (show ¬ w.heap.size + 1 = g' by omega) (congrArg Addr.block e))).trans m2⟩ (fun _ => wpAnyH_done (by kernel_rfl) ?_ _)
    clear hK' K' hSd
    gi_wp2
    rw [HQ2.out]
    refine ⟨(qO.trans ((KeepsOthers.setCell U _ _).trans (KeepsOthers.drew _))).from _, ⟨j4.t ((boxed_off q4 (w.heap.size + 1) 0 (.int .i64 (dd : Nat)) (by omega)).cell.trans q4.cell.symm), (qK.setCell (p := ⟨w.heap.size + 1, 0, none⟩) (by simp) _).drew⟩, ?_⟩
    refine ⟨boxed_off q0 _ 0 _ (by omega), ?_, ?_, boxed_off q3 _ 0 _ (by omega), boxed_off q4 _ 0 _ (by omega), (qB.setCell (p := ⟨w.heap.size + 1, 0, none⟩) (by simp) _).drew⟩
    · rw [HST.out]; exact q1.set _
    · rw [HST.out]; exact q2.off _ 0 _ (by omega)
  case done =>
    rintro D ys V hD hys ⟨h0, h1, h2, h3, h4, hB⟩ hK
    rw [hys, HALL.out] at h2
    have hc := h3.cell
    gi_wp2
    refine ⟨by simp, .inl ⟨_, _, rfl, run_takeDeferred hK, ?_⟩⟩
    refine ⟨_, results_tmp rfl _ _ _, ?_⟩
    refine ⟨w.heap.size + 1 + 1, ⟨vars.length, rfl⟩, by omega, ?_, hB.trans (belowK_b (w := w) (Nat.le_refl _) V D _ _ (by omega) hK rfl rfl)⟩
    have h2' : RowI (V.putObj D (.deferred none)) (w.heap.size + 1 + 1) (digs (toN sizes) (toN vars) K) := row_own (w.heap.size + 1 + 1) (fun (_ : Unit) => digs (toN sizes) (toN vars) K) () V _ (some D) h2 (grownBy_putObj' V D _) (fun r e => by cases e; exact ⟨_, hK, rfl⟩)
    exact h2'
  case stop =>
    rintro D c pre V _ _ h _
    exact h.elim
set_option maxRecDepth 100000 in
set_option maxHeartbeats 400000 in
theorem tWhere_own (a b : Option Addr) (ca cb K : Nat) (sizes vars : List Int) (w : World) (hs : IntS w a sizes) (hv : IntS w b vars) (hfi : Fine sizes) (hup : Up vars sizes.length) (hK : K < cnt (toN sizes) (toN vars)) :
    Calls Tryz.prog 27 #[.slice a sizes.length ca, .slice b vars.length cb, .int .i64 (K : Nat)] w fun e w' => ∃ (g : Nat) (cc : Nat), e = .returned (.tuple #[.slice (some ⟨g, 0, none⟩) vars.length cc, .int .i64 0]) ∧ w.heap.size ≤ g ∧ RowI w' g (digs (toN sizes) (toN vars) K) ∧ Below w.heap.size w w' := by
  have hl8 := hfi.eight
  have hvl := hup.length
  have HS := hid hs
  have HV := hid hv
  have hcb : countB sizes vars = true := countB_of hfi hup
  have HC := hid (fun V h1 h2 => tCount_any a b ca cb sizes vars V h1 h2 (by omega) (by omega))
  rw [countA_yes hcb] at HC
  simp only at HC
  have HA := hid (fun V h1 h2 => assignment_own a b ca cb sizes vars K V h1 h2 hfi hup hK)
  have hdl : (digs (toN sizes) (toN vars) K).length = vars.length := by rw [digs_length, toN_length]
  rw [hdl] at HA
  clear hs hv hcb hfi hup hdl
  generalize digs (toN sizes) (toN vars) K = ds at *
  generalize cnt (toN sizes) (toN vars) = N0 at *
  have hk0 : (0 : Int) ≤ (K : Int) := by omega
  have hk1 : (K : Int) < (N0 : Int) := by omega
  go_enter Tryz.func27, Tryz.ntmps27
  go_wp2_with fail
  refine (HC.out _ HS.out HV.out).mono ?_
  rintro e w1 ⟨rfl, hb1⟩
  go_wp2_with fail
  refine (HA.out _ (HS.out.below hb1) (HV.out.below hb1)).mono ?_
  rintro e w2 ⟨c, cc, rfl, hge, hi2, hb2⟩
  have hs1 := hb1.size
  go_wp2
  go_ret2
  exact ⟨c, cc, rfl, by omega, hi2, hb1.trans (hb2.mono hb1.size)⟩
end Go.Proofs.YtncccbdledcibaaGreatDoor


/- Nets: what Given of package net does to memory. -/
namespace Go.Proofs.YtncccbdledcibaaGreatDoor
open Go.RowKit Go.Shelf Go.Sort Go.Lib

theorem src_ints {w : World} {ad : Addr} {la : List Int} (hi : IntS w (some ad) la) : ∀ j u, (la.map (Value.int .i64))[j]? = some u → w.cell? (ad.add j) = some u := by
  intro j u hj
  rw [List.getElem?_map] at hj
  cases hq : la[j]? with
  | none => rw [hq] at hj; cases hj
  | some z =>
    rw [hq] at hj
    cases hj
    obtain ⟨hj1, hj2⟩ := List.getElem?_eq_some_iff.1 hq
    obtain ⟨g, o', e, _, hc⟩ := hi j hj1
    cases e
    rw [← hj2]
    rw [Addr.add]
    by_cases h0 : j = 0
    · subst h0; simpa using hc
    · simpa [h0] using hc
theorem holds_row {w : World} {g : Nat} {cs : Array Value} {l : List Int} (h : w.heap[g]? = some (.cells cs 3 (0, 0))) (hl : ∀ j (hj : j < l.length), cs[j]? = some (.int .i64 l[j])) : Holds (Value.int .i64) w g 0 l.toArray := fun j hj => by
  have hj' : j < l.length := by simpa using hj
  refine ⟨?_, frozen_of_row w g (0 + j) _ _ h⟩
  rw [Nat.zero_add, cell_of_row w g j _ _ (0, 0) h, hl j hj', getElem!_pos l.toArray j hj]
  simp
/-- One that lies in memory of its own, and a list behind it. -/
theorem wp_append_one {w : World} {o : Oper} {a : Act} {K : Act → World → Prop} {Q : Exit → Act → World → Prop} (s x : Operand)
    (ho : o.op = .call { callee := .builtin .append, args := #[s, x], argTypes := #[27, 27] }) (gb : Nat) (z : Int) (la : List Int) (hs : a.eval s = .slice (some ⟨gb, 0, none⟩) 1 1) (hown : w.heap[gb]? = some (.cells #[.int .i64 z] 3 (0, 0))) (p : Option Addr) (ca : Nat) (hx : a.eval x = .slice p la.length ca) (hi : IntS w p la) (hp : p = none → ca = 0) (hlen : la.length ≤ 100000)
    (h : ∀ D cap w', (D = gb ∨ w.heap.size ≤ D) → D < w'.heap.size → Holds (Value.int .i64) w' D 0 ([z] ++ la).toArray → w.grownBy w' (some gb) → K (a.put o.dst (.slice (some ⟨D, 0, none⟩) ([z] ++ la).length cap)) w') : o.wp Tryz.prog a w K Q := by
  obtain ⟨i0, hi0, hz0, hz1, hz2⟩ := info_parts Tryz.infoInt
  have hgb : gb < w.heap.size := (Array.getElem?_eq_some_iff.1 hown).1
  have hone : Holds (Value.int .i64) w gb 0 ([z] ++ []).toArray := holds_row hown fun j hj => by
    have : j = 0 := by simp at hj; omega
    subst this
    rfl
  have hnil : ∀ (hla : la = []), K (a.put o.dst (.slice (some ⟨gb, 0, none⟩) 1 1)) w := fun hla => by
    subst hla
    exact h gb 1 w (.inl rfl) hgb hone ⟨rfl, rfl, rfl, Nat.le_refl _, fun _ _ _ => rfl⟩
  cases p with
  | none =>
    have hl : la = [] := by
      cases la with
      | nil => rfl
      | cons x l => obtain ⟨g, o, e, _⟩ := hi 0 (by simp); cases e
    have h0 := hp rfl
    have hk := hnil hl
    subst hl h0
    have hrow : w.ownsRow gb 3 1 (.slice (some ⟨gb, 0, none⟩) 1 1) 1 [.int .i64 z] := ⟨rfl, .inr ⟨gb, 1, _, rfl, Nat.le_refl _, hown, Nat.le_refl _, by unfold maxLen; omega, rfl, rfl⟩⟩
    have hrun := run_append_owned_none (P := Tryz.prog) (w := w) gb 27 o.type 3 i0 1 Tryz.underlying27 hi0 (.slice (some ⟨gb, 0, none⟩) 1 1) 1 _ hrow
    unfold Oper.wp
    simp [execOp, ho, resolve, invoke, builtin, hs, hx, hrun, Result.andThen]
    exact hk
  | some ad =>
    have hnews := src_ints hi
    have hl : (la.map (Value.int .i64)).length = la.length * i0.size := by rw [hz1]; simp
    by_cases hla : la = []
    · have hk := hnil hla
      subst hla
      have hrun := run_append_room_cells (P := Tryz.prog) (w := w) 27 o.type 3 i0 Tryz.underlying27 hi0 gb 0 1 1 ad 0 ca [] (by simp) (by simp) (by simp) (Nat.le_refl _) (by simp) (by simp)
      unfold Oper.wp execOp
      simp only [ho, resolve, invoke, builtin, Sem.run_bind, Sem.run_pure, Result.andThen_ok, List.map_toArray, List.map_cons, List.map_nil, hs, hx, List.length_nil, hrun]
      exact hk
    · have hpos : 0 < la.length := List.length_pos_iff.2 hla
      have hrun := run_append_grow (P := Tryz.prog) w 27 o.type 3 i0 (.int .i64 0) Tryz.underlying27 hi0 hz0 ⟨gb, 0, none⟩ 1 1 [.int .i64 z] (by rw [hz1]; rfl) (fun j u hj => by
        match j, hj with
        | 0, hj => cases hj; rw [show (⟨gb, 0, none⟩ : Addr).add 0 = ⟨gb, 0, none⟩ from rfl, cell_of_row w gb 0 _ _ (0, 0) hown]; rfl
        | j + 1, hj => simp at hj) ad la.length ca (la.map (Value.int .i64)) hl hnews (by omega) (by omega) (growslice_fits (by omega) (by rw [hz2]; omega))
      unfold Oper.wp execOp
      simp only [ho, resolve, invoke, builtin, Sem.run_bind, Sem.run_pure, Result.andThen_ok, List.map_toArray, List.map_cons, List.map_nil, hs, hx, hrun]
      have hh := h w.heap.size (grownCap w (1 + la.length) 1 3) (w.drew.alloc (.cells ([Value.int .i64 z].toArray ++ (la.map (Value.int .i64)).toArray ++ Builtin.zeroCells (Value.int .i64 0).cells (grownCap w (1 + la.length) 1 3 - (1 + la.length))) 3)) (.inr (Nat.le_refl _)) (by simp) ?_ ⟨rfl, rfl, rfl, by simp, fun _ hk _ => Below.heap_alloc w.drew _ _ hk⟩
      · have e : ([z] ++ la).length = 1 + la.length := by simp; omega
        rw [e] at hh
        exact hh
      · refine holds_row (heap_alloc_new w.drew _) fun j hj => ?_
        rw [Array.getElem?_append_left (by simp at hj ⊢; omega)]
        simp only [List.append_toArray, List.getElem?_toArray]
        rw [show [Value.int .i64 z] ++ la.map (Value.int .i64) = ([z] ++ la).map (Value.int .i64) by simp, List.getElem?_map, List.getElem?_eq_getElem hj]
        rfl
set_option maxRecDepth 100000 in
set_option maxHeartbeats 400000 in
theorem rising_any (g cap : Nat) (l : List Int) (w : World) (hh : Holds (Value.int .i64) w g 0 l.toArray) (hg : g < w.heap.size) (hl : l.length ≤ 100000) :
    Calls Tryz.prog 26 #[.slice (some ⟨g, 0, none⟩) l.length cap] w fun e w' => e = .returned (.slice (some ⟨g, 0, none⟩) l.length cap) ∧ IntS w' (some ⟨g, 0, none⟩) (l.mergeSort fun x y => decide (x ≤ y)) ∧ w.grownBy w' (some g) := by
  have HSORT := hid (Tryz.slices_Sort_int g 0 cap l w hh hg (by omega))
  have hlen : (l.mergeSort fun x y => decide (x ≤ y)).length = l.length := List.length_mergeSort _
  generalize (l.mergeSort fun x y => decide (x ≤ y)) = zs at *
  have HH := hid hh
  clear hh
  go_enter Tryz.func26, Tryz.ntmps26
  go_wp2_with fail
  refine HSORT.out.mono ?_
  rintro e w2 ⟨rfl, q, os, rfl⟩
  have hsz : zs.toArray.size = l.toArray.size := by simp; exact hlen
  have hH2 : Holds (Value.int .i64) (grow (putRow (Value.int .i64) (Sort.ahead w q) g 0 zs.toArray) os) g 0 zs.toArray := fun j hj => by
    obtain ⟨h1, h2⟩ := holds_putRow (Value.int .i64) (Sort.ahead w q) g 0 _ zs.toArray HH.out hsz j hj
    have hgp : g < (putRow (Value.int .i64) (Sort.ahead w q) g 0 zs.toArray).heap.size := by rw [size_putRow]; exact hg
    refine ⟨(cell?_grow _ _ _ hgp).trans h1, ?_⟩
    rw [frozen?_grow _ _ _ hgp]
    exact h2
  have hgr := grownBy_sortedI (w := w) (g := g) (n := q) (os := os) zs.toArray
  have hgw : g < (grow (putRow (Value.int .i64) (Sort.ahead w q) g 0 zs.toArray) os).heap.size := Nat.lt_of_lt_of_le hg hgr.size
  generalize grow (putRow (Value.int .i64) (Sort.ahead w q) g 0 zs.toArray) os = w2 at *
  have HH2 := hid hH2
  clear hH2
  go_wp2
  go_ret
  exact ⟨rfl, holds_ints HH2.out hgw (fun j hj => ⟨by simpa using hj, by simp⟩), hgr⟩
/-- What Given holds while it tells cell by cell: the net's box and the result's, the sizes, the variables, the cells, the values. -/
structure GV (w : World) (x y z : Value) (G D C Ab : Nat) (S : List Nat) (U : List Int) (wr : World) (F : List Fr) (A : List Nat) : Prop where
  gk : GK w wr x y z
  szs : RowI wr G S
  us : IntS wr (some ⟨D, 0, none⟩) U
  cs : RowF wr C F
  vs : RowI wr Ab A
  oG : w.heap.size + 2 ≤ G
  oD : w.heap.size + 2 ≤ D
  oGC : G < C
  oDC : D < C
  oCA : C < Ab
theorem GV.step {w : World} {x y z : Value} {G D C Ab : Nat} {S : List Nat} {U : List Int} {wr wr' : World} {F : List Fr} {A : List Nat} (h : GV w x y z G D C Ab S U wr F A) (hb : Below wr.heap.size wr wr') : GV w x y z G D C Ab S U wr' F A :=
  ⟨h.gk.step hb, h.szs.below hb h.szs.lt, h.us.below hb, h.cs.below hb h.cs.lt, h.vs.below hb h.vs.lt, h.oG, h.oD, h.oGC, h.oDC, h.oCA⟩
theorem IntS.far {w : World} {g o : Nat} {l : List Int} (h : IntS w (some ⟨g, o, none⟩) l) (b j : Nat) (y : Value) (hne : g ≠ b) : IntS (w.setCell ⟨b, j, none⟩ y) (some ⟨g, o, none⟩) l := fun k hk => by
  obtain ⟨g', o', e, h2, h3⟩ := h k hk
  cases e
  exact ⟨g, o, rfl, by simpa using h2, (World.cell?_setCell_other _ _ _ _ (fun e => hne (by cases e; rfl))).trans h3⟩
theorem GK.far {w V : World} {x y z : Value} (h : GK w V x y z) (b j : Nat) (u : Value) (hb : w.heap.size + 2 ≤ b) : GK w (V.setCell ⟨b, j, none⟩ u) x y z :=
  ⟨⟨(Below.heap_setCell V ⟨b, j, none⟩ u w.heap.size (by show w.heap.size ≠ b; omega)).trans h.1.1, h.1.2.setCell (p := ⟨b, j, none⟩) (by show w.heap.size ≤ b; omega) u⟩, h.2.off b j u (by omega)⟩
theorem GV.setA {w : World} {x y z : Value} {G D C Ab : Nat} {S : List Nat} {U : List Int} {wr : World} {F : List Fr} {A : List Nat} (h : GV w x y z G D C Ab S U wr F A) (j k : Nat) : GV w x y z G D C Ab S U (wr.setCell ⟨Ab, j, none⟩ (.int .i64 (k : Nat))) F (A.set j k) := by
  have := h.oG; have := h.oD; have := h.oGC; have := h.oDC; have := h.oCA
  exact ⟨h.gk.far _ _ _ (by omega), h.szs.off _ _ _ (by omega), h.us.far _ _ _ (by omega), h.cs.off _ _ _ (by omega), h.vs.set _ _, h.oG, h.oD, h.oGC, h.oDC, h.oCA⟩
theorem GV.setC {w : World} {x y z : Value} {G D C Ab : Nat} {S : List Nat} {U : List Int} {wr : World} {F : List Fr} {A : List Nat} (h : GV w x y z G D C Ab S U wr F A) (k : Nat) (f : Fr) : GV w x y z G D C Ab S U (((wr.setCell ⟨C, k * 3, none⟩ (.bool f.1)).setCell ⟨C, k * 3 + 1, none⟩ (.string f.2.1)).setCell ⟨C, k * 3 + 2, none⟩ (.string f.2.2)) (F.set k f) A := by
  have := h.oG; have := h.oD; have := h.oGC; have := h.oDC; have := h.oCA
  exact ⟨((h.gk.far _ _ _ (by omega)).far _ _ _ (by omega)).far _ _ _ (by omega), ((h.szs.off _ _ _ (by omega)).off _ _ _ (by omega)).off _ _ _ (by omega), ((h.us.far _ _ _ (by omega)).far _ _ _ (by omega)).far _ _ _ (by omega), h.cs.put k f, ((h.vs.off _ _ _ (by omega)).off _ _ _ (by omega)).off _ _ _ (by omega), h.oG, h.oD, h.oGC, h.oDC, h.oCA⟩
end Go.Proofs.YtncccbdledcibaaGreatDoor

