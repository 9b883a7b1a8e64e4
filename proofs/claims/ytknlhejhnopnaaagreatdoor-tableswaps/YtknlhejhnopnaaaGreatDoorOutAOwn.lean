/- Package table: the closure of Out. -/
import Derived.Test.YtknlhejhnopnaaaGreatDoorFixBOwn
namespace Go.Proofs.YtknlhejhnopnaaaGreatDoor
open Go.RowKit Go.Shelf

theorem fits_mono {m n : Nat} {q : Rat} (h : Fits m q) (hm : m ≤ n) : Fits n q := by
  obtain ⟨A, D, h1, h2, h3, h4⟩ := h
  exact ⟨A, D, h1, h2, Nat.lt_of_lt_of_le h3 (pow_mono hm), Nat.lt_of_lt_of_le h4 (pow_mono hm)⟩
theorem great_one (f g : Fr) : great f g = f ∨ great f g = g := by
  rw [great]
  by_cases h : cmpQ (frQ f) (frQ g) < 0
  · rw [if_pos h]; exact .inr rfl
  · rw [if_neg h]; exact .inl rfl
theorem qF_size (q : Rat) : (qF q).2.1.size + (qF q).2.2.size = qw q := rfl
theorem outN_fits (most : Bool) (T : Nat → Fr) : ∀ k, (∀ x, x ≤ k → (T x).2.1.size + (T x).2.2.size + 2 ≤ 8192) → Fits ((k + 1) * 8192) (frQ (outN most T k))
  | 0, h => fits_mono (fits_val _ _ _) (by have := h 0 (Nat.le_refl _); show (T 0).2.1.size + (T 0).2.2.size + 1 ≤ _; omega)
  | k + 1, h => by
    have h1 := outN_fits most T k fun x hx => h x (by omega)
    have h2 : Fits 8191 (frQ (T (k + 1))) := fits_mono (fits_val _ _ _) (by have := h (k + 1) (Nat.le_refl _); omega)
    rw [outN]
    cases most with
    | true =>
      rw [if_pos rfl]
      rcases great_one (outN true T k) (T (k + 1)) with e | e
      · rw [e]; exact fits_mono h1 (by omega)
      · rw [e]; exact fits_mono h2 (by omega)
    | false =>
      rw [if_neg (by decide), frQ_qF]
      exact fits_mono (fits_add h1 h2) (by omega)
theorem out_ar1 (k : Nat) : 2 * ((k + 1) * 8192) ≤ 2 * ((k + 1 + 1) * 8192) := by omega
theorem out_ar2 (k : Nat) : 8192 ≤ 2 * ((k + 1 + 1) * 8192) := by omega
theorem great_size {f g : Fr} {A : Nat} (h1 : f.2.1.size + f.2.2.size ≤ A) (h2 : g.2.1.size + g.2.2.size ≤ A) : (great f g).2.1.size + (great f g).2.2.size ≤ A := by
  rcases great_one f g with e | e
  · rw [e]; exact h1
  · rw [e]; exact h2
theorem outN_size (most : Bool) (T : Nat → Fr) : ∀ k, (∀ x, x ≤ k → (T x).2.1.size + (T x).2.2.size + 2 ≤ 8192) → (outN most T k).2.1.size + (outN most T k).2.2.size ≤ 2 * ((k + 1) * 8192)
  | 0, h => by have := h 0 (Nat.le_refl _); rw [outN]; omega
  | k + 1, h => by
    have h1 := outN_size most T k fun x hx => h x (by omega)
    have h2 := h (k + 1) (Nat.le_refl _)
    have h3 := outN_fits most T (k + 1) h
    rw [outN] at h3 ⊢
    cases most with
    | true =>
      rw [if_pos rfl]
      exact great_size (Nat.le_trans h1 (out_ar1 k)) (Nat.le_trans (Nat.le_trans (Nat.le_add_right _ 2) h2) (out_ar2 k))
    | false =>
      rw [if_neg (by decide)] at h3 ⊢
      rw [frQ_qF] at h3
      have h4 := fits_qw h3
      rw [qF_size]
      exact h4
/-- A way to make two fractions one. -/
def Pairs (most : Bool) (pf : Nat) : Prop := (∀ args w, (callFunc pf args).run Tryz.prog w = .ok (.enter pf args) w) ∧ ∀ (f g : Fr) (V : World), f.2.1.size + f.2.2.size ≤ 100000 → g.2.1.size + g.2.2.size ≤ 100000 → Calls Tryz.prog pf #[frV f, frV g] V fun e w' => e = .returned (frV (if most then great f g else qF (frQ f + frQ g))) ∧ Below V.heap.size V w'
theorem pairs_sum : Pairs false 109 := ⟨enters_of Tryz.func109 (by kernel_rfl) rfl, fun f g V h1 h2 => fAdd_q (n := f.1) (m := g.1) (x := f.2.1) (y := f.2.2) (u := g.2.1) (v := g.2.2) (w := V) (frQ f + frQ g) rfl rfl rfl h1 h2⟩
theorem pairs_great : Pairs true 110 := ⟨enters_of Tryz.func110 (by kernel_rfl) rfl, fun f g V h1 h2 => greater_any f g V h1 h2⟩

set_option maxRecDepth 100000 in
set_option maxHeartbeats 400000 in
theorem out1_any (most : Bool) (pf : Nat) (hpf : Pairs most pf) (Bh Bs Bv Bt Bf : Nat) (a c : Option Addr) (ca cc : Nat) (sizes : List Int) (lb : Array Value) (l : List Fr) (k v n : Nat) (P : Nat → Nat) (hP : ∀ x, x < n → P x < l.length) (hn1 : 1 ≤ n) (hn4 : n ≤ 4) (hvs : v < sizes.length) (hnv : sizes[v] = (n : Int)) (w : World)
    (hBh : Bh < w.heap.size) (xh : w.cell? ⟨Bh, 0, none⟩ = some (.func (.func pf) #[] #[])) (hBs : Bs < w.heap.size) (xs : w.cell? ⟨Bs, 0, none⟩ = some (.slice a sizes.length ca)) (hBv : Bv < w.heap.size) (xv : w.cell? ⟨Bv, 0, none⟩ = some (.int .i64 (v : Nat))) (hBt : Bt < w.heap.size) (xc : w.cell? ⟨Bt, 1, none⟩ = some (.slice c l.length cc)) (hBf : Bf < w.heap.size) (xf : w.cell? ⟨Bf, 0, none⟩ = some (.func (.func 113) #[] lb)) (hs : IntS w a sizes) (hf : FrS w c l) (h1 : fw l ≤ 8192)
    (hc : ∀ x, x < n → ∀ V, Below w.heap.size w V → Calls Tryz.prog 113 (#[.int .i64 (k : Nat), .int .i64 (x : Nat)] ++ lb) V fun e w' => e = .returned (.int .i64 (P x : Nat)) ∧ Below V.heap.size V w') :
    Calls Tryz.prog 66 #[.int .i64 (k : Nat), .pointer (some ⟨Bh, 0, none⟩), .pointer (some ⟨Bs, 0, none⟩), .pointer (some ⟨Bv, 0, none⟩), .pointer (some ⟨Bt, 0, none⟩), .pointer (some ⟨Bf, 0, none⟩)] w fun e w' => e = .returned (frV (qF (frQ (outN most (fun x => celF l (P x)) (n - 1))))) ∧ Below w.heap.size w w' := by
  obtain ⟨g, o, rfl, hg, cs⟩ := hs v hvs
  rw [hnv] at cs
  have hts : ∀ x, x < n → (celF l (P x)).2.1.size + (celF l (P x)).2.2.size + 2 ≤ 8192 := fun x hx => Nat.le_trans (celF_size (hP x hx)) h1
  have hsz1 := outN_size most (fun x => celF l (P x)) (n - 1) fun x hx => hts x (by omega)
  have hJ : ∀ W, Below w.heap.size w W → ∀ Bk, Bk < W.heap.size → W.cell? ⟨Bk, 0, none⟩ = some (.int .i64 (k : Nat)) → Calls Tryz.prog 68 #[.agg #[.func (.func pf) #[] #[]], .int .i64 (n : Nat), .func (.func 69) #[] #[.pointer (some ⟨Bt, 0, none⟩), .pointer (some ⟨Bf, 0, none⟩), .pointer (some ⟨Bk, 0, none⟩)]] W fun e w' => e = .returned (frV (outN most (fun x => celF l (P x)) (n - 1))) ∧ Below W.heap.size W w' := by
    intro W hW Bk hBk xk
    refine joinF_any pf 69 #[] _ hpf.1 (enters_of Tryz.func69 (by kernel_rfl) rfl) n (fun x => celF l (P x)) (outN most (fun x => celF l (P x))) W hn1 (by omega) ?_ ?_ rfl
    · intro x hx V hb
      have hB := hW.trans (hb.mono hW.size)
      exact out11_any Bt Bf Bk c cc lb l k x (P x) (hP x hx) V (Nat.lt_of_lt_of_le hBt hB.size) ((hB.cell (p := ⟨Bt, 1, none⟩) hBt).trans xc) (Nat.lt_of_lt_of_le hBf hB.size) ((hB.cell (p := ⟨Bf, 0, none⟩) hBf).trans xf) (Nat.lt_of_lt_of_le hBk hb.size) ((hb.cell (p := ⟨Bk, 0, none⟩) hBk).trans xk) (hf.below hB) fun V' hb' => hc x hx V' (hB.trans (hb'.mono hB.size))
    · intro x hx V hb
      have e1 := outN_size most (fun x => celF l (P x)) x fun y hy => hts y (by omega)
      have e2 := hts (x + 1) hx
      exact hpf.2 _ _ V (by omega) (by show (celF l (P (x + 1))).2.1.size + (celF l (P (x + 1))).2.2.size ≤ _; omega)
  have HJ := hid hJ
  have HC := hid (fun V : World => Canon_q (w := V) (frQ (outN most (fun x => celF l (P x)) (n - 1))) rfl (show (outN most (fun x => celF l (P x)) (n - 1)).2.1.size + (outN most (fun x => celF l (P x)) (n - 1)).2.2.size ≤ 100000 by omega))
  rw [frV_qF]
  generalize frQ (outN most (fun x => celF l (P x)) (n - 1)) = r at *
  generalize outN most (fun x => celF l (P x)) (n - 1) = f at *
  clear hJ hsz1 hts hc hf hs hP hpf xc xf
  obtain ⟨fn, fx, fy⟩ := f
  simp only at HC HJ
  have hv0 : (0 : Int) ≤ (v : Int) := by omega
  have hv1 : (v : Int) < (sizes.length : Int) := by omega
  have hb0 : Box ((w.alloc (.cells #[.int .i64 (k : Nat)] 3)).alloc (FC false ⟨#[]⟩ ⟨#[]⟩)) (w.heap.size + 1) false ⟨#[]⟩ ⟨#[]⟩ := Box.at (by simp) _ _ _
  have hk0 : Boxed ((w.alloc (.cells #[.int .i64 (k : Nat)] 3)).alloc (FC false ⟨#[]⟩ ⟨#[]⟩)) w.heap.size 3 (.int .i64 (k : Nat)) := (Boxed.new w _ _).alloc _
  have hB : Below w.heap.size w ((w.alloc (.cells #[.int .i64 (k : Nat)] 3)).alloc (FC false ⟨#[]⟩ ⟨#[]⟩)) := ((Below.refl _ w).alloc (Nat.le_refl _) _).alloc (by simp) _
  go_enter Tryz.func66, Tryz.ntmps66
  go_upto_region 1 with fail
  generalize ((w.alloc (.cells #[.int .i64 (k : Nat)] 3)).alloc (FC false ⟨#[]⟩ ⟨#[]⟩)) = W at *
  replace hb0 := hb0.drew
  replace hB := hB.drew
  replace hk0 : Boxed W.drew w.heap.size 3 (.int .i64 (k : Nat)) := hk0
  have held : ∀ u, Below w.heap.size w u → u.cell? ⟨Bh, 0, none⟩ = some (.func (.func pf) #[] #[]) ∧ u.cell? ⟨Bs, 0, none⟩ = some (.slice (some ⟨g, o, none⟩) sizes.length ca) ∧ u.cell? ⟨Bv, 0, none⟩ = some (.int .i64 (v : Nat)) ∧ u.cell? ⟨g, o + v, none⟩ = some (.int .i64 (n : Nat)) := fun u h => ⟨(h.cell (p := ⟨Bh, 0, none⟩) hBh).trans xh, (h.cell (p := ⟨Bs, 0, none⟩) hBs).trans xs, (h.cell (p := ⟨Bv, 0, none⟩) hBv).trans xv, (h.cell (p := ⟨g, _, none⟩) hg).trans cs⟩
  have HELD := hid held
  clear held xh xs xv cs
  refine wp_region_held_drew (S := fun u => u.cell? ⟨Bh, 0, none⟩ = some (.func (.func pf) #[] #[]) ∧ u.cell? ⟨Bs, 0, none⟩ = some (.slice (some ⟨g, o, none⟩) sizes.length ca) ∧ u.cell? ⟨Bv, 0, none⟩ = some (.int .i64 (v : Nat)) ∧ u.cell? ⟨g, o + v, none⟩ = some (.int .i64 (n : Nat))) (by kernel_rfl) (HELD.out _ hB) (fun hSd => ?_)
  generalize W.drew = u0 at *
  refine wpAnyH_take (i := 0) (oi := _) (v := .agg #[.func (.func pf) #[] #[]]) rfl (by kernel_rfl) (by kernel_rfl) (by kernel_rfl) (fun _ _ _ h => h) (Or.inl ⟨by rfl, ?_⟩) (by assumption) ?_
  · intro u' hSu
    (try simp only [List.getElem_toArray, List.getElem_cons_zero])
    obtain ⟨s1, s2, s3, s4⟩ := hSu
    go_simp
  (try simp only [List.getElem_toArray, List.getElem_cons_zero])
  (try simp only [Act.put, List.setIfInBounds_toArray, List.set_cons_zero, List.set_cons_succ])
  refine wpAnyH_take (i := 1) (oi := _) (v := .slice (some ⟨g, o, none⟩) sizes.length ca) rfl (by kernel_rfl) (by kernel_rfl) (by kernel_rfl) (fun _ _ _ h => h) (Or.inl ⟨by rfl, ?_⟩) (by assumption) ?_
  · intro u' hSu
    (try simp only [List.getElem_toArray, List.getElem_cons_zero, List.getElem_cons_succ])
    obtain ⟨s1, s2, s3, s4⟩ := hSu
    go_simp
  (try simp only [List.getElem_toArray, List.getElem_cons_zero, List.getElem_cons_succ])
  (try simp only [Act.put, List.setIfInBounds_toArray, List.set_cons_zero, List.set_cons_succ])
  refine wpAnyH_take (i := 2) (oi := _) (v := .int .i64 (v : Nat)) rfl (by kernel_rfl) (by kernel_rfl) (by kernel_rfl) (fun _ _ _ h => h) (Or.inl ⟨by rfl, ?_⟩) (by assumption) ?_
  · intro u' hSu
    (try simp only [List.getElem_toArray, List.getElem_cons_zero, List.getElem_cons_succ])
    obtain ⟨s1, s2, s3, s4⟩ := hSu
    go_simp
  (try simp only [List.getElem_toArray, List.getElem_cons_zero, List.getElem_cons_succ])
  (try simp only [Act.put, List.setIfInBounds_toArray, List.set_cons_zero, List.set_cons_succ])
  refine wpAnyH_take (i := 3) (oi := _) (v := .pointer (some ⟨g, o + v, none⟩)) rfl (by kernel_rfl) (by kernel_rfl) (by kernel_rfl) (fun _ _ _ h => h) (Or.inl ⟨by rfl, ?_⟩) (by assumption) ?_
  · intro u' hSu
    (try simp only [List.getElem_toArray, List.getElem_cons_zero, List.getElem_cons_succ])
    go_simp
  (try simp only [List.getElem_toArray, List.getElem_cons_zero, List.getElem_cons_succ])
  (try simp only [Act.put, List.setIfInBounds_toArray, List.set_cons_zero, List.set_cons_succ])
  refine wpAnyH_take (i := 4) (oi := _) (v := .int .i64 (n : Nat)) rfl (by kernel_rfl) (by kernel_rfl) (by kernel_rfl) (fun _ _ _ h => h) (Or.inl ⟨by rfl, ?_⟩) (by assumption) ?_
  · intro u' hSu
    (try simp only [List.getElem_toArray, List.getElem_cons_zero, List.getElem_cons_succ])
    obtain ⟨s1, s2, s3, s4⟩ := hSu
    go_simp
  (try simp only [List.getElem_toArray, List.getElem_cons_zero, List.getElem_cons_succ])
  (try simp only [Act.put, List.setIfInBounds_toArray, List.set_cons_zero, List.set_cons_succ])
  refine wpAnyH_take (i := 5) (oi := _) (v := .func (.func 69) #[] #[.pointer (some ⟨Bt, 0, none⟩), .pointer (some ⟨Bf, 0, none⟩), .pointer (some ⟨w.heap.size, 0, none⟩)]) rfl (by kernel_rfl) (by kernel_rfl) (by kernel_rfl) (fun _ _ _ h => h) (Or.inl ⟨by rfl, ?_⟩) (by assumption) ?_
  · intro u' hSu
    (try simp only [List.getElem_toArray, List.getElem_cons_zero, List.getElem_cons_succ])
    go_simp
  (try simp only [List.getElem_toArray, List.getElem_cons_zero, List.getElem_cons_succ])
  (try simp only [Act.put, List.setIfInBounds_toArray, List.set_cons_zero, List.set_cons_succ])
  refine wpAnyH_ready (rs := [6]) (by kernel_rfl) (by simp) (AllReadyH.cons rfl ?_ (AllReadyH.nil))
  · intro K' hK'
    (try simp only [List.getElem_toArray, List.getElem_cons_zero, List.getElem_cons_succ])
    go_simp
    refine (HJ.out _ hB _ hk0.lt hk0.cell).mono ?_
    rintro e u1 ⟨rfl, hb⟩
    replace hb0 := hb0.below hb hb0.lt
    clear hk0
    replace hB := hB.trans (hb.mono hB.size)
    refine hK'.out _ _ (HELD.out _ hB) (fun hSe => ?_)
    clear hK' K' hSd
    have hSd := hSe
    clear hSe hb
    (try simp only [List.getElem_toArray, List.getElem_cons_zero, List.getElem_cons_succ])
    (try simp only [Act.put, List.setIfInBounds_toArray, List.set_cons_zero, List.set_cons_succ])
    refine wpAnyH_ready (rs := [7]) (by kernel_rfl) (by simp) (AllReadyH.cons rfl ?_ (AllReadyH.nil))
    · intro K' hK'
      (try simp only [List.getElem_toArray, List.getElem_cons_zero, List.getElem_cons_succ])
      go_simp
      refine (HC.out _).mono ?_
      rintro e u2 ⟨rfl, hb⟩
      replace hb0 := hb0.below hb hb0.lt
      replace hB := hB.trans (hb.mono hB.size)
      refine hK'.out _ _ (HELD.out _ hB) (fun hSe => ?_)
      clear hK' K' hSd
      have hSd := hSe
      clear hSe hb
      (try simp only [List.getElem_toArray, List.getElem_cons_zero, List.getElem_cons_succ])
      (try simp only [Act.put, List.setIfInBounds_toArray, List.set_cons_zero, List.set_cons_succ])
      obtain ⟨k0, k1, k2, f0, f1, f2⟩ := hb0.facts
      refine wpAnyH_ready (rs := [8]) (by kernel_rfl) (by simp) (AllReadyH.cons rfl ?_ (AllReadyH.nil))
      · intro K' hK'
        (try simp only [List.getElem_toArray, List.getElem_cons_zero, List.getElem_cons_succ])
        go_simp
        have hput := hb0.put (sgn r) (nu r) (de r)
        have hBp := below_put hB (g := w.heap.size + 1) (by omega) (.bool (sgn r)) (.string (nu r)) (.string (de r))
        generalize (((u2.setCell ⟨w.heap.size + 1, 0, none⟩ (.bool (sgn r))).setCell ⟨w.heap.size + 1, 1, none⟩ (.string (nu r))).setCell ⟨w.heap.size + 1, 2, none⟩ (.string (de r))) = v9 at *
        refine hK'.out _ _ (HELD.out _ hBp) (fun _ => wpAnyH_done (by kernel_rfl) ?_ _)
        clear hK' K' hSd
        go_wp2
        refine bodyPost_ret (hput.result rfl _ rfl) rfl ?_
        exact ⟨rfl, hBp⟩
end Go.Proofs.YtknlhejhnopnaaaGreatDoor
