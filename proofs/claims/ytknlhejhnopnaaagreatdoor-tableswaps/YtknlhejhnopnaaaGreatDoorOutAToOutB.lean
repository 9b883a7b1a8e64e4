/- Package table: the closure of Out. -/
import Derived.Test.YtknlhejhnopnaaaGreatDoorFixAToFixB
namespace Go.Proofs.YtknlhejhnopnaaaGreatDoor
open Go.RowKit Go.Shelf

theorem fits_mono {m n : Nat} {q : Rat} (h : Fits m q) (hm : m ≤ n) : Fits n q := by
  obtain ⟨A, D, h1, h2, h3, h4⟩ := h
  exact ⟨A, D, h1, h2, Nat.lt_of_lt_of_le h3 (pow_mono hm), Nat.lt_of_lt_of_le h4 (pow_mono hm)⟩
theorem great_one (f g : Fr) : great f g = f ∨ great f g = g := by
  rw [great]
  by_cases h : cmpQ (frQ f) (frQ g) < 0
  · rw [if_pos h]; exact .inr rfl
  · rw [if_neg h]; exact .inl rfl
theorem qF_size (q : Rat) : (qF q).2.1.size + (qF q).2.2.size = qw q := rfl
theorem outN_fits (most : Bool) (T : Nat → Fr) : ∀ k, (∀ x, x ≤ k → (T x).2.1.size + (T x).2.2.size + 2 ≤ 8192) → Fits ((k + 1) * 8192) (frQ (outN most T k))
  | 0, h => fits_mono (fits_val _ _ _) (by have := h 0 (Nat.le_refl _); show (T 0).2.1.size + (T 0).2.2.size + 1 ≤ _; omega)
  | k + 1, h => by
    have h1 := outN_fits most T k fun x hx => h x (by omega)
    have h2 : Fits 8191 (frQ (T (k + 1))) := fits_mono (fits_val _ _ _) (by have := h (k + 1) (Nat.le_refl _); omega)
    rw [outN]
    cases most with
    | true =>
      rw [if_pos rfl]
      rcases great_one (outN true T k) (T (k + 1)) with e | e
      · rw [e]; exact fits_mono h1 (by omega)
      · rw [e]; exact fits_mono h2 (by omega)
    | false =>
      rw [if_neg (by decide), frQ_qF]
      exact fits_mono (fits_add h1 h2) (by omega)
theorem out_ar1 (k : Nat) : 2 * ((k + 1) * 8192) ≤ 2 * ((k + 1 + 1) * 8192) := by omega
theorem out_ar2 (k : Nat) : 8192 ≤ 2 * ((k + 1 + 1) * 8192) := by omega
theorem great_size {f g : Fr} {A : Nat} (h1 : f.2.1.size + f.2.2.size ≤ A) (h2 : g.2.1.size + g.2.2.size ≤ A) : (great f g).2.1.size + (great f g).2.2.size ≤ A := by
  rcases great_one f g with e | e
  · rw [e]; exact h1
  · rw [e]; exact h2
theorem outN_size (most : Bool) (T : Nat → Fr) : ∀ k, (∀ x, x ≤ k → (T x).2.1.size + (T x).2.2.size + 2 ≤ 8192) → (outN most T k).2.1.size + (outN most T k).2.2.size ≤ 2 * ((k + 1) * 8192)
  | 0, h => by have := h 0 (Nat.le_refl _); rw [outN]; omega
  | k + 1, h => by
    have h1 := outN_size most T k fun x hx => h x (by omega)
    have h2 := h (k + 1) (Nat.le_refl _)
    have h3 := outN_fits most T (k + 1) h
    rw [outN] at h3 ⊢
    cases most with
    | true =>
      rw [if_pos rfl]
      exact great_size (Nat.le_trans h1 (out_ar1 k)) (Nat.le_trans (Nat.le_trans (Nat.le_add_right _ 2) h2) (out_ar2 k))
    | false =>
      rw [if_neg (by decide)] at h3 ⊢
      rw [frQ_qF] at h3
      have h4 := fits_qw h3
      rw [qF_size]
      exact h4
/-- A way to make two fractions one. -/
def Pairs (most : Bool) (pf : Nat) : Prop := (∀ args w, (callFunc pf args).run Tryz.prog w = .ok (.enter pf args) w) ∧ ∀ (f g : Fr) (V : World), f.2.1.size + f.2.2.size ≤ 100000 → g.2.1.size + g.2.2.size ≤ 100000 → Calls Tryz.prog pf #[frV f, frV g] V fun e w' => e = .returned (frV (if most then great f g else qF (frQ f + frQ g))) ∧ Below V.heap.size V w'
theorem pairs_sum : Pairs false 109 := ⟨enters_of Tryz.func109 (by kernel_rfl) rfl, fun f g V h1 h2 => fAdd_q (n := f.1) (m := g.1) (x := f.2.1) (y := f.2.2) (u := g.2.1) (v := g.2.2) (w := V) (frQ f + frQ g) rfl rfl rfl h1 h2⟩
theorem pairs_great : Pairs true 110 := ⟨enters_of Tryz.func110 (by kernel_rfl) rfl, fun f g V h1 h2 => greater_any f g V h1 h2⟩

set_option maxRecDepth 100000 in
set_option maxHeartbeats 400000 in
theorem out1_any (most : Bool) (pf : Nat) (hpf : Pairs most pf) (Bh Bs Bv Bt Bf : Nat) (a c : Option Addr) (ca cc : Nat) (sizes : List Int) (lb : Array Value) (l : List Fr) (k v n : Nat) (P : Nat → Nat) (hP : ∀ x, x < n → P x < l.length) (hn1 : 1 ≤ n) (hn4 : n ≤ 4) (hvs : v < sizes.length) (hnv : sizes[v] = (n : Int)) (w : World)
    (hBh : Bh < w.heap.size) (xh : w.cell? ⟨Bh, 0, none⟩ = some (.func (.func pf) #[] #[])) (hBs : Bs < w.heap.size) (xs : w.cell? ⟨Bs, 0, none⟩ = some (.slice a sizes.length ca)) (hBv : Bv < w.heap.size) (xv : w.cell? ⟨Bv, 0, none⟩ = some (.int .i64 (v : Nat))) (hBt : Bt < w.heap.size) (xc : w.cell? ⟨Bt, 1, none⟩ = some (.slice c l.length cc)) (hBf : Bf < w.heap.size) (xf : w.cell? ⟨Bf, 0, none⟩ = some (.func (.func 113) #[] lb)) (hs : IntS w a sizes) (hf : FrS w c l) (h1 : fw l ≤ 8192)
    (hc : ∀ x, x < n → ∀ V, Below w.heap.size w V → Calls Tryz.prog 113 (#[.int .i64 (k : Nat), .int .i64 (x : Nat)] ++ lb) V fun e w' => e = .returned (.int .i64 (P x : Nat)) ∧ Below V.heap.size V w') :
    Calls Tryz.prog 66 #[.int .i64 (k : Nat), .pointer (some ⟨Bh, 0, none⟩), .pointer (some ⟨Bs, 0, none⟩), .pointer (some ⟨Bv, 0, none⟩), .pointer (some ⟨Bt, 0, none⟩), .pointer (some ⟨Bf, 0, none⟩)] w fun e w' => e = .returned (frV (qF (frQ (outN most (fun x => celF l (P x)) (n - 1))))) ∧ Below w.heap.size w w' := by
  obtain ⟨g, o, rfl, hg, cs⟩ := hs v hvs
  rw [hnv] at cs
  have hts : ∀ x, x < n → (celF l (P x)).2.1.size + (celF l (P x)).2.2.size + 2 ≤ 8192 := fun x hx => Nat.le_trans (celF_size (hP x hx)) h1
  have hsz1 := outN_size most (fun x => celF l (P x)) (n - 1) fun x hx => hts x (by omega)
  have hJ : ∀ W, Below w.heap.size w W → ∀ Bk, Bk < W.heap.size → W.cell? ⟨Bk, 0, none⟩ = some (.int .i64 (k : Nat)) → Calls Tryz.prog 68 #[.agg #[.func (.func pf) #[] #[]], .int .i64 (n : Nat), .func (.func 69) #[] #[.pointer (some ⟨Bt, 0, none⟩), .pointer (some ⟨Bf, 0, none⟩), .pointer (some ⟨Bk, 0, none⟩)]] W fun e w' => e = .returned (frV (outN most (fun x => celF l (P x)) (n - 1))) ∧ Below W.heap.size W w' := by
    intro W hW Bk hBk xk
    refine joinF_any pf 69 #[] _ hpf.1 (enters_of Tryz.func69 (by kernel_rfl) rfl) n (fun x => celF l (P x)) (outN most (fun x => celF l (P x))) W hn1 (by omega) ?_ ?_ rfl
    · intro x hx V hb
      have hB := hW.trans (hb.mono hW.size)
      exact out11_any Bt Bf Bk c cc lb l k x (P x) (hP x hx) V (Nat.lt_of_lt_of_le hBt hB.size) ((hB.cell (p := ⟨Bt, 1, none⟩) hBt).trans xc) (Nat.lt_of_lt_of_le hBf hB.size) ((hB.cell (p := ⟨Bf, 0, none⟩) hBf).trans xf) (Nat.lt_of_lt_of_le hBk hb.size) ((hb.cell (p := ⟨Bk, 0, none⟩) hBk).trans xk) (hf.below hB) fun V' hb' => hc x hx V' (hB.trans (hb'.mono hB.size))
    · intro x hx V hb
      have e1 := outN_size most (fun x => celF l (P x)) x fun y hy => hts y (by omega)
      have e2 := hts (x + 1) hx
      exact hpf.2 _ _ V (by omega) (by show (celF l (P (x + 1))).2.1.size + (celF l (P (x + 1))).2.2.size ≤ _; omega)
  have HJ := hid hJ
  have HC := hid (fun V : World => Canon_q (w := V) (frQ (outN most (fun x => celF l (P x)) (n - 1))) rfl (show (outN most (fun x => celF l (P x)) (n - 1)).2.1.size + (outN most (fun x => celF l (P x)) (n - 1)).2.2.size ≤ 100000 by omega))
  rw [frV_qF]
  generalize frQ (outN most (fun x => celF l (P x)) (n - 1)) = r at *
  generalize outN most (fun x => celF l (P x)) (n - 1) = f at *
  clear hJ hsz1 hts hc hf hs hP hpf xc xf
  obtain ⟨fn, fx, fy⟩ := f
  simp only at HC HJ
  have hv0 : (0 : Int) ≤ (v : Int) := by omega
  have hv1 : (v : Int) < (sizes.length : Int) := by omega
  have hb0 : Box ((w.alloc (.cells #[.int .i64 (k : Nat)] 3)).alloc (FC false ⟨#[]⟩ ⟨#[]⟩)) (w.heap.size + 1) false ⟨#[]⟩ ⟨#[]⟩ := Box.at (by simp) _ _ _
  have hk0 : Boxed ((w.alloc (.cells #[.int .i64 (k : Nat)] 3)).alloc (FC false ⟨#[]⟩ ⟨#[]⟩)) w.heap.size 3 (.int .i64 (k : Nat)) := (Boxed.new w _ _).alloc _
  have hB : Below w.heap.size w ((w.alloc (.cells #[.int .i64 (k : Nat)] 3)).alloc (FC false ⟨#[]⟩ ⟨#[]⟩)) := ((Below.refl _ w).alloc (Nat.le_refl _) _).alloc (by simp) _
  go_enter Tryz.func66, Tryz.ntmps66
  go_upto_region 1 with fail
  generalize ((w.alloc (.cells #[.int .i64 (k : Nat)] 3)).alloc (FC false ⟨#[]⟩ ⟨#[]⟩)) = W at *
  replace hb0 := hb0.drew
  replace hB := hB.drew
  replace hk0 : Boxed W.drew w.heap.size 3 (.int .i64 (k : Nat)) := hk0
  have held : ∀ u, Below w.heap.size w u → u.cell? ⟨Bh, 0, none⟩ = some (.func (.func pf) #[] #[]) ∧ u.cell? ⟨Bs, 0, none⟩ = some (.slice (some ⟨g, o, none⟩) sizes.length ca) ∧ u.cell? ⟨Bv, 0, none⟩ = some (.int .i64 (v : Nat)) ∧ u.cell? ⟨g, o + v, none⟩ = some (.int .i64 (n : Nat)) := fun u h => ⟨(h.cell (p := ⟨Bh, 0, none⟩) hBh).trans xh, (h.cell (p := ⟨Bs, 0, none⟩) hBs).trans xs, (h.cell (p := ⟨Bv, 0, none⟩) hBv).trans xv, (h.cell (p := ⟨g, _, none⟩) hg).trans cs⟩
  have HELD := hid held
  clear held xh xs xv cs
  refine wp_region_held_drew (S := fun u => u.cell? ⟨Bh, 0, none⟩ = some (.func (.func pf) #[] #[]) ∧ u.cell? ⟨Bs, 0, none⟩ = some (.slice (some ⟨g, o, none⟩) sizes.length ca) ∧ u.cell? ⟨Bv, 0, none⟩ = some (.int .i64 (v : Nat)) ∧ u.cell? ⟨g, o + v, none⟩ = some (.int .i64 (n : Nat))) (by kernel_rfl) (HELD.out _ hB) (fun hSd => ?_)
  generalize W.drew = u0 at *
  refine wpAnyH_take (i := 0) (oi := _) (v := .agg #[.func (.func pf) #[] #[]]) rfl (by kernel_rfl) (by kernel_rfl) (by kernel_rfl) (fun _ _ _ h => h) (Or.inl ⟨by rfl, ?_⟩) (by assumption) ?_
  · intro u' hSu
    (try simp only [List.getElem_toArray, List.getElem_cons_zero])
    obtain ⟨s1, s2, s3, s4⟩ := hSu
    go_simp
  (try simp only [List.getElem_toArray, List.getElem_cons_zero])
  (try simp only [Act.put, List.setIfInBounds_toArray, List.set_cons_zero, List.set_cons_succ])
  refine wpAnyH_take (i := 1) (oi := _) (v := .slice (some ⟨g, o, none⟩) sizes.length ca) rfl (by kernel_rfl) (by kernel_rfl) (by kernel_rfl) (fun _ _ _ h => h) (Or.inl ⟨by rfl, ?_⟩) (by assumption) ?_
  · intro u' hSu
    (try simp only [List.getElem_toArray, List.getElem_cons_zero, List.getElem_cons_succ])
    obtain ⟨s1, s2, s3, s4⟩ := hSu
    go_simp
  (try simp only [List.getElem_toArray, List.getElem_cons_zero, List.getElem_cons_succ])
  (try simp only [Act.put, List.setIfInBounds_toArray, List.set_cons_zero, List.set_cons_succ])
  refine wpAnyH_take (i := 2) (oi := _) (v := .int .i64 (v : Nat)) rfl (by kernel_rfl) (by kernel_rfl) (by kernel_rfl) (fun _ _ _ h => h) (Or.inl ⟨by rfl, ?_⟩) (by assumption) ?_
  · intro u' hSu
    (try simp only [List.getElem_toArray, List.getElem_cons_zero, List.getElem_cons_succ])
    obtain ⟨s1, s2, s3, s4⟩ := hSu
    go_simp
  (try simp only [List.getElem_toArray, List.getElem_cons_zero, List.getElem_cons_succ])
  (try simp only [Act.put, List.setIfInBounds_toArray, List.set_cons_zero, List.set_cons_succ])
  refine wpAnyH_take (i := 3) (oi := _) (v := .pointer (some ⟨g, o + v, none⟩)) rfl (by kernel_rfl) (by kernel_rfl) (by kernel_rfl) (fun _ _ _ h => h) (Or.inl ⟨by rfl, ?_⟩) (by assumption) ?_
  · intro u' hSu
    (try simp only [List.getElem_toArray, List.getElem_cons_zero, List.getElem_cons_succ])
    go_simp
  (try simp only [List.getElem_toArray, List.getElem_cons_zero, List.getElem_cons_succ])
  (try simp only [Act.put, List.setIfInBounds_toArray, List.set_cons_zero, List.set_cons_succ])
  refine wpAnyH_take (i := 4) (oi := _) (v := .int .i64 (n : Nat)) rfl (by kernel_rfl) (by kernel_rfl) (by kernel_rfl) (fun _ _ _ h => h) (Or.inl ⟨by rfl, ?_⟩) (by assumption) ?_
  · intro u' hSu
    (try simp only [List.getElem_toArray, List.getElem_cons_zero, List.getElem_cons_succ])
    obtain ⟨s1, s2, s3, s4⟩ := hSu
    go_simp
  (try simp only [List.getElem_toArray, List.getElem_cons_zero, List.getElem_cons_succ])
  (try simp only [Act.put, List.setIfInBounds_toArray, List.set_cons_zero, List.set_cons_succ])
  refine wpAnyH_take (i := 5) (oi := _) (v := .func (.func 69) #[] #[.pointer (some ⟨Bt, 0, none⟩), .pointer (some ⟨Bf, 0, none⟩), .pointer (some ⟨w.heap.size, 0, none⟩)]) rfl (by kernel_rfl) (by kernel_rfl) (by kernel_rfl) (fun _ _ _ h => h) (Or.inl ⟨by rfl, ?_⟩) (by assumption) ?_
  · intro u' hSu
    (try simp only [List.getElem_toArray, List.getElem_cons_zero, List.getElem_cons_succ])
    go_simp
  (try simp only [List.getElem_toArray, List.getElem_cons_zero, List.getElem_cons_succ])
  (try simp only [Act.put, List.setIfInBounds_toArray, List.set_cons_zero, List.set_cons_succ])
  refine wpAnyH_ready (rs := [6]) (by kernel_rfl) (by simp) (AllReadyH.cons rfl ?_ (AllReadyH.nil))
  · intro K' hK'
    (try simp only [List.getElem_toArray, List.getElem_cons_zero, List.getElem_cons_succ])
    go_simp
    refine (HJ.out _ hB _ hk0.lt hk0.cell).mono ?_
    rintro e u1 ⟨rfl, hb⟩
    replace hb0 := hb0.below hb hb0.lt
    clear hk0
    replace hB := hB.trans (hb.mono hB.size)
    refine hK'.out _ _ (HELD.out _ hB) (fun hSe => ?_)
    clear hK' K' hSd
    have hSd := hSe
    clear hSe hb
    (try simp only [List.getElem_toArray, List.getElem_cons_zero, List.getElem_cons_succ])
    (try simp only [Act.put, List.setIfInBounds_toArray, List.set_cons_zero, List.set_cons_succ])
    refine wpAnyH_ready (rs := [7]) (by kernel_rfl) (by simp) (AllReadyH.cons rfl ?_ (AllReadyH.nil))
    · intro K' hK'
      (try simp only [List.getElem_toArray, List.getElem_cons_zero, List.getElem_cons_succ])
      go_simp
      refine (HC.out _).mono ?_
      rintro e u2 ⟨rfl, hb⟩
      replace hb0 := hb0.below hb hb0.lt
      replace hB := hB.trans (hb.mono hB.size)
      refine hK'.out _ _ (HELD.out _ hB) (fun hSe => ?_)
      clear hK' K' hSd
      have hSd := hSe
      clear hSe hb
      (try simp only [List.getElem_toArray, List.getElem_cons_zero, List.getElem_cons_succ])
      (try simp only [Act.put, List.setIfInBounds_toArray, List.set_cons_zero, List.set_cons_succ])
      obtain ⟨k0, k1, k2, f0, f1, f2⟩ := hb0.facts
      refine wpAnyH_ready (rs := [8]) (by kernel_rfl) (by simp) (AllReadyH.cons rfl ?_ (AllReadyH.nil))
      · intro K' hK'
        (try simp only [List.getElem_toArray, List.getElem_cons_zero, List.getElem_cons_succ])
        go_simp
        have hput := hb0.put (sgn r) (nu r) (de r)
        have hBp := below_put hB (g := w.heap.size + 1) (by omega) (.bool (sgn r)) (.string (nu r)) (.string (de r))
        generalize (((u2.setCell ⟨w.heap.size + 1, 0, none⟩ (.bool (sgn r))).setCell ⟨w.heap.size + 1, 1, none⟩ (.string (nu r))).setCell ⟨w.heap.size + 1, 2, none⟩ (.string (de r))) = v9 at *
        refine hK'.out _ _ (HELD.out _ hBp) (fun _ => wpAnyH_done (by kernel_rfl) ?_ _)
        clear hK' K' hSd
        go_wp2
        refine bodyPost_ret (hput.result rfl _ rfl) rfl ?_
        exact ⟨rfl, hBp⟩
end Go.Proofs.YtknlhejhnopnaaaGreatDoor

/- Package table: Out. -/
namespace Go.Proofs.YtknlhejhnopnaaaGreatDoor
open Go.RowKit Go.Shelf

/-- What Out holds: sizes, the table, the variable, its result's block. -/
def OH (w V : World) (s u v x : Value) : Prop := Boxed V w.heap.size 22 s ∧ NR w V (w.heap.size + 1) (w.heap.size + 1 + 1 + 1) u v ∧ Boxed V (w.heap.size + 1 + 1) 3 x
theorem OH.step {w V V' : World} {s u v x : Value} (h : OH w V s u v x) (hb : Below V.heap.size V V') : OH w V' s u v x := ⟨boxed_keep h.1 hb, h.2.1.step hb, boxed_keep h.2.2 hb⟩
theorem OH.new (w : World) (s u v x : Value) : OH w ((((w.alloc (.cells #[s] 22)).alloc (TC u v)).alloc (.cells #[x] 3)).alloc (TC (.slice none 0 0) (.slice none 0 0))) s u v x := by
  have h2 : Boxed (((w.alloc (.cells #[s] 22)).alloc (TC u v)).alloc (.cells #[x] 3)) (w.heap.size + 1 + 1) 3 x := by
    have h := Boxed.new ((w.alloc (.cells #[s] 22)).alloc (TC u v)) 3 x
    rwa [World.size_alloc, World.size_alloc] at h
  exact ⟨(((Boxed.new w _ _).alloc _).alloc _).alloc _, ⟨((TBox.at (by simp) _ _).alloc _).alloc _, TBox.at (by simp) _ _, ((((Below.refl _ w).alloc (Nat.le_refl _) _).alloc (by simp) _).alloc (by simp; omega) _).alloc (by simp; omega) _⟩, h2.alloc _⟩
theorem OH.off {w V : World} {s u v x : Value} (h : OH w V s u v x) (B j : Nat) (y : Value) (hB : w.heap.size + 1 + 1 + 1 < B) : OH w (V.setCell ⟨B, j, none⟩ y) s u v x := ⟨boxed_off h.1 B j y (by omega), h.2.1.off B j y (by omega) (by omega) (by omega), boxed_off h.2.2 B j y (by omega)⟩
theorem OH.top {w V : World} {s u v x : Value} (h : OH w V s u v x) : w.heap.size + 1 + 1 + 1 < V.heap.size := h.2.1.2.1.lt
theorem outL_length (S vars rest : List Nat) (v : Nat) (most : Bool) (l : List Fr) : (outL S vars rest v most l).length = cnt S rest := by simp [outL]
theorem outL_get (S vars rest : List Nat) (v : Nat) (most : Bool) (l : List Fr) {k : Nat} (h : k < (outL S vars rest v most l).length) : (outL S vars rest v most l)[k] = qF (frQ (outN most (fun x => celF l (pos S (withV (asg S rest k) v x) vars)) (sz S v - 1))) := by simp [outL]

set_option maxRecDepth 100000 in
set_option maxHeartbeats 400000 in
theorem tOut_no (a b c : Option Addr) (ca cb cc m : Nat) (sizes vars : List Int) (v : Int) (most : Bool) (w : World) (hs : IntS w a sizes) (hv : IntS w b vars) (hn : sizes.length ≤ 140737488355328) (hm : vars.length ≤ 140737488355328) (hk : checkA sizes vars m ≠ 0) :
    Calls Tryz.prog 20 #[.slice a sizes.length ca, .agg #[.slice b vars.length cb, .slice c m cc], .int .i64 v, .bool most] w fun e w' => TabA [] [] (checkA sizes vars m) e w' ∧ Below w.heap.size w w' := by
  have HC := hid (fun V h1 h2 => tCheck_any a b c ca cb cc m sizes vars V h1 h2 hn hm)
  generalize checkA sizes vars m = r at *
  have HS := hid hs
  have HV := hid hv
  have hH := OH.new w (.slice a sizes.length ca) (.slice b vars.length cb) (.slice c m cc) (.int .i64 v)
  have c0 := hH.2.1.1.c0
  have c1 := hH.2.1.1.c1
  have cs := hH.1.cell
  go_enter Tryz.func20, Tryz.ntmps20
  go_wp2_with fail
  generalize ((((w.alloc (.cells #[.slice a sizes.length ca] 22)).alloc (TC (.slice b vars.length cb) (.slice c m cc))).alloc (.cells #[.int .i64 v] 3)).alloc (TC (.slice none 0 0) (.slice none 0 0))) = W at *
  refine (HC.out _ (HS.out.below hH.2.1.2.2) (HV.out.below hH.2.1.2.2)).mono ?_
  rintro e w1 ⟨rfl, hb1⟩
  replace hH := hH.step hb1
  clear c0 c1 cs hb1
  have hrb : (r == 0) = false := by simp [hk]
  obtain ⟨k0, k1, f0, f1⟩ := hH.2.1.2.1.facts
  go_wp2
  refine bodyPost_ret ((hH.2.1.2.1.put _ _).result2 rfl _ rfl) rfl ?_
  exact ⟨TabA.empty _ _, below_put2 hH.2.1.2.2 (by omega) _ _⟩
set_option maxRecDepth 100000 in
set_option maxHeartbeats 400000 in
theorem tOut_var (a b c : Option Addr) (ca cb cc m : Nat) (sizes vars : List Int) (v : Int) (most : Bool) (w : World) (hs : IntS w a sizes) (hv : IntS w b vars) (hn : sizes.length ≤ 140737488355328) (hm : vars.length ≤ 140737488355328) (hk : checkA sizes vars m = 0) (hv' : vars.contains v = false) :
    Calls Tryz.prog 20 #[.slice a sizes.length ca, .agg #[.slice b vars.length cb, .slice c m cc], .int .i64 v, .bool most] w fun e w' => TabA [] [] 11 e w' ∧ Below w.heap.size w w' := by
  have HCO := hid (fun V h => slContains_any b cb vars v V h hm)
  rw [hv'] at HCO
  have HCK := fun V h1 h2 => tCheck_any a b c ca cb cc m sizes vars V h1 h2 hn hm
  rw [hk] at HCK
  have HC := hid HCK
  clear HCK
  clear hv'
  have HS := hid hs
  have HV := hid hv
  have hH := OH.new w (.slice a sizes.length ca) (.slice b vars.length cb) (.slice c m cc) (.int .i64 v)
  have c0 := hH.2.1.1.c0
  have c1 := hH.2.1.1.c1
  have cs := hH.1.cell
  go_enter Tryz.func20, Tryz.ntmps20
  go_wp2_with fail
  generalize ((((w.alloc (.cells #[.slice a sizes.length ca] 22)).alloc (TC (.slice b vars.length cb) (.slice c m cc))).alloc (.cells #[.int .i64 v] 3)).alloc (TC (.slice none 0 0) (.slice none 0 0))) = W at *
  refine (HC.out _ (HS.out.below hH.2.1.2.2) (HV.out.below hH.2.1.2.2)).mono ?_
  rintro e w1 ⟨rfl, hb1⟩
  replace hH := hH.step hb1
  clear c0 c1 cs hb1
  have c0 := hH.2.1.1.c0
  have cx := hH.2.2.cell
  go_wp2_with fail
  refine (HCO.out _ (HV.out.below hH.2.1.2.2)).mono ?_
  rintro e w2 ⟨rfl, hb2⟩
  replace hH := hH.step hb2
  clear c0 cx hb2 HCO
  obtain ⟨k0, k1, f0, f1⟩ := hH.2.1.2.1.facts
  go_wp2
  refine bodyPost_ret ((hH.2.1.2.1.put _ _).result2 rfl _ rfl) rfl ?_
  exact ⟨TabA.empty _ _, below_put2 hH.2.1.2.2 (by omega) _ _⟩
set_option maxRecDepth 100000 in
set_option maxHeartbeats 800000 in
theorem tOut_sums (a b c : Option Addr) (ca cb cc : Nat) (sizes vars : List Int) (l : List Fr) (v : Nat) (w : World) (hs : IntS w a sizes) (hv : IntS w b vars) (hf : FrS w c l) (hn : sizes.length ≤ 140737488355328) (hm : vars.length ≤ 140737488355328) (hk : checkA sizes vars l.length = 0) (hw : fw l ≤ 8192) (hv' : vars.contains (v : Int) = true) (hvs : v < sizes.length) :
    Calls Tryz.prog 20 #[.slice a sizes.length ca, .agg #[.slice b vars.length cb, .slice c l.length cc], .int .i64 (v : Nat), .bool false] w fun e w' => TabA (lessN vars (v : Int)) (outL (toN sizes) (toN vars) (toN (lessN vars (v : Int))) v false l) 0 e w' ∧ Below w.heap.size w w' := by
  obtain ⟨hfi, hup, hlc⟩ := checkA_parts hk
  have HCO := hid (fun V h => slContains_any b cb vars (v : Int) V h hm)
  rw [hv'] at HCO
  have HCK := fun V h1 h2 => tCheck_any a b c ca cb cc l.length sizes vars V h1 h2 hn hm
  rw [hk] at HCK
  have HC := hid HCK
  clear HCK
  have hrl : (lessN vars (v : Int)).length ≤ vars.length := List.length_filter_le _ _
  have hv8 := hup.length
  have hl8 := hfi.eight
  have HFI := hid hfi
  have HUP := hid hup
  have HUR := hid (lessN_up hup (v : Int))
  have HOU := hid (lessN_out (v := v) hup)
  have HPL := hid (fun K (hK : K < cnt (toN sizes) (toN (lessN vars (v : Int)))) x (hx : x < sz (toN sizes) v) => with_lt hk hK hx)
  have hfl := outL_length (toN sizes) (toN vars) (toN (lessN vars (v : Int))) v false l
  have HFG := hid (fun (k : Nat) (h : k < (outL (toN sizes) (toN vars) (toN (lessN vars (v : Int))) v false l).length) => outL_get (toN sizes) (toN vars) (toN (lessN vars (v : Int))) v false l h)
  have HWO := hid (fun V h => without_any b cb vars (v : Int) V h (by omega))
  generalize outL (toN sizes) (toN vars) (toN (lessN vars (v : Int))) v false l = FL at *
  generalize lessN vars (v : Int) = rest at *
  have HST := hid (fun V d cd h1 h2 => standingWith_any a d b ca cd cb sizes rest vars v V h1 h2 hfi hup hvs)
  have HF := hid hf
  have HW := hid hw
  have HFL := hid hfl
  have HN := hid (hfi.sz_eq hvs)
  have HN4 := hid (hfi.sz_le v)
  have HN1 := hid (sz_pos hfi.pos v)
  have HVS := hid hvs
  clear hv' hk hfi hup hlc hf hw hfl
  have HS := hid hs
  have HV := hid hv
  have hH := OH.new w (.slice a sizes.length ca) (.slice b vars.length cb) (.slice c l.length cc) (.int .i64 (v : Nat))
  have c0 := hH.2.1.1.c0
  have c1 := hH.2.1.1.c1
  have cs := hH.1.cell
  go_enter Tryz.func20, Tryz.ntmps20
  go_wp2_with fail
  generalize ((((w.alloc (.cells #[.slice a sizes.length ca] 22)).alloc (TC (.slice b vars.length cb) (.slice c l.length cc))).alloc (.cells #[.int .i64 (v : Nat)] 3)).alloc (TC (.slice none 0 0) (.slice none 0 0))) = W at *
  refine (HC.out _ (HS.out.below hH.2.1.2.2) (HV.out.below hH.2.1.2.2)).mono ?_
  rintro e w1 ⟨rfl, hb1⟩
  replace hH := hH.step hb1
  clear c0 c1 cs hb1
  have c0 := hH.2.1.1.c0
  have cx := hH.2.2.cell
  go_wp2_with fail
  refine (HCO.out _ (HV.out.below hH.2.1.2.2)).mono ?_
  rintro e w2 ⟨rfl, hb2⟩
  replace hH := hH.step hb2
  clear c0 cx hb2 HCO
  go_wp2_with fail
  refine (sums_any _).mono ?_
  rintro e w3 ⟨rfl, hb3⟩
  replace hH := hH.step hb3
  clear hb3
  have hb4 : Below w3.heap.size w3 (w3.alloc (.cells #[.func (.func 109) #[] #[]] 83)) := (Below.refl _ w3).alloc (Nat.le_refl _) _
  have hJ : Boxed (w3.alloc (.cells #[.func (.func 109) #[] #[]] 83)) w3.heap.size 83 (.func (.func 109) #[] #[]) := Boxed.new w3 _ _
  have hB3 := hH.top
  replace hH := hH.step hb4
  clear hb4
  have c0 := hH.2.1.1.c0
  have cx := hH.2.2.cell
  go_wp2_with fail
  clear c0 cx
  generalize (w3.alloc (.cells #[.func (.func 109) #[] #[]] 83)) = w5 at *
  generalize w3.heap.size = BJ at *
  refine (HWO.out _ (HV.out.below hH.2.1.2.2)).mono ?_
  rintro e w6 ⟨d, cd, rfl, hi, hb6⟩
  replace hH := hH.step hb6
  replace hJ := boxed_keep hJ hb6
  clear hb6 HWO
  have c0 := hH.2.1.1.c0
  have cx := hH.2.2.cell
  have cs := hH.1.cell
  go_wp2_with fail
  refine (HST.out _ d cd (HS.out.below hH.2.1.2.2) (HV.out.below hH.2.1.2.2)).mono ?_
  rintro e w7 ⟨f, rfl, hSW, hb7⟩
  replace hH := hH.step hb7
  replace hJ := boxed_keep hJ hb7
  replace hi := hi.below hb7
  obtain ⟨lb, rfl⟩ := hSW.shape
  clear c0 cx cs hb7 HST
  generalize w6.heap.size = n3 at *
  have hb8 : Below w7.heap.size w7 (w7.alloc (.cells #[.func (.func 113) #[] lb] 50)) := (Below.refl _ w7).alloc (Nat.le_refl _) _
  have hY : Boxed (w7.alloc (.cells #[.func (.func 113) #[] lb] 50)) w7.heap.size 50 (.func (.func 113) #[] lb) := Boxed.new w7 _ _
  replace hH := hH.step hb8
  replace hJ := boxed_keep hJ hb8
  replace hSW := hSW.below hb8
  replace hi := hi.below hb8
  have cs := hH.1.cell
  go_wp2_with fail
  clear hb8 cs
  generalize (w7.alloc (.cells #[.func (.func 113) #[] lb] 50)) = w8 at *
  generalize w7.heap.size = B13 at *
  have hfill := fill_any a d ca cd sizes rest 66 #[.pointer (some ⟨BJ, 0, none⟩), .pointer (some ⟨w.heap.size, 0, none⟩), .pointer (some ⟨w.heap.size + 1 + 1, 0, none⟩), .pointer (some ⟨w.heap.size + 1, 0, none⟩), .pointer (some ⟨B13, 0, none⟩)] (enters_of Tryz.func66 (by kernel_rfl) rfl) FL w8 (HS.out.below hH.2.1.2.2) hi HFI.out HUR.out HFL.out (fun k hk V hb => by
    rw [HFG.out k hk]
    have hk' : k < cnt (toN sizes) (toN rest) := by rw [← HFL.out]; exact hk
    have hB := hH.2.1.2.2.trans (hb.mono hH.2.1.2.2.size)
    refine out1_any false 109 pairs_sum BJ w.heap.size (w.heap.size + 1 + 1) (w.heap.size + 1) B13 a c ca cc sizes lb l k v (sz (toN sizes) v) (fun x => pos (toN sizes) (withV (asg (toN sizes) (toN rest) k) v x) (toN vars)) (fun x hx => HPL.out k hk' x hx) HN1.out HN4.out HVS.out HN.out.symm V (Nat.lt_of_lt_of_le hJ.lt hb.size) (boxed_keep hJ hb).cell (Nat.lt_of_lt_of_le hH.1.lt hb.size) (boxed_keep hH.1 hb).cell (Nat.lt_of_lt_of_le hH.2.2.lt hb.size) (boxed_keep hH.2.2 hb).cell (Nat.lt_of_lt_of_le hH.2.1.1.lt hb.size) ((hb.cell (p := ⟨w.heap.size + 1, 1, none⟩) hH.2.1.1.lt).trans hH.2.1.1.c1) (Nat.lt_of_lt_of_le hY.lt hb.size) (boxed_keep hY hb).cell (HS.out.below hB) (HF.out.below hB) HW.out ?_
    intro x hx V' hb'
    have hb2 := hb.trans (hb'.mono hb.size)
    have h4 := HN4.out
    exact ((hSW.below hb2).calls (HS.out.below (hB.trans (hb'.mono hB.size))) (hi.below hb2) HFI.out HUR.out HUP.out HOU.out hk' (by omega)))
  have HFILL := hid hfill
  clear hfill
  refine HFILL.out.mono ?_
  rintro e w9 ⟨G, rfl, hG, hrow, hb9⟩
  have hl9 := hH.top
  replace hH := hH.step hb9
  replace hi := hi.below hb9
  obtain ⟨k0, k1, f0, f1⟩ := hH.2.1.2.1.facts
  obtain ⟨e1, e2, e3⟩ := hH.2.1.fin (by omega) (cb := cd) (cc := FL.length) hi hrow (by omega) (.slice d rest.length cd) (.slice (some ⟨G, 0, none⟩) FL.length FL.length) rfl rfl
  go_wp2
  refine bodyPost_ret (e1.result2 rfl _ rfl) rfl ?_
  exact ⟨e2, e3⟩
set_option maxRecDepth 100000 in
set_option maxHeartbeats 800000 in
theorem tOut_most (a b c : Option Addr) (ca cb cc : Nat) (sizes vars : List Int) (l : List Fr) (v : Nat) (w : World) (hs : IntS w a sizes) (hv : IntS w b vars) (hf : FrS w c l) (hn : sizes.length ≤ 140737488355328) (hm : vars.length ≤ 140737488355328) (hk : checkA sizes vars l.length = 0) (hw : fw l ≤ 8192) (hv' : vars.contains (v : Int) = true) (hvs : v < sizes.length) :
    Calls Tryz.prog 20 #[.slice a sizes.length ca, .agg #[.slice b vars.length cb, .slice c l.length cc], .int .i64 (v : Nat), .bool true] w fun e w' => TabA (lessN vars (v : Int)) (outL (toN sizes) (toN vars) (toN (lessN vars (v : Int))) v true l) 0 e w' ∧ Below w.heap.size w w' := by
  obtain ⟨hfi, hup, hlc⟩ := checkA_parts hk
  have HCO := hid (fun V h => slContains_any b cb vars (v : Int) V h hm)
  rw [hv'] at HCO
  have HCK := fun V h1 h2 => tCheck_any a b c ca cb cc l.length sizes vars V h1 h2 hn hm
  rw [hk] at HCK
  have HC := hid HCK
  clear HCK
  have hrl : (lessN vars (v : Int)).length ≤ vars.length := List.length_filter_le _ _
  have hv8 := hup.length
  have hl8 := hfi.eight
  have HFI := hid hfi
  have HUP := hid hup
  have HUR := hid (lessN_up hup (v : Int))
  have HOU := hid (lessN_out (v := v) hup)
  have HPL := hid (fun K (hK : K < cnt (toN sizes) (toN (lessN vars (v : Int)))) x (hx : x < sz (toN sizes) v) => with_lt hk hK hx)
  have hfl := outL_length (toN sizes) (toN vars) (toN (lessN vars (v : Int))) v true l
  have HFG := hid (fun (k : Nat) (h : k < (outL (toN sizes) (toN vars) (toN (lessN vars (v : Int))) v true l).length) => outL_get (toN sizes) (toN vars) (toN (lessN vars (v : Int))) v true l h)
  have HWO := hid (fun V h => without_any b cb vars (v : Int) V h (by omega))
  generalize outL (toN sizes) (toN vars) (toN (lessN vars (v : Int))) v true l = FL at *
  generalize lessN vars (v : Int) = rest at *
  have HST := hid (fun V d cd h1 h2 => standingWith_any a d b ca cd cb sizes rest vars v V h1 h2 hfi hup hvs)
  have HF := hid hf
  have HW := hid hw
  have HFL := hid hfl
  have HN := hid (hfi.sz_eq hvs)
  have HN4 := hid (hfi.sz_le v)
  have HN1 := hid (sz_pos hfi.pos v)
  have HVS := hid hvs
  clear hv' hk hfi hup hlc hf hw hfl
  have HS := hid hs
  have HV := hid hv
  have hH := OH.new w (.slice a sizes.length ca) (.slice b vars.length cb) (.slice c l.length cc) (.int .i64 (v : Nat))
  have c0 := hH.2.1.1.c0
  have c1 := hH.2.1.1.c1
  have cs := hH.1.cell
  go_enter Tryz.func20, Tryz.ntmps20
  go_wp2_with fail
  generalize ((((w.alloc (.cells #[.slice a sizes.length ca] 22)).alloc (TC (.slice b vars.length cb) (.slice c l.length cc))).alloc (.cells #[.int .i64 (v : Nat)] 3)).alloc (TC (.slice none 0 0) (.slice none 0 0))) = W at *
  refine (HC.out _ (HS.out.below hH.2.1.2.2) (HV.out.below hH.2.1.2.2)).mono ?_
  rintro e w1 ⟨rfl, hb1⟩
  replace hH := hH.step hb1
  clear c0 c1 cs hb1
  have c0 := hH.2.1.1.c0
  have cx := hH.2.2.cell
  go_wp2_with fail
  refine (HCO.out _ (HV.out.below hH.2.1.2.2)).mono ?_
  rintro e w2 ⟨rfl, hb2⟩
  replace hH := hH.step hb2
  clear c0 cx hb2 HCO
  go_wp2_with fail
  refine (sums_any _).mono ?_
  rintro e w3 ⟨rfl, hb3⟩
  replace hH := hH.step hb3
  clear hb3
  have hb4 : Below w3.heap.size w3 (w3.alloc (.cells #[.func (.func 109) #[] #[]] 83)) := (Below.refl _ w3).alloc (Nat.le_refl _) _
  have hJ : Boxed (w3.alloc (.cells #[.func (.func 109) #[] #[]] 83)) w3.heap.size 83 (.func (.func 109) #[] #[]) := Boxed.new w3 _ _
  have hB3 := hH.top
  replace hH := hH.step hb4
  clear hb4
  go_wp2_with fail
  generalize (w3.alloc (.cells #[.func (.func 109) #[] #[]] 83)) = w3' at *
  generalize w3.heap.size = BJ at *
  refine (greatest_any _).mono ?_
  rintro e w4 ⟨rfl, hb4⟩
  replace hH := hH.step hb4
  replace hJ := boxed_keep hJ hb4
  clear hb4
  have j0 := hJ.cell
  have j1 := hJ.frozen
  replace hH := hH.off BJ 0 (.func (.func 110) #[] #[]) hB3
  have c0 := hH.2.1.1.c0
  have cx := hH.2.2.cell
  replace hJ := hJ.set (.func (.func 110) #[] #[])
  go_wp2_with fail
  clear j0 j1 c0 cx
  generalize (w4.setCell ⟨BJ, 0, none⟩ (.func (.func 110) #[] #[])) = w5 at *
  refine (HWO.out _ (HV.out.below hH.2.1.2.2)).mono ?_
  rintro e w6 ⟨d, cd, rfl, hi, hb6⟩
  replace hH := hH.step hb6
  replace hJ := boxed_keep hJ hb6
  clear hb6 HWO
  have c0 := hH.2.1.1.c0
  have cx := hH.2.2.cell
  have cs := hH.1.cell
  go_wp2_with fail
  refine (HST.out _ d cd (HS.out.below hH.2.1.2.2) (HV.out.below hH.2.1.2.2)).mono ?_
  rintro e w7 ⟨f, rfl, hSW, hb7⟩
  replace hH := hH.step hb7
  replace hJ := boxed_keep hJ hb7
  replace hi := hi.below hb7
  obtain ⟨lb, rfl⟩ := hSW.shape
  clear c0 cx cs hb7 HST
  generalize w6.heap.size = n3 at *
  have hb8 : Below w7.heap.size w7 (w7.alloc (.cells #[.func (.func 113) #[] lb] 50)) := (Below.refl _ w7).alloc (Nat.le_refl _) _
  have hY : Boxed (w7.alloc (.cells #[.func (.func 113) #[] lb] 50)) w7.heap.size 50 (.func (.func 113) #[] lb) := Boxed.new w7 _ _
  replace hH := hH.step hb8
  replace hJ := boxed_keep hJ hb8
  replace hSW := hSW.below hb8
  replace hi := hi.below hb8
  have cs := hH.1.cell
  go_wp2_with fail
  clear hb8 cs
  generalize (w7.alloc (.cells #[.func (.func 113) #[] lb] 50)) = w8 at *
  generalize w7.heap.size = B13 at *
  have hfill := fill_any a d ca cd sizes rest 66 #[.pointer (some ⟨BJ, 0, none⟩), .pointer (some ⟨w.heap.size, 0, none⟩), .pointer (some ⟨w.heap.size + 1 + 1, 0, none⟩), .pointer (some ⟨w.heap.size + 1, 0, none⟩), .pointer (some ⟨B13, 0, none⟩)] (enters_of Tryz.func66 (by kernel_rfl) rfl) FL w8 (HS.out.below hH.2.1.2.2) hi HFI.out HUR.out HFL.out (fun k hk V hb => by
    rw [HFG.out k hk]
    have hk' : k < cnt (toN sizes) (toN rest) := by rw [← HFL.out]; exact hk
    have hB := hH.2.1.2.2.trans (hb.mono hH.2.1.2.2.size)
    refine out1_any true 110 pairs_great BJ w.heap.size (w.heap.size + 1 + 1) (w.heap.size + 1) B13 a c ca cc sizes lb l k v (sz (toN sizes) v) (fun x => pos (toN sizes) (withV (asg (toN sizes) (toN rest) k) v x) (toN vars)) (fun x hx => HPL.out k hk' x hx) HN1.out HN4.out HVS.out HN.out.symm V (Nat.lt_of_lt_of_le hJ.lt hb.size) (boxed_keep hJ hb).cell (Nat.lt_of_lt_of_le hH.1.lt hb.size) (boxed_keep hH.1 hb).cell (Nat.lt_of_lt_of_le hH.2.2.lt hb.size) (boxed_keep hH.2.2 hb).cell (Nat.lt_of_lt_of_le hH.2.1.1.lt hb.size) ((hb.cell (p := ⟨w.heap.size + 1, 1, none⟩) hH.2.1.1.lt).trans hH.2.1.1.c1) (Nat.lt_of_lt_of_le hY.lt hb.size) (boxed_keep hY hb).cell (HS.out.below hB) (HF.out.below hB) HW.out ?_
    intro x hx V' hb'
    have hb2 := hb.trans (hb'.mono hb.size)
    have h4 := HN4.out
    exact ((hSW.below hb2).calls (HS.out.below (hB.trans (hb'.mono hB.size))) (hi.below hb2) HFI.out HUR.out HUP.out HOU.out hk' (by omega)))
  have HFILL := hid hfill
  clear hfill
  refine HFILL.out.mono ?_
  rintro e w9 ⟨G, rfl, hG, hrow, hb9⟩
  have hl9 := hH.top
  replace hH := hH.step hb9
  replace hi := hi.below hb9
  obtain ⟨k0, k1, f0, f1⟩ := hH.2.1.2.1.facts
  obtain ⟨e1, e2, e3⟩ := hH.2.1.fin (by omega) (cb := cd) (cc := FL.length) hi hrow (by omega) (.slice d rest.length cd) (.slice (some ⟨G, 0, none⟩) FL.length FL.length) rfl rfl
  go_wp2
  refine bodyPost_ret (e1.result2 rfl _ rfl) rfl ?_
  exact ⟨e2, e3⟩
end Go.Proofs.YtknlhejhnopnaaaGreatDoor
