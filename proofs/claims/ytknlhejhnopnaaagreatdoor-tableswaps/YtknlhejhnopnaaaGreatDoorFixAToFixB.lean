/- Package table: the closures of Fix and Out. -/
import Derived.Test.YtknlhejhnopnaaaGreatDoorTabMToTabT
import Derived.Laws.EntriesVeiled
namespace Go.Proofs.YtknlhejhnopnaaaGreatDoor
open Go.RowKit Go.Shelf

set_option maxRecDepth 100000 in
set_option maxHeartbeats 400000 in
theorem fix1_any (Bt Bf Bv : Nat) (c : Option Addr) (cc : Nat) (lb : Array Value) (l : List Fr) (k val P : Nat) (hP : P < l.length) (w : World) (hBt : Bt < w.heap.size) (xc : w.cell? ⟨Bt, 1, none⟩ = some (.slice c l.length cc)) (hBf : Bf < w.heap.size) (xf : w.cell? ⟨Bf, 0, none⟩ = some (.func (.func 113) #[] lb)) (hBv : Bv < w.heap.size) (xv : w.cell? ⟨Bv, 0, none⟩ = some (.int .i64 (val : Nat))) (hf : FrS w c l) (h1 : fw l ≤ 10000)
    (hc : ∀ V, Below w.heap.size w V → Calls Tryz.prog 113 (#[.int .i64 (k : Nat), .int .i64 (val : Nat)] ++ lb) V fun e w' => e = .returned (.int .i64 (P : Nat)) ∧ Below V.heap.size V w') :
    Calls Tryz.prog 74 #[.int .i64 (k : Nat), .pointer (some ⟨Bt, 0, none⟩), .pointer (some ⟨Bf, 0, none⟩), .pointer (some ⟨Bv, 0, none⟩)] w fun e w' => e = .returned (frV (qF (frQ (celF l P)))) ∧ Below w.heap.size w w' := by
  obtain ⟨g, o, rfl, hg, a0, a1, a2⟩ := hf P hP
  have hsz := celF_size hP
  rw [← celF_eq hP] at a0 a1 a2
  have HW := hid hc
  have HC := hid (fun V : World => Canon_q (w := V) (frQ (celF l P)) rfl (show (celF l P).2.1.size + (celF l P).2.2.size ≤ 100000 by omega))
  rw [frV_qF]
  generalize frQ (celF l P) = r at *
  clear hf hc h1 hsz
  generalize celF l P = f at *
  obtain ⟨fn, fx, fy⟩ := f
  simp only at a0 a1 a2 HC
  have hb0 : Box (w.alloc (FC false ⟨#[]⟩ ⟨#[]⟩)) w.heap.size false ⟨#[]⟩ ⟨#[]⟩ := Box.new w _ _ _
  have hB : Below w.heap.size w (w.alloc (FC false ⟨#[]⟩ ⟨#[]⟩)) := (Below.refl _ w).alloc (Nat.le_refl _) _
  go_enter Tryz.func74, Tryz.ntmps74
  go_upto_region 1 with fail
  generalize (w.alloc (FC false ⟨#[]⟩ ⟨#[]⟩)) = W at *
  replace hb0 := hb0.drew
  replace hB := hB.drew
  have held : ∀ u, Below w.heap.size w u → u.cell? ⟨Bt, 1, none⟩ = some (.slice (some ⟨g, o, none⟩) l.length cc) ∧ u.cell? ⟨Bf, 0, none⟩ = some (.func (.func 113) #[] lb) ∧ u.cell? ⟨Bv, 0, none⟩ = some (.int .i64 (val : Nat)) ∧ u.cell? ⟨g, o + P * 3, none⟩ = some (.bool fn) ∧ u.cell? ⟨g, o + P * 3 + 1, none⟩ = some (.string fx) ∧ u.cell? ⟨g, o + P * 3 + 2, none⟩ = some (.string fy) := fun u h => ⟨(h.cell (p := ⟨Bt, 1, none⟩) hBt).trans xc, (h.cell (p := ⟨Bf, 0, none⟩) hBf).trans xf, (h.cell (p := ⟨Bv, 0, none⟩) hBv).trans xv, (h.cell (p := ⟨g, _, none⟩) hg).trans a0, (h.cell (p := ⟨g, _, none⟩) hg).trans a1, (h.cell (p := ⟨g, _, none⟩) hg).trans a2⟩
  have HELD := hid held
  clear held a0 a1 a2 xc xf xv
  refine wp_region_held_drew (S := fun u => u.cell? ⟨Bt, 1, none⟩ = some (.slice (some ⟨g, o, none⟩) l.length cc) ∧ u.cell? ⟨Bf, 0, none⟩ = some (.func (.func 113) #[] lb) ∧ u.cell? ⟨Bv, 0, none⟩ = some (.int .i64 (val : Nat)) ∧ u.cell? ⟨g, o + P * 3, none⟩ = some (.bool fn) ∧ u.cell? ⟨g, o + P * 3 + 1, none⟩ = some (.string fx) ∧ u.cell? ⟨g, o + P * 3 + 2, none⟩ = some (.string fy)) (by kernel_rfl) (HELD.out _ hB) (fun hSd => ?_)
  generalize W.drew = u0 at *
  refine wpAnyH_take (i := 0) (oi := _) (v := .pointer (some ⟨Bt, 1, none⟩)) rfl (by kernel_rfl) (by kernel_rfl) (by kernel_rfl) (fun _ _ _ h => h) (Or.inl ⟨by rfl, ?_⟩) (by assumption) ?_
  · intro u' hSu
    (try simp only [List.getElem_toArray, List.getElem_cons_zero])
    go_simp
  (try simp only [List.getElem_toArray, List.getElem_cons_zero])
  (try simp only [Act.put, List.setIfInBounds_toArray, List.set_cons_zero, List.set_cons_succ])
  refine wpAnyH_take (i := 1) (oi := _) (v := .slice (some ⟨g, o, none⟩) l.length cc) rfl (by kernel_rfl) (by kernel_rfl) (by kernel_rfl) (fun _ _ _ h => h) (Or.inl ⟨by rfl, ?_⟩) (by assumption) ?_
  · intro u' hSu
    (try simp only [List.getElem_toArray, List.getElem_cons_zero, List.getElem_cons_succ])
    obtain ⟨s1, s2, s3, s4, s5, s6⟩ := hSu
    go_simp
  (try simp only [List.getElem_toArray, List.getElem_cons_zero, List.getElem_cons_succ])
  (try simp only [Act.put, List.setIfInBounds_toArray, List.set_cons_zero, List.set_cons_succ])
  refine wpAnyH_take (i := 2) (oi := _) (v := .func (.func 113) #[] lb) rfl (by kernel_rfl) (by kernel_rfl) (by kernel_rfl) (fun _ _ _ h => h) (Or.inl ⟨by rfl, ?_⟩) (by assumption) ?_
  · intro u' hSu
    (try simp only [List.getElem_toArray, List.getElem_cons_zero, List.getElem_cons_succ])
    obtain ⟨s1, s2, s3, s4, s5, s6⟩ := hSu
    go_simp
  (try simp only [List.getElem_toArray, List.getElem_cons_zero, List.getElem_cons_succ])
  (try simp only [Act.put, List.setIfInBounds_toArray, List.set_cons_zero, List.set_cons_succ])
  refine wpAnyH_take (i := 3) (oi := _) (v := .int .i64 (k : Nat)) rfl (by kernel_rfl) (by kernel_rfl) (by kernel_rfl) (fun _ _ _ h => h) (Or.inl ⟨by rfl, ?_⟩) (by assumption) ?_
  · intro u' hSu
    (try simp only [List.getElem_toArray, List.getElem_cons_zero, List.getElem_cons_succ])
    go_simp
  (try simp only [List.getElem_toArray, List.getElem_cons_zero, List.getElem_cons_succ])
  (try simp only [Act.put, List.setIfInBounds_toArray, List.set_cons_zero, List.set_cons_succ])
  refine wpAnyH_take (i := 4) (oi := _) (v := .int .i64 (val : Nat)) rfl (by kernel_rfl) (by kernel_rfl) (by kernel_rfl) (fun _ _ _ h => h) (Or.inl ⟨by rfl, ?_⟩) (by assumption) ?_
  · intro u' hSu
    (try simp only [List.getElem_toArray, List.getElem_cons_zero, List.getElem_cons_succ])
    obtain ⟨s1, s2, s3, s4, s5, s6⟩ := hSu
    go_simp
  (try simp only [List.getElem_toArray, List.getElem_cons_zero, List.getElem_cons_succ])
  (try simp only [Act.put, List.setIfInBounds_toArray, List.set_cons_zero, List.set_cons_succ])
  refine wpAnyH_ready (rs := [5]) (by kernel_rfl) (by simp) (AllReadyH.cons rfl ?_ (AllReadyH.nil))
  · intro K' hK'
    (try simp only [List.getElem_toArray, List.getElem_cons_zero, List.getElem_cons_succ])
    go_simp
    refine (HW.out _ hB).mono ?_
    rintro e u1 ⟨rfl, hb⟩
    replace hb0 := hb0.below hb hb0.lt
    replace hB := hB.trans (hb.mono hB.size)
    refine hK'.out _ _ (HELD.out _ hB) (fun hSe => ?_)
    clear hK' K' hSd
    have hSd := hSe
    clear hSe hb
    (try simp only [List.getElem_toArray, List.getElem_cons_zero, List.getElem_cons_succ])
    (try simp only [Act.put, List.setIfInBounds_toArray, List.set_cons_zero, List.set_cons_succ])
    refine wpAnyH_take (i := 6) (oi := _) (v := .pointer (some ⟨g, o + P * 3, none⟩)) rfl (by kernel_rfl) (by kernel_rfl) (by kernel_rfl) (fun _ _ _ h => h) (Or.inl ⟨by rfl, ?_⟩) (by assumption) ?_
    · intro u' hSu
      (try simp only [List.getElem_toArray, List.getElem_cons_zero, List.getElem_cons_succ])
      go_simp
    (try simp only [List.getElem_toArray, List.getElem_cons_zero, List.getElem_cons_succ])
    (try simp only [Act.put, List.setIfInBounds_toArray, List.set_cons_zero, List.set_cons_succ])
    refine wpAnyH_take (i := 7) (oi := _) (v := .agg #[.bool fn, .string fx, .string fy]) rfl (by kernel_rfl) (by kernel_rfl) (by kernel_rfl) (fun _ _ _ h => h) (Or.inl ⟨by rfl, ?_⟩) (by assumption) ?_
    · intro u' hSu
      (try simp only [List.getElem_toArray, List.getElem_cons_zero, List.getElem_cons_succ])
      obtain ⟨s1, s2, s3, s4, s5, s6⟩ := hSu
      go_simp
    (try simp only [List.getElem_toArray, List.getElem_cons_zero, List.getElem_cons_succ])
    (try simp only [Act.put, List.setIfInBounds_toArray, List.set_cons_zero, List.set_cons_succ])
    refine wpAnyH_ready (rs := [8]) (by kernel_rfl) (by simp) (AllReadyH.cons rfl ?_ (AllReadyH.nil))
    · intro K' hK'
      (try simp only [List.getElem_toArray, List.getElem_cons_zero, List.getElem_cons_succ])
      go_simp
      refine (HC.out _).mono ?_
      rintro e u2 ⟨rfl, hb⟩
      replace hb0 := hb0.below hb hb0.lt
      replace hB := hB.trans (hb.mono hB.size)
      refine hK'.out _ _ (HELD.out _ hB) (fun hSe => ?_)
      clear hK' K' hSd
      have hSd := hSe
      clear hSe hb
      (try simp only [List.getElem_toArray, List.getElem_cons_zero, List.getElem_cons_succ])
      (try simp only [Act.put, List.setIfInBounds_toArray, List.set_cons_zero, List.set_cons_succ])
      obtain ⟨k0, k1, k2, f0, f1, f2⟩ := hb0.facts
      refine wpAnyH_ready (rs := [9]) (by kernel_rfl) (by simp) (AllReadyH.cons rfl ?_ (AllReadyH.nil))
      · intro K' hK'
        (try simp only [List.getElem_toArray, List.getElem_cons_zero, List.getElem_cons_succ])
        go_simp
        have hput := hb0.put (sgn r) (nu r) (de r)
        have hBp := below_put hB (g := w.heap.size) (Nat.le_refl _) (.bool (sgn r)) (.string (nu r)) (.string (de r))
        generalize (((u2.setCell ⟨w.heap.size, 0, none⟩ (.bool (sgn r))).setCell ⟨w.heap.size, 1, none⟩ (.string (nu r))).setCell ⟨w.heap.size, 2, none⟩ (.string (de r))) = v9 at *
        refine hK'.out _ _ (HELD.out _ hBp) (fun _ => wpAnyH_done (by kernel_rfl) ?_ _)
        clear hK' K' hSd
        go_wp2
        refine bodyPost_ret (hput.result rfl _ rfl) rfl ?_
        exact ⟨rfl, hBp⟩

set_option maxRecDepth 100000 in
set_option maxHeartbeats 400000 in
theorem out11_any (Bt Bf Bv : Nat) (c : Option Addr) (cc : Nat) (lb : Array Value) (l : List Fr) (k val P : Nat) (hP : P < l.length) (w : World) (hBt : Bt < w.heap.size) (xc : w.cell? ⟨Bt, 1, none⟩ = some (.slice c l.length cc)) (hBf : Bf < w.heap.size) (xf : w.cell? ⟨Bf, 0, none⟩ = some (.func (.func 113) #[] lb)) (hBv : Bv < w.heap.size) (xv : w.cell? ⟨Bv, 0, none⟩ = some (.int .i64 (k : Nat))) (hf : FrS w c l)
    (hc : ∀ V, Below w.heap.size w V → Calls Tryz.prog 113 (#[.int .i64 (k : Nat), .int .i64 (val : Nat)] ++ lb) V fun e w' => e = .returned (.int .i64 (P : Nat)) ∧ Below V.heap.size V w') :
    Calls Tryz.prog 69 #[.int .i64 (val : Nat), .pointer (some ⟨Bt, 0, none⟩), .pointer (some ⟨Bf, 0, none⟩), .pointer (some ⟨Bv, 0, none⟩)] w fun e w' => e = .returned (frV (celF l P)) ∧ Below w.heap.size w w' := by
  obtain ⟨g, o, rfl, hg, a0, a1, a2⟩ := hf P hP
  rw [← celF_eq hP] at a0 a1 a2
  have HW := hid hc
  clear hf hc
  generalize celF l P = f at *
  obtain ⟨fn, fx, fy⟩ := f
  simp only at a0 a1 a2
  have hb0 : Box (w.alloc (FC false ⟨#[]⟩ ⟨#[]⟩)) w.heap.size false ⟨#[]⟩ ⟨#[]⟩ := Box.new w _ _ _
  have hB : Below w.heap.size w (w.alloc (FC false ⟨#[]⟩ ⟨#[]⟩)) := (Below.refl _ w).alloc (Nat.le_refl _) _
  go_enter Tryz.func69, Tryz.ntmps69
  go_upto_region 1 with fail
  generalize (w.alloc (FC false ⟨#[]⟩ ⟨#[]⟩)) = W at *
  replace hb0 := hb0.drew
  replace hB := hB.drew
  have held : ∀ u, Below w.heap.size w u → u.cell? ⟨Bt, 1, none⟩ = some (.slice (some ⟨g, o, none⟩) l.length cc) ∧ u.cell? ⟨Bf, 0, none⟩ = some (.func (.func 113) #[] lb) ∧ u.cell? ⟨Bv, 0, none⟩ = some (.int .i64 (k : Nat)) ∧ u.cell? ⟨g, o + P * 3, none⟩ = some (.bool fn) ∧ u.cell? ⟨g, o + P * 3 + 1, none⟩ = some (.string fx) ∧ u.cell? ⟨g, o + P * 3 + 2, none⟩ = some (.string fy) := fun u h => ⟨(h.cell (p := ⟨Bt, 1, none⟩) hBt).trans xc, (h.cell (p := ⟨Bf, 0, none⟩) hBf).trans xf, (h.cell (p := ⟨Bv, 0, none⟩) hBv).trans xv, (h.cell (p := ⟨g, _, none⟩) hg).trans a0, (h.cell (p := ⟨g, _, none⟩) hg).trans a1, (h.cell (p := ⟨g, _, none⟩) hg).trans a2⟩
  have HELD := hid held
  clear held a0 a1 a2 xc xf xv
  refine wp_region_held_drew (S := fun u => u.cell? ⟨Bt, 1, none⟩ = some (.slice (some ⟨g, o, none⟩) l.length cc) ∧ u.cell? ⟨Bf, 0, none⟩ = some (.func (.func 113) #[] lb) ∧ u.cell? ⟨Bv, 0, none⟩ = some (.int .i64 (k : Nat)) ∧ u.cell? ⟨g, o + P * 3, none⟩ = some (.bool fn) ∧ u.cell? ⟨g, o + P * 3 + 1, none⟩ = some (.string fx) ∧ u.cell? ⟨g, o + P * 3 + 2, none⟩ = some (.string fy)) (by kernel_rfl) (HELD.out _ hB) (fun hSd => ?_)
  generalize W.drew = u0 at *
  refine wpAnyH_take (i := 0) (oi := _) (v := .pointer (some ⟨Bt, 1, none⟩)) rfl (by kernel_rfl) (by kernel_rfl) (by kernel_rfl) (fun _ _ _ h => h) (Or.inl ⟨by rfl, ?_⟩) (by assumption) ?_
  · intro u' hSu
    (try simp only [List.getElem_toArray, List.getElem_cons_zero])
    go_simp
  (try simp only [List.getElem_toArray, List.getElem_cons_zero])
  (try simp only [Act.put, List.setIfInBounds_toArray, List.set_cons_zero, List.set_cons_succ])
  refine wpAnyH_take (i := 1) (oi := _) (v := .slice (some ⟨g, o, none⟩) l.length cc) rfl (by kernel_rfl) (by kernel_rfl) (by kernel_rfl) (fun _ _ _ h => h) (Or.inl ⟨by rfl, ?_⟩) (by assumption) ?_
  · intro u' hSu
    (try simp only [List.getElem_toArray, List.getElem_cons_zero, List.getElem_cons_succ])
    obtain ⟨s1, s2, s3, s4, s5, s6⟩ := hSu
    go_simp
  (try simp only [List.getElem_toArray, List.getElem_cons_zero, List.getElem_cons_succ])
  (try simp only [Act.put, List.setIfInBounds_toArray, List.set_cons_zero, List.set_cons_succ])
  refine wpAnyH_take (i := 2) (oi := _) (v := .func (.func 113) #[] lb) rfl (by kernel_rfl) (by kernel_rfl) (by kernel_rfl) (fun _ _ _ h => h) (Or.inl ⟨by rfl, ?_⟩) (by assumption) ?_
  · intro u' hSu
    (try simp only [List.getElem_toArray, List.getElem_cons_zero, List.getElem_cons_succ])
    obtain ⟨s1, s2, s3, s4, s5, s6⟩ := hSu
    go_simp
  (try simp only [List.getElem_toArray, List.getElem_cons_zero, List.getElem_cons_succ])
  (try simp only [Act.put, List.setIfInBounds_toArray, List.set_cons_zero, List.set_cons_succ])
  refine wpAnyH_take (i := 3) (oi := _) (v := .int .i64 (k : Nat)) rfl (by kernel_rfl) (by kernel_rfl) (by kernel_rfl) (fun _ _ _ h => h) (Or.inl ⟨by rfl, ?_⟩) (by assumption) ?_
  · intro u' hSu
    (try simp only [List.getElem_toArray, List.getElem_cons_zero, List.getElem_cons_succ])
    obtain ⟨s1, s2, s3, s4, s5, s6⟩ := hSu
    go_simp
  (try simp only [List.getElem_toArray, List.getElem_cons_zero, List.getElem_cons_succ])
  (try simp only [Act.put, List.setIfInBounds_toArray, List.set_cons_zero, List.set_cons_succ])
  refine wpAnyH_take (i := 4) (oi := _) (v := .int .i64 (val : Nat)) rfl (by kernel_rfl) (by kernel_rfl) (by kernel_rfl) (fun _ _ _ h => h) (Or.inl ⟨by rfl, ?_⟩) (by assumption) ?_
  · intro u' hSu
    (try simp only [List.getElem_toArray, List.getElem_cons_zero, List.getElem_cons_succ])
    go_simp
  (try simp only [List.getElem_toArray, List.getElem_cons_zero, List.getElem_cons_succ])
  (try simp only [Act.put, List.setIfInBounds_toArray, List.set_cons_zero, List.set_cons_succ])
  refine wpAnyH_ready (rs := [5]) (by kernel_rfl) (by simp) (AllReadyH.cons rfl ?_ (AllReadyH.nil))
  · intro K' hK'
    (try simp only [List.getElem_toArray, List.getElem_cons_zero, List.getElem_cons_succ])
    go_simp
    refine (HW.out _ hB).mono ?_
    rintro e u1 ⟨rfl, hb⟩
    replace hb0 := hb0.below hb hb0.lt
    replace hB := hB.trans (hb.mono hB.size)
    refine hK'.out _ _ (HELD.out _ hB) (fun hSe => ?_)
    clear hK' K' hSd
    have hSd := hSe
    clear hSe hb
    (try simp only [List.getElem_toArray, List.getElem_cons_zero, List.getElem_cons_succ])
    (try simp only [Act.put, List.setIfInBounds_toArray, List.set_cons_zero, List.set_cons_succ])
    refine wpAnyH_take (i := 6) (oi := _) (v := .pointer (some ⟨g, o + P * 3, none⟩)) rfl (by kernel_rfl) (by kernel_rfl) (by kernel_rfl) (fun _ _ _ h => h) (Or.inl ⟨by rfl, ?_⟩) (by assumption) ?_
    · intro u' hSu
      (try simp only [List.getElem_toArray, List.getElem_cons_zero, List.getElem_cons_succ])
      go_simp
    (try simp only [List.getElem_toArray, List.getElem_cons_zero, List.getElem_cons_succ])
    (try simp only [Act.put, List.setIfInBounds_toArray, List.set_cons_zero, List.set_cons_succ])
    refine wpAnyH_take (i := 7) (oi := _) (v := .agg #[.bool fn, .string fx, .string fy]) rfl (by kernel_rfl) (by kernel_rfl) (by kernel_rfl) (fun _ _ _ h => h) (Or.inl ⟨by rfl, ?_⟩) (by assumption) ?_
    · intro u' hSu
      (try simp only [List.getElem_toArray, List.getElem_cons_zero, List.getElem_cons_succ])
      obtain ⟨s1, s2, s3, s4, s5, s6⟩ := hSu
      go_simp
    (try simp only [List.getElem_toArray, List.getElem_cons_zero, List.getElem_cons_succ])
    (try simp only [Act.put, List.setIfInBounds_toArray, List.set_cons_zero, List.set_cons_succ])
    obtain ⟨k0, k1, k2, f0, f1, f2⟩ := hb0.facts
    refine wpAnyH_ready (rs := [8]) (by kernel_rfl) (by simp) (AllReadyH.cons rfl ?_ (AllReadyH.nil))
    · intro K' hK'
      (try simp only [List.getElem_toArray, List.getElem_cons_zero, List.getElem_cons_succ])
      go_simp
      have hput := hb0.put (fn) (fx) (fy)
      have hBp := below_put hB (g := w.heap.size) (Nat.le_refl _) (.bool (fn)) (.string (fx)) (.string (fy))
      generalize (((u1.setCell ⟨w.heap.size, 0, none⟩ (.bool (fn))).setCell ⟨w.heap.size, 1, none⟩ (.string (fx))).setCell ⟨w.heap.size, 2, none⟩ (.string (fy))) = v9 at *
      refine hK'.out _ _ (HELD.out _ hBp) (fun _ => wpAnyH_done (by kernel_rfl) ?_ _)
      clear hK' K' hSd
      go_wp2
      refine bodyPost_ret (hput.result rfl _ rfl) rfl ?_
      exact ⟨rfl, hBp⟩
end Go.Proofs.YtknlhejhnopnaaaGreatDoor

/- Package table: Fix. -/
namespace Go.Proofs.YtknlhejhnopnaaaGreatDoor
open Go.RowKit Go.Shelf

/-- What a call on one table holds: the table, and its result's block. -/
def NR (w V : World) (T R : Nat) (u v : Value) : Prop := TBox V T u v ∧ TBox V R (.slice none 0 0) (.slice none 0 0) ∧ Below w.heap.size w V
theorem NR.step {w V V' : World} {T R : Nat} {u v : Value} (h : NR w V T R u v) (hb : Below V.heap.size V V') : NR w V' T R u v := ⟨h.1.below hb h.1.lt, h.2.1.below hb h.2.1.lt, h.2.2.trans (hb.mono h.2.2.size)⟩
theorem NR.drew {w V : World} {T R : Nat} {u v : Value} (h : NR w V T R u v) : NR w V.drew T R u v := ⟨h.1, h.2.1, h.2.2.drew⟩
theorem NR.off {w V : World} {T R : Nat} {u v : Value} (h : NR w V T R u v) (B j : Nat) (y : Value) (hT : T ≠ B) (hR : R ≠ B) (hB : w.heap.size ≤ B) : NR w (V.setCell ⟨B, j, none⟩ y) T R u v := ⟨h.1.off B j y hT, h.2.1.off B j y hR, h.2.2.setCell (p := ⟨B, j, none⟩) hB y⟩
theorem NR.fin {w V : World} {T R : Nat} {u v : Value} (h : NR w V T R u v) (hR : w.heap.size ≤ R) {vars : List Int} {b : Option Addr} {cb : Nat} {l : List Fr} {G cc : Nat} (hi : IntS V b vars) (hr : RowF V G l) (hG : G ≠ R) (x y : Value) (hx : x = .slice b vars.length cb) (hy : y = .slice (some ⟨G, 0, none⟩) l.length cc) :
    TBox ((V.setCell ⟨R, 0, none⟩ x).setCell ⟨R, 1, none⟩ y) R x y ∧ TabA vars l 0 (.returned (.tuple #[.agg #[x, y], .int .i64 0])) ((V.setCell ⟨R, 0, none⟩ x).setCell ⟨R, 1, none⟩ y) ∧ Below w.heap.size w ((V.setCell ⟨R, 0, none⟩ x).setCell ⟨R, 1, none⟩ y) := by
  subst hx hy
  exact ⟨h.2.1.put _ _, ⟨b, some ⟨G, 0, none⟩, cb, cc, rfl, hi.putT h.2.1 (slv _ _ _) (slv _ _ _) (slv _ _ _) _, ((hr.off _ 0 _ hG).off _ 1 _ hG).fr⟩, below_put2 h.2.2 hR _ _⟩
theorem up_iff {l : List Int} {n : Nat} : Up l n ↔ (∀ x ∈ l, 0 ≤ x ∧ x < n) ∧ l.Pairwise (· < ·) := by
  constructor
  · intro h
    refine ⟨fun x hx => ?_, List.pairwise_iff_getElem.2 fun i j hi hj hij => h.lt i j hj hij⟩
    obtain ⟨i, hi, rfl⟩ := List.getElem_of_mem hx
    exact h.each i hi
  · rintro ⟨h1, h2⟩
    exact ⟨fun i hi => h1 _ (List.getElem_mem hi), fun i j hj hi => List.pairwise_iff_getElem.1 h2 i j (by omega) hj hi⟩
theorem lessN_up {vars : List Int} {n : Nat} (h : Up vars n) (v : Int) : Up (lessN vars v) n := by
  rw [up_iff] at h ⊢
  exact ⟨fun x hx => h.1 x (List.mem_filter.1 hx).1, h.2.filter _⟩
theorem lessN_out {vars : List Int} {n v : Nat} (h : Up vars n) : ¬ v ∈ toN (lessN vars (v : Int)) := fun hm => by
  obtain ⟨x, hx, e⟩ := List.mem_map.1 hm
  have h1 := (up_iff.1 (lessN_up h v)).1 x hx
  have h2 := (List.mem_filter.1 hx).2
  simp at h2
  omega
theorem fixL_length (S vars rest : List Nat) (v x : Nat) (l : List Fr) : (fixL S vars rest v x l).length = cnt S rest := by simp [fixL]
theorem fixL_get (S vars rest : List Nat) (v x : Nat) (l : List Fr) {k : Nat} (h : k < (fixL S vars rest v x l).length) : (fixL S vars rest v x l)[k] = qF (frQ (celF l (pos S (withV (asg S rest k) v x) vars))) := by simp [fixL]
theorem StandW.shape {W : World} {n m : Nat} {f : Value} {a b : Option Addr} {ca cb : Nat} {sizes vars other : List Int} {v : Nat} (h : StandW W n m f a b ca cb sizes vars other v) : ∃ lb, f = .func (.func 113) #[] lb := by
  obtain ⟨_, _, _, he, _⟩ := h
  exact ⟨_, he⟩
theorem StandW.top {W : World} {n m : Nat} {f : Value} {a b : Option Addr} {ca cb : Nat} {sizes vars other : List Int} {v : Nat} (h : StandW W n m f a b ca cb sizes vars other v) : m ≤ W.heap.size := by
  obtain ⟨_, _, _, _, _, _, _, _, hm, _⟩ := h
  exact hm
theorem StandW.below {W V : World} {n m : Nat} {f : Value} {a b : Option Addr} {ca cb : Nat} {sizes vars other : List Int} {v : Nat} (h : StandW W n m f a b ca cb sizes vars other v) (hb : Below W.heap.size W V) : StandW V n m f a b ca cb sizes vars other v := h.kept (KeepsIn.of_below hb h.top)
/-- The place of an assignment with one more value is a place. -/
theorem with_lt {sizes vars rest : List Int} {v x K m : Nat} (hk : checkA sizes vars m = 0) (hK : K < cnt (toN sizes) (toN rest)) (hx : x < sz (toN sizes) v) : pos (toN sizes) (withV (asg (toN sizes) (toN rest) K) v x) (toN vars) < m := by
  obtain ⟨h1, h2, h3⟩ := checkA_parts hk
  rw [h3]
  exact pos_lt _ (withV_lt (fun u => asg_lt h1.pos _ _ u hK) hx) _
set_option maxRecDepth 100000 in
set_option maxHeartbeats 400000 in
theorem tFix_no (a b c : Option Addr) (ca cb cc m : Nat) (sizes vars : List Int) (v x : Int) (w : World) (hs : IntS w a sizes) (hv : IntS w b vars) (hn : sizes.length ≤ 140737488355328) (hm : vars.length ≤ 140737488355328) (hk : checkA sizes vars m ≠ 0) :
    Calls Tryz.prog 22 #[.slice a sizes.length ca, .agg #[.slice b vars.length cb, .slice c m cc], .int .i64 v, .int .i64 x] w fun e w' => TabA [] [] (checkA sizes vars m) e w' ∧ Below w.heap.size w w' := by
  have HC := hid (fun V h1 h2 => tCheck_any a b c ca cb cc m sizes vars V h1 h2 hn hm)
  generalize checkA sizes vars m = r at *
  have HS := hid hs
  have HV := hid hv
  have hH : NR w (((w.alloc (TC (.slice b vars.length cb) (.slice c m cc))).alloc (.cells #[.int .i64 x] 3)).alloc (TC (.slice none 0 0) (.slice none 0 0))) w.heap.size (w.heap.size + 1 + 1) (.slice b vars.length cb) (.slice c m cc) := ⟨((TBox.at (w := w) rfl _ _).alloc _).alloc _, TBox.at (by simp) _ _, (((Below.refl _ w).alloc (Nat.le_refl _) _).alloc (by simp) _).alloc (by simp; omega) _⟩
  have hX : Boxed (((w.alloc (TC (.slice b vars.length cb) (.slice c m cc))).alloc (.cells #[.int .i64 x] 3)).alloc (TC (.slice none 0 0) (.slice none 0 0))) (w.heap.size + 1) 3 (.int .i64 x) := by
    have h := (Boxed.new (w.alloc (TC (.slice b vars.length cb) (.slice c m cc))) 3 (.int .i64 x)).alloc (TC (.slice none 0 0) (.slice none 0 0))
    rwa [World.size_alloc] at h
  have c0 := hH.1.c0
  have c1 := hH.1.c1
  go_enter Tryz.func22, Tryz.ntmps22
  go_wp2_with fail
  generalize (((w.alloc (TC (.slice b vars.length cb) (.slice c m cc))).alloc (.cells #[.int .i64 x] 3)).alloc (TC (.slice none 0 0) (.slice none 0 0))) = W at *
  refine (HC.out _ (HS.out.below hH.2.2) (HV.out.below hH.2.2)).mono ?_
  rintro e w1 ⟨rfl, hb1⟩
  replace hH := hH.step hb1
  replace hX := boxed_keep hX hb1
  clear c0 c1 hb1
  have hrb : (r == 0) = false := by simp [hk]
  obtain ⟨k0, k1, f0, f1⟩ := hH.2.1.facts
  go_wp2
  refine bodyPost_ret ((hH.2.1.put _ _).result2 rfl _ rfl) rfl ?_
  exact ⟨TabA.empty _ _, below_put2 hH.2.2 (by omega) _ _⟩
set_option maxRecDepth 100000 in
set_option maxHeartbeats 400000 in
theorem tFix_var (a b c : Option Addr) (ca cb cc m : Nat) (sizes vars : List Int) (v x : Int) (w : World) (hs : IntS w a sizes) (hv : IntS w b vars) (hn : sizes.length ≤ 140737488355328) (hm : vars.length ≤ 140737488355328) (hk : checkA sizes vars m = 0) (hv' : ¬ (0 ≤ v ∧ v < (sizes.length : Int))) :
    Calls Tryz.prog 22 #[.slice a sizes.length ca, .agg #[.slice b vars.length cb, .slice c m cc], .int .i64 v, .int .i64 x] w fun e w' => TabA [] [] 11 e w' ∧ Below w.heap.size w w' := by
  have HCK := fun V h1 h2 => tCheck_any a b c ca cb cc m sizes vars V h1 h2 hn hm
  rw [hk] at HCK
  have HC := hid HCK
  clear HCK
  have HS := hid hs
  have HV := hid hv
  have hH : NR w (((w.alloc (TC (.slice b vars.length cb) (.slice c m cc))).alloc (.cells #[.int .i64 x] 3)).alloc (TC (.slice none 0 0) (.slice none 0 0))) w.heap.size (w.heap.size + 1 + 1) (.slice b vars.length cb) (.slice c m cc) := ⟨((TBox.at (w := w) rfl _ _).alloc _).alloc _, TBox.at (by simp) _ _, (((Below.refl _ w).alloc (Nat.le_refl _) _).alloc (by simp) _).alloc (by simp; omega) _⟩
  have hX : Boxed (((w.alloc (TC (.slice b vars.length cb) (.slice c m cc))).alloc (.cells #[.int .i64 x] 3)).alloc (TC (.slice none 0 0) (.slice none 0 0))) (w.heap.size + 1) 3 (.int .i64 x) := by
    have h := (Boxed.new (w.alloc (TC (.slice b vars.length cb) (.slice c m cc))) 3 (.int .i64 x)).alloc (TC (.slice none 0 0) (.slice none 0 0))
    rwa [World.size_alloc] at h
  have c0 := hH.1.c0
  have c1 := hH.1.c1
  go_enter Tryz.func22, Tryz.ntmps22
  go_wp2_with fail
  generalize (((w.alloc (TC (.slice b vars.length cb) (.slice c m cc))).alloc (.cells #[.int .i64 x] 3)).alloc (TC (.slice none 0 0) (.slice none 0 0))) = W at *
  refine (HC.out _ (HS.out.below hH.2.2) (HV.out.below hH.2.2)).mono ?_
  rintro e w1 ⟨rfl, hb1⟩
  replace hH := hH.step hb1
  replace hX := boxed_keep hX hb1
  clear c0 c1 hb1
  obtain ⟨k0, k1, f0, f1⟩ := hH.2.1.facts
  by_cases h0 : v < 0
  · go_wp2
    refine bodyPost_ret ((hH.2.1.put _ _).result2 rfl _ rfl) rfl ?_
    exact ⟨TabA.empty _ _, below_put2 hH.2.2 (by omega) _ _⟩
  · have h0' : 0 ≤ v := by omega
    have h1 : (sizes.length : Int) ≤ v := by omega
    clear hv'
    go_wp2
    refine bodyPost_ret ((hH.2.1.put _ _).result2 rfl _ rfl) rfl ?_
    exact ⟨TabA.empty _ _, below_put2 hH.2.2 (by omega) _ _⟩
set_option maxRecDepth 100000 in
set_option maxHeartbeats 400000 in
theorem tFix_val (a b c : Option Addr) (ca cb cc m : Nat) (sizes vars : List Int) (v : Nat) (x : Int) (w : World) (hs : IntS w a sizes) (hv : IntS w b vars) (hn : sizes.length ≤ 140737488355328) (hm : vars.length ≤ 140737488355328) (hk : checkA sizes vars m = 0) (hv' : v < sizes.length) (hx' : ¬ (0 ≤ x ∧ x < (sz (toN sizes) v : Int))) :
    Calls Tryz.prog 22 #[.slice a sizes.length ca, .agg #[.slice b vars.length cb, .slice c m cc], .int .i64 (v : Nat), .int .i64 x] w fun e w' => TabA [] [] 12 e w' ∧ Below w.heap.size w w' := by
  have HIV := hid (fun V h => isValue_any a ca sizes v x V h (checkA_parts hk).1 hv')
  rw [decide_eq_false hx'] at HIV
  have HCK := fun V h1 h2 => tCheck_any a b c ca cb cc m sizes vars V h1 h2 hn hm
  rw [hk] at HCK
  have HC := hid HCK
  clear HCK
  have h0 : (0 : Int) ≤ (v : Int) := by omega
  have h1 : (v : Int) < (sizes.length : Int) := by omega
  clear hx'
  have HS := hid hs
  have HV := hid hv
  have hH : NR w (((w.alloc (TC (.slice b vars.length cb) (.slice c m cc))).alloc (.cells #[.int .i64 x] 3)).alloc (TC (.slice none 0 0) (.slice none 0 0))) w.heap.size (w.heap.size + 1 + 1) (.slice b vars.length cb) (.slice c m cc) := ⟨((TBox.at (w := w) rfl _ _).alloc _).alloc _, TBox.at (by simp) _ _, (((Below.refl _ w).alloc (Nat.le_refl _) _).alloc (by simp) _).alloc (by simp; omega) _⟩
  have hX : Boxed (((w.alloc (TC (.slice b vars.length cb) (.slice c m cc))).alloc (.cells #[.int .i64 x] 3)).alloc (TC (.slice none 0 0) (.slice none 0 0))) (w.heap.size + 1) 3 (.int .i64 x) := by
    have h := (Boxed.new (w.alloc (TC (.slice b vars.length cb) (.slice c m cc))) 3 (.int .i64 x)).alloc (TC (.slice none 0 0) (.slice none 0 0))
    rwa [World.size_alloc] at h
  have c0 := hH.1.c0
  have c1 := hH.1.c1
  go_enter Tryz.func22, Tryz.ntmps22
  go_wp2_with fail
  generalize (((w.alloc (TC (.slice b vars.length cb) (.slice c m cc))).alloc (.cells #[.int .i64 x] 3)).alloc (TC (.slice none 0 0) (.slice none 0 0))) = W at *
  refine (HC.out _ (HS.out.below hH.2.2) (HV.out.below hH.2.2)).mono ?_
  rintro e w1 ⟨rfl, hb1⟩
  replace hH := hH.step hb1
  replace hX := boxed_keep hX hb1
  clear c0 c1 hb1
  have cx := hX.cell
  go_wp2_with fail
  refine (HIV.out _ (HS.out.below hH.2.2)).mono ?_
  rintro e w2 ⟨rfl, hb2⟩
  replace hH := hH.step hb2
  clear cx hX hb2
  obtain ⟨k0, k1, f0, f1⟩ := hH.2.1.facts
  go_wp2
  refine bodyPost_ret ((hH.2.1.put _ _).result2 rfl _ rfl) rfl ?_
  exact ⟨TabA.empty _ _, below_put2 hH.2.2 (by omega) _ _⟩
set_option maxRecDepth 100000 in
set_option maxHeartbeats 800000 in
theorem tFix_yes (a b c : Option Addr) (ca cb cc : Nat) (sizes vars : List Int) (l : List Fr) (v x : Nat) (w : World) (hs : IntS w a sizes) (hv : IntS w b vars) (hf : FrS w c l) (hn : sizes.length ≤ 140737488355328) (hm : vars.length ≤ 140737488355328) (hk : checkA sizes vars l.length = 0) (hw : fw l ≤ 10000) (hv' : v < sizes.length) (hx' : x < sz (toN sizes) v) :
    Calls Tryz.prog 22 #[.slice a sizes.length ca, .agg #[.slice b vars.length cb, .slice c l.length cc], .int .i64 (v : Nat), .int .i64 (x : Nat)] w fun e w' => TabA (lessN vars (v : Int)) (fixL (toN sizes) (toN vars) (toN (lessN vars (v : Int))) v x l) 0 e w' ∧ Below w.heap.size w w' := by
  obtain ⟨hfi, hup, hlc⟩ := checkA_parts hk
  have HIV := hid (fun V h => isValue_any a ca sizes v x V h hfi hv')
  rw [decide_eq_true (show 0 ≤ (x : Int) ∧ (x : Int) < (sz (toN sizes) v : Int) by omega)] at HIV
  have hx4 : x ≤ 4 := by have := hfi.sz_le v; omega
  have HCK := fun V h1 h2 => tCheck_any a b c ca cb cc l.length sizes vars V h1 h2 hn hm
  rw [hk] at HCK
  have HC := hid HCK
  clear HCK
  have h0 : (0 : Int) ≤ (v : Int) := by omega
  have h1 : (v : Int) < (sizes.length : Int) := by omega
  have hrl : (lessN vars (v : Int)).length ≤ vars.length := List.length_filter_le _ _
  have hv8 := hup.length
  have hl8 := hfi.eight
  have HFI := hid hfi
  have HUP := hid hup
  have HUR := hid (lessN_up hup (v : Int))
  have HOU := hid (lessN_out (v := v) hup)
  have HPL := hid (fun K (hK : K < cnt (toN sizes) (toN (lessN vars (v : Int)))) => with_lt hk hK hx')
  have hfl := fixL_length (toN sizes) (toN vars) (toN (lessN vars (v : Int))) v x l
  have HFG := hid (fun (k : Nat) (h : k < (fixL (toN sizes) (toN vars) (toN (lessN vars (v : Int))) v x l).length) => fixL_get (toN sizes) (toN vars) (toN (lessN vars (v : Int))) v x l h)
  have HWO := hid (fun V h => without_any b cb vars (v : Int) V h (by omega))
  generalize fixL (toN sizes) (toN vars) (toN (lessN vars (v : Int))) v x l = FL at *
  generalize lessN vars (v : Int) = rest at *
  have HST := hid (fun V d cd h1 h2 => standingWith_any a d b ca cd cb sizes rest vars v V h1 h2 hfi hup hv')
  have HF := hid hf
  have HW := hid hw
  have HFL := hid hfl
  clear hx' hk hfi hup hlc hf hw hfl
  have HS := hid hs
  have HV := hid hv
  have hH : NR w (((w.alloc (TC (.slice b vars.length cb) (.slice c l.length cc))).alloc (.cells #[.int .i64 (x : Nat)] 3)).alloc (TC (.slice none 0 0) (.slice none 0 0))) w.heap.size (w.heap.size + 1 + 1) (.slice b vars.length cb) (.slice c l.length cc) := ⟨((TBox.at (w := w) rfl _ _).alloc _).alloc _, TBox.at (by simp) _ _, (((Below.refl _ w).alloc (Nat.le_refl _) _).alloc (by simp) _).alloc (by simp; omega) _⟩
  have hX : Boxed (((w.alloc (TC (.slice b vars.length cb) (.slice c l.length cc))).alloc (.cells #[.int .i64 (x : Nat)] 3)).alloc (TC (.slice none 0 0) (.slice none 0 0))) (w.heap.size + 1) 3 (.int .i64 (x : Nat)) := by
    have h := (Boxed.new (w.alloc (TC (.slice b vars.length cb) (.slice c l.length cc))) 3 (.int .i64 (x : Nat))).alloc (TC (.slice none 0 0) (.slice none 0 0))
    rwa [World.size_alloc] at h
  have c0 := hH.1.c0
  have c1 := hH.1.c1
  go_enter Tryz.func22, Tryz.ntmps22
  go_wp2_with fail
  generalize (((w.alloc (TC (.slice b vars.length cb) (.slice c l.length cc))).alloc (.cells #[.int .i64 (x : Nat)] 3)).alloc (TC (.slice none 0 0) (.slice none 0 0))) = W at *
  refine (HC.out _ (HS.out.below hH.2.2) (HV.out.below hH.2.2)).mono ?_
  rintro e w1 ⟨rfl, hb1⟩
  replace hH := hH.step hb1
  replace hX := boxed_keep hX hb1
  clear c0 c1 hb1
  have cx := hX.cell
  go_wp2_with fail
  refine (HIV.out _ (HS.out.below hH.2.2)).mono ?_
  rintro e w2 ⟨rfl, hb2⟩
  replace hH := hH.step hb2
  replace hX := boxed_keep hX hb2
  clear cx hb2 HIV HC
  have c0 := hH.1.c0
  go_wp2_with fail
  refine (HWO.out _ (HV.out.below hH.2.2)).mono ?_
  rintro e w3 ⟨d, cd, rfl, hi, hb3⟩
  replace hH := hH.step hb3
  replace hX := boxed_keep hX hb3
  clear c0 hb3 HWO
  have c0 := hH.1.c0
  go_wp2_with fail
  refine (HST.out _ d cd (HS.out.below hH.2.2) (HV.out.below hH.2.2)).mono ?_
  rintro e w4 ⟨f, rfl, hSW, hb4⟩
  have hl3 := hH.2.1.lt
  replace hH := hH.step hb4
  replace hX := boxed_keep hX hb4
  replace hi := hi.below hb4
  obtain ⟨lb, rfl⟩ := hSW.shape
  have hs4 := hb4.size
  clear c0 hb4 HST
  generalize w3.heap.size = n3 at *
  have hb6 : Below w4.heap.size w4 (w4.alloc (.cells #[.func (.func 113) #[] lb] 50)) := (Below.refl _ w4).alloc (Nat.le_refl _) _
  have hY : Boxed (w4.alloc (.cells #[.func (.func 113) #[] lb] 50)) w4.heap.size 50 (.func (.func 113) #[] lb) := Boxed.new w4 _ _
  replace hH := hH.step hb6
  replace hX := boxed_keep hX hb6
  replace hSW := hSW.below hb6
  replace hi := hi.below hb6
  go_wp2_with fail
  clear hb6
  generalize (w4.alloc (.cells #[.func (.func 113) #[] lb] 50)) = w5 at *
  generalize w4.heap.size = B12 at *
  have hfill := fill_any a d ca cd sizes rest 74 #[.pointer (some ⟨w.heap.size, 0, none⟩), .pointer (some ⟨B12, 0, none⟩), .pointer (some ⟨w.heap.size + 1, 0, none⟩)] (enters_of Tryz.func74 (by kernel_rfl) rfl) FL w5 (HS.out.below hH.2.2) hi HFI.out HUR.out HFL.out (fun k hk V hb => by
    rw [HFG.out k hk]
    have hk' : k < cnt (toN sizes) (toN rest) := by rw [← HFL.out]; exact hk
    have hB := hH.2.2.trans (hb.mono hH.2.2.size)
    refine fix1_any w.heap.size B12 (w.heap.size + 1) c cc lb l k x _ (HPL.out k hk') V (Nat.lt_of_lt_of_le hH.1.lt hb.size) ((hb.cell (p := ⟨w.heap.size, 1, none⟩) hH.1.lt).trans hH.1.c1) (Nat.lt_of_lt_of_le hY.lt hb.size) (boxed_keep hY hb).cell (Nat.lt_of_lt_of_le hX.lt hb.size) (boxed_keep hX hb).cell (HF.out.below hB) HW.out ?_
    intro V' hb'
    have hb2 := hb.trans (hb'.mono hb.size)
    exact ((hSW.below hb2).calls (HS.out.below (hB.trans (hb'.mono hB.size))) (hi.below hb2) HFI.out HUR.out HUP.out HOU.out hk' hx4))
  have HFILL := hid hfill
  clear hfill
  refine HFILL.out.mono ?_
  rintro e w6 ⟨G, rfl, hG, hrow, hb6⟩
  have hl6 := hH.2.1.lt
  replace hH := hH.step hb6
  replace hi := hi.below hb6
  obtain ⟨k0, k1, f0, f1⟩ := hH.2.1.facts
  obtain ⟨e1, e2, e3⟩ := hH.fin (by omega) (cb := cd) (cc := FL.length) hi hrow (by omega) (.slice d rest.length cd) (.slice (some ⟨G, 0, none⟩) FL.length FL.length) rfl rfl
  go_wp2
  refine bodyPost_ret (e1.result2 rfl _ rfl) rfl ?_
  exact ⟨e2, e3⟩
end Go.Proofs.YtknlhejhnopnaaaGreatDoor
