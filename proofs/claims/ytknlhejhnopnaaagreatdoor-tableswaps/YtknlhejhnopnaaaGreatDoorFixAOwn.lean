/- Package table: the closures of Fix and Out. -/
import Derived.Test.YtknlhejhnopnaaaGreatDoorBytesAToTabT
import Derived.Laws.EntriesVeiled
namespace Go.Proofs.YtknlhejhnopnaaaGreatDoor
open Go.RowKit Go.Shelf

set_option maxRecDepth 100000 in
set_option maxHeartbeats 400000 in
theorem fix1_any (Bt Bf Bv : Nat) (c : Option Addr) (cc : Nat) (lb : Array Value) (l : List Fr) (k val P : Nat) (hP : P < l.length) (w : World) (hBt : Bt < w.heap.size) (xc : w.cell? ⟨Bt, 1, none⟩ = some (.slice c l.length cc)) (hBf : Bf < w.heap.size) (xf : w.cell? ⟨Bf, 0, none⟩ = some (.func (.func 113) #[] lb)) (hBv : Bv < w.heap.size) (xv : w.cell? ⟨Bv, 0, none⟩ = some (.int .i64 (val : Nat))) (hf : FrS w c l) (h1 : fw l ≤ 10000)
    (hc : ∀ V, Below w.heap.size w V → Calls Tryz.prog 113 (#[.int .i64 (k : Nat), .int .i64 (val : Nat)] ++ lb) V fun e w' => e = .returned (.int .i64 (P : Nat)) ∧ Below V.heap.size V w') :
    Calls Tryz.prog 74 #[.int .i64 (k : Nat), .pointer (some ⟨Bt, 0, none⟩), .pointer (some ⟨Bf, 0, none⟩), .pointer (some ⟨Bv, 0, none⟩)] w fun e w' => e = .returned (frV (qF (frQ (celF l P)))) ∧ Below w.heap.size w w' := by
  obtain ⟨g, o, rfl, hg, a0, a1, a2⟩ := hf P hP
  have hsz := celF_size hP
  rw [← celF_eq hP] at a0 a1 a2
  have HW := hid hc
  have HC := hid (fun V : World => Canon_q (w := V) (frQ (celF l P)) rfl (show (celF l P).2.1.size + (celF l P).2.2.size ≤ 100000 by omega))
  rw [frV_qF]
  generalize frQ (celF l P) = r at *
  clear hf hc h1 hsz
  generalize celF l P = f at *
  obtain ⟨fn, fx, fy⟩ := f
  simp only at a0 a1 a2 HC
  have hb0 : Box (w.alloc (FC false ⟨#[]⟩ ⟨#[]⟩)) w.heap.size false ⟨#[]⟩ ⟨#[]⟩ := Box.new w _ _ _
  have hB : Below w.heap.size w (w.alloc (FC false ⟨#[]⟩ ⟨#[]⟩)) := (Below.refl _ w).alloc (Nat.le_refl _) _
  go_enter Tryz.func74, Tryz.ntmps74
  go_upto_region 1 with fail
  generalize (w.alloc (FC false ⟨#[]⟩ ⟨#[]⟩)) = W at *
  replace hb0 := hb0.drew
  replace hB := hB.drew
  have held : ∀ u, Below w.heap.size w u → u.cell? ⟨Bt, 1, none⟩ = some (.slice (some ⟨g, o, none⟩) l.length cc) ∧ u.cell? ⟨Bf, 0, none⟩ = some (.func (.func 113) #[] lb) ∧ u.cell? ⟨Bv, 0, none⟩ = some (.int .i64 (val : Nat)) ∧ u.cell? ⟨g, o + P * 3, none⟩ = some (.bool fn) ∧ u.cell? ⟨g, o + P * 3 + 1, none⟩ = some (.string fx) ∧ u.cell? ⟨g, o + P * 3 + 2, none⟩ = some (.string fy) := fun u h => ⟨(h.cell (p := ⟨Bt, 1, none⟩) hBt).trans xc, (h.cell (p := ⟨Bf, 0, none⟩) hBf).trans xf, (h.cell (p := ⟨Bv, 0, none⟩) hBv).trans xv, (h.cell (p := ⟨g, _, none⟩) hg).trans a0, (h.cell (p := ⟨g, _, none⟩) hg).trans a1, (h.cell (p := ⟨g, _, none⟩) hg).trans a2⟩
  have HELD := hid held
  clear held a0 a1 a2 xc xf xv
  refine wp_region_held_drew (S := fun u => u.cell? ⟨Bt, 1, none⟩ = some (.slice (some ⟨g, o, none⟩) l.length cc) ∧ u.cell? ⟨Bf, 0, none⟩ = some (.func (.func 113) #[] lb) ∧ u.cell? ⟨Bv, 0, none⟩ = some (.int .i64 (val : Nat)) ∧ u.cell? ⟨g, o + P * 3, none⟩ = some (.bool fn) ∧ u.cell? ⟨g, o + P * 3 + 1, none⟩ = some (.string fx) ∧ u.cell? ⟨g, o + P * 3 + 2, none⟩ = some (.string fy)) (by kernel_rfl) (HELD.out _ hB) (fun hSd => ?_)
  generalize W.drew = u0 at *
  refine wpAnyH_take (i := 0) (oi := _) (v := .pointer (some ⟨Bt, 1, none⟩)) rfl (by kernel_rfl) (by kernel_rfl) (by kernel_rfl) (fun _ _ _ h => h) (Or.inl ⟨by rfl, ?_⟩) (by assumption) ?_
  · intro u' hSu
    (try simp only [List.getElem_toArray, List.getElem_cons_zero])
    go_simp
  (try simp only [List.getElem_toArray, List.getElem_cons_zero])
  (try simp only [Act.put, List.setIfInBounds_toArray, List.set_cons_zero, List.set_cons_succ])
  refine wpAnyH_take (i := 1) (oi := _) (v := .slice (some ⟨g, o, none⟩) l.length cc) rfl (by kernel_rfl) (by kernel_rfl) (by kernel_rfl) (fun _ _ _ h => h) (Or.inl ⟨by rfl, ?_⟩) (by assumption) ?_
  · intro u' hSu
    (try simp only [List.getElem_toArray, List.getElem_cons_zero, List.getElem_cons_succ])
    obtain ⟨s1, s2, s3, s4, s5, s6⟩ := hSu
    go_simp
  (try simp only [List.getElem_toArray, List.getElem_cons_zero, List.getElem_cons_succ])
  (try simp only [Act.put, List.setIfInBounds_toArray, List.set_cons_zero, List.set_cons_succ])
  refine wpAnyH_take (i := 2) (oi := _) (v := .func (.func 113) #[] lb) rfl (by kernel_rfl) (by kernel_rfl) (by kernel_rfl) (fun _ _ _ h => h) (Or.inl ⟨by rfl, ?_⟩) (by assumption) ?_
  · intro u' hSu
    (try simp only [List.getElem_toArray, List.getElem_cons_zero, List.getElem_cons_succ])
    obtain ⟨s1, s2, s3, s4, s5, s6⟩ := hSu
    go_simp
  (try simp only [List.getElem_toArray, List.getElem_cons_zero, List.getElem_cons_succ])
  (try simp only [Act.put, List.setIfInBounds_toArray, List.set_cons_zero, List.set_cons_succ])
  refine wpAnyH_take (i := 3) (oi := _) (v := .int .i64 (k : Nat)) rfl (by kernel_rfl) (by kernel_rfl) (by kernel_rfl) (fun _ _ _ h => h) (Or.inl ⟨by rfl, ?_⟩) (by assumption) ?_
  · intro u' hSu
    (try simp only [List.getElem_toArray, List.getElem_cons_zero, List.getElem_cons_succ])
    go_simp
  (try simp only [List.getElem_toArray, List.getElem_cons_zero, List.getElem_cons_succ])
  (try simp only [Act.put, List.setIfInBounds_toArray, List.set_cons_zero, List.set_cons_succ])
  refine wpAnyH_take (i := 4) (oi := _) (v := .int .i64 (val : Nat)) rfl (by kernel_rfl) (by kernel_rfl) (by kernel_rfl) (fun _ _ _ h => h) (Or.inl ⟨by rfl, ?_⟩) (by assumption) ?_
  · intro u' hSu
    (try simp only [List.getElem_toArray, List.getElem_cons_zero, List.getElem_cons_succ])
    obtain ⟨s1, s2, s3, s4, s5, s6⟩ := hSu
    go_simp
  (try simp only [List.getElem_toArray, List.getElem_cons_zero, List.getElem_cons_succ])
  (try simp only [Act.put, List.setIfInBounds_toArray, List.set_cons_zero, List.set_cons_succ])
  refine wpAnyH_ready (rs := [5]) (by kernel_rfl) (by simp) (AllReadyH.cons rfl ?_ (AllReadyH.nil))
  · intro K' hK'
    (try simp only [List.getElem_toArray, List.getElem_cons_zero, List.getElem_cons_succ])
    go_simp
    refine (HW.out _ hB).mono ?_
    rintro e u1 ⟨rfl, hb⟩
    replace hb0 := hb0.below hb hb0.lt
    replace hB := hB.trans (hb.mono hB.size)
    refine hK'.out _ _ (HELD.out _ hB) (fun hSe => ?_)
    clear hK' K' hSd
    have hSd := hSe
    clear hSe hb
    (try simp only [List.getElem_toArray, List.getElem_cons_zero, List.getElem_cons_succ])
    (try simp only [Act.put, List.setIfInBounds_toArray, List.set_cons_zero, List.set_cons_succ])
    refine wpAnyH_take (i := 6) (oi := _) (v := .pointer (some ⟨g, o + P * 3, none⟩)) rfl (by kernel_rfl) (by kernel_rfl) (by kernel_rfl) (fun _ _ _ h => h) (Or.inl ⟨by rfl, ?_⟩) (by assumption) ?_
    · intro u' hSu
      (try simp only [List.getElem_toArray, List.getElem_cons_zero, List.getElem_cons_succ])
      go_simp
    (try simp only [List.getElem_toArray, List.getElem_cons_zero, List.getElem_cons_succ])
    (try simp only [Act.put, List.setIfInBounds_toArray, List.set_cons_zero, List.set_cons_succ])
    refine wpAnyH_take (i := 7) (oi := _) (v := .agg #[.bool fn, .string fx, .string fy]) rfl (by kernel_rfl) (by kernel_rfl) (by kernel_rfl) (fun _ _ _ h => h) (Or.inl ⟨by rfl, ?_⟩) (by assumption) ?_
    · intro u' hSu
      (try simp only [List.getElem_toArray, List.getElem_cons_zero, List.getElem_cons_succ])
      obtain ⟨s1, s2, s3, s4, s5, s6⟩ := hSu
      go_simp
    (try simp only [List.getElem_toArray, List.getElem_cons_zero, List.getElem_cons_succ])
    (try simp only [Act.put, List.setIfInBounds_toArray, List.set_cons_zero, List.set_cons_succ])
    refine wpAnyH_ready (rs := [8]) (by kernel_rfl) (by simp) (AllReadyH.cons rfl ?_ (AllReadyH.nil))
    · intro K' hK'
      (try simp only [List.getElem_toArray, List.getElem_cons_zero, List.getElem_cons_succ])
      go_simp
      refine (HC.out _).mono ?_
      rintro e u2 ⟨rfl, hb⟩
      replace hb0 := hb0.below hb hb0.lt
      replace hB := hB.trans (hb.mono hB.size)
      refine hK'.out _ _ (HELD.out _ hB) (fun hSe => ?_)
      clear hK' K' hSd
      have hSd := hSe
      clear hSe hb
      (try simp only [List.getElem_toArray, List.getElem_cons_zero, List.getElem_cons_succ])
      (try simp only [Act.put, List.setIfInBounds_toArray, List.set_cons_zero, List.set_cons_succ])
      obtain ⟨k0, k1, k2, f0, f1, f2⟩ := hb0.facts
      refine wpAnyH_ready (rs := [9]) (by kernel_rfl) (by simp) (AllReadyH.cons rfl ?_ (AllReadyH.nil))
      · intro K' hK'
        (try simp only [List.getElem_toArray, List.getElem_cons_zero, List.getElem_cons_succ])
        go_simp
        have hput := hb0.put (sgn r) (nu r) (de r)
        have hBp := below_put hB (g := w.heap.size) (Nat.le_refl _) (.bool (sgn r)) (.string (nu r)) (.string (de r))
        generalize (((u2.setCell ⟨w.heap.size, 0, none⟩ (.bool (sgn r))).setCell ⟨w.heap.size, 1, none⟩ (.string (nu r))).setCell ⟨w.heap.size, 2, none⟩ (.string (de r))) = v9 at *
        refine hK'.out _ _ (HELD.out _ hBp) (fun _ => wpAnyH_done (by kernel_rfl) ?_ _)
        clear hK' K' hSd
        go_wp2
        refine bodyPost_ret (hput.result rfl _ rfl) rfl ?_
        exact ⟨rfl, hBp⟩

set_option maxRecDepth 100000 in
set_option maxHeartbeats 400000 in
theorem out11_any (Bt Bf Bv : Nat) (c : Option Addr) (cc : Nat) (lb : Array Value) (l : List Fr) (k val P : Nat) (hP : P < l.length) (w : World) (hBt : Bt < w.heap.size) (xc : w.cell? ⟨Bt, 1, none⟩ = some (.slice c l.length cc)) (hBf : Bf < w.heap.size) (xf : w.cell? ⟨Bf, 0, none⟩ = some (.func (.func 113) #[] lb)) (hBv : Bv < w.heap.size) (xv : w.cell? ⟨Bv, 0, none⟩ = some (.int .i64 (k : Nat))) (hf : FrS w c l)
    (hc : ∀ V, Below w.heap.size w V → Calls Tryz.prog 113 (#[.int .i64 (k : Nat), .int .i64 (val : Nat)] ++ lb) V fun e w' => e = .returned (.int .i64 (P : Nat)) ∧ Below V.heap.size V w') :
    Calls Tryz.prog 69 #[.int .i64 (val : Nat), .pointer (some ⟨Bt, 0, none⟩), .pointer (some ⟨Bf, 0, none⟩), .pointer (some ⟨Bv, 0, none⟩)] w fun e w' => e = .returned (frV (celF l P)) ∧ Below w.heap.size w w' := by
  obtain ⟨g, o, rfl, hg, a0, a1, a2⟩ := hf P hP
  rw [← celF_eq hP] at a0 a1 a2
  have HW := hid hc
  clear hf hc
  generalize celF l P = f at *
  obtain ⟨fn, fx, fy⟩ := f
  simp only at a0 a1 a2
  have hb0 : Box (w.alloc (FC false ⟨#[]⟩ ⟨#[]⟩)) w.heap.size false ⟨#[]⟩ ⟨#[]⟩ := Box.new w _ _ _
  have hB : Below w.heap.size w (w.alloc (FC false ⟨#[]⟩ ⟨#[]⟩)) := (Below.refl _ w).alloc (Nat.le_refl _) _
  go_enter Tryz.func69, Tryz.ntmps69
  go_upto_region 1 with fail
  generalize (w.alloc (FC false ⟨#[]⟩ ⟨#[]⟩)) = W at *
  replace hb0 := hb0.drew
  replace hB := hB.drew
  have held : ∀ u, Below w.heap.size w u → u.cell? ⟨Bt, 1, none⟩ = some (.slice (some ⟨g, o, none⟩) l.length cc) ∧ u.cell? ⟨Bf, 0, none⟩ = some (.func (.func 113) #[] lb) ∧ u.cell? ⟨Bv, 0, none⟩ = some (.int .i64 (k : Nat)) ∧ u.cell? ⟨g, o + P * 3, none⟩ = some (.bool fn) ∧ u.cell? ⟨g, o + P * 3 + 1, none⟩ = some (.string fx) ∧ u.cell? ⟨g, o + P * 3 + 2, none⟩ = some (.string fy) := fun u h => ⟨(h.cell (p := ⟨Bt, 1, none⟩) hBt).trans xc, (h.cell (p := ⟨Bf, 0, none⟩) hBf).trans xf, (h.cell (p := ⟨Bv, 0, none⟩) hBv).trans xv, (h.cell (p := ⟨g, _, none⟩) hg).trans a0, (h.cell (p := ⟨g, _, none⟩) hg).trans a1, (h.cell (p := ⟨g, _, none⟩) hg).trans a2⟩
  have HELD := hid held
  clear held a0 a1 a2 xc xf xv
  refine wp_region_held_drew (S := fun u => u.cell? ⟨Bt, 1, none⟩ = some (.slice (some ⟨g, o, none⟩) l.length cc) ∧ u.cell? ⟨Bf, 0, none⟩ = some (.func (.func 113) #[] lb) ∧ u.cell? ⟨Bv, 0, none⟩ = some (.int .i64 (k : Nat)) ∧ u.cell? ⟨g, o + P * 3, none⟩ = some (.bool fn) ∧ u.cell? ⟨g, o + P * 3 + 1, none⟩ = some (.string fx) ∧ u.cell? ⟨g, o + P * 3 + 2, none⟩ = some (.string fy)) (by kernel_rfl) (HELD.out _ hB) (fun hSd => ?_)
  generalize W.drew = u0 at *
  refine wpAnyH_take (i := 0) (oi := _) (v := .pointer (some ⟨Bt, 1, none⟩)) rfl (by kernel_rfl) (by kernel_rfl) (by kernel_rfl) (fun _ _ _ h => h) (Or.inl ⟨by rfl, ?_⟩) (by assumption) ?_
  · intro u' hSu
    (try simp only [List.getElem_toArray, List.getElem_cons_zero])
    go_simp
  (try simp only [List.getElem_toArray, List.getElem_cons_zero])
  (try simp only [Act.put, List.setIfInBounds_toArray, List.set_cons_zero, List.set_cons_succ])
  refine wpAnyH_take (i := 1) (oi := _) (v := .slice (some ⟨g, o, none⟩) l.length cc) rfl (by kernel_rfl) (by kernel_rfl) (by kernel_rfl) (fun _ _ _ h => h) (Or.inl ⟨by rfl, ?_⟩) (by assumption) ?_
  · intro u' hSu
    (try simp only [List.getElem_toArray, List.getElem_cons_zero, List.getElem_cons_succ])
    obtain ⟨s1, s2, s3, s4, s5, s6⟩ := hSu
    go_simp
  (try simp only [List.getElem_toArray, List.getElem_cons_zero, List.getElem_cons_succ])
  (try simp only [Act.put, List.setIfInBounds_toArray, List.set_cons_zero, List.set_cons_succ])
  refine wpAnyH_take (i := 2) (oi := _) (v := .func (.func 113) #[] lb) rfl (by kernel_rfl) (by kernel_rfl) (by kernel_rfl) (fun _ _ _ h => h) (Or.inl ⟨by rfl, ?_⟩) (by assumption) ?_
  · intro u' hSu
    (try simp only [List.getElem_toArray, List.getElem_cons_zero, List.getElem_cons_succ])
    obtain ⟨s1, s2, s3, s4, s5, s6⟩ := hSu
    go_simp
  (try simp only [List.getElem_toArray, List.getElem_cons_zero, List.getElem_cons_succ])
  (try simp only [Act.put, List.setIfInBounds_toArray, List.set_cons_zero, List.set_cons_succ])
  refine wpAnyH_take (i := 3) (oi := _) (v := .int .i64 (k : Nat)) rfl (by kernel_rfl) (by kernel_rfl) (by kernel_rfl) (fun _ _ _ h => h) (Or.inl ⟨by rfl, ?_⟩) (by assumption) ?_
  · intro u' hSu
    (try simp only [List.getElem_toArray, List.getElem_cons_zero, List.getElem_cons_succ])
    obtain ⟨s1, s2, s3, s4, s5, s6⟩ := hSu
    go_simp
  (try simp only [List.getElem_toArray, List.getElem_cons_zero, List.getElem_cons_succ])
  (try simp only [Act.put, List.setIfInBounds_toArray, List.set_cons_zero, List.set_cons_succ])
  refine wpAnyH_take (i := 4) (oi := _) (v := .int .i64 (val : Nat)) rfl (by kernel_rfl) (by kernel_rfl) (by kernel_rfl) (fun _ _ _ h => h) (Or.inl ⟨by rfl, ?_⟩) (by assumption) ?_
  · intro u' hSu
    (try simp only [List.getElem_toArray, List.getElem_cons_zero, List.getElem_cons_succ])
    go_simp
  (try simp only [List.getElem_toArray, List.getElem_cons_zero, List.getElem_cons_succ])
  (try simp only [Act.put, List.setIfInBounds_toArray, List.set_cons_zero, List.set_cons_succ])
  refine wpAnyH_ready (rs := [5]) (by kernel_rfl) (by simp) (AllReadyH.cons rfl ?_ (AllReadyH.nil))
  · intro K' hK'
    (try simp only [List.getElem_toArray, List.getElem_cons_zero, List.getElem_cons_succ])
    go_simp
    refine (HW.out _ hB).mono ?_
    rintro e u1 ⟨rfl, hb⟩
    replace hb0 := hb0.below hb hb0.lt
    replace hB := hB.trans (hb.mono hB.size)
    refine hK'.out _ _ (HELD.out _ hB) (fun hSe => ?_)
    clear hK' K' hSd
    have hSd := hSe
    clear hSe hb
    (try simp only [List.getElem_toArray, List.getElem_cons_zero, List.getElem_cons_succ])
    (try simp only [Act.put, List.setIfInBounds_toArray, List.set_cons_zero, List.set_cons_succ])
    refine wpAnyH_take (i := 6) (oi := _) (v := .pointer (some ⟨g, o + P * 3, none⟩)) rfl (by kernel_rfl) (by kernel_rfl) (by kernel_rfl) (fun _ _ _ h => h) (Or.inl ⟨by rfl, ?_⟩) (by assumption) ?_
    · intro u' hSu
      (try simp only [List.getElem_toArray, List.getElem_cons_zero, List.getElem_cons_succ])
      go_simp
    (try simp only [List.getElem_toArray, List.getElem_cons_zero, List.getElem_cons_succ])
    (try simp only [Act.put, List.setIfInBounds_toArray, List.set_cons_zero, List.set_cons_succ])
    refine wpAnyH_take (i := 7) (oi := _) (v := .agg #[.bool fn, .string fx, .string fy]) rfl (by kernel_rfl) (by kernel_rfl) (by kernel_rfl) (fun _ _ _ h => h) (Or.inl ⟨by rfl, ?_⟩) (by assumption) ?_
    · intro u' hSu
      (try simp only [List.getElem_toArray, List.getElem_cons_zero, List.getElem_cons_succ])
      obtain ⟨s1, s2, s3, s4, s5, s6⟩ := hSu
      go_simp
    (try simp only [List.getElem_toArray, List.getElem_cons_zero, List.getElem_cons_succ])
    (try simp only [Act.put, List.setIfInBounds_toArray, List.set_cons_zero, List.set_cons_succ])
    obtain ⟨k0, k1, k2, f0, f1, f2⟩ := hb0.facts
    refine wpAnyH_ready (rs := [8]) (by kernel_rfl) (by simp) (AllReadyH.cons rfl ?_ (AllReadyH.nil))
    · intro K' hK'
      (try simp only [List.getElem_toArray, List.getElem_cons_zero, List.getElem_cons_succ])
      go_simp
      have hput := hb0.put (fn) (fx) (fy)
      have hBp := below_put hB (g := w.heap.size) (Nat.le_refl _) (.bool (fn)) (.string (fx)) (.string (fy))
      generalize (((u1.setCell ⟨w.heap.size, 0, none⟩ (.bool (fn))).setCell ⟨w.heap.size, 1, none⟩ (.string (fx))).setCell ⟨w.heap.size, 2, none⟩ (.string (fy))) = v9 at *
      refine hK'.out _ _ (HELD.out _ hBp) (fun _ => wpAnyH_done (by kernel_rfl) ?_ _)
      clear hK' K' hSd
      go_wp2
      refine bodyPost_ret (hput.result rfl _ rfl) rfl ?_
      exact ⟨rfl, hBp⟩
end Go.Proofs.YtknlhejhnopnaaaGreatDoor
