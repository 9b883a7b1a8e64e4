/- Package table: the closure of Product. -/
import Derived.Test.YtknlhejhnopnaaaGreatDoorSliBToTogB
import Derived.Laws.EntriesVeiled
namespace Go.Proofs.YtknlhejhnopnaaaGreatDoor
open Go.RowKit Go.Shelf

set_option maxRecDepth 100000 in
set_option maxHeartbeats 800000 in
theorem prod1_any (Ba Fa Bb Fb : Nat) (c d : Option Addr) (ca cb : Nat) (fa fb : Array Value) (la lb : List Fr) (k P Q : Nat) (hP : P < la.length) (hQ : Q < lb.length) (w : World)
    (hBa : Ba < w.heap.size) (xa : w.cell? ⟨Ba, 1, none⟩ = some (.slice c la.length ca)) (hFa : Fa < w.heap.size) (ya : w.cell? ⟨Fa, 0, none⟩ = some (.func (.func 103) #[] fa)) (hBb : Bb < w.heap.size) (xb : w.cell? ⟨Bb, 1, none⟩ = some (.slice d lb.length cb)) (hFb : Fb < w.heap.size) (yb : w.cell? ⟨Fb, 0, none⟩ = some (.func (.func 103) #[] fb)) (ha : FrS w c la) (hb : FrS w d lb) (wa : fw la ≤ 10000) (wb : fw lb ≤ 10000)
    (h1 : ∀ V, Below w.heap.size w V → Calls Tryz.prog 103 (#[.int .i64 (k : Nat)] ++ fa) V fun e w' => e = .returned (.int .i64 (P : Nat)) ∧ Below V.heap.size V w')
    (h2 : ∀ V, Below w.heap.size w V → Calls Tryz.prog 103 (#[.int .i64 (k : Nat)] ++ fb) V fun e w' => e = .returned (.int .i64 (Q : Nat)) ∧ Below V.heap.size V w') :
    Calls Tryz.prog 54 #[.int .i64 (k : Nat), .pointer (some ⟨Ba, 0, none⟩), .pointer (some ⟨Fa, 0, none⟩), .pointer (some ⟨Bb, 0, none⟩), .pointer (some ⟨Fb, 0, none⟩)] w fun e w' => e = .returned (frV (qF (frQ (celF la P) * frQ (celF lb Q)))) ∧ Below w.heap.size w w' := by
  obtain ⟨g, o, rfl, hg, a0, a1, a2⟩ := ha P hP
  obtain ⟨h, p, rfl, hh, b0, b1, b2⟩ := hb Q hQ
  have hsa := celF_size hP
  have hsb := celF_size hQ
  rw [← celF_eq hP] at a0 a1 a2
  rw [← celF_eq hQ] at b0 b1 b2
  have HC := hid (fun V : World => fMul_q (w := V) (frQ (celF la P) * frQ (celF lb Q)) rfl rfl rfl (show (celF la P).2.1.size + (celF la P).2.2.size ≤ 100000 by omega) (show (celF lb Q).2.1.size + (celF lb Q).2.2.size ≤ 100000 by omega))
  rw [frV_qF]
  have H1 := hid h1
  have H2 := hid h2
  generalize frQ (celF la P) * frQ (celF lb Q) = r at *
  clear ha hb h1 h2 hsa hsb wa wb
  generalize celF la P = f at *
  generalize celF lb Q = f' at *
  obtain ⟨xn, xx, xy⟩ := f
  obtain ⟨yn, yx, yy⟩ := f'
  simp only at a0 a1 a2 b0 b1 b2 HC
  have hb0 : Box (w.alloc (FC false ⟨#[]⟩ ⟨#[]⟩)) w.heap.size false ⟨#[]⟩ ⟨#[]⟩ := Box.new w _ _ _
  have hB : Below w.heap.size w (w.alloc (FC false ⟨#[]⟩ ⟨#[]⟩)) := (Below.refl _ w).alloc (Nat.le_refl _) _
  go_enter Tryz.func54, Tryz.ntmps54
  go_upto_region 1 with fail
  generalize (w.alloc (FC false ⟨#[]⟩ ⟨#[]⟩)) = W at *
  replace hb0 := hb0.drew
  replace hB := hB.drew
  have held : ∀ u, Below w.heap.size w u → u.cell? ⟨Ba, 1, none⟩ = some (.slice (some ⟨g, o, none⟩) la.length ca) ∧ u.cell? ⟨Fa, 0, none⟩ = some (.func (.func 103) #[] fa) ∧ u.cell? ⟨Bb, 1, none⟩ = some (.slice (some ⟨h, p, none⟩) lb.length cb) ∧ u.cell? ⟨Fb, 0, none⟩ = some (.func (.func 103) #[] fb) ∧ u.cell? ⟨g, o + P * 3, none⟩ = some (.bool xn) ∧ u.cell? ⟨g, o + P * 3 + 1, none⟩ = some (.string xx) ∧ u.cell? ⟨g, o + P * 3 + 2, none⟩ = some (.string xy) ∧ u.cell? ⟨h, p + Q * 3, none⟩ = some (.bool yn) ∧ u.cell? ⟨h, p + Q * 3 + 1, none⟩ = some (.string yx) ∧ u.cell? ⟨h, p + Q * 3 + 2, none⟩ = some (.string yy) := fun u e => ⟨(e.cell (p := ⟨Ba, 1, none⟩) hBa).trans xa, (e.cell (p := ⟨Fa, 0, none⟩) hFa).trans ya, (e.cell (p := ⟨Bb, 1, none⟩) hBb).trans xb, (e.cell (p := ⟨Fb, 0, none⟩) hFb).trans yb, (e.cell (p := ⟨g, _, none⟩) hg).trans a0, (e.cell (p := ⟨g, _, none⟩) hg).trans a1, (e.cell (p := ⟨g, _, none⟩) hg).trans a2, (e.cell (p := ⟨h, _, none⟩) hh).trans b0, (e.cell (p := ⟨h, _, none⟩) hh).trans b1, (e.cell (p := ⟨h, _, none⟩) hh).trans b2⟩
  have HELD := hid held
  clear held a0 a1 a2 b0 b1 b2 xa ya xb yb
  refine wp_region_held_drew (S := fun u => u.cell? ⟨Ba, 1, none⟩ = some (.slice (some ⟨g, o, none⟩) la.length ca) ∧ u.cell? ⟨Fa, 0, none⟩ = some (.func (.func 103) #[] fa) ∧ u.cell? ⟨Bb, 1, none⟩ = some (.slice (some ⟨h, p, none⟩) lb.length cb) ∧ u.cell? ⟨Fb, 0, none⟩ = some (.func (.func 103) #[] fb) ∧ u.cell? ⟨g, o + P * 3, none⟩ = some (.bool xn) ∧ u.cell? ⟨g, o + P * 3 + 1, none⟩ = some (.string xx) ∧ u.cell? ⟨g, o + P * 3 + 2, none⟩ = some (.string xy) ∧ u.cell? ⟨h, p + Q * 3, none⟩ = some (.bool yn) ∧ u.cell? ⟨h, p + Q * 3 + 1, none⟩ = some (.string yx) ∧ u.cell? ⟨h, p + Q * 3 + 2, none⟩ = some (.string yy)) (by kernel_rfl) (HELD.out _ hB) (fun hSd => ?_)
  generalize W.drew = u0 at *
  refine wpAnyH_take (i := 0) (oi := _) (v := .pointer (some ⟨Ba, 1, none⟩)) rfl (by kernel_rfl) (by kernel_rfl) (by kernel_rfl) (fun _ _ _ h => h) (Or.inl ⟨by rfl, ?_⟩) (by assumption) ?_
  · intro u' hSu
    (try simp only [List.getElem_toArray, List.getElem_cons_zero])
    go_simp
  (try simp only [List.getElem_toArray, List.getElem_cons_zero])
  (try simp only [Act.put, List.setIfInBounds_toArray, List.set_cons_zero, List.set_cons_succ])
  refine wpAnyH_take (i := 1) (oi := _) (v := .slice (some ⟨g, o, none⟩) la.length ca) rfl (by kernel_rfl) (by kernel_rfl) (by kernel_rfl) (fun _ _ _ h => h) (Or.inl ⟨by rfl, ?_⟩) (by assumption) ?_
  · intro u' hSu
    (try simp only [List.getElem_toArray, List.getElem_cons_zero, List.getElem_cons_succ])
    obtain ⟨s1, s2, s3, s4, s5, s6, s7, s8, s9, s10⟩ := hSu
    go_simp
  (try simp only [List.getElem_toArray, List.getElem_cons_zero, List.getElem_cons_succ])
  (try simp only [Act.put, List.setIfInBounds_toArray, List.set_cons_zero, List.set_cons_succ])
  refine wpAnyH_take (i := 2) (oi := _) (v := .func (.func 103) #[] fa) rfl (by kernel_rfl) (by kernel_rfl) (by kernel_rfl) (fun _ _ _ h => h) (Or.inl ⟨by rfl, ?_⟩) (by assumption) ?_
  · intro u' hSu
    (try simp only [List.getElem_toArray, List.getElem_cons_zero, List.getElem_cons_succ])
    obtain ⟨s1, s2, s3, s4, s5, s6, s7, s8, s9, s10⟩ := hSu
    go_simp
  (try simp only [List.getElem_toArray, List.getElem_cons_zero, List.getElem_cons_succ])
  (try simp only [Act.put, List.setIfInBounds_toArray, List.set_cons_zero, List.set_cons_succ])
  refine wpAnyH_take (i := 3) (oi := _) (v := .int .i64 (k : Nat)) rfl (by kernel_rfl) (by kernel_rfl) (by kernel_rfl) (fun _ _ _ h => h) (Or.inl ⟨by rfl, ?_⟩) (by assumption) ?_
  · intro u' hSu
    (try simp only [List.getElem_toArray, List.getElem_cons_zero, List.getElem_cons_succ])
    go_simp
  (try simp only [List.getElem_toArray, List.getElem_cons_zero, List.getElem_cons_succ])
  (try simp only [Act.put, List.setIfInBounds_toArray, List.set_cons_zero, List.set_cons_succ])
  refine wpAnyH_take (i := 7) (oi := _) (v := .pointer (some ⟨Bb, 1, none⟩)) rfl (by kernel_rfl) (by kernel_rfl) (by kernel_rfl) (fun _ _ _ h => h) (Or.inl ⟨by rfl, ?_⟩) (by assumption) ?_
  · intro u' hSu
    (try simp only [List.getElem_toArray, List.getElem_cons_zero, List.getElem_cons_succ])
    go_simp
  (try simp only [List.getElem_toArray, List.getElem_cons_zero, List.getElem_cons_succ])
  (try simp only [Act.put, List.setIfInBounds_toArray, List.set_cons_zero, List.set_cons_succ])
  refine wpAnyH_take (i := 8) (oi := _) (v := .slice (some ⟨h, p, none⟩) lb.length cb) rfl (by kernel_rfl) (by kernel_rfl) (by kernel_rfl) (fun _ _ _ h => h) (Or.inl ⟨by rfl, ?_⟩) (by assumption) ?_
  · intro u' hSu
    (try simp only [List.getElem_toArray, List.getElem_cons_zero, List.getElem_cons_succ])
    obtain ⟨s1, s2, s3, s4, s5, s6, s7, s8, s9, s10⟩ := hSu
    go_simp
  (try simp only [List.getElem_toArray, List.getElem_cons_zero, List.getElem_cons_succ])
  (try simp only [Act.put, List.setIfInBounds_toArray, List.set_cons_zero, List.set_cons_succ])
  refine wpAnyH_take (i := 9) (oi := _) (v := .func (.func 103) #[] fb) rfl (by kernel_rfl) (by kernel_rfl) (by kernel_rfl) (fun _ _ _ h => h) (Or.inl ⟨by rfl, ?_⟩) (by assumption) ?_
  · intro u' hSu
    (try simp only [List.getElem_toArray, List.getElem_cons_zero, List.getElem_cons_succ])
    obtain ⟨s1, s2, s3, s4, s5, s6, s7, s8, s9, s10⟩ := hSu
    go_simp
  (try simp only [List.getElem_toArray, List.getElem_cons_zero, List.getElem_cons_succ])
  (try simp only [Act.put, List.setIfInBounds_toArray, List.set_cons_zero, List.set_cons_succ])
  refine wpAnyH_take (i := 10) (oi := _) (v := .int .i64 (k : Nat)) rfl (by kernel_rfl) (by kernel_rfl) (by kernel_rfl) (fun _ _ _ h => h) (Or.inl ⟨by rfl, ?_⟩) (by assumption) ?_
  · intro u' hSu
    (try simp only [List.getElem_toArray, List.getElem_cons_zero, List.getElem_cons_succ])
    go_simp
  (try simp only [List.getElem_toArray, List.getElem_cons_zero, List.getElem_cons_succ])
  (try simp only [Act.put, List.setIfInBounds_toArray, List.set_cons_zero, List.set_cons_succ])
  refine wpAnyH_ready (rs := [4]) (by kernel_rfl) (by simp) (AllReadyH.cons rfl ?_ (AllReadyH.nil))
  · intro K' hK'
    (try simp only [List.getElem_toArray, List.getElem_cons_zero, List.getElem_cons_succ])
    go_simp
    refine (H1.out _ hB).mono ?_
    rintro e u1 ⟨rfl, hb⟩
    replace hb0 := hb0.below hb hb0.lt
    replace hB := hB.trans (hb.mono hB.size)
    refine hK'.out _ _ (HELD.out _ hB) (fun hSe => ?_)
    clear hK' K' hSd
    have hSd := hSe
    clear hSe hb
    (try simp only [List.getElem_toArray, List.getElem_cons_zero, List.getElem_cons_succ])
    (try simp only [Act.put, List.setIfInBounds_toArray, List.set_cons_zero, List.set_cons_succ])
    refine wpAnyH_take (i := 5) (oi := _) (v := .pointer (some ⟨g, o + P * 3, none⟩)) rfl (by kernel_rfl) (by kernel_rfl) (by kernel_rfl) (fun _ _ _ h => h) (Or.inl ⟨by rfl, ?_⟩) (by assumption) ?_
    · intro u' hSu
      (try simp only [List.getElem_toArray, List.getElem_cons_zero, List.getElem_cons_succ])
      go_simp
    (try simp only [List.getElem_toArray, List.getElem_cons_zero, List.getElem_cons_succ])
    (try simp only [Act.put, List.setIfInBounds_toArray, List.set_cons_zero, List.set_cons_succ])
    refine wpAnyH_take (i := 6) (oi := _) (v := .agg #[.bool xn, .string xx, .string xy]) rfl (by kernel_rfl) (by kernel_rfl) (by kernel_rfl) (fun _ _ _ h => h) (Or.inl ⟨by rfl, ?_⟩) (by assumption) ?_
    · intro u' hSu
      (try simp only [List.getElem_toArray, List.getElem_cons_zero, List.getElem_cons_succ])
      obtain ⟨s1, s2, s3, s4, s5, s6, s7, s8, s9, s10⟩ := hSu
      go_simp
    (try simp only [List.getElem_toArray, List.getElem_cons_zero, List.getElem_cons_succ])
    (try simp only [Act.put, List.setIfInBounds_toArray, List.set_cons_zero, List.set_cons_succ])
    refine wpAnyH_ready (rs := [11]) (by kernel_rfl) (by simp) (AllReadyH.cons rfl ?_ (AllReadyH.nil))
    · intro K' hK'
      (try simp only [List.getElem_toArray, List.getElem_cons_zero, List.getElem_cons_succ])
      go_simp
      refine (H2.out _ hB).mono ?_
      rintro e u2 ⟨rfl, hb⟩
      replace hb0 := hb0.below hb hb0.lt
      replace hB := hB.trans (hb.mono hB.size)
      refine hK'.out _ _ (HELD.out _ hB) (fun hSe => ?_)
      clear hK' K' hSd
      have hSd := hSe
      clear hSe hb
      (try simp only [List.getElem_toArray, List.getElem_cons_zero, List.getElem_cons_succ])
      (try simp only [Act.put, List.setIfInBounds_toArray, List.set_cons_zero, List.set_cons_succ])
      refine wpAnyH_take (i := 12) (oi := _) (v := .pointer (some ⟨h, p + Q * 3, none⟩)) rfl (by kernel_rfl) (by kernel_rfl) (by kernel_rfl) (fun _ _ _ h => h) (Or.inl ⟨by rfl, ?_⟩) (by assumption) ?_
      · intro u' hSu
        (try simp only [List.getElem_toArray, List.getElem_cons_zero, List.getElem_cons_succ])
        go_simp
      (try simp only [List.getElem_toArray, List.getElem_cons_zero, List.getElem_cons_succ])
      (try simp only [Act.put, List.setIfInBounds_toArray, List.set_cons_zero, List.set_cons_succ])
      refine wpAnyH_take (i := 13) (oi := _) (v := .agg #[.bool yn, .string yx, .string yy]) rfl (by kernel_rfl) (by kernel_rfl) (by kernel_rfl) (fun _ _ _ h => h) (Or.inl ⟨by rfl, ?_⟩) (by assumption) ?_
      · intro u' hSu
        (try simp only [List.getElem_toArray, List.getElem_cons_zero, List.getElem_cons_succ])
        obtain ⟨s1, s2, s3, s4, s5, s6, s7, s8, s9, s10⟩ := hSu
        go_simp
      (try simp only [List.getElem_toArray, List.getElem_cons_zero, List.getElem_cons_succ])
      (try simp only [Act.put, List.setIfInBounds_toArray, List.set_cons_zero, List.set_cons_succ])
      refine wpAnyH_ready (rs := [14]) (by kernel_rfl) (by simp) (AllReadyH.cons rfl ?_ (AllReadyH.nil))
      · intro K' hK'
        (try simp only [List.getElem_toArray, List.getElem_cons_zero, List.getElem_cons_succ])
        go_simp
        refine (HC.out _).mono ?_
        rintro e u3 ⟨rfl, hb⟩
        replace hb0 := hb0.below hb hb0.lt
        replace hB := hB.trans (hb.mono hB.size)
        refine hK'.out _ _ (HELD.out _ hB) (fun hSe => ?_)
        clear hK' K' hSd
        have hSd := hSe
        clear hSe hb
        (try simp only [List.getElem_toArray, List.getElem_cons_zero, List.getElem_cons_succ])
        (try simp only [Act.put, List.setIfInBounds_toArray, List.set_cons_zero, List.set_cons_succ])
        obtain ⟨k0, k1, k2, f0, f1, f2⟩ := hb0.facts
        refine wpAnyH_ready (rs := [15]) (by kernel_rfl) (by simp) (AllReadyH.cons rfl ?_ (AllReadyH.nil))
        · intro K' hK'
          (try simp only [List.getElem_toArray, List.getElem_cons_zero, List.getElem_cons_succ])
          go_simp
          have hput := hb0.put (sgn r) (nu r) (de r)
          have hBp := below_put hB (g := w.heap.size) (Nat.le_refl _) (.bool (sgn r)) (.string (nu r)) (.string (de r))
          generalize (((u3.setCell ⟨w.heap.size, 0, none⟩ (.bool (sgn r))).setCell ⟨w.heap.size, 1, none⟩ (.string (nu r))).setCell ⟨w.heap.size, 2, none⟩ (.string (de r))) = v9 at *
          refine hK'.out _ _ (HELD.out _ hBp) (fun _ => wpAnyH_done (by kernel_rfl) ?_ _)
          clear hK' K' hSd
          go_wp2
          refine bodyPost_ret (hput.result rfl _ rfl) rfl ?_
          exact ⟨rfl, hBp⟩
end Go.Proofs.YtknlhejhnopnaaaGreatDoor
