/- Package table: Best. -/
import Derived.Test.YtknlhejhnopnaaaGreatDoorTabMToTabT
import Derived.Test.YtknlhejhnopnaaaGreatDoorStandDOwn
import Derived.Laws.EntriesVeiled
import Derived.Test.YtknlhejhnopnaaaGreatDoorRtHToSwapA
namespace Go.Proofs.YtknlhejhnopnaaaGreatDoor
open Go.RowKit Go.Shelf

set_option maxRecDepth 100000 in
set_option maxHeartbeats 400000 in
theorem tBest_no (a b c : Option Addr) (ca cb cc m : Nat) (sizes vars : List Int) (w : World) (hs : IntS w a sizes) (hv : IntS w b vars) (hn : sizes.length ≤ 140737488355328) (hm : vars.length ≤ 140737488355328) (hk : checkA sizes vars m ≠ 0) :
    Calls Tryz.prog 26 #[.slice a sizes.length ca, .agg #[.slice b vars.length cb, .slice c m cc]] w fun e w' => e = .returned (.tuple #[.slice none 0 0, .agg #[.bool false, .string ⟨#[]⟩, .string ⟨#[]⟩], .int .i64 (checkA sizes vars m)]) ∧ Below w.heap.size w w' := by
  have HS := hid hs
  have HV := hid hv
  have HC := hid (fun V h1 h2 => tCheck_any a b c ca cb cc m sizes vars V h1 h2 hn hm)
  generalize checkA sizes vars m = r at *
  clear hs hv hn hm
  have hH : BH w ((w.alloc (TC (.slice b vars.length cb) (.slice c m cc))).alloc (FC false ⟨#[]⟩ ⟨#[]⟩)) (.slice b vars.length cb) (.slice c m cc) := ⟨(TBox.at (w := w) rfl _ _).alloc _, Box.at (w := w.alloc (TC (.slice b vars.length cb) (.slice c m cc))) (by simp) _ _ _, ((Below.refl _ w).alloc (Nat.le_refl _) _).alloc (by simp) _⟩
  have c0 := hH.1.c0
  have c1 := hH.1.c1
  go_enter Tryz.func26, Tryz.ntmps26
  go_wp2_with fail
  generalize ((w.alloc (TC (.slice b vars.length cb) (.slice c m cc))).alloc (FC false ⟨#[]⟩ ⟨#[]⟩)) = W at *
  refine (HC.out _ (HS.out.below hH.2.2) (HV.out.below hH.2.2)).mono ?_
  rintro e w1 ⟨rfl, hb1⟩
  replace hH := hH.step hb1
  obtain ⟨k0, k1, k2, f0, f1, f2⟩ := hH.2.1.facts
  clear c0 c1 hb1
  have hrb : (r == 0) = false := by simp [hk]
  go_wp2
  refine bodyPost_ret (results_tmp_cell_tmp (hH.2.1.put _ _ _) rfl _ rfl) rfl ?_
  exact ⟨rfl, below_put hH.2.2 (by omega) _ _ _⟩

set_option maxRecDepth 100000 in
set_option maxHeartbeats 400000 in
theorem tBest_yes (a b c : Option Addr) (ca cb cc : Nat) (sizes vars : List Int) (l : List Fr) (w : World) (hs : IntS w a sizes) (hv : IntS w b vars) (hf : FrS w c l) (hn : sizes.length ≤ 140737488355328) (hm : vars.length ≤ 140737488355328) (hk : checkA sizes vars l.length = 0) (hw : fw l ≤ 10000) :
    Calls Tryz.prog 26 #[.slice a sizes.length ca, .agg #[.slice b vars.length cb, .slice c l.length cc]] w fun e w' => ∃ (d : Option Addr) (cd : Nat), e = .returned (.tuple #[.slice d (digs (toN sizes) (toN vars) (bestN l (l.length - 1))).length cd, frV (qF (frQ (celF l (bestN l (l.length - 1))))), .int .i64 0]) ∧ IntS w' d (iL (digs (toN sizes) (toN vars) (bestN l (l.length - 1)))) ∧ Below w.heap.size w w' := by
  obtain ⟨hfi, hup, hlc⟩ := checkA_parts hk
  have hl1 := checkA_pos hk
  have hll : l.length ≤ 10000 := by have := fw_sw l; omega
  have hbl := bestN_le l (l.length - 1)
  have HCK := fun V h1 h2 => tCheck_any a b c ca cb cc l.length sizes vars V h1 h2 hn hm
  rw [hk] at HCK
  have HCK := hid HCK
  have HJ := hid (fun V B h1 h2 h3 => bestJoin_any c cc l V B h1 h2 h3 hl1 hw)
  have HA := hid (fun V h1 h2 => assignment_any a b ca cb sizes vars (bestN l (l.length - 1)) V h1 h2 hfi hup (by omega))
  have hK : bestN l (l.length - 1) < l.length := by omega
  have hsz := celF_size hK
  obtain ⟨g, o, rfl, hg, a0, a1, a2⟩ := hf _ hK
  rw [← celF_eq hK] at a0 a1 a2
  have HC := hid (fun V : World => Canon_q (w := V) (frQ (celF l (bestN l (l.length - 1)))) rfl (show (celF l (bestN l (l.length - 1))).2.1.size + (celF l (bestN l (l.length - 1))).2.2.size ≤ 100000 by omega))
  rw [frV_qF]
  generalize frQ (celF l (bestN l (l.length - 1))) = r at *
  generalize celF l (bestN l (l.length - 1)) = f at *
  generalize bestN l (l.length - 1) = K at *
  generalize digs (toN sizes) (toN vars) K = ds at *
  obtain ⟨fn, fx, fy⟩ := f
  simp only at a0 a1 a2 HC
  have HS := hid hs
  have HV := hid hv
  have HF := hid hf
  clear hs hv hn hm hf hk hup hfi hlc hsz hw
  have hH : BH w ((w.alloc (TC (.slice b vars.length cb) (.slice (some ⟨g, o, none⟩) l.length cc))).alloc (FC false ⟨#[]⟩ ⟨#[]⟩)) (.slice b vars.length cb) (.slice (some ⟨g, o, none⟩) l.length cc) := ⟨(TBox.at (w := w) rfl _ _).alloc _, Box.at (w := w.alloc (TC (.slice b vars.length cb) (.slice (some ⟨g, o, none⟩) l.length cc))) (by simp) _ _ _, ((Below.refl _ w).alloc (Nat.le_refl _) _).alloc (by simp) _⟩
  have c0 := hH.1.c0
  have c1 := hH.1.c1
  go_enter Tryz.func26, Tryz.ntmps26
  go_wp2_with fail
  generalize ((w.alloc (TC (.slice b vars.length cb) (.slice (some ⟨g, o, none⟩) l.length cc))).alloc (FC false ⟨#[]⟩ ⟨#[]⟩)) = W at *
  refine (HCK.out _ (HS.out.below hH.2.2) (HV.out.below hH.2.2)).mono ?_
  rintro e w1 ⟨rfl, hb1⟩
  replace hH := hH.step hb1
  clear c0 c1 hb1
  have H0 := hH.drew
  go_upto_region 4 with fail
  go_region_held3 (fun u => (u.cell? ⟨w.heap.size, 0, none⟩ = some (.slice b vars.length cb) ∧ u.cell? ⟨w.heap.size, 1, none⟩ = some (.slice (some ⟨g, o, none⟩) l.length cc)) ∧ Hid (BH w u (.slice b vars.length cb) (.slice (some ⟨g, o, none⟩) l.length cc)))
    (first | exact H2.of | exact H1.of | exact H0.of)
    (first
      | (have HH := H1; go_at_call 82; refine (HJ.out _ _ hxl hxc (HF.out.below HH.2.2)).mono ?_; rintro e w3 ⟨rfl, hb3⟩; have H2 := HH.step hb3)
      | (have HH := H0; go_at_call 83; refine (firstGreatest_any _ _ _ _).mono ?_; rintro e w2 ⟨rfl, hxl, hxc, hb2⟩; have H1 := HH.step hb2))
  clear hH H0 H1 hb3 hb2 hxl hxc
  have hH := H2.drew
  clear H2 HJ HCK HF
  go_upto_region 5 with fail
  refine wp_region_held_drew (S := fun u => u.cell? ⟨w.heap.size, 0, none⟩ = some (.slice b vars.length cb) ∧ u.cell? ⟨w.heap.size, 1, none⟩ = some (.slice (some ⟨g, o, none⟩) l.length cc) ∧ u.cell? ⟨g, o + K * 3, none⟩ = some (.bool fn) ∧ u.cell? ⟨g, o + K * 3 + 1, none⟩ = some (.string fx) ∧ u.cell? ⟨g, o + K * 3 + 2, none⟩ = some (.string fy)) (by kernel_rfl) (hH.ofF hg a0 a1 a2).1 (fun hSd => ?_)
  generalize w3.drew = u0 at *
  refine wpAnyH_take (i := 0) (oi := _) (v := .slice a sizes.length ca) rfl (by kernel_rfl) (by kernel_rfl) (by kernel_rfl) (fun _ _ _ h => h) (Or.inl ⟨by rfl, ?_⟩) (by assumption) ?_
  · intro u' hSu
    (try simp only [List.getElem_toArray, List.getElem_cons_zero])
    go_simp
  (try simp only [List.getElem_toArray, List.getElem_cons_zero])
  (try simp only [Act.put, List.setIfInBounds_toArray, List.set_cons_zero, List.set_cons_succ])
  refine wpAnyH_take (i := 1) (oi := _) (v := .pointer (some ⟨w.heap.size, 0, none⟩)) rfl (by kernel_rfl) (by kernel_rfl) (by kernel_rfl) (fun _ _ _ h => h) (Or.inl ⟨by rfl, ?_⟩) (by assumption) ?_
  · intro u' hSu
    (try simp only [List.getElem_toArray, List.getElem_cons_zero, List.getElem_cons_succ])
    go_simp
  (try simp only [List.getElem_toArray, List.getElem_cons_zero, List.getElem_cons_succ])
  (try simp only [Act.put, List.setIfInBounds_toArray, List.set_cons_zero, List.set_cons_succ])
  refine wpAnyH_take (i := 2) (oi := _) (v := .slice b vars.length cb) rfl (by kernel_rfl) (by kernel_rfl) (by kernel_rfl) (fun _ _ _ h => h) (Or.inl ⟨by rfl, ?_⟩) (by assumption) ?_
  · intro u' hSu
    (try simp only [List.getElem_toArray, List.getElem_cons_zero, List.getElem_cons_succ])
    obtain ⟨s1, s2, s3, s4, s5⟩ := hSu
    go_simp
  (try simp only [List.getElem_toArray, List.getElem_cons_zero, List.getElem_cons_succ])
  (try simp only [Act.put, List.setIfInBounds_toArray, List.set_cons_zero, List.set_cons_succ])
  refine wpAnyH_take (i := 3) (oi := _) (v := .int .i64 (K : Nat)) rfl (by kernel_rfl) (by kernel_rfl) (by kernel_rfl) (fun _ _ _ h => h) (Or.inl ⟨by rfl, ?_⟩) (by assumption) ?_
  · intro u' hSu
    (try simp only [List.getElem_toArray, List.getElem_cons_zero, List.getElem_cons_succ])
    go_simp
  (try simp only [List.getElem_toArray, List.getElem_cons_zero, List.getElem_cons_succ])
  (try simp only [Act.put, List.setIfInBounds_toArray, List.set_cons_zero, List.set_cons_succ])
  refine wpAnyH_take (i := 5) (oi := _) (v := .pointer (some ⟨w.heap.size, 1, none⟩)) rfl (by kernel_rfl) (by kernel_rfl) (by kernel_rfl) (fun _ _ _ h => h) (Or.inl ⟨by rfl, ?_⟩) (by assumption) ?_
  · intro u' hSu
    (try simp only [List.getElem_toArray, List.getElem_cons_zero, List.getElem_cons_succ])
    go_simp
  (try simp only [List.getElem_toArray, List.getElem_cons_zero, List.getElem_cons_succ])
  (try simp only [Act.put, List.setIfInBounds_toArray, List.set_cons_zero, List.set_cons_succ])
  refine wpAnyH_take (i := 6) (oi := _) (v := .slice (some ⟨g, o, none⟩) l.length cc) rfl (by kernel_rfl) (by kernel_rfl) (by kernel_rfl) (fun _ _ _ h => h) (Or.inl ⟨by rfl, ?_⟩) (by assumption) ?_
  · intro u' hSu
    (try simp only [List.getElem_toArray, List.getElem_cons_zero, List.getElem_cons_succ])
    obtain ⟨s1, s2, s3, s4, s5⟩ := hSu
    go_simp
  (try simp only [List.getElem_toArray, List.getElem_cons_zero, List.getElem_cons_succ])
  (try simp only [Act.put, List.setIfInBounds_toArray, List.set_cons_zero, List.set_cons_succ])
  refine wpAnyH_take (i := 7) (oi := _) (v := .int .i64 (K : Nat)) rfl (by kernel_rfl) (by kernel_rfl) (by kernel_rfl) (fun _ _ _ h => h) (Or.inl ⟨by rfl, ?_⟩) (by assumption) ?_
  · intro u' hSu
    (try simp only [List.getElem_toArray, List.getElem_cons_zero, List.getElem_cons_succ])
    go_simp
  (try simp only [List.getElem_toArray, List.getElem_cons_zero, List.getElem_cons_succ])
  (try simp only [Act.put, List.setIfInBounds_toArray, List.set_cons_zero, List.set_cons_succ])
  refine wpAnyH_take (i := 8) (oi := _) (v := .pointer (some ⟨g, o + K * 3, none⟩)) rfl (by kernel_rfl) (by kernel_rfl) (by kernel_rfl) (fun _ _ _ h => h) (Or.inl ⟨by rfl, ?_⟩) (by assumption) ?_
  · intro u' hSu
    (try simp only [List.getElem_toArray, List.getElem_cons_zero, List.getElem_cons_succ])
    go_simp
  (try simp only [List.getElem_toArray, List.getElem_cons_zero, List.getElem_cons_succ])
  (try simp only [Act.put, List.setIfInBounds_toArray, List.set_cons_zero, List.set_cons_succ])
  refine wpAnyH_take (i := 9) (oi := _) (v := .agg #[.bool fn, .string fx, .string fy]) rfl (by kernel_rfl) (by kernel_rfl) (by kernel_rfl) (fun _ _ _ h => h) (Or.inl ⟨by rfl, ?_⟩) (by assumption) ?_
  · intro u' hSu
    (try simp only [List.getElem_toArray, List.getElem_cons_zero, List.getElem_cons_succ])
    obtain ⟨s1, s2, s3, s4, s5⟩ := hSu
    go_simp
  (try simp only [List.getElem_toArray, List.getElem_cons_zero, List.getElem_cons_succ])
  (try simp only [Act.put, List.setIfInBounds_toArray, List.set_cons_zero, List.set_cons_succ])
  refine wpAnyH_ready (rs := [4]) (by kernel_rfl) (by simp) (AllReadyH.cons rfl ?_ (AllReadyH.nil))
  · intro K' hK'
    (try simp only [List.getElem_toArray, List.getElem_cons_zero, List.getElem_cons_succ])
    go_simp
    refine (HA.out _ (HS.out.below hH.2.2) (HV.out.below hH.2.2)).mono ?_
    rintro e u1 ⟨d, cd, rfl, hi, hb⟩
    replace hH := hH.step hb
    refine hK'.out _ _ (hH.ofF hg a0 a1 a2).1 (fun hSe => ?_)
    clear hK' K' hSd
    have hSd := hSe
    clear hSe hb
    (try simp only [List.getElem_toArray, List.getElem_cons_zero, List.getElem_cons_succ])
    (try simp only [Act.put, List.setIfInBounds_toArray, List.set_cons_zero, List.set_cons_succ])
    refine wpAnyH_ready (rs := [10]) (by kernel_rfl) (by simp) (AllReadyH.cons rfl ?_ (AllReadyH.nil))
    · intro K' hK'
      (try simp only [List.getElem_toArray, List.getElem_cons_zero, List.getElem_cons_succ])
      go_simp
      refine (HC.out _).mono ?_
      rintro e u2 ⟨rfl, hb⟩
      replace hH := hH.step hb
      replace hi := hi.below hb
      refine hK'.out _ _ (hH.ofF hg a0 a1 a2).1 (fun hSe => ?_)
      clear hK' K' hSd
      have hSd := hSe
      clear hSe hb
      (try simp only [List.getElem_toArray, List.getElem_cons_zero, List.getElem_cons_succ])
      (try simp only [Act.put, List.setIfInBounds_toArray, List.set_cons_zero, List.set_cons_succ])
      refine wpAnyH_take (i := 11) (oi := _) (v := .slice d ds.length cd) rfl (by kernel_rfl) (by kernel_rfl) (by kernel_rfl) (fun _ _ _ h => h) (Or.inl ⟨by rfl, ?_⟩) (by assumption) ?_
      · intro u' hSu
        (try simp only [List.getElem_toArray, List.getElem_cons_zero, List.getElem_cons_succ])
        go_simp
      (try simp only [List.getElem_toArray, List.getElem_cons_zero, List.getElem_cons_succ])
      (try simp only [Act.put, List.setIfInBounds_toArray, List.set_cons_zero, List.set_cons_succ])
      have hrb := hH.2.1
      obtain ⟨k0, k1, k2, f0, f1, f2⟩ := hrb.facts
      refine wpAnyH_ready (rs := [12]) (by kernel_rfl) (by simp) (AllReadyH.cons rfl ?_ (AllReadyH.nil))
      · intro K' hK'
        (try simp only [List.getElem_toArray, List.getElem_cons_zero, List.getElem_cons_succ])
        go_simp
        have hput := hrb.put (sgn r) (nu r) (de r)
        replace hi := hi.put3 hrb (sgn r) (nu r) (de r)
        have hBp := below_put hH.2.2 (g := w.heap.size + 1) (by omega) (.bool (sgn r)) (.string (nu r)) (.string (de r))
        have hTp := ((hH.1.off (w.heap.size + 1) 0 (.bool (sgn r)) (by omega)).off (w.heap.size + 1) 1 (.string (nu r)) (by omega)).off (w.heap.size + 1) 2 (.string (de r)) (by omega)
        generalize (((u2.setCell ⟨w.heap.size + 1, 0, none⟩ (.bool (sgn r))).setCell ⟨w.heap.size + 1, 1, none⟩ (.string (nu r))).setCell ⟨w.heap.size + 1, 2, none⟩ (.string (de r))) = v9 at *
        have hSp : v9.cell? ⟨w.heap.size, 0, none⟩ = some (.slice b vars.length cb) ∧ v9.cell? ⟨w.heap.size, 1, none⟩ = some (.slice (some ⟨g, o, none⟩) l.length cc) ∧ v9.cell? ⟨g, o + K * 3, none⟩ = some (.bool fn) ∧ v9.cell? ⟨g, o + K * 3 + 1, none⟩ = some (.string fx) ∧ v9.cell? ⟨g, o + K * 3 + 2, none⟩ = some (.string fy) := ⟨hTp.c0, hTp.c1, (hBp.cell (p := ⟨g, _, none⟩) hg).trans a0, (hBp.cell (p := ⟨g, _, none⟩) hg).trans a1, (hBp.cell (p := ⟨g, _, none⟩) hg).trans a2⟩
        refine hK'.out _ _ hSp (fun hSe => ?_)
        clear hK' K' hSd
        have hSd := hSe
        clear hSe hSp
        (try simp only [List.getElem_toArray, List.getElem_cons_zero, List.getElem_cons_succ])
        (try simp only [Act.put, List.setIfInBounds_toArray, List.set_cons_zero, List.set_cons_succ])
        refine wpAnyH_take (i := 13) (oi := _) (v := .int .i64 0) rfl (by kernel_rfl) (by kernel_rfl) (by kernel_rfl) (fun _ _ _ h => h) (Or.inl ⟨by rfl, ?_⟩) (by assumption) ?_
        · intro u' hSu
          (try simp only [List.getElem_toArray, List.getElem_cons_zero, List.getElem_cons_succ])
          go_simp
        (try simp only [List.getElem_toArray, List.getElem_cons_zero, List.getElem_cons_succ])
        (try simp only [Act.put, List.setIfInBounds_toArray, List.set_cons_zero, List.set_cons_succ])
        refine wpAnyH_done (by kernel_rfl) ?_ _
        go_wp2
        refine bodyPost_ret (results_tmp_cell_tmp hput rfl _ rfl) rfl ?_
        exact ⟨d, cd, rfl, hi, hBp⟩
end Go.Proofs.YtknlhejhnopnaaaGreatDoor

/- The law's comparison of two answers beside errors. -/
namespace Go.Proofs.YtknlhejhnopnaaaGreatDoor
open Go.RowKit

set_option maxRecDepth 100000 in
set_option maxHeartbeats 1000000 in
theorem lawNought_any (w : World) :
    Calls Tryz.prog 85 #[.agg #[.bool false, .string ⟨#[]⟩, .string ⟨#[]⟩]] w fun e w' => e = .returned (.bool true) ∧ Below w.heap.size w w' := by
  go_enter Tryz.func85, Tryz.ntmps85
  have hB0 : Below w.heap.size w (w.alloc (FC false ⟨#[]⟩ ⟨#[]⟩)) := (Below.refl _ w).alloc (Nat.le_refl _) _
  go_wp2_with fail
  go_quiet (fail)
  go_wp2
  go_ret
  exact ⟨rfl, below_drewN hB0 _⟩

set_option maxRecDepth 100000 in
set_option maxHeartbeats 1000000 in
theorem oneFrac_ok (n : Bool) (x y : ByteArray) (w : World) :
    Calls Tryz.prog 28 #[.agg #[.bool n, .string x, .string y], .int .i64 0, .agg #[.bool n, .string x, .string y], .int .i64 0] w fun e w' => e = .returned (.bool true) ∧ Below w.heap.size w w' := by
  go_enter Tryz.func28, Tryz.ntmps28
  have hB0 : Below w.heap.size w ((w.alloc (FC n x y)).alloc (FC n x y)) := ((Below.refl _ w).alloc (Nat.le_refl _) _).alloc (by simp) _
  go_wp2
  go_ret
  exact ⟨rfl, hB0⟩

set_option maxRecDepth 100000 in
set_option maxHeartbeats 1000000 in
theorem oneFrac_err (k : Int) (hk : ¬ k = 0) (w : World) :
    Calls Tryz.prog 28 #[.agg #[.bool false, .string ⟨#[]⟩, .string ⟨#[]⟩], .int .i64 k, .agg #[.bool false, .string ⟨#[]⟩, .string ⟨#[]⟩], .int .i64 k] w fun e w' => e = .returned (.bool true) ∧ Below w.heap.size w w' := by
  have hkb : (k == 0) = false := beq_eq_false_iff_ne.2 hk
  go_enter Tryz.func28, Tryz.ntmps28
  have hB0 : Below w.heap.size w ((w.alloc (FC false ⟨#[]⟩ ⟨#[]⟩)).alloc (FC false ⟨#[]⟩ ⟨#[]⟩)) := ((Below.refl _ w).alloc (Nat.le_refl _) _).alloc (by simp) _
  go_wp2_with fail
  refine (lawNought_any _).mono ?_
  rintro e w1 ⟨rfl, hb1⟩
  have hB1 := hB0.trans (hb1.mono hB0.size)
  go_wp2
  go_ret
  exact ⟨rfl, hB1⟩
end Go.Proofs.YtknlhejhnopnaaaGreatDoor

/- The law's small functions on tables. -/
namespace Go.Proofs.YtknlhejhnopnaaaGreatDoor
open Go.RowKit Go.Shelf

set_option maxRecDepth 100000 in
set_option maxHeartbeats 400000 in
theorem sameInts_any (a b : Option Addr) (ca cb : Nat) (l : List Int) (w : World) (ha : IntS w a l) (hb : IntS w b l) (hn : l.length ≤ 100000) :
    Calls Tryz.prog 16 #[.slice a l.length ca, .slice b l.length cb] w fun e w' => e = .returned (.bool true) ∧ Below w.heap.size w w' := by
  have HA := hid ha
  have HB := hid hb
  clear ha hb
  go_enter Tryz.func16, Tryz.ntmps16
  go_wp2_with fail
  go_loopw [5] (fun iv wr => ∃ i : Nat, i ≤ l.length ∧ iv = .int .i64 i ∧ Hid (Below w.heap.size w wr)) (fun iv _ => l.length - (intOf iv).toNat)
  case atStart => exact ⟨0, Nat.zero_le _, rfl, Below.refl _ _⟩
  case round =>
    obtain ⟨i, hi, rfl, HW⟩ := hrel
    by_cases hlt : i < l.length
    · obtain ⟨g, o, rfl, hg, c0⟩ := (HA.out.below HW.out) i hlt
      obtain ⟨g2, o2, rfl, hg2, c2⟩ := (HB.out.below HW.out) i hlt
      generalize l[i] = x at *
      go_wp2_with fail
      go_quiet (fail)
      go_wp2
      go_roundw
      case rel => exact ⟨i + 1, by omega, by go_num, below_dn HW.out _⟩
      case measure => simp [intOf]; omega
    · obtain rfl : i = l.length := by omega
      go_wp2
      go_ret
      exact ⟨rfl, HW.out⟩

set_option maxRecDepth 100000 in
set_option maxHeartbeats 400000 in
theorem sameFracs_any (a b : Option Addr) (ca cb : Nat) (l : List Fr) (w : World) (ha : FrS w a l) (hb : FrS w b l) (hn : l.length ≤ 100000) :
    Calls Tryz.prog 60 #[.slice a l.length ca, .slice b l.length cb] w fun e w' => e = .returned (.bool true) ∧ Below w.heap.size w w' := by
  have HA := hid ha
  have HB := hid hb
  clear ha hb
  go_enter Tryz.func60, Tryz.ntmps60
  go_wp2_with fail
  go_loopw [5] (fun iv wr => ∃ i : Nat, i ≤ l.length ∧ iv = .int .i64 i ∧ Hid (Below w.heap.size w wr)) (fun iv _ => l.length - (intOf iv).toNat)
  case atStart => exact ⟨0, Nat.zero_le _, rfl, Below.refl _ _⟩
  case round =>
    obtain ⟨i, hi, rfl, HW⟩ := hrel
    by_cases hlt : i < l.length
    · obtain ⟨g, o, rfl, hg, a0, a1, a2⟩ := (HA.out.below HW.out) i hlt
      obtain ⟨g2, o2, rfl, hg2, b0, b1, b2⟩ := (HB.out.below HW.out) i hlt
      generalize l[i] = f at *
      obtain ⟨fn, fx, fy⟩ := f
      simp only at a0 a1 a2 b0 b1 b2
      go_wp2_with fail
      go_quiet (fail)
      go_wp2
      go_roundw
      case rel => exact ⟨i + 1, by omega, by go_num, below_dn HW.out _⟩
      case measure => simp [intOf]; omega
    · obtain rfl : i = l.length := by omega
      go_wp2
      go_ret
      exact ⟨rfl, HW.out⟩

set_option maxRecDepth 100000 in
set_option maxHeartbeats 400000 in
theorem sameTable_any (a b c d : Option Addr) (ca cb cc cd : Nat) (vars : List Int) (l : List Fr) (w : World) (ha : IntS w a vars) (hb : FrS w b l) (hc : IntS w c vars) (hd : FrS w d l) (hn : vars.length ≤ 100000) (hm : l.length ≤ 100000) :
    Calls Tryz.prog 19 #[.agg #[.slice a vars.length ca, .slice b l.length cb], .agg #[.slice c vars.length cc, .slice d l.length cd]] w fun e w' => e = .returned (.bool true) ∧ Below w.heap.size w w' := by
  have HA := hid ha
  have HB := hid hb
  have HC := hid hc
  have HD := hid hd
  clear ha hb hc hd
  have hB : Below w.heap.size w ((w.alloc (TC (.slice a vars.length ca) (.slice b l.length cb))).alloc (TC (.slice c vars.length cc) (.slice d l.length cd))) := ((Below.refl _ w).alloc (Nat.le_refl _) _).alloc (by simp) _
  have h0 := (TBox.at (w := w) rfl (.slice a vars.length ca) (.slice b l.length cb)).alloc (TC (.slice c vars.length cc) (.slice d l.length cd))
  have h1 := TBox.at (w := w.alloc (TC (.slice a vars.length ca) (.slice b l.length cb))) (g := w.heap.size + 1) (by simp) (.slice c vars.length cc) (.slice d l.length cd)
  have k0 := h0.c0
  have k1 := h1.c0
  go_enter Tryz.func19, Tryz.ntmps19
  go_wp2_with fail
  generalize ((w.alloc (TC (.slice a vars.length ca) (.slice b l.length cb))).alloc (TC (.slice c vars.length cc) (.slice d l.length cd))) = W at *
  refine (sameInts_any a c ca cc vars _ (HA.out.below hB) (HC.out.below hB) hn).mono ?_
  rintro e w1 ⟨rfl, hb1⟩
  replace hB := hB.trans (hb1.mono hB.size)
  replace h0 := h0.below hb1 h0.lt
  replace h1 := h1.below hb1 h1.lt
  clear k0 k1 hb1
  have k0 := h0.c1
  have k1 := h1.c1
  go_wp2_with fail
  refine (sameFracs_any b d cb cd l _ (HB.out.below hB) (HD.out.below hB) hm).mono ?_
  rintro e w2 ⟨rfl, hb2⟩
  go_wp2
  go_ret
  exact ⟨rfl, hB.trans (hb2.mono hB.size)⟩

set_option maxRecDepth 100000 in
set_option maxHeartbeats 400000 in
theorem heavyTable_any (b c : Option Addr) (cb cc n : Nat) (l : List Fr) (w : World) (hf : FrS w c l) (hn : n ≤ 140737488355328) (hm : l.length ≤ 140737488355328) (hls : ∀ f ∈ l, f.2.1.size ≤ 140737488355328 ∧ f.2.2.size ≤ 140737488355328) :
    Calls Tryz.prog 6 #[.agg #[.slice b n cb, .slice c l.length cc]] w fun e w' => (∃ r : Bool, e = .returned (.bool r) ∧ (r = false → n + l.length + sw l ≤ 4096)) ∧ Below w.heap.size w w' := by
  have HF := hid hf
  have HL := hid hls
  clear hf hls
  have hB : Below w.heap.size w (w.alloc (TC (.slice b n cb) (.slice c l.length cc))) := (Below.refl _ w).alloc (Nat.le_refl _) _
  have h0 := TBox.at (w := w) rfl (.slice b n cb) (.slice c l.length cc)
  go_enter Tryz.func6, Tryz.ntmps6
  go_upto_region 1 with fail
  generalize (w.alloc (TC (.slice b n cb) (.slice c l.length cc))) = W at *
  refine wp_region_held_drew (S := fun u => u.cell? ⟨w.heap.size, 0, none⟩ = some (.slice b n cb) ∧ u.cell? ⟨w.heap.size, 1, none⟩ = some (.slice c l.length cc)) (by kernel_rfl) ⟨h0.c0, h0.c1⟩ (fun hSd => ?_)
  replace hB := hB.drew
  replace h0 : TBox W.drew w.heap.size (.slice b n cb) (.slice c l.length cc) := h0
  generalize W.drew = u0 at *
  refine wpAnyH_take (i := 0) (oi := _) (v := .pointer (some ⟨w.heap.size, 0, none⟩)) rfl (by kernel_rfl) (by kernel_rfl) (by kernel_rfl) (fun _ _ _ h => h) (Or.inl ⟨by rfl, ?_⟩) (by assumption) ?_
  · intro u' hSu
    (try simp only [List.getElem_toArray, List.getElem_cons_zero])
    go_simp
  (try simp only [List.getElem_toArray, List.getElem_cons_zero])
  (try simp only [Act.put, List.setIfInBounds_toArray, List.set_cons_zero, List.set_cons_succ])
  refine wpAnyH_take (i := 1) (oi := _) (v := .slice b n cb) rfl (by kernel_rfl) (by kernel_rfl) (by kernel_rfl) (fun _ _ _ h => h) (Or.inl ⟨by rfl, ?_⟩) (by assumption) ?_
  · intro u' hSu
    (try simp only [List.getElem_toArray, List.getElem_cons_zero, List.getElem_cons_succ])
    obtain ⟨s1, s2⟩ := hSu
    go_simp
  (try simp only [List.getElem_toArray, List.getElem_cons_zero, List.getElem_cons_succ])
  (try simp only [Act.put, List.setIfInBounds_toArray, List.set_cons_zero, List.set_cons_succ])
  refine wpAnyH_take (i := 2) (oi := _) (v := .int .i64 (n : Nat)) rfl (by kernel_rfl) (by kernel_rfl) (by kernel_rfl) (fun _ _ _ h => h) (Or.inl ⟨by rfl, ?_⟩) (by assumption) ?_
  · intro u' hSu
    (try simp only [List.getElem_toArray, List.getElem_cons_zero, List.getElem_cons_succ])
    go_simp
  (try simp only [List.getElem_toArray, List.getElem_cons_zero, List.getElem_cons_succ])
  (try simp only [Act.put, List.setIfInBounds_toArray, List.set_cons_zero, List.set_cons_succ])
  refine wpAnyH_take (i := 3) (oi := _) (v := .pointer (some ⟨w.heap.size, 1, none⟩)) rfl (by kernel_rfl) (by kernel_rfl) (by kernel_rfl) (fun _ _ _ h => h) (Or.inl ⟨by rfl, ?_⟩) (by assumption) ?_
  · intro u' hSu
    (try simp only [List.getElem_toArray, List.getElem_cons_zero, List.getElem_cons_succ])
    go_simp
  (try simp only [List.getElem_toArray, List.getElem_cons_zero, List.getElem_cons_succ])
  (try simp only [Act.put, List.setIfInBounds_toArray, List.set_cons_zero, List.set_cons_succ])
  refine wpAnyH_take (i := 4) (oi := _) (v := .slice c l.length cc) rfl (by kernel_rfl) (by kernel_rfl) (by kernel_rfl) (fun _ _ _ h => h) (Or.inl ⟨by rfl, ?_⟩) (by assumption) ?_
  · intro u' hSu
    (try simp only [List.getElem_toArray, List.getElem_cons_zero, List.getElem_cons_succ])
    obtain ⟨s1, s2⟩ := hSu
    go_simp
  (try simp only [List.getElem_toArray, List.getElem_cons_zero, List.getElem_cons_succ])
  (try simp only [Act.put, List.setIfInBounds_toArray, List.set_cons_zero, List.set_cons_succ])
  refine wpAnyH_ready (rs := [5]) (by kernel_rfl) (by simp) (AllReadyH.cons rfl ?_ (AllReadyH.nil))
  · intro K' hK'
    (try simp only [List.getElem_toArray, List.getElem_cons_zero, List.getElem_cons_succ])
    go_simp
    refine (fracBytes_any c cc l _ (HF.out.below hB) hm HL.out).mono ?_
    rintro e u1 ⟨⟨r, rfl, hr1, hr2⟩, hb⟩
    replace hB := hB.trans (hb.mono hB.size)
    replace h0 := h0.below hb h0.lt
    refine hK'.out _ _ ⟨h0.c0, h0.c1⟩ (fun hSe => ?_)
    clear hK' K' hSd
    have hSd := hSe
    clear hSe hb
    have hw1 : IntKind.i64.wrap ((n : Int) + (r : Int)) = (n : Int) + (r : Int) := by rw [IntKind.wrap_i64]; omega
    have HR2 := hid hr2
    clear hr2
    (try simp only [List.getElem_toArray, List.getElem_cons_zero, List.getElem_cons_succ])
    (try simp only [Act.put, List.setIfInBounds_toArray, List.set_cons_zero, List.set_cons_succ])
    refine wpAnyH_take (i := 6) (oi := _) (v := .int .i64 ((n : Int) + (r : Int))) rfl (by kernel_rfl) (by kernel_rfl) (by kernel_rfl) (fun _ _ _ h => h) (Or.inl ⟨by rfl, ?_⟩) (by assumption) ?_
    · intro u' hSu
      (try simp only [List.getElem_toArray, List.getElem_cons_zero, List.getElem_cons_succ])
      go_simp
    (try simp only [List.getElem_toArray, List.getElem_cons_zero, List.getElem_cons_succ])
    (try simp only [Act.put, List.setIfInBounds_toArray, List.set_cons_zero, List.set_cons_succ])
    refine wpAnyH_take (i := 7) (oi := _) (v := .bool (decide ((n : Int) + (r : Int) > 4096))) rfl (by kernel_rfl) (by kernel_rfl) (by kernel_rfl) (fun _ _ _ h => h) (Or.inl ⟨by rfl, ?_⟩) (by assumption) ?_
    · intro u' hSu
      (try simp only [List.getElem_toArray, List.getElem_cons_zero, List.getElem_cons_succ])
      go_simp
    (try simp only [List.getElem_toArray, List.getElem_cons_zero, List.getElem_cons_succ])
    (try simp only [Act.put, List.setIfInBounds_toArray, List.set_cons_zero, List.set_cons_succ])
    refine wpAnyH_take (i := 8) (oi := _) (v := .bool (decide ((n : Int) + (r : Int) > 4096))) rfl (by kernel_rfl) (by kernel_rfl) (by kernel_rfl) (fun _ _ _ h => h) (Or.inl ⟨by rfl, ?_⟩) (by assumption) ?_
    · intro u' hSu
      (try simp only [List.getElem_toArray, List.getElem_cons_zero, List.getElem_cons_succ])
      go_simp
    (try simp only [List.getElem_toArray, List.getElem_cons_zero, List.getElem_cons_succ])
    (try simp only [Act.put, List.setIfInBounds_toArray, List.set_cons_zero, List.set_cons_succ])
    refine wpAnyH_done (by kernel_rfl) ?_ _
    go_wp2
    go_ret
    refine ⟨⟨_, rfl, fun h => ?_⟩, hB⟩
    have h' : ¬ (n : Int) + (r : Int) > 4096 := of_decide_eq_false h
    have := HR2.out (by omega)
    omega
end Go.Proofs.YtknlhejhnopnaaaGreatDoor
