/- The document's answer: TableBest. -/
import Derived.Test.YtknlhejhnopnaaaGreatDoorRtEOwn
import Derived.Test.YtknlhejhnopnaaaGreatDoorTabMToTabT
import Derived.Laws.EntriesVeiled
namespace Go.Proofs.YtknlhejhnopnaaaGreatDoor
open Go.RowKit Go.Shelf

theorem bestN_up {l : List Fr} {i : Nat} (h : 1 ≤ i) (hc : 0 < cmpQ (frQ (celF l i)) (frQ (celF l (bestN l (i - 1))))) : bestN l i = i := by
  obtain ⟨k, rfl⟩ : ∃ k, i = k + 1 := ⟨i - 1, by omega⟩
  rw [Nat.add_sub_cancel] at hc
  rw [bestN, if_pos ((cmp_turn _ _).1 hc)]
theorem bestN_keep {l : List Fr} {i : Nat} (h : 1 ≤ i) (hc : ¬ 0 < cmpQ (frQ (celF l i)) (frQ (celF l (bestN l (i - 1))))) : bestN l i = bestN l (i - 1) := by
  obtain ⟨k, rfl⟩ : ∃ k, i = k + 1 := ⟨i - 1, by omega⟩
  rw [Nat.add_sub_cancel] at hc ⊢
  rw [bestN, if_neg (fun h => hc ((cmp_turn _ _).2 h))]

set_option maxRecDepth 100000 in
set_option maxHeartbeats 400000 in
theorem rBest_no (a b c : Option Addr) (ca cb cc m : Nat) (sizes vars : List Int) (w : World) (hs : IntS w a sizes) (hv : IntS w b vars) (hn : sizes.length ≤ 140737488355328) (hm : vars.length ≤ 140737488355328) (hk : checkA sizes vars m ≠ 0) :
    Calls Tryz.prog 27 #[.slice a sizes.length ca, .agg #[.slice b vars.length cb, .slice c m cc]] w fun e w' => e = .returned (.tuple #[.slice none 0 0, .agg #[.bool false, .string ⟨#[]⟩, .string ⟨#[]⟩], .int .i64 (checkA sizes vars m)]) ∧ Below w.heap.size w w' := by
  have HC := hid (fun V h1 h2 => rCheck_any a b c ca cb cc m sizes vars V h1 h2 hn hm)
  generalize checkA sizes vars m = r at *
  have HS := hid hs
  have HV := hid hv
  have hH : BH w ((w.alloc (TC (.slice b vars.length cb) (.slice c m cc))).alloc (FC false ⟨#[]⟩ ⟨#[]⟩)) (.slice b vars.length cb) (.slice c m cc) := ⟨(TBox.at (w := w) rfl _ _).alloc _, Box.at (w := w.alloc (TC (.slice b vars.length cb) (.slice c m cc))) (by simp) _ _ _, ((Below.refl _ w).alloc (Nat.le_refl _) _).alloc (by simp) _⟩
  have c0 := hH.1.c0
  have c1 := hH.1.c1
  go_enter Tryz.func27, Tryz.ntmps27
  go_wp2_with fail
  generalize ((w.alloc (TC (.slice b vars.length cb) (.slice c m cc))).alloc (FC false ⟨#[]⟩ ⟨#[]⟩)) = W at *
  refine (HC.out _ (HS.out.below hH.2.2) (HV.out.below hH.2.2)).mono ?_
  rintro e w1 ⟨rfl, hb1⟩
  replace hH := hH.step hb1
  clear c0 c1 hb1
  obtain ⟨k0, k1, k2, f0, f1, f2⟩ := hH.2.1.facts
  have hrb : (r == 0) = false := by simp [hk]
  go_wp2
  refine bodyPost_ret (results_tmp_cell_tmp (hH.2.1.put _ _ _) rfl _ rfl) rfl ?_
  exact ⟨rfl, below_put hH.2.2 (by omega) _ _ _⟩

set_option maxRecDepth 100000 in
set_option maxHeartbeats 1000000 in
theorem rBest_yes (a b c : Option Addr) (ca cb cc : Nat) (sizes vars : List Int) (l : List Fr) (w : World) (hs : IntS w a sizes) (hv : IntS w b vars) (hf : FrS w c l) (hn : sizes.length ≤ 140737488355328) (hm : vars.length ≤ 140737488355328) (hk : checkA sizes vars l.length = 0) (hw : fw l ≤ 10000) :
    Calls Tryz.prog 27 #[.slice a sizes.length ca, .agg #[.slice b vars.length cb, .slice c l.length cc]] w fun e w' => ∃ (d : Option Addr) (cd : Nat), e = .returned (.tuple #[.slice d (digs (toN sizes) (toN vars) (bestN l (l.length - 1))).length cd, frV (qF (frQ (celF l (bestN l (l.length - 1))))), .int .i64 0]) ∧ IntS w' d (iL (digs (toN sizes) (toN vars) (bestN l (l.length - 1)))) ∧ Below w.heap.size w w' := by
  obtain ⟨hfi, hup, hlc⟩ := checkA_parts hk
  have hl1 := checkA_pos hk
  have hll : l.length ≤ 10000 := by have := fw_sw l; omega
  have HCK := fun V h1 h2 => rCheck_any a b c ca cb cc l.length sizes vars V h1 h2 hn hm
  rw [hk] at HCK
  have HC := hid HCK
  have HW := hid hw
  have hbl := bestN_le l (l.length - 1)
  have HWH := hid (fun V h1 h2 => rWhere_in a b ca cb (bestN l (l.length - 1)) sizes vars V h1 h2 hfi hup (by omega))
  have HDL : Hid ((digs (toN sizes) (toN vars) (bestN l (l.length - 1))).length = vars.length) := by show _ = _; rw [digs_length, toN_length]
  rw [HDL.out]
  obtain ⟨g, o, rfl, hg, -⟩ := hf 0 (by omega)
  have HF := hid hf
  clear HCK hk hw hfi hup hlc hf hbl
  have HS := hid hs
  have HV := hid hv
  have hH : BH w ((w.alloc (TC (.slice b vars.length cb) (.slice (some ⟨g, o, none⟩) l.length cc))).alloc (FC false ⟨#[]⟩ ⟨#[]⟩)) (.slice b vars.length cb) (.slice (some ⟨g, o, none⟩) l.length cc) := ⟨(TBox.at (w := w) rfl _ _).alloc _, Box.at (w := w.alloc (TC (.slice b vars.length cb) (.slice (some ⟨g, o, none⟩) l.length cc))) (by simp) _ _ _, ((Below.refl _ w).alloc (Nat.le_refl _) _).alloc (by simp) _⟩
  have c0 := hH.1.c0
  have c1 := hH.1.c1
  go_enter Tryz.func27, Tryz.ntmps27
  go_wp2_with fail
  generalize ((w.alloc (TC (.slice b vars.length cb) (.slice (some ⟨g, o, none⟩) l.length cc))).alloc (FC false ⟨#[]⟩ ⟨#[]⟩)) = W at *
  refine (HC.out _ (HS.out.below hH.2.2) (HV.out.below hH.2.2)).mono ?_
  rintro e w1 ⟨rfl, hb1⟩
  replace hH := hH.step hb1
  clear c0 c1 hb1
  have hc1 := hH.1.c1
  have HH := hid hH
  clear hH hc1
  go_wp2_with fail
  go_loopw [8, 9] (fun kv iv wr => ∃ i : Nat, 1 ≤ i ∧ i ≤ l.length ∧ iv = .int .i64 i ∧ kv = .int .i64 (bestN l (i - 1) : Nat) ∧ Hid (BH w wr (.slice b vars.length cb) (.slice (some ⟨g, o, none⟩) l.length cc))) (fun _ iv _ => l.length - (intOf iv).toNat)
  case atStart => exact ⟨1, Nat.le_refl _, hl1, rfl, rfl, HH⟩
  case round =>
    obtain ⟨i, hi1, hi, rfl, rfl, HB⟩ := hrel
    clear HH
    have hc1 := HB.out.1.c1
    by_cases hlt : i < l.length
    · have hjl : bestN l (i - 1) < l.length := by have := bestN_le l (i - 1); omega
      obtain ⟨g', o', e, _, a0, a1, a2⟩ := HF.out i hlt
      cases e
      obtain ⟨g', o', e, _, b0, b1, b2⟩ := HF.out _ hjl
      cases e
      rw [← celF_eq hlt] at a0 a1 a2
      rw [← celF_eq hjl] at b0 b1 b2
      have hs1 := celF_size hlt
      have hs2 := celF_size hjl
      have hw' := HW.out
      have HCM := hid (fun V : World => rCmpF_any (celF l i).1 (celF l (bestN l (i - 1))).1 (celF l i).2.1 (celF l i).2.2 (celF l (bestN l (i - 1))).2.1 (celF l (bestN l (i - 1))).2.2 V (by omega) (by omega))
      have HUPP := hid (fun hc => bestN_up (l := l) hi1 hc)
      have HKEE := hid (fun hc => bestN_keep (l := l) hi1 hc)
      generalize celF l i = fi at *
      generalize celF l (bestN l (i - 1)) = fj at *
      generalize bestN l (i - 1) = j at *
      obtain ⟨xn, xx, xy⟩ := fi
      obtain ⟨yn, yx, yy⟩ := fj
      simp only at a0 a1 a2 b0 b1 b2 HCM
      clear hs1 hs2
      go_upto_region 8 with fail
      have hHd := HB.out.drew
      have held : ∀ u, BH w u (.slice b vars.length cb) (.slice (some ⟨g, o, none⟩) l.length cc) → u.cell? ⟨w.heap.size, 1, none⟩ = some (.slice (some ⟨g, o, none⟩) l.length cc) ∧ u.cell? ⟨g, o + i * 3, none⟩ = some (.bool xn) ∧ u.cell? ⟨g, o + i * 3 + 1, none⟩ = some (.string xx) ∧ u.cell? ⟨g, o + i * 3 + 2, none⟩ = some (.string xy) ∧ u.cell? ⟨g, o + j * 3, none⟩ = some (.bool yn) ∧ u.cell? ⟨g, o + j * 3 + 1, none⟩ = some (.string yx) ∧ u.cell? ⟨g, o + j * 3 + 2, none⟩ = some (.string yy) := fun u h => ⟨h.1.c1, (h.2.2.cell (p := ⟨g, _, none⟩) hg).trans a0, (h.2.2.cell (p := ⟨g, _, none⟩) hg).trans a1, (h.2.2.cell (p := ⟨g, _, none⟩) hg).trans a2, (h.2.2.cell (p := ⟨g, _, none⟩) hg).trans b0, (h.2.2.cell (p := ⟨g, _, none⟩) hg).trans b1, (h.2.2.cell (p := ⟨g, _, none⟩) hg).trans b2⟩
      have HELD := hid held
      clear held a0 a1 a2 b0 b1 b2 hc1
      refine wp_region_held_drew (S := fun u => u.cell? ⟨w.heap.size, 1, none⟩ = some (.slice (some ⟨g, o, none⟩) l.length cc) ∧ u.cell? ⟨g, o + i * 3, none⟩ = some (.bool xn) ∧ u.cell? ⟨g, o + i * 3 + 1, none⟩ = some (.string xx) ∧ u.cell? ⟨g, o + i * 3 + 2, none⟩ = some (.string xy) ∧ u.cell? ⟨g, o + j * 3, none⟩ = some (.bool yn) ∧ u.cell? ⟨g, o + j * 3 + 1, none⟩ = some (.string yx) ∧ u.cell? ⟨g, o + j * 3 + 2, none⟩ = some (.string yy)) (by kernel_rfl) (HELD.out _ hHd) (fun hSd => ?_)
      generalize wr.drew = u0 at *
      refine wpAnyH_take (i := 0) (oi := _) (v := .pointer (some ⟨w.heap.size, 1, none⟩)) rfl (by kernel_rfl) (by kernel_rfl) (by kernel_rfl) (fun _ _ _ h => h) (Or.inl ⟨by rfl, ?_⟩) (by assumption) ?_
      · intro u' hSu
        (try simp only [List.getElem_toArray, List.getElem_cons_zero])
        go_simp
      (try simp only [List.getElem_toArray, List.getElem_cons_zero])
      (try simp only [Act.put, List.setIfInBounds_toArray, List.set_cons_zero, List.set_cons_succ])
      refine wpAnyH_take (i := 1) (oi := _) (v := .slice (some ⟨g, o, none⟩) l.length cc) rfl (by kernel_rfl) (by kernel_rfl) (by kernel_rfl) (fun _ _ _ h => h) (Or.inl ⟨by rfl, ?_⟩) (by assumption) ?_
      · intro u' hSu
        (try simp only [List.getElem_toArray, List.getElem_cons_zero, List.getElem_cons_succ])
        obtain ⟨s1, s2, s3, s4, s5, s6, s7⟩ := hSu
        go_simp
      (try simp only [List.getElem_toArray, List.getElem_cons_zero, List.getElem_cons_succ])
      (try simp only [Act.put, List.setIfInBounds_toArray, List.set_cons_zero, List.set_cons_succ])
      refine wpAnyH_take (i := 2) (oi := _) (v := .int .i64 (i : Nat)) rfl (by kernel_rfl) (by kernel_rfl) (by kernel_rfl) (fun _ _ _ h => h) (Or.inl ⟨by rfl, ?_⟩) (by assumption) ?_
      · intro u' hSu
        (try simp only [List.getElem_toArray, List.getElem_cons_zero, List.getElem_cons_succ])
        go_simp
      (try simp only [List.getElem_toArray, List.getElem_cons_zero, List.getElem_cons_succ])
      (try simp only [Act.put, List.setIfInBounds_toArray, List.set_cons_zero, List.set_cons_succ])
      refine wpAnyH_take (i := 3) (oi := _) (v := .pointer (some ⟨g, o + i * 3, none⟩)) rfl (by kernel_rfl) (by kernel_rfl) (by kernel_rfl) (fun _ _ _ h => h) (Or.inl ⟨by rfl, ?_⟩) (by assumption) ?_
      · intro u' hSu
        (try simp only [List.getElem_toArray, List.getElem_cons_zero, List.getElem_cons_succ])
        go_simp
      (try simp only [List.getElem_toArray, List.getElem_cons_zero, List.getElem_cons_succ])
      (try simp only [Act.put, List.setIfInBounds_toArray, List.set_cons_zero, List.set_cons_succ])
      refine wpAnyH_take (i := 4) (oi := _) (v := .agg #[.bool xn, .string xx, .string xy]) rfl (by kernel_rfl) (by kernel_rfl) (by kernel_rfl) (fun _ _ _ h => h) (Or.inl ⟨by rfl, ?_⟩) (by assumption) ?_
      · intro u' hSu
        (try simp only [List.getElem_toArray, List.getElem_cons_zero, List.getElem_cons_succ])
        obtain ⟨s1, s2, s3, s4, s5, s6, s7⟩ := hSu
        go_simp
      (try simp only [List.getElem_toArray, List.getElem_cons_zero, List.getElem_cons_succ])
      (try simp only [Act.put, List.setIfInBounds_toArray, List.set_cons_zero, List.set_cons_succ])
      refine wpAnyH_take (i := 5) (oi := _) (v := .pointer (some ⟨w.heap.size, 1, none⟩)) rfl (by kernel_rfl) (by kernel_rfl) (by kernel_rfl) (fun _ _ _ h => h) (Or.inl ⟨by rfl, ?_⟩) (by assumption) ?_
      · intro u' hSu
        (try simp only [List.getElem_toArray, List.getElem_cons_zero, List.getElem_cons_succ])
        go_simp
      (try simp only [List.getElem_toArray, List.getElem_cons_zero, List.getElem_cons_succ])
      (try simp only [Act.put, List.setIfInBounds_toArray, List.set_cons_zero, List.set_cons_succ])
      refine wpAnyH_take (i := 6) (oi := _) (v := .slice (some ⟨g, o, none⟩) l.length cc) rfl (by kernel_rfl) (by kernel_rfl) (by kernel_rfl) (fun _ _ _ h => h) (Or.inl ⟨by rfl, ?_⟩) (by assumption) ?_
      · intro u' hSu
        (try simp only [List.getElem_toArray, List.getElem_cons_zero, List.getElem_cons_succ])
        obtain ⟨s1, s2, s3, s4, s5, s6, s7⟩ := hSu
        go_simp
      (try simp only [List.getElem_toArray, List.getElem_cons_zero, List.getElem_cons_succ])
      (try simp only [Act.put, List.setIfInBounds_toArray, List.set_cons_zero, List.set_cons_succ])
      refine wpAnyH_take (i := 7) (oi := _) (v := .int .i64 (j : Nat)) rfl (by kernel_rfl) (by kernel_rfl) (by kernel_rfl) (fun _ _ _ h => h) (Or.inl ⟨by rfl, ?_⟩) (by assumption) ?_
      · intro u' hSu
        (try simp only [List.getElem_toArray, List.getElem_cons_zero, List.getElem_cons_succ])
        go_simp
      (try simp only [List.getElem_toArray, List.getElem_cons_zero, List.getElem_cons_succ])
      (try simp only [Act.put, List.setIfInBounds_toArray, List.set_cons_zero, List.set_cons_succ])
      refine wpAnyH_take (i := 8) (oi := _) (v := .pointer (some ⟨g, o + j * 3, none⟩)) rfl (by kernel_rfl) (by kernel_rfl) (by kernel_rfl) (fun _ _ _ h => h) (Or.inl ⟨by rfl, ?_⟩) (by assumption) ?_
      · intro u' hSu
        (try simp only [List.getElem_toArray, List.getElem_cons_zero, List.getElem_cons_succ])
        go_simp
      (try simp only [List.getElem_toArray, List.getElem_cons_zero, List.getElem_cons_succ])
      (try simp only [Act.put, List.setIfInBounds_toArray, List.set_cons_zero, List.set_cons_succ])
      refine wpAnyH_take (i := 9) (oi := _) (v := .agg #[.bool yn, .string yx, .string yy]) rfl (by kernel_rfl) (by kernel_rfl) (by kernel_rfl) (fun _ _ _ h => h) (Or.inl ⟨by rfl, ?_⟩) (by assumption) ?_
      · intro u' hSu
        (try simp only [List.getElem_toArray, List.getElem_cons_zero, List.getElem_cons_succ])
        obtain ⟨s1, s2, s3, s4, s5, s6, s7⟩ := hSu
        go_simp
      (try simp only [List.getElem_toArray, List.getElem_cons_zero, List.getElem_cons_succ])
      (try simp only [Act.put, List.setIfInBounds_toArray, List.set_cons_zero, List.set_cons_succ])
      refine wpAnyH_ready (rs := [10]) (by kernel_rfl) (by simp) (AllReadyH.cons rfl ?_ (AllReadyH.nil))
      · intro K' hK'
        (try simp only [List.getElem_toArray, List.getElem_cons_zero, List.getElem_cons_succ])
        go_simp
        refine (HCM.out _).mono ?_
        rintro e u1 ⟨rfl, hb⟩
        replace hHd := hHd.step hb
        refine hK'.out _ _ (HELD.out _ hHd) (fun hSe => ?_)
        clear hK' K' hSd
        have hSd := hSe
        clear hSe hb
        (try simp only [List.getElem_toArray, List.getElem_cons_zero, List.getElem_cons_succ])
        (try simp only [Act.put, List.setIfInBounds_toArray, List.set_cons_zero, List.set_cons_succ])
        refine wpAnyH_take (i := 11) (oi := _) (v := .int .i64 (cmpQ (val xn xx xy) (val yn yx yy))) rfl (by kernel_rfl) (by kernel_rfl) (by kernel_rfl) (fun _ _ _ h => h) (Or.inl ⟨by rfl, ?_⟩) (by assumption) ?_
        · intro u' hSu
          (try simp only [List.getElem_toArray, List.getElem_cons_zero, List.getElem_cons_succ])
          go_simp
        (try simp only [List.getElem_toArray, List.getElem_cons_zero, List.getElem_cons_succ])
        (try simp only [Act.put, List.setIfInBounds_toArray, List.set_cons_zero, List.set_cons_succ])
        refine wpAnyH_done (by kernel_rfl) ?_ _
        obtain ⟨cm, hcm⟩ : ∃ cm, cm = cmpQ (val xn xx xy) (val yn yx yy) := ⟨_, rfl⟩
        rw [← hcm]
        by_cases hc0 : 0 < cm
        · have HFN := hid (HUPP.out (by rw [hcm] at hc0; exact hc0))
          have HHD := hid hHd
          clear hcm hSd hHd
          go_wp2
          go_roundw
          case rel => exact ⟨i + 1, by omega, by omega, by go_num, by rw [Nat.add_sub_cancel, HFN.out], HHD⟩
          case measure => simp [intOf]; omega
        · have HFN := hid (HKEE.out (by rw [hcm] at hc0; exact hc0))
          have HHD := hid hHd
          have hc1 : cm ≤ 0 := by omega
          clear hcm hSd hHd
          go_wp2
          go_roundw
          case rel => exact ⟨i + 1, by omega, by omega, by go_num, by rw [Nat.add_sub_cancel, HFN.out], HHD⟩
          case measure => simp [intOf]; omega
    · obtain rfl : i = l.length := by omega
      have c0 := HB.out.1.c0
      go_wp2_with fail
      refine (HWH.out _ (HS.out.below HB.out.2.2) (HV.out.below HB.out.2.2)).mono ?_
      rintro e w2 ⟨d, cd, rfl, hi2, hb2⟩
      have hH := HB.out.step hb2
      clear c0 hc1 hb2
      have c1 := hH.1.c1
      have hK : bestN l (l.length - 1) < l.length := by have := bestN_le l (l.length - 1); omega
      obtain ⟨g', o', e, _, a0, a1, a2⟩ := (HF.out.below hH.2.2) _ hK
      cases e
      rw [← celF_eq hK] at a0 a1 a2
      have hs1 := celF_size hK
      have hw' := HW.out
      have HCA := hid (fun V : World => Canon_r (w := V) (n := (celF l (bestN l (l.length - 1))).1) (x := (celF l (bestN l (l.length - 1))).2.1) (y := (celF l (bestN l (l.length - 1))).2.2) (by omega))
      obtain ⟨fr, hfr⟩ : ∃ fr, fr = celF l (bestN l (l.length - 1)) := ⟨_, rfl⟩
      rw [← hfr] at a0 a1 a2 HCA
      have HFR := hid hfr
      clear hfr hs1
      obtain ⟨fn, fx, fy⟩ := fr
      simp only at a0 a1 a2 HCA
      obtain ⟨K, hKe⟩ : ∃ K, K = bestN l (l.length - 1) := ⟨_, rfl⟩
      rw [← hKe] at a0 a1 a2 hK hi2
      rw [← hKe]
      have HKE := hid hKe
      have HI2 := hid hi2
      clear hKe hi2
      go_wp2_with fail
      refine (HCA.out _).mono ?_
      rintro e w3 ⟨rfl, hb3⟩
      replace hH := hH.step hb3
      replace HI2 := hid (HI2.out.below hb3)
      obtain ⟨k0, k1, k2, f0, f1, f2⟩ := hH.2.1.facts
      clear a0 a1 a2 c1 hb3
      go_wp2
      refine bodyPost_ret (results_tmp_cell_tmp (hH.2.1.put _ _ _) rfl _ rfl) rfl ?_
      refine ⟨d, cd, ?_, ?_, below_put hH.2.2 (by omega) _ _ _⟩
      · rw [← HFR.out]
        rfl
      · rw [← HKE.out]
        exact HI2.out.put3 hH.2.1 _ _ _
end Go.Proofs.YtknlhejhnopnaaaGreatDoor

/- Package table: Norm's closure. -/
namespace Go.Proofs.YtknlhejhnopnaaaGreatDoor
open Go.RowKit Go.Shelf

set_option maxRecDepth 100000 in
set_option maxHeartbeats 400000 in
theorem norm1_any (Bt Bs : Nat) (c : Option Addr) (cc : Nat) (l : List Fr) (s : Rat) (k : Nat) (hk : k < l.length) (w : World) (hBt : Bt < w.heap.size) (xc : w.cell? ⟨Bt, 1, none⟩ = some (.slice c l.length cc)) (hs : Box w Bs (sgn s) (nu s) (de s)) (hf : FrS w c l) (h1 : l[k].2.1.size + l[k].2.2.size ≤ 100000) (h2 : (nu s).size + (de s).size ≤ 100000) :
    Calls Tryz.prog 79 #[.int .i64 (k : Nat), .pointer (some ⟨Bt, 0, none⟩), .pointer (some ⟨Bs, 0, none⟩)] w fun e w' => e = .returned (frV (qF (frQ l[k] * s))) ∧ Below w.heap.size w w' := by
  obtain ⟨g, o, rfl, hg, a0, a1, a2⟩ := hf k hk
  have HC := hid (fun V : World => fMul_q (w := V) (frQ l[k] * s) rfl (val_own s) rfl h1 h2)
  rw [frV_qF]
  generalize frQ l[k] * s = r at *
  clear hf h1 h2
  generalize l[k] = f at *
  obtain ⟨fn, fx, fy⟩ := f
  simp only at a0 a1 a2 HC
  obtain ⟨z0, z1, z2, -⟩ := hs.facts
  have hBs := hs.lt
  clear hs
  have hb0 : Box (w.alloc (FC false ⟨#[]⟩ ⟨#[]⟩)) w.heap.size false ⟨#[]⟩ ⟨#[]⟩ := Box.new w _ _ _
  have hB : Below w.heap.size w (w.alloc (FC false ⟨#[]⟩ ⟨#[]⟩)) := (Below.refl _ w).alloc (Nat.le_refl _) _
  go_enter Tryz.func79, Tryz.ntmps79
  go_upto_region 1 with fail
  generalize (w.alloc (FC false ⟨#[]⟩ ⟨#[]⟩)) = W at *
  replace hb0 := hb0.drew
  replace hB := hB.drew
  have held : ∀ u, Below w.heap.size w u → u.cell? ⟨Bt, 1, none⟩ = some (.slice (some ⟨g, o, none⟩) l.length cc) ∧ u.cell? ⟨g, o + k * 3, none⟩ = some (.bool fn) ∧ u.cell? ⟨g, o + k * 3 + 1, none⟩ = some (.string fx) ∧ u.cell? ⟨g, o + k * 3 + 2, none⟩ = some (.string fy) ∧ u.cell? ⟨Bs, 0, none⟩ = some (.bool (sgn s)) ∧ u.cell? ⟨Bs, 1, none⟩ = some (.string (nu s)) ∧ u.cell? ⟨Bs, 2, none⟩ = some (.string (de s)) := fun u h => ⟨(h.cell (p := ⟨Bt, 1, none⟩) hBt).trans xc, (h.cell (p := ⟨g, _, none⟩) hg).trans a0, (h.cell (p := ⟨g, _, none⟩) hg).trans a1, (h.cell (p := ⟨g, _, none⟩) hg).trans a2, (h.cell (p := ⟨Bs, 0, none⟩) hBs).trans z0, (h.cell (p := ⟨Bs, 1, none⟩) hBs).trans z1, (h.cell (p := ⟨Bs, 2, none⟩) hBs).trans z2⟩
  have HELD := hid held
  clear held a0 a1 a2 z0 z1 z2 xc
  refine wp_region_held_drew (S := fun u => u.cell? ⟨Bt, 1, none⟩ = some (.slice (some ⟨g, o, none⟩) l.length cc) ∧ u.cell? ⟨g, o + k * 3, none⟩ = some (.bool fn) ∧ u.cell? ⟨g, o + k * 3 + 1, none⟩ = some (.string fx) ∧ u.cell? ⟨g, o + k * 3 + 2, none⟩ = some (.string fy) ∧ u.cell? ⟨Bs, 0, none⟩ = some (.bool (sgn s)) ∧ u.cell? ⟨Bs, 1, none⟩ = some (.string (nu s)) ∧ u.cell? ⟨Bs, 2, none⟩ = some (.string (de s))) (by kernel_rfl) (HELD.out _ hB) (fun hSd => ?_)
  generalize W.drew = u0 at *
  refine wpAnyH_take (i := 0) (oi := _) (v := .pointer (some ⟨Bt, 1, none⟩)) rfl (by kernel_rfl) (by kernel_rfl) (by kernel_rfl) (fun _ _ _ h => h) (Or.inl ⟨by rfl, ?_⟩) (by assumption) ?_
  · intro u' hSu
    (try simp only [List.getElem_toArray, List.getElem_cons_zero])
    go_simp
  (try simp only [List.getElem_toArray, List.getElem_cons_zero])
  (try simp only [Act.put, List.setIfInBounds_toArray, List.set_cons_zero, List.set_cons_succ])
  refine wpAnyH_take (i := 1) (oi := _) (v := .slice (some ⟨g, o, none⟩) l.length cc) rfl (by kernel_rfl) (by kernel_rfl) (by kernel_rfl) (fun _ _ _ h => h) (Or.inl ⟨by rfl, ?_⟩) (by assumption) ?_
  · intro u' hSu
    (try simp only [List.getElem_toArray, List.getElem_cons_zero, List.getElem_cons_succ])
    obtain ⟨s1, s2, s3, s4, s5, s6, s7⟩ := hSu
    go_simp
  (try simp only [List.getElem_toArray, List.getElem_cons_zero, List.getElem_cons_succ])
  (try simp only [Act.put, List.setIfInBounds_toArray, List.set_cons_zero, List.set_cons_succ])
  refine wpAnyH_take (i := 2) (oi := _) (v := .int .i64 (k : Nat)) rfl (by kernel_rfl) (by kernel_rfl) (by kernel_rfl) (fun _ _ _ h => h) (Or.inl ⟨by rfl, ?_⟩) (by assumption) ?_
  · intro u' hSu
    (try simp only [List.getElem_toArray, List.getElem_cons_zero, List.getElem_cons_succ])
    go_simp
  (try simp only [List.getElem_toArray, List.getElem_cons_zero, List.getElem_cons_succ])
  (try simp only [Act.put, List.setIfInBounds_toArray, List.set_cons_zero, List.set_cons_succ])
  refine wpAnyH_take (i := 3) (oi := _) (v := .pointer (some ⟨g, o + k * 3, none⟩)) rfl (by kernel_rfl) (by kernel_rfl) (by kernel_rfl) (fun _ _ _ h => h) (Or.inl ⟨by rfl, ?_⟩) (by assumption) ?_
  · intro u' hSu
    (try simp only [List.getElem_toArray, List.getElem_cons_zero, List.getElem_cons_succ])
    go_simp
  (try simp only [List.getElem_toArray, List.getElem_cons_zero, List.getElem_cons_succ])
  (try simp only [Act.put, List.setIfInBounds_toArray, List.set_cons_zero, List.set_cons_succ])
  refine wpAnyH_take (i := 4) (oi := _) (v := .agg #[.bool fn, .string fx, .string fy]) rfl (by kernel_rfl) (by kernel_rfl) (by kernel_rfl) (fun _ _ _ h => h) (Or.inl ⟨by rfl, ?_⟩) (by assumption) ?_
  · intro u' hSu
    (try simp only [List.getElem_toArray, List.getElem_cons_zero, List.getElem_cons_succ])
    obtain ⟨s1, s2, s3, s4, s5, s6, s7⟩ := hSu
    go_simp
  (try simp only [List.getElem_toArray, List.getElem_cons_zero, List.getElem_cons_succ])
  (try simp only [Act.put, List.setIfInBounds_toArray, List.set_cons_zero, List.set_cons_succ])
  refine wpAnyH_take (i := 5) (oi := _) (v := .agg #[.bool (sgn s), .string (nu s), .string (de s)]) rfl (by kernel_rfl) (by kernel_rfl) (by kernel_rfl) (fun _ _ _ h => h) (Or.inl ⟨by rfl, ?_⟩) (by assumption) ?_
  · intro u' hSu
    (try simp only [List.getElem_toArray, List.getElem_cons_zero, List.getElem_cons_succ])
    obtain ⟨s1, s2, s3, s4, s5, s6, s7⟩ := hSu
    go_simp
  (try simp only [List.getElem_toArray, List.getElem_cons_zero, List.getElem_cons_succ])
  (try simp only [Act.put, List.setIfInBounds_toArray, List.set_cons_zero, List.set_cons_succ])
  refine wpAnyH_ready (rs := [6]) (by kernel_rfl) (by simp) (AllReadyH.cons rfl ?_ (AllReadyH.nil))
  · intro K' hK'
    (try simp only [List.getElem_toArray, List.getElem_cons_zero, List.getElem_cons_succ])
    go_simp
    refine (HC.out _).mono ?_
    rintro e u1 ⟨rfl, hb⟩
    replace hb0 := hb0.below hb hb0.lt
    replace hB := hB.trans (hb.mono hB.size)
    refine hK'.out _ _ (HELD.out _ hB) (fun hSe => ?_)
    clear hK' K' hSd
    have hSd := hSe
    clear hSe hb
    (try simp only [List.getElem_toArray, List.getElem_cons_zero, List.getElem_cons_succ])
    (try simp only [Act.put, List.setIfInBounds_toArray, List.set_cons_zero, List.set_cons_succ])
    obtain ⟨k0, k1, k2, f0, f1, f2⟩ := hb0.facts
    refine wpAnyH_ready (rs := [7]) (by kernel_rfl) (by simp) (AllReadyH.cons rfl ?_ (AllReadyH.nil))
    · intro K' hK'
      (try simp only [List.getElem_toArray, List.getElem_cons_zero, List.getElem_cons_succ])
      go_simp
      have hput := hb0.put (sgn r) (nu r) (de r)
      have hBp := below_put hB (g := w.heap.size) (Nat.le_refl _) (.bool (sgn r)) (.string (nu r)) (.string (de r))
      generalize (((u1.setCell ⟨w.heap.size, 0, none⟩ (.bool (sgn r))).setCell ⟨w.heap.size, 1, none⟩ (.string (nu r))).setCell ⟨w.heap.size, 2, none⟩ (.string (de r))) = v9 at *
      refine hK'.out _ _ (HELD.out _ hBp) (fun _ => wpAnyH_done (by kernel_rfl) ?_ _)
      clear hK' K' hSd
      go_wp2
      refine bodyPost_ret (hput.result rfl _ rfl) rfl ?_
      exact ⟨rfl, hBp⟩
end Go.Proofs.YtknlhejhnopnaaaGreatDoor
