/- The document's answer: Norm. -/
import Derived.Test.YtknlhejhnopnaaaGreatDoorRtFToNormA
import Derived.Test.YtknlhejhnopnaaaGreatDoorNormBOwn
namespace Go.Proofs.YtknlhejhnopnaaaGreatDoor
open Go.RowKit Go.Shelf

set_option maxRecDepth 100000 in
set_option maxHeartbeats 400000 in
theorem rNorm_no (a b c : Option Addr) (ca cb cc m : Nat) (sizes vars : List Int) (w : World) (hs : IntS w a sizes) (hv : IntS w b vars) (hn : sizes.length ≤ 140737488355328) (hm : vars.length ≤ 140737488355328) (hk : checkA sizes vars m ≠ 0) :
    Calls Tryz.prog 25 #[.slice a sizes.length ca, .agg #[.slice b vars.length cb, .slice c m cc]] w fun e w' => TabA [] [] (checkA sizes vars m) e w' ∧ Below w.heap.size w w' := by
  have HC := hid (fun V h1 h2 => rCheck_any a b c ca cb cc m sizes vars V h1 h2 hn hm)
  generalize checkA sizes vars m = r at *
  have HS := hid hs
  have HV := hid hv
  have hH : NR w ((w.alloc (TC (.slice b vars.length cb) (.slice c m cc))).alloc (TC (.slice none 0 0) (.slice none 0 0))) w.heap.size (w.heap.size + 1) (.slice b vars.length cb) (.slice c m cc) := NH.new w _ _
  have c0 := hH.1.c0
  have c1 := hH.1.c1
  go_enter Tryz.func25, Tryz.ntmps25
  go_wp2_with fail
  generalize ((w.alloc (TC (.slice b vars.length cb) (.slice c m cc))).alloc (TC (.slice none 0 0) (.slice none 0 0))) = W at *
  refine (HC.out _ (HS.out.below hH.2.2) (HV.out.below hH.2.2)).mono ?_
  rintro e w1 ⟨rfl, hb1⟩
  replace hH := hH.step hb1
  clear c0 c1 hb1
  obtain ⟨k0, k1, f0, f1⟩ := hH.2.1.facts
  have hrb : (r == 0) = false := by simp [hk]
  go_wp2
  refine bodyPost_ret ((hH.2.1.put _ _).result2 rfl _ rfl) rfl ?_
  exact ⟨TabA.empty _ _, below_put2 hH.2.2 (by omega) _ _⟩

set_option maxRecDepth 100000 in
set_option maxHeartbeats 1000000 in
theorem rNorm_z (a b c : Option Addr) (ca cb cc : Nat) (sizes vars : List Int) (l : List Fr) (w : World) (hs : IntS w a sizes) (hv : IntS w b vars) (hf : FrS w c l) (hb0 : b = none → cb = 0) (hn : sizes.length ≤ 140737488355328) (hm : vars.length ≤ 140737488355328) (hk : checkA sizes vars l.length = 0) (hw : fw l ≤ 8192) (hz : fsum l = 0) :
    Calls Tryz.prog 25 #[.slice a sizes.length ca, .agg #[.slice b vars.length cb, .slice c l.length cc]] w fun e w' => TabA [] [] 3 e w' ∧ Below w.heap.size w w' := by
  obtain ⟨hfi, hup, hlc⟩ := checkA_parts hk
  have hl1 := checkA_pos hk
  have hll : l.length ≤ 8192 := by have := fw_sw l; omega
  have hqw := qw_sum (l := l) (by omega)
  have HCK := fun V h1 h2 => rCheck_any a b c ca cb cc l.length sizes vars V h1 h2 hn hm
  rw [hk] at HCK
  have HC := hid HCK
  have HSU := hid (fun V h => rSum_any c cc l V h (by omega) (by omega))
  have hv8 := hup.length
  have hl8 := hfi.eight
  have HB0 := hid hb0
  have HDV : Hid (∀ (i : Nat) (h : i < l.length) (V : World), Calls Tryz.prog 81 #[frV l[i], .agg #[.bool (sgn (fsum l)), .string (nu (fsum l)), .string (de (fsum l))]] V fun e w' => e = .returned (.tuple #[.agg #[.bool false, .string ⟨#[]⟩, .string ⟨#[]⟩], .int .i64 3]) ∧ Below V.heap.size V w') := fun i h V => rDivF_no _ _ _ _ _ _ V ((val_own _).trans hz) (show qw (fsum l) ≤ 50000 by omega)
  obtain ⟨g, o, rfl, hg, -⟩ := hf 0 (by omega)
  have HF := hid hf
  clear HCK hk hw hfi hup hlc hf hb0 hz
  have HS := hid hs
  have HV := hid hv
  have hH : NR w ((w.alloc (TC (.slice b vars.length cb) (.slice (some ⟨g, o, none⟩) l.length cc))).alloc (TC (.slice none 0 0) (.slice none 0 0))) w.heap.size (w.heap.size + 1) (.slice b vars.length cb) (.slice (some ⟨g, o, none⟩) l.length cc) := NH.new w _ _
  have c0 := hH.1.c0
  have c1 := hH.1.c1
  go_enter Tryz.func25, Tryz.ntmps25
  go_wp2_with fail
  generalize ((w.alloc (TC (.slice b vars.length cb) (.slice (some ⟨g, o, none⟩) l.length cc))).alloc (TC (.slice none 0 0) (.slice none 0 0))) = W at *
  refine (HC.out _ (HS.out.below hH.2.2) (HV.out.below hH.2.2)).mono ?_
  rintro e w1 ⟨rfl, hb1⟩
  replace hH := hH.step hb1
  clear c0 c1 hb1
  have c1 := hH.1.c1
  go_wp2_with fail
  refine (HSU.out _ (HF.out.below hH.2.2)).mono ?_
  rintro e w2 ⟨rfl, hb2⟩
  replace hH := hH.step hb2
  clear c1 hb2 HSU
  rw [C_eq]
  have h7 := Box.new w2 (sgn (fsum l)) (nu (fsum l)) (de (fsum l))
  have hw7 := hH.2.1.lt
  replace hH := hH.step ((Below.refl _ w2).alloc (Nat.le_refl _) (FC (sgn (fsum l)) (nu (fsum l)) (de (fsum l))))
  have c0 := hH.1.c0
  go_upto_region 5 with fail
  generalize (w2.alloc (FC (sgn (fsum l)) (nu (fsum l)) (de (fsum l)))) = w3 at *
  generalize w2.heap.size = B7 at *
  have hbe : Below w3.heap.size w3 (w3.alloc (.cells #[] 3)) := (Below.refl _ w3).alloc (Nat.le_refl _) _
  have hRe : RwI (w3.alloc (.cells #[] 3)) w3.heap.size (.slice (some ⟨w3.heap.size, 0, none⟩) 0 0) [] := ⟨rfl, .inr ⟨w3.heap.size, 0, #[], rfl, Nat.le_refl _, heap_alloc_new _ _, Nat.le_refl _, Nat.zero_le _, rfl, rfl⟩⟩
  have hHe := hH.step hbe
  have c0' := hHe.1.c0
  have HIv := hid (HV.out.below hHe.2.2)
  have HRE := hid hRe
  have hse : w3.heap.size ≤ (w3.alloc (.cells #[] 3)).heap.size := hbe.size
  clear hRe c0
  go_wp2_with (at_builtin; refine wpList_append_ints rfl _ _ rfl w3.heap.size _ [] vars rfl HRE.out b cb rfl HIv.out HB0.out (by simp; omega) hse ?_; intro v' w4 hr4 hg4; rw [List.nil_append] at hr4; have HR4 := hid hr4; have HB4 := hid (hbe.grown hg4 hse HRE.out.own); obtain ⟨d4, c4, rfl, hi4⟩ := hr4.ints; have HI4 := hid hi4; clear hr4 hg4 hi4)
  replace hH := hH.step HB4.out
  replace h7 := h7.below HB4.out h7.lt
  clear hHe c0' HIv HRE hse HB4 HR4 hbe
  generalize w3.heap.size = n3 at *
  have HX0 := hid (FX.new w4 (.slice d4 vars.length c4))
  generalize (w4.alloc (TC (.slice d4 vars.length c4) (.slice none 0 0))) = w5 at *
  go_loopw [9] (fun iv wr => ∃ (i : Nat) (y : Value), i ≤ 0 ∧ iv = .int .i64 i ∧ Hid (FX w4 wr (.slice d4 vars.length c4) y ([]))) (fun iv _ => l.length - (intOf iv).toNat)
  case atStart => exact ⟨0, _, Nat.zero_le _, rfl, HX0⟩
  case round =>
    obtain ⟨i, y, hile, rfl, HX⟩ := hrel
    clear HX0
    have hHw := hH.step HX.out.1
    have c1 := hHw.1.c1
    by_cases hlt : i < l.length
    · obtain ⟨g', o', e, _, a0, a1, a2⟩ := HF.out i hlt
      cases e
      have HDI := HDV.out i hlt 
      generalize l[i] = fr at *
      obtain ⟨fn, fx, fy⟩ := fr
      simp only at a0 a1 a2
      have HD := hid HDI
      clear HDI
      obtain ⟨dn, hdn⟩ : ∃ d, false = d := ⟨_, rfl⟩
      obtain ⟨dx, hdx⟩ : ∃ d : ByteArray, ⟨#[]⟩ = d := ⟨_, rfl⟩
      obtain ⟨dy, hdy⟩ : ∃ d : ByteArray, ⟨#[]⟩ = d := ⟨_, rfl⟩
      have HD2 : Hid (∀ V : World, Calls Tryz.prog 81 #[.agg #[.bool fn, .string fx, .string fy], .agg #[.bool (sgn (fsum l)), .string (nu (fsum l)), .string (de (fsum l))]] V fun e w' => e = .returned (.tuple #[.agg #[.bool dn, .string dx, .string dy], .int .i64 3]) ∧ Below V.heap.size V w') := by
        rw [← hdn, ← hdx, ← hdy]; exact HD
      clear HD hdn hdx hdy
      have HD := HD2
      clear HD2
      obtain ⟨dk, hdk⟩ : ∃ d : Int, 3 = d := ⟨_, rfl⟩
      have HD3 : Hid (∀ V : World, Calls Tryz.prog 81 #[.agg #[.bool fn, .string fx, .string fy], .agg #[.bool (sgn (fsum l)), .string (nu (fsum l)), .string (de (fsum l))]] V fun e w' => e = .returned (.tuple #[.agg #[.bool dn, .string dx, .string dy], .int .i64 dk]) ∧ Below V.heap.size V w') := by rw [← hdk]; exact HD
      clear HD
      have HD := HD3
      clear HD3
      have hdb : (dk == 0) = false := by rw [← hdk]; rfl
      have HDK := hid hdk
      clear hdk
      go_upto_region 9 with fail
      have hHd : Below wr.heap.size wr wr.drew := (Below.refl _ wr).drew
      have held : ∀ u, Below wr.heap.size wr u → u.cell? ⟨w.heap.size, 1, none⟩ = some (.slice (some ⟨g, o, none⟩) l.length cc) ∧ u.cell? ⟨g, o + i * 3, none⟩ = some (.bool fn) ∧ u.cell? ⟨g, o + i * 3 + 1, none⟩ = some (.string fx) ∧ u.cell? ⟨g, o + i * 3 + 2, none⟩ = some (.string fy) ∧ u.cell? ⟨B7, 0, none⟩ = some (.bool (sgn (fsum l))) ∧ u.cell? ⟨B7, 1, none⟩ = some (.string (nu (fsum l))) ∧ u.cell? ⟨B7, 2, none⟩ = some (.string (de (fsum l))) := fun u h => by
        have hX' := HX.out.step h
        have hH' := hH.step hX'.1
        have h7' := h7.below hX'.1 h7.lt
        obtain ⟨z0, z1, z2, -⟩ := h7'.facts
        exact ⟨hH'.1.c1, (hH'.2.2.cell (p := ⟨g, _, none⟩) hg).trans a0, (hH'.2.2.cell (p := ⟨g, _, none⟩) hg).trans a1, (hH'.2.2.cell (p := ⟨g, _, none⟩) hg).trans a2, z0, z1, z2⟩
      have HELD := hid held
      clear held a0 a1 a2 c1
      refine wp_region_held_drew (S := fun u => u.cell? ⟨w.heap.size, 1, none⟩ = some (.slice (some ⟨g, o, none⟩) l.length cc) ∧ u.cell? ⟨g, o + i * 3, none⟩ = some (.bool fn) ∧ u.cell? ⟨g, o + i * 3 + 1, none⟩ = some (.string fx) ∧ u.cell? ⟨g, o + i * 3 + 2, none⟩ = some (.string fy) ∧ u.cell? ⟨B7, 0, none⟩ = some (.bool (sgn (fsum l))) ∧ u.cell? ⟨B7, 1, none⟩ = some (.string (nu (fsum l))) ∧ u.cell? ⟨B7, 2, none⟩ = some (.string (de (fsum l)))) (by kernel_rfl) (HELD.out _ hHd) (fun hSd => ?_)
      generalize wr.drew = u0 at *
      refine wpAnyH_take (i := 0) (oi := _) (v := .pointer (some ⟨w.heap.size, 1, none⟩)) rfl (by kernel_rfl) (by kernel_rfl) (by kernel_rfl) (fun _ _ _ h => h) (Or.inl ⟨by rfl, ?_⟩) (by assumption) ?_
      · intro u' hSu
        (try simp only [List.getElem_toArray, List.getElem_cons_zero])
        go_simp
      (try simp only [List.getElem_toArray, List.getElem_cons_zero])
      (try simp only [Act.put, List.setIfInBounds_toArray, List.set_cons_zero, List.set_cons_succ])
      refine wpAnyH_take (i := 1) (oi := _) (v := .slice (some ⟨g, o, none⟩) l.length cc) rfl (by kernel_rfl) (by kernel_rfl) (by kernel_rfl) (fun _ _ _ h => h) (Or.inl ⟨by rfl, ?_⟩) (by assumption) ?_
      · intro u' hSu
        (try simp only [List.getElem_toArray, List.getElem_cons_zero, List.getElem_cons_succ])
        obtain ⟨s1, s2, s3, s4, s5, s6, s7⟩ := hSu
        go_simp
      (try simp only [List.getElem_toArray, List.getElem_cons_zero, List.getElem_cons_succ])
      (try simp only [Act.put, List.setIfInBounds_toArray, List.set_cons_zero, List.set_cons_succ])
      refine wpAnyH_take (i := 2) (oi := _) (v := .int .i64 (i : Nat)) rfl (by kernel_rfl) (by kernel_rfl) (by kernel_rfl) (fun _ _ _ h => h) (Or.inl ⟨by rfl, ?_⟩) (by assumption) ?_
      · intro u' hSu
        (try simp only [List.getElem_toArray, List.getElem_cons_zero, List.getElem_cons_succ])
        go_simp
      (try simp only [List.getElem_toArray, List.getElem_cons_zero, List.getElem_cons_succ])
      (try simp only [Act.put, List.setIfInBounds_toArray, List.set_cons_zero, List.set_cons_succ])
      refine wpAnyH_take (i := 3) (oi := _) (v := .pointer (some ⟨g, o + i * 3, none⟩)) rfl (by kernel_rfl) (by kernel_rfl) (by kernel_rfl) (fun _ _ _ h => h) (Or.inl ⟨by rfl, ?_⟩) (by assumption) ?_
      · intro u' hSu
        (try simp only [List.getElem_toArray, List.getElem_cons_zero, List.getElem_cons_succ])
        go_simp
      (try simp only [List.getElem_toArray, List.getElem_cons_zero, List.getElem_cons_succ])
      (try simp only [Act.put, List.setIfInBounds_toArray, List.set_cons_zero, List.set_cons_succ])
      refine wpAnyH_take (i := 4) (oi := _) (v := .agg #[.bool fn, .string fx, .string fy]) rfl (by kernel_rfl) (by kernel_rfl) (by kernel_rfl) (fun _ _ _ h => h) (Or.inl ⟨by rfl, ?_⟩) (by assumption) ?_
      · intro u' hSu
        (try simp only [List.getElem_toArray, List.getElem_cons_zero, List.getElem_cons_succ])
        obtain ⟨s1, s2, s3, s4, s5, s6, s7⟩ := hSu
        go_simp
      (try simp only [List.getElem_toArray, List.getElem_cons_zero, List.getElem_cons_succ])
      (try simp only [Act.put, List.setIfInBounds_toArray, List.set_cons_zero, List.set_cons_succ])
      refine wpAnyH_take (i := 5) (oi := _) (v := .agg #[.bool (sgn (fsum l)), .string (nu (fsum l)), .string (de (fsum l))]) rfl (by kernel_rfl) (by kernel_rfl) (by kernel_rfl) (fun _ _ _ h => h) (Or.inl ⟨by rfl, ?_⟩) (by assumption) ?_
      · intro u' hSu
        (try simp only [List.getElem_toArray, List.getElem_cons_zero, List.getElem_cons_succ])
        obtain ⟨s1, s2, s3, s4, s5, s6, s7⟩ := hSu
        go_simp
      (try simp only [List.getElem_toArray, List.getElem_cons_zero, List.getElem_cons_succ])
      (try simp only [Act.put, List.setIfInBounds_toArray, List.set_cons_zero, List.set_cons_succ])
      refine wpAnyH_ready (rs := [6, 10]) (by kernel_rfl) (by simp) (AllReadyH.cons rfl ?_ (AllReadyH.cons rfl ?_ (AllReadyH.nil)))
      · intro K' hK'
        (try simp only [List.getElem_toArray, List.getElem_cons_zero, List.getElem_cons_succ])
        go_simp
        refine (HD.out _).mono ?_
        rintro e u1 ⟨rfl, hb⟩
        replace hHd := hHd.trans (hb.mono hHd.size)
        refine hK'.out _ _ (HELD.out _ hHd) (fun hSe => ?_)
        clear hK' K' hSd
        have hSd := hSe
        clear hSe hb
        (try simp only [List.getElem_toArray, List.getElem_cons_zero, List.getElem_cons_succ])
        (try simp only [Act.put, List.setIfInBounds_toArray, List.set_cons_zero, List.set_cons_succ])
        refine wpAnyH_take (i := 7) (oi := _) (v := .tuple #[.agg #[.bool dn, .string dx, .string dy], .int .i64 dk]) rfl (by kernel_rfl) (by kernel_rfl) (by kernel_rfl) (fun _ _ _ h => h) (Or.inl ⟨by rfl, ?_⟩) (by assumption) ?_
        · intro u' hSu
          (try simp only [List.getElem_toArray, List.getElem_cons_zero, List.getElem_cons_succ])
          go_simp
        (try simp only [List.getElem_toArray, List.getElem_cons_zero, List.getElem_cons_succ])
        (try simp only [Act.put, List.setIfInBounds_toArray, List.set_cons_zero, List.set_cons_succ])
        refine wpAnyH_take (i := 8) (oi := _) (v := .agg #[.bool dn, .string dx, .string dy]) rfl (by kernel_rfl) (by kernel_rfl) (by kernel_rfl) (fun _ _ _ h => h) (Or.inl ⟨by rfl, ?_⟩) (by assumption) ?_
        · intro u' hSu
          (try simp only [List.getElem_toArray, List.getElem_cons_zero, List.getElem_cons_succ])
          go_simp
        (try simp only [List.getElem_toArray, List.getElem_cons_zero, List.getElem_cons_succ])
        (try simp only [Act.put, List.setIfInBounds_toArray, List.set_cons_zero, List.set_cons_succ])
        refine wpAnyH_take (i := 9) (oi := _) (v := .int .i64 dk) rfl (by kernel_rfl) (by kernel_rfl) (by kernel_rfl) (fun _ _ _ h => h) (Or.inl ⟨by rfl, ?_⟩) (by assumption) ?_
        · intro u' hSu
          (try simp only [List.getElem_toArray, List.getElem_cons_zero, List.getElem_cons_succ])
          go_simp
        (try simp only [List.getElem_toArray, List.getElem_cons_zero, List.getElem_cons_succ])
        (try simp only [Act.put, List.setIfInBounds_toArray, List.set_cons_zero, List.set_cons_succ])
        refine wpAnyH_ready (rs := [10]) (by kernel_rfl) (by simp) (AllReadyH.cons rfl ?_ (AllReadyH.nil))
        · intro K' hK'
          (try simp only [List.getElem_toArray, List.getElem_cons_zero, List.getElem_cons_succ])
          go_simp
          have hb : Below u1.heap.size u1 (u1.alloc (FC false ⟨#[]⟩ ⟨#[]⟩)) := (Below.refl _ u1).alloc (Nat.le_refl _) _
          have h10 : Box (u1.alloc (FC false ⟨#[]⟩ ⟨#[]⟩)) u1.heap.size false ⟨#[]⟩ ⟨#[]⟩ := Box.new u1 _ _ _
          have l10 := hHd.size
          replace hHd := hHd.trans (hb.mono hHd.size)
          refine hK'.out _ _ (HELD.out _ hHd) (fun hSe => ?_)
          clear hK' K' hSd
          have hSd := hSe
          clear hSe hb
          generalize (u1.alloc (FC false ⟨#[]⟩ ⟨#[]⟩)) = u2 at *
          generalize u1.heap.size = B10 at *
          (try simp only [List.getElem_toArray, List.getElem_cons_zero, List.getElem_cons_succ])
          (try simp only [Act.put, List.setIfInBounds_toArray, List.set_cons_zero, List.set_cons_succ])
          obtain ⟨k0, k1, k2, f0, f1, f2⟩ := h10.facts
          refine wpAnyH_ready (rs := [11]) (by kernel_rfl) (by simp) (AllReadyH.cons rfl ?_ (AllReadyH.nil))
          · intro K' hK'
            (try simp only [List.getElem_toArray, List.getElem_cons_zero, List.getElem_cons_succ])
            go_simp
            have h11 := h10.put dn dx dy
            replace hHd := below_put hHd l10 (.bool dn) (.string dx) (.string dy)
            clear k0 k1 k2 f0 f1 f2 h10
            generalize (((u2.setCell ⟨B10, 0, none⟩ (.bool dn)).setCell ⟨B10, 1, none⟩ (.string dx)).setCell ⟨B10, 2, none⟩ (.string dy)) = v9 at *
            refine hK'.out _ _ (HELD.out _ hHd) (fun hSe => ?_)
            clear hK' K' hSd
            have hSd := hSe
            clear hSe
            (try simp only [List.getElem_toArray, List.getElem_cons_zero, List.getElem_cons_succ])
            (try simp only [Act.put, List.setIfInBounds_toArray, List.set_cons_zero, List.set_cons_succ])
            refine wpAnyH_take (i := 12) (oi := _) (v := .int .i64 dk) rfl (by kernel_rfl) (by kernel_rfl) (by kernel_rfl) (fun _ _ _ h => h) (Or.inl ⟨by rfl, ?_⟩) (by assumption) ?_
            · intro u' hSu
              (try simp only [List.getElem_toArray, List.getElem_cons_zero, List.getElem_cons_succ])
              go_simp
            (try simp only [List.getElem_toArray, List.getElem_cons_zero, List.getElem_cons_succ])
            (try simp only [Act.put, List.setIfInBounds_toArray, List.set_cons_zero, List.set_cons_succ])
            refine wpAnyH_done (by kernel_rfl) ?_ _
            have hH' := hH.step (HX.out.step hHd).1
            obtain ⟨k0, k1, f0, f1⟩ := hH'.2.1.facts
            have hd0 : ¬ dk = 0 := by simpa using hdb
            clear hSd
            go_wp2
            refine bodyPost_ret ((hH'.2.1.put _ _).result2 rfl _ rfl) rfl ?_
            exact ⟨by rw [← HDK.out]; exact TabA.empty 3 _, below_put2 hH'.2.2 (by omega) _ _⟩
      · intro K' hK'
        (try simp only [List.getElem_toArray, List.getElem_cons_zero, List.getElem_cons_succ])
        go_simp
        have hb : Below u0.heap.size u0 (u0.alloc (FC false ⟨#[]⟩ ⟨#[]⟩)) := (Below.refl _ u0).alloc (Nat.le_refl _) _
        have h10 : Box (u0.alloc (FC false ⟨#[]⟩ ⟨#[]⟩)) u0.heap.size false ⟨#[]⟩ ⟨#[]⟩ := Box.new u0 _ _ _
        have l10 := hHd.size
        replace hHd := hHd.trans (hb.mono hHd.size)
        refine hK'.out _ _ (HELD.out _ hHd) (fun hSe => ?_)
        clear hK' K' hSd
        have hSd := hSe
        clear hSe hb
        generalize (u0.alloc (FC false ⟨#[]⟩ ⟨#[]⟩)) = u1 at *
        generalize u0.heap.size = B10 at *
        (try simp only [List.getElem_toArray, List.getElem_cons_zero, List.getElem_cons_succ])
        (try simp only [Act.put, List.setIfInBounds_toArray, List.set_cons_zero, List.set_cons_succ])
        refine wpAnyH_ready (rs := [6]) (by kernel_rfl) (by simp) (AllReadyH.cons rfl ?_ (AllReadyH.nil))
        · intro K' hK'
          (try simp only [List.getElem_toArray, List.getElem_cons_zero, List.getElem_cons_succ])
          go_simp
          refine (HD.out _).mono ?_
          rintro e u2 ⟨rfl, hb⟩
          replace hHd := hHd.trans (hb.mono hHd.size)
          replace h10 := h10.below hb h10.lt
          refine hK'.out _ _ (HELD.out _ hHd) (fun hSe => ?_)
          clear hK' K' hSd
          have hSd := hSe
          clear hSe hb
          (try simp only [List.getElem_toArray, List.getElem_cons_zero, List.getElem_cons_succ])
          (try simp only [Act.put, List.setIfInBounds_toArray, List.set_cons_zero, List.set_cons_succ])
          refine wpAnyH_take (i := 7) (oi := _) (v := .tuple #[.agg #[.bool dn, .string dx, .string dy], .int .i64 dk]) rfl (by kernel_rfl) (by kernel_rfl) (by kernel_rfl) (fun _ _ _ h => h) (Or.inl ⟨by rfl, ?_⟩) (by assumption) ?_
          · intro u' hSu
            (try simp only [List.getElem_toArray, List.getElem_cons_zero, List.getElem_cons_succ])
            go_simp
          (try simp only [List.getElem_toArray, List.getElem_cons_zero, List.getElem_cons_succ])
          (try simp only [Act.put, List.setIfInBounds_toArray, List.set_cons_zero, List.set_cons_succ])
          refine wpAnyH_take (i := 8) (oi := _) (v := .agg #[.bool dn, .string dx, .string dy]) rfl (by kernel_rfl) (by kernel_rfl) (by kernel_rfl) (fun _ _ _ h => h) (Or.inl ⟨by rfl, ?_⟩) (by assumption) ?_
          · intro u' hSu
            (try simp only [List.getElem_toArray, List.getElem_cons_zero, List.getElem_cons_succ])
            go_simp
          (try simp only [List.getElem_toArray, List.getElem_cons_zero, List.getElem_cons_succ])
          (try simp only [Act.put, List.setIfInBounds_toArray, List.set_cons_zero, List.set_cons_succ])
          refine wpAnyH_take (i := 9) (oi := _) (v := .int .i64 dk) rfl (by kernel_rfl) (by kernel_rfl) (by kernel_rfl) (fun _ _ _ h => h) (Or.inl ⟨by rfl, ?_⟩) (by assumption) ?_
          · intro u' hSu
            (try simp only [List.getElem_toArray, List.getElem_cons_zero, List.getElem_cons_succ])
            go_simp
          (try simp only [List.getElem_toArray, List.getElem_cons_zero, List.getElem_cons_succ])
          (try simp only [Act.put, List.setIfInBounds_toArray, List.set_cons_zero, List.set_cons_succ])
          obtain ⟨k0, k1, k2, f0, f1, f2⟩ := h10.facts
          refine wpAnyH_ready (rs := [11]) (by kernel_rfl) (by simp) (AllReadyH.cons rfl ?_ (AllReadyH.nil))
          · intro K' hK'
            (try simp only [List.getElem_toArray, List.getElem_cons_zero, List.getElem_cons_succ])
            go_simp
            have h11 := h10.put dn dx dy
            replace hHd := below_put hHd l10 (.bool dn) (.string dx) (.string dy)
            clear k0 k1 k2 f0 f1 f2 h10
            generalize (((u2.setCell ⟨B10, 0, none⟩ (.bool dn)).setCell ⟨B10, 1, none⟩ (.string dx)).setCell ⟨B10, 2, none⟩ (.string dy)) = v9 at *
            refine hK'.out _ _ (HELD.out _ hHd) (fun hSe => ?_)
            clear hK' K' hSd
            have hSd := hSe
            clear hSe
            (try simp only [List.getElem_toArray, List.getElem_cons_zero, List.getElem_cons_succ])
            (try simp only [Act.put, List.setIfInBounds_toArray, List.set_cons_zero, List.set_cons_succ])
            refine wpAnyH_take (i := 12) (oi := _) (v := .int .i64 dk) rfl (by kernel_rfl) (by kernel_rfl) (by kernel_rfl) (fun _ _ _ h => h) (Or.inl ⟨by rfl, ?_⟩) (by assumption) ?_
            · intro u' hSu
              (try simp only [List.getElem_toArray, List.getElem_cons_zero, List.getElem_cons_succ])
              go_simp
            (try simp only [List.getElem_toArray, List.getElem_cons_zero, List.getElem_cons_succ])
            (try simp only [Act.put, List.setIfInBounds_toArray, List.set_cons_zero, List.set_cons_succ])
            refine wpAnyH_done (by kernel_rfl) ?_ _
            have hH' := hH.step (HX.out.step hHd).1
            obtain ⟨k0, k1, f0, f1⟩ := hH'.2.1.facts
            have hd0 : ¬ dk = 0 := by simpa using hdb
            clear hSd
            go_wp2
            refine bodyPost_ret ((hH'.2.1.put _ _).result2 rfl _ rfl) rfl ?_
            exact ⟨by rw [← HDK.out]; exact TabA.empty 3 _, below_put2 hH'.2.2 (by omega) _ _⟩
    · exact absurd (show i < l.length by omega) hlt
set_option maxRecDepth 100000 in
set_option maxHeartbeats 1000000 in
theorem rNorm_q (a b c : Option Addr) (ca cb cc : Nat) (sizes vars : List Int) (l : List Fr) (w : World) (hs : IntS w a sizes) (hv : IntS w b vars) (hf : FrS w c l) (hb0 : b = none → cb = 0) (hn : sizes.length ≤ 140737488355328) (hm : vars.length ≤ 140737488355328) (hk : checkA sizes vars l.length = 0) (hw : fw l ≤ 8192) (hz : fsum l ≠ 0) :
    Calls Tryz.prog 25 #[.slice a sizes.length ca, .agg #[.slice b vars.length cb, .slice c l.length cc]] w fun e w' => TabA vars (normL l) 0 e w' ∧ Below w.heap.size w w' := by
  obtain ⟨hfi, hup, hlc⟩ := checkA_parts hk
  have hl1 := checkA_pos hk
  have hll : l.length ≤ 8192 := by have := fw_sw l; omega
  have hqw := qw_sum (l := l) (by omega)
  have HCK := fun V h1 h2 => rCheck_any a b c ca cb cc l.length sizes vars V h1 h2 hn hm
  rw [hk] at HCK
  have HC := hid HCK
  have HSU := hid (fun V h => rSum_any c cc l V h (by omega) (by omega))
  have hv8 := hup.length
  have hl8 := hfi.eight
  have HB0 := hid hb0
  have HDV : Hid (∀ (i : Nat) (h : i < l.length) (h' : i < (normL l).length) (V : World), Calls Tryz.prog 81 #[frV l[i], .agg #[.bool (sgn (fsum l)), .string (nu (fsum l)), .string (de (fsum l))]] V fun e w' => e = .returned (.tuple #[frV (normL l)[i], .int .i64 0]) ∧ Below V.heap.size V w') := fun i h h' V => by
    have h1 := fw_mem (List.getElem_mem h)
    have e := rDivF_yes l[i].1 (sgn (fsum l)) l[i].2.1 l[i].2.2 (nu (fsum l)) (de (fsum l)) V (fun e => hz (by rw [← val_own (fsum l)]; exact e)) (by omega) (show qw (fsum l) ≤ 40000 by omega)
    rw [normL_get, frV_qF]
    have e2 : frQ l[i] * (1 / fsum l) = val l[i].1 l[i].2.1 l[i].2.2 / val (sgn (fsum l)) (nu (fsum l)) (de (fsum l)) := by
      rw [val_own (fsum l), Rat.div_def, Rat.div_def, Rat.one_mul]
    rw [e2]
    exact e
  have hnl := normL_length l
  generalize normL l = FL at *
  obtain ⟨g, o, rfl, hg, -⟩ := hf 0 (by omega)
  have HF := hid hf
  clear HCK hk hw hfi hup hlc hf hb0 hz
  have HS := hid hs
  have HV := hid hv
  have hH : NR w ((w.alloc (TC (.slice b vars.length cb) (.slice (some ⟨g, o, none⟩) l.length cc))).alloc (TC (.slice none 0 0) (.slice none 0 0))) w.heap.size (w.heap.size + 1) (.slice b vars.length cb) (.slice (some ⟨g, o, none⟩) l.length cc) := NH.new w _ _
  have c0 := hH.1.c0
  have c1 := hH.1.c1
  go_enter Tryz.func25, Tryz.ntmps25
  go_wp2_with fail
  generalize ((w.alloc (TC (.slice b vars.length cb) (.slice (some ⟨g, o, none⟩) l.length cc))).alloc (TC (.slice none 0 0) (.slice none 0 0))) = W at *
  refine (HC.out _ (HS.out.below hH.2.2) (HV.out.below hH.2.2)).mono ?_
  rintro e w1 ⟨rfl, hb1⟩
  replace hH := hH.step hb1
  clear c0 c1 hb1
  have c1 := hH.1.c1
  go_wp2_with fail
  refine (HSU.out _ (HF.out.below hH.2.2)).mono ?_
  rintro e w2 ⟨rfl, hb2⟩
  replace hH := hH.step hb2
  clear c1 hb2 HSU
  rw [C_eq]
  have h7 := Box.new w2 (sgn (fsum l)) (nu (fsum l)) (de (fsum l))
  have hw7 := hH.2.1.lt
  replace hH := hH.step ((Below.refl _ w2).alloc (Nat.le_refl _) (FC (sgn (fsum l)) (nu (fsum l)) (de (fsum l))))
  have c0 := hH.1.c0
  go_upto_region 5 with fail
  generalize (w2.alloc (FC (sgn (fsum l)) (nu (fsum l)) (de (fsum l)))) = w3 at *
  generalize w2.heap.size = B7 at *
  have hbe : Below w3.heap.size w3 (w3.alloc (.cells #[] 3)) := (Below.refl _ w3).alloc (Nat.le_refl _) _
  have hRe : RwI (w3.alloc (.cells #[] 3)) w3.heap.size (.slice (some ⟨w3.heap.size, 0, none⟩) 0 0) [] := ⟨rfl, .inr ⟨w3.heap.size, 0, #[], rfl, Nat.le_refl _, heap_alloc_new _ _, Nat.le_refl _, Nat.zero_le _, rfl, rfl⟩⟩
  have hHe := hH.step hbe
  have c0' := hHe.1.c0
  have HIv := hid (HV.out.below hHe.2.2)
  have HRE := hid hRe
  have hse : w3.heap.size ≤ (w3.alloc (.cells #[] 3)).heap.size := hbe.size
  clear hRe c0
  go_wp2_with (at_builtin; refine wpList_append_ints rfl _ _ rfl w3.heap.size _ [] vars rfl HRE.out b cb rfl HIv.out HB0.out (by simp; omega) hse ?_; intro v' w4 hr4 hg4; rw [List.nil_append] at hr4; have HR4 := hid hr4; have HB4 := hid (hbe.grown hg4 hse HRE.out.own); obtain ⟨d4, c4, rfl, hi4⟩ := hr4.ints; have HI4 := hid hi4; clear hr4 hg4 hi4)
  replace hH := hH.step HB4.out
  replace h7 := h7.below HB4.out h7.lt
  clear hHe c0' HIv HRE hse HB4 HR4 hbe
  generalize w3.heap.size = n3 at *
  have HX0 := hid (FX.new w4 (.slice d4 vars.length c4))
  generalize (w4.alloc (TC (.slice d4 vars.length c4) (.slice none 0 0))) = w5 at *
  go_loopw [9] (fun iv wr => ∃ (i : Nat) (y : Value), i ≤ l.length ∧ iv = .int .i64 i ∧ Hid (FX w4 wr (.slice d4 vars.length c4) y (FL.take i))) (fun iv _ => l.length - (intOf iv).toNat)
  case atStart => exact ⟨0, _, Nat.zero_le _, rfl, HX0⟩
  case round =>
    obtain ⟨i, y, hile, rfl, HX⟩ := hrel
    clear HX0
    have hHw := hH.step HX.out.1
    have c1 := hHw.1.c1
    by_cases hlt : i < l.length
    · obtain ⟨g', o', e, _, a0, a1, a2⟩ := HF.out i hlt
      cases e
      have HDI := HDV.out i hlt (by omega)
      have HFE : Hid (FL[i]'(by omega) = FL[i]'(by omega)) := rfl
      obtain ⟨q, hq⟩ : ∃ q, FL[i]'(by omega) = q := ⟨_, rfl⟩
      rw [hq] at HDI
      have hst : FL.take i ++ [q] = FL.take (i + 1) := by rw [List.take_succ_eq_append_getElem (by omega), hq]
      have HST := hid hst
      have htl : (FL.take i).length ≤ 8192 := by rw [List.length_take]; omega
      clear hst hq HFE
      obtain ⟨dn, dx, dy⟩ := q
      generalize l[i] = fr at *
      obtain ⟨fn, fx, fy⟩ := fr
      simp only at a0 a1 a2
      have HD := hid HDI
      clear HDI
      obtain ⟨dk, hdk⟩ : ∃ d : Int, 0 = d := ⟨_, rfl⟩
      have HD3 : Hid (∀ V : World, Calls Tryz.prog 81 #[.agg #[.bool fn, .string fx, .string fy], .agg #[.bool (sgn (fsum l)), .string (nu (fsum l)), .string (de (fsum l))]] V fun e w' => e = .returned (.tuple #[.agg #[.bool dn, .string dx, .string dy], .int .i64 dk]) ∧ Below V.heap.size V w') := by rw [← hdk]; exact HD
      clear HD
      have HD := HD3
      clear HD3
      have hdb : (dk == 0) = true := by rw [← hdk]; rfl
      have HDK := hid hdk
      clear hdk
      go_upto_region 9 with fail
      have hHd : Below wr.heap.size wr wr.drew := (Below.refl _ wr).drew
      have held : ∀ u, Below wr.heap.size wr u → u.cell? ⟨w.heap.size, 1, none⟩ = some (.slice (some ⟨g, o, none⟩) l.length cc) ∧ u.cell? ⟨g, o + i * 3, none⟩ = some (.bool fn) ∧ u.cell? ⟨g, o + i * 3 + 1, none⟩ = some (.string fx) ∧ u.cell? ⟨g, o + i * 3 + 2, none⟩ = some (.string fy) ∧ u.cell? ⟨B7, 0, none⟩ = some (.bool (sgn (fsum l))) ∧ u.cell? ⟨B7, 1, none⟩ = some (.string (nu (fsum l))) ∧ u.cell? ⟨B7, 2, none⟩ = some (.string (de (fsum l))) := fun u h => by
        have hX' := HX.out.step h
        have hH' := hH.step hX'.1
        have h7' := h7.below hX'.1 h7.lt
        obtain ⟨z0, z1, z2, -⟩ := h7'.facts
        exact ⟨hH'.1.c1, (hH'.2.2.cell (p := ⟨g, _, none⟩) hg).trans a0, (hH'.2.2.cell (p := ⟨g, _, none⟩) hg).trans a1, (hH'.2.2.cell (p := ⟨g, _, none⟩) hg).trans a2, z0, z1, z2⟩
      have HELD := hid held
      clear held a0 a1 a2 c1
      refine wp_region_held_drew (S := fun u => u.cell? ⟨w.heap.size, 1, none⟩ = some (.slice (some ⟨g, o, none⟩) l.length cc) ∧ u.cell? ⟨g, o + i * 3, none⟩ = some (.bool fn) ∧ u.cell? ⟨g, o + i * 3 + 1, none⟩ = some (.string fx) ∧ u.cell? ⟨g, o + i * 3 + 2, none⟩ = some (.string fy) ∧ u.cell? ⟨B7, 0, none⟩ = some (.bool (sgn (fsum l))) ∧ u.cell? ⟨B7, 1, none⟩ = some (.string (nu (fsum l))) ∧ u.cell? ⟨B7, 2, none⟩ = some (.string (de (fsum l)))) (by kernel_rfl) (HELD.out _ hHd) (fun hSd => ?_)
      generalize wr.drew = u0 at *
      refine wpAnyH_take (i := 0) (oi := _) (v := .pointer (some ⟨w.heap.size, 1, none⟩)) rfl (by kernel_rfl) (by kernel_rfl) (by kernel_rfl) (fun _ _ _ h => h) (Or.inl ⟨by rfl, ?_⟩) (by assumption) ?_
      · intro u' hSu
        (try simp only [List.getElem_toArray, List.getElem_cons_zero])
        go_simp
      (try simp only [List.getElem_toArray, List.getElem_cons_zero])
      (try simp only [Act.put, List.setIfInBounds_toArray, List.set_cons_zero, List.set_cons_succ])
      refine wpAnyH_take (i := 1) (oi := _) (v := .slice (some ⟨g, o, none⟩) l.length cc) rfl (by kernel_rfl) (by kernel_rfl) (by kernel_rfl) (fun _ _ _ h => h) (Or.inl ⟨by rfl, ?_⟩) (by assumption) ?_
      · intro u' hSu
        (try simp only [List.getElem_toArray, List.getElem_cons_zero, List.getElem_cons_succ])
        obtain ⟨s1, s2, s3, s4, s5, s6, s7⟩ := hSu
        go_simp
      (try simp only [List.getElem_toArray, List.getElem_cons_zero, List.getElem_cons_succ])
      (try simp only [Act.put, List.setIfInBounds_toArray, List.set_cons_zero, List.set_cons_succ])
      refine wpAnyH_take (i := 2) (oi := _) (v := .int .i64 (i : Nat)) rfl (by kernel_rfl) (by kernel_rfl) (by kernel_rfl) (fun _ _ _ h => h) (Or.inl ⟨by rfl, ?_⟩) (by assumption) ?_
      · intro u' hSu
        (try simp only [List.getElem_toArray, List.getElem_cons_zero, List.getElem_cons_succ])
        go_simp
      (try simp only [List.getElem_toArray, List.getElem_cons_zero, List.getElem_cons_succ])
      (try simp only [Act.put, List.setIfInBounds_toArray, List.set_cons_zero, List.set_cons_succ])
      refine wpAnyH_take (i := 3) (oi := _) (v := .pointer (some ⟨g, o + i * 3, none⟩)) rfl (by kernel_rfl) (by kernel_rfl) (by kernel_rfl) (fun _ _ _ h => h) (Or.inl ⟨by rfl, ?_⟩) (by assumption) ?_
      · intro u' hSu
        (try simp only [List.getElem_toArray, List.getElem_cons_zero, List.getElem_cons_succ])
        go_simp
      (try simp only [List.getElem_toArray, List.getElem_cons_zero, List.getElem_cons_succ])
      (try simp only [Act.put, List.setIfInBounds_toArray, List.set_cons_zero, List.set_cons_succ])
      refine wpAnyH_take (i := 4) (oi := _) (v := .agg #[.bool fn, .string fx, .string fy]) rfl (by kernel_rfl) (by kernel_rfl) (by kernel_rfl) (fun _ _ _ h => h) (Or.inl ⟨by rfl, ?_⟩) (by assumption) ?_
      · intro u' hSu
        (try simp only [List.getElem_toArray, List.getElem_cons_zero, List.getElem_cons_succ])
        obtain ⟨s1, s2, s3, s4, s5, s6, s7⟩ := hSu
        go_simp
      (try simp only [List.getElem_toArray, List.getElem_cons_zero, List.getElem_cons_succ])
      (try simp only [Act.put, List.setIfInBounds_toArray, List.set_cons_zero, List.set_cons_succ])
      refine wpAnyH_take (i := 5) (oi := _) (v := .agg #[.bool (sgn (fsum l)), .string (nu (fsum l)), .string (de (fsum l))]) rfl (by kernel_rfl) (by kernel_rfl) (by kernel_rfl) (fun _ _ _ h => h) (Or.inl ⟨by rfl, ?_⟩) (by assumption) ?_
      · intro u' hSu
        (try simp only [List.getElem_toArray, List.getElem_cons_zero, List.getElem_cons_succ])
        obtain ⟨s1, s2, s3, s4, s5, s6, s7⟩ := hSu
        go_simp
      (try simp only [List.getElem_toArray, List.getElem_cons_zero, List.getElem_cons_succ])
      (try simp only [Act.put, List.setIfInBounds_toArray, List.set_cons_zero, List.set_cons_succ])
      refine wpAnyH_ready (rs := [6, 10]) (by kernel_rfl) (by simp) (AllReadyH.cons rfl ?_ (AllReadyH.cons rfl ?_ (AllReadyH.nil)))
      · intro K' hK'
        (try simp only [List.getElem_toArray, List.getElem_cons_zero, List.getElem_cons_succ])
        go_simp
        refine (HD.out _).mono ?_
        rintro e u1 ⟨rfl, hb⟩
        replace hHd := hHd.trans (hb.mono hHd.size)
        refine hK'.out _ _ (HELD.out _ hHd) (fun hSe => ?_)
        clear hK' K' hSd
        have hSd := hSe
        clear hSe hb
        (try simp only [List.getElem_toArray, List.getElem_cons_zero, List.getElem_cons_succ])
        (try simp only [Act.put, List.setIfInBounds_toArray, List.set_cons_zero, List.set_cons_succ])
        refine wpAnyH_take (i := 7) (oi := _) (v := .tuple #[.agg #[.bool dn, .string dx, .string dy], .int .i64 dk]) rfl (by kernel_rfl) (by kernel_rfl) (by kernel_rfl) (fun _ _ _ h => h) (Or.inl ⟨by rfl, ?_⟩) (by assumption) ?_
        · intro u' hSu
          (try simp only [List.getElem_toArray, List.getElem_cons_zero, List.getElem_cons_succ])
          go_simp
        (try simp only [List.getElem_toArray, List.getElem_cons_zero, List.getElem_cons_succ])
        (try simp only [Act.put, List.setIfInBounds_toArray, List.set_cons_zero, List.set_cons_succ])
        refine wpAnyH_take (i := 8) (oi := _) (v := .agg #[.bool dn, .string dx, .string dy]) rfl (by kernel_rfl) (by kernel_rfl) (by kernel_rfl) (fun _ _ _ h => h) (Or.inl ⟨by rfl, ?_⟩) (by assumption) ?_
        · intro u' hSu
          (try simp only [List.getElem_toArray, List.getElem_cons_zero, List.getElem_cons_succ])
          go_simp
        (try simp only [List.getElem_toArray, List.getElem_cons_zero, List.getElem_cons_succ])
        (try simp only [Act.put, List.setIfInBounds_toArray, List.set_cons_zero, List.set_cons_succ])
        refine wpAnyH_take (i := 9) (oi := _) (v := .int .i64 dk) rfl (by kernel_rfl) (by kernel_rfl) (by kernel_rfl) (fun _ _ _ h => h) (Or.inl ⟨by rfl, ?_⟩) (by assumption) ?_
        · intro u' hSu
          (try simp only [List.getElem_toArray, List.getElem_cons_zero, List.getElem_cons_succ])
          go_simp
        (try simp only [List.getElem_toArray, List.getElem_cons_zero, List.getElem_cons_succ])
        (try simp only [Act.put, List.setIfInBounds_toArray, List.set_cons_zero, List.set_cons_succ])
        refine wpAnyH_ready (rs := [10]) (by kernel_rfl) (by simp) (AllReadyH.cons rfl ?_ (AllReadyH.nil))
        · intro K' hK'
          (try simp only [List.getElem_toArray, List.getElem_cons_zero, List.getElem_cons_succ])
          go_simp
          have hb : Below u1.heap.size u1 (u1.alloc (FC false ⟨#[]⟩ ⟨#[]⟩)) := (Below.refl _ u1).alloc (Nat.le_refl _) _
          have h10 : Box (u1.alloc (FC false ⟨#[]⟩ ⟨#[]⟩)) u1.heap.size false ⟨#[]⟩ ⟨#[]⟩ := Box.new u1 _ _ _
          have l10 := hHd.size
          replace hHd := hHd.trans (hb.mono hHd.size)
          refine hK'.out _ _ (HELD.out _ hHd) (fun hSe => ?_)
          clear hK' K' hSd
          have hSd := hSe
          clear hSe hb
          generalize (u1.alloc (FC false ⟨#[]⟩ ⟨#[]⟩)) = u2 at *
          generalize u1.heap.size = B10 at *
          (try simp only [List.getElem_toArray, List.getElem_cons_zero, List.getElem_cons_succ])
          (try simp only [Act.put, List.setIfInBounds_toArray, List.set_cons_zero, List.set_cons_succ])
          obtain ⟨k0, k1, k2, f0, f1, f2⟩ := h10.facts
          refine wpAnyH_ready (rs := [11]) (by kernel_rfl) (by simp) (AllReadyH.cons rfl ?_ (AllReadyH.nil))
          · intro K' hK'
            (try simp only [List.getElem_toArray, List.getElem_cons_zero, List.getElem_cons_succ])
            go_simp
            have h11 := h10.put dn dx dy
            replace hHd := below_put hHd l10 (.bool dn) (.string dx) (.string dy)
            clear k0 k1 k2 f0 f1 f2 h10
            generalize (((u2.setCell ⟨B10, 0, none⟩ (.bool dn)).setCell ⟨B10, 1, none⟩ (.string dx)).setCell ⟨B10, 2, none⟩ (.string dy)) = v9 at *
            refine hK'.out _ _ (HELD.out _ hHd) (fun hSe => ?_)
            clear hK' K' hSd
            have hSd := hSe
            clear hSe
            (try simp only [List.getElem_toArray, List.getElem_cons_zero, List.getElem_cons_succ])
            (try simp only [Act.put, List.setIfInBounds_toArray, List.set_cons_zero, List.set_cons_succ])
            refine wpAnyH_take (i := 12) (oi := _) (v := .int .i64 dk) rfl (by kernel_rfl) (by kernel_rfl) (by kernel_rfl) (fun _ _ _ h => h) (Or.inl ⟨by rfl, ?_⟩) (by assumption) ?_
            · intro u' hSu
              (try simp only [List.getElem_toArray, List.getElem_cons_zero, List.getElem_cons_succ])
              go_simp
            (try simp only [List.getElem_toArray, List.getElem_cons_zero, List.getElem_cons_succ])
            (try simp only [Act.put, List.setIfInBounds_toArray, List.set_cons_zero, List.set_cons_succ])
            refine wpAnyH_done (by kernel_rfl) ?_ _
            have hd0 : dk = 0 := HDK.out.symm
            subst hd0
            have cy := (HX.out.step hHd).2.1.c1
            obtain ⟨p0, p1, p2, -⟩ := h11.facts
            have hb12 := hHd.alloc hHd.size (FC dn dx dy)
            have HNB := hid (Box.new v9 dn dx dy)
            have HX12 := hid (HX.out.step hb12)
            have hbs : w4.heap.size + 1 ≤ (v9.alloc (FC dn dx dy)).heap.size := HX12.out.2.1.lt
            clear hHd hb12 h11 hSd hHw
            go_wp2_with (at_builtin; refine wpList_append_fr rfl _ _ rfl (w4.heap.size + 1) _ (FL.take i) (dn, dx, dy) rfl HX12.out.2.2 _ rfl HNB.out (by omega) hbs ?_; intro v' w13 hr13 hg13; obtain ⟨d13, n13, cd13, rfl⟩ := hr13.slv; have hmid := HX12.out.mid hg13; have hm1 := hmid.c1; have hmf : w13.frozen? ⟨w4.heap.size, 1, none⟩ = false := frozen_of_row _ _ 1 _ _ hmid; have HPU := hid (HX12.out.push hr13 hg13); clear hmid hr13 hg13)
            go_roundw
            case rel => exact ⟨i + 1, _, by omega, by go_num, by rw [← HST.out]; exact HPU⟩
            case measure => simp [intOf]; omega
      · intro K' hK'
        (try simp only [List.getElem_toArray, List.getElem_cons_zero, List.getElem_cons_succ])
        go_simp
        have hb : Below u0.heap.size u0 (u0.alloc (FC false ⟨#[]⟩ ⟨#[]⟩)) := (Below.refl _ u0).alloc (Nat.le_refl _) _
        have h10 : Box (u0.alloc (FC false ⟨#[]⟩ ⟨#[]⟩)) u0.heap.size false ⟨#[]⟩ ⟨#[]⟩ := Box.new u0 _ _ _
        have l10 := hHd.size
        replace hHd := hHd.trans (hb.mono hHd.size)
        refine hK'.out _ _ (HELD.out _ hHd) (fun hSe => ?_)
        clear hK' K' hSd
        have hSd := hSe
        clear hSe hb
        generalize (u0.alloc (FC false ⟨#[]⟩ ⟨#[]⟩)) = u1 at *
        generalize u0.heap.size = B10 at *
        (try simp only [List.getElem_toArray, List.getElem_cons_zero, List.getElem_cons_succ])
        (try simp only [Act.put, List.setIfInBounds_toArray, List.set_cons_zero, List.set_cons_succ])
        refine wpAnyH_ready (rs := [6]) (by kernel_rfl) (by simp) (AllReadyH.cons rfl ?_ (AllReadyH.nil))
        · intro K' hK'
          (try simp only [List.getElem_toArray, List.getElem_cons_zero, List.getElem_cons_succ])
          go_simp
          refine (HD.out _).mono ?_
          rintro e u2 ⟨rfl, hb⟩
          replace hHd := hHd.trans (hb.mono hHd.size)
          replace h10 := h10.below hb h10.lt
          refine hK'.out _ _ (HELD.out _ hHd) (fun hSe => ?_)
          clear hK' K' hSd
          have hSd := hSe
          clear hSe hb
          (try simp only [List.getElem_toArray, List.getElem_cons_zero, List.getElem_cons_succ])
          (try simp only [Act.put, List.setIfInBounds_toArray, List.set_cons_zero, List.set_cons_succ])
          refine wpAnyH_take (i := 7) (oi := _) (v := .tuple #[.agg #[.bool dn, .string dx, .string dy], .int .i64 dk]) rfl (by kernel_rfl) (by kernel_rfl) (by kernel_rfl) (fun _ _ _ h => h) (Or.inl ⟨by rfl, ?_⟩) (by assumption) ?_
          · intro u' hSu
            (try simp only [List.getElem_toArray, List.getElem_cons_zero, List.getElem_cons_succ])
            go_simp
          (try simp only [List.getElem_toArray, List.getElem_cons_zero, List.getElem_cons_succ])
          (try simp only [Act.put, List.setIfInBounds_toArray, List.set_cons_zero, List.set_cons_succ])
          refine wpAnyH_take (i := 8) (oi := _) (v := .agg #[.bool dn, .string dx, .string dy]) rfl (by kernel_rfl) (by kernel_rfl) (by kernel_rfl) (fun _ _ _ h => h) (Or.inl ⟨by rfl, ?_⟩) (by assumption) ?_
          · intro u' hSu
            (try simp only [List.getElem_toArray, List.getElem_cons_zero, List.getElem_cons_succ])
            go_simp
          (try simp only [List.getElem_toArray, List.getElem_cons_zero, List.getElem_cons_succ])
          (try simp only [Act.put, List.setIfInBounds_toArray, List.set_cons_zero, List.set_cons_succ])
          refine wpAnyH_take (i := 9) (oi := _) (v := .int .i64 dk) rfl (by kernel_rfl) (by kernel_rfl) (by kernel_rfl) (fun _ _ _ h => h) (Or.inl ⟨by rfl, ?_⟩) (by assumption) ?_
          · intro u' hSu
            (try simp only [List.getElem_toArray, List.getElem_cons_zero, List.getElem_cons_succ])
            go_simp
          (try simp only [List.getElem_toArray, List.getElem_cons_zero, List.getElem_cons_succ])
          (try simp only [Act.put, List.setIfInBounds_toArray, List.set_cons_zero, List.set_cons_succ])
          obtain ⟨k0, k1, k2, f0, f1, f2⟩ := h10.facts
          refine wpAnyH_ready (rs := [11]) (by kernel_rfl) (by simp) (AllReadyH.cons rfl ?_ (AllReadyH.nil))
          · intro K' hK'
            (try simp only [List.getElem_toArray, List.getElem_cons_zero, List.getElem_cons_succ])
            go_simp
            have h11 := h10.put dn dx dy
            replace hHd := below_put hHd l10 (.bool dn) (.string dx) (.string dy)
            clear k0 k1 k2 f0 f1 f2 h10
            generalize (((u2.setCell ⟨B10, 0, none⟩ (.bool dn)).setCell ⟨B10, 1, none⟩ (.string dx)).setCell ⟨B10, 2, none⟩ (.string dy)) = v9 at *
            refine hK'.out _ _ (HELD.out _ hHd) (fun hSe => ?_)
            clear hK' K' hSd
            have hSd := hSe
            clear hSe
            (try simp only [List.getElem_toArray, List.getElem_cons_zero, List.getElem_cons_succ])
            (try simp only [Act.put, List.setIfInBounds_toArray, List.set_cons_zero, List.set_cons_succ])
            refine wpAnyH_take (i := 12) (oi := _) (v := .int .i64 dk) rfl (by kernel_rfl) (by kernel_rfl) (by kernel_rfl) (fun _ _ _ h => h) (Or.inl ⟨by rfl, ?_⟩) (by assumption) ?_
            · intro u' hSu
              (try simp only [List.getElem_toArray, List.getElem_cons_zero, List.getElem_cons_succ])
              go_simp
            (try simp only [List.getElem_toArray, List.getElem_cons_zero, List.getElem_cons_succ])
            (try simp only [Act.put, List.setIfInBounds_toArray, List.set_cons_zero, List.set_cons_succ])
            refine wpAnyH_done (by kernel_rfl) ?_ _
            have hd0 : dk = 0 := HDK.out.symm
            subst hd0
            have cy := (HX.out.step hHd).2.1.c1
            obtain ⟨p0, p1, p2, -⟩ := h11.facts
            have hb12 := hHd.alloc hHd.size (FC dn dx dy)
            have HNB := hid (Box.new v9 dn dx dy)
            have HX12 := hid (HX.out.step hb12)
            have hbs : w4.heap.size + 1 ≤ (v9.alloc (FC dn dx dy)).heap.size := HX12.out.2.1.lt
            clear hHd hb12 h11 hSd hHw
            go_wp2_with (at_builtin; refine wpList_append_fr rfl _ _ rfl (w4.heap.size + 1) _ (FL.take i) (dn, dx, dy) rfl HX12.out.2.2 _ rfl HNB.out (by omega) hbs ?_; intro v' w13 hr13 hg13; obtain ⟨d13, n13, cd13, rfl⟩ := hr13.slv; have hmid := HX12.out.mid hg13; have hm1 := hmid.c1; have hmf : w13.frozen? ⟨w4.heap.size, 1, none⟩ = false := frozen_of_row _ _ 1 _ _ hmid; have HPU := hid (HX12.out.push hr13 hg13); clear hmid hr13 hg13)
            go_roundw
            case rel => exact ⟨i + 1, _, by omega, by go_num, by rw [← HST.out]; exact HPU⟩
            case measure => simp [intOf]; omega
    · obtain rfl : i = l.length := by omega
      have hX := HX.out
      rw [← hnl, List.take_length] at hX
      obtain ⟨dy, ny, cy, rfl⟩ := hX.2.2.slv
      obtain ⟨t0, e1, e2, e3⟩ := hH.finW (by omega) HI4.out hX rfl
      obtain ⟨k0, k1, f0, f1⟩ := t0.facts
      have c0 := hX.2.1.c0
      have c2 := hX.2.1.c1
      go_wp2
      refine bodyPost_ret (e1.result2 rfl _ rfl) rfl ?_
      exact ⟨e2, e3⟩
end Go.Proofs.YtknlhejhnopnaaaGreatDoor
