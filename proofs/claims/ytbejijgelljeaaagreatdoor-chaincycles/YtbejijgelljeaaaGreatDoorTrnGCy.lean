/- The law's evened. -/
import Derived.Test.YtbejijgelljeaaaGreatDoorChnLCyStlG
import Derived.Test.YtbejijgelljeaaaGreatDoorHidACyMadB
namespace Go.Proofs.YtbejijgelljeaaaGreatDoor
open Go.RowKit Go.Shelf
set_option maxRecDepth 100000 in
set_option maxHeartbeats 4000000 in
theorem evened_any (a : Option Addr) (ca n : Nat) (P : Nat → Nat → Rat) (w : World) (hR : FsS w a (mR n P)) (hm : ChM n P) (h4 : n ≤ 4) :
    Calls Tryz.prog 26 #[.slice a n ca] w fun e w' => ∃ d c, e = .returned (.slice d n c) ∧ FsS w' d (mR n (evQ n P)) ∧ Below w.heap.size w w' := by
  have h1 := hm.one
  have HCM := hid hm
  have HR := hid hR
  clear hR hm
  go_enter Tryz.func26, Tryz.ntmps26
  go_wp2_with fail
  go_loopw [3, 4] (fun yv iv wr => ∃ (i : Nat) (P1 : List PR), i ≤ n ∧ iv = .int .i64 i ∧ Hid (OwR wr w.heap.size yv P1) ∧ Hid (P1.map (·.2) = (List.range i).map fun t => lF n (evQ n P t)) ∧ Hid (Below w.heap.size w wr)) (fun _ iv _ => n - (intOf iv).toNat)
  case atStart => exact ⟨0, [], Nat.zero_le _, rfl, OwR.nil _ _, rfl, Below.refl _ _⟩
  case round =>
    obtain ⟨i, P1, hi, rfl, HK, HP, HB⟩ := hrel
    by_cases hlt : i < n
    · obtain ⟨W0, hW0⟩ : ∃ x, x = wr := ⟨_, rfl⟩
      subst hW0
      have HRF := hid (HR.out.below HB.out)
      have HE0 : Hid (RwF W0 W0.heap.size (.slice none 0 0) (lF 0 (evW P i))) := ⟨rfl, .inl ⟨rfl, rfl⟩⟩
      go_wp2_with fail
      go_loopw [5, 6] (fun lv kv wr => ∃ k : Nat, k ≤ n ∧ kv = .int .i64 k ∧ Hid (RwF wr W0.heap.size lv (lF k (evW P i))) ∧ Hid (Below W0.heap.size W0 wr)) (fun _ kv _ => n - (intOf kv).toNat)
      case atStart => exact ⟨0, Nat.zero_le _, rfl, HE0, Below.refl _ _⟩
      case round =>
        clear HE0
        obtain ⟨k, hk, rfl, HRW, HB0⟩ := hrel
        by_cases hkn : k < n
        · obtain ⟨g, o, gi, oi, ci, hae, hg, hgi, x0, x1, x2, x3⟩ := HRF.out.at hlt hkn
          subst hae
          obtain ⟨g', o', gj, oj, cj, hae, hg', hgj, y0, y1, y2, y3⟩ := HRF.out.at hkn hlt
          cases hae
          have HAD := hid (fun U : World => rAddQ (P i k) (P k i) U (by have := fits_qw (HCM.out.fit i k hlt hkn); omega) (by have := fits_qw (HCM.out.fit k i hkn hlt); omega))
          have HSN : Hid (lF (k + 1) (evW P i) = lF k (evW P i) ++ [qF (P i k + P k i)]) := lF_snoc k _
          generalize qF (P i k + P k i) = m1 at *
          obtain ⟨en, ex, ey⟩ := m1
          generalize qF (P i k) = k2 at *
          generalize qF (P k i) = k4 at *
          obtain ⟨bn, bx, by_⟩ := k2
          obtain ⟨dn, dx, dy⟩ := k4
          simp only at x1 x2 x3 y1 y2 y3 HAD
          obtain ⟨dv, nv, cv, hlv⟩ := HRW.out.slv
          subst hlv
          go_upto_region 9 with fail
          have HELD : Hid (∀ u, Below W0.heap.size W0 u → u.cell? ⟨g, o + i, none⟩ = some (.slice (some ⟨gi, oi, none⟩) n ci) ∧ u.cell? ⟨gi, oi + k * 3, none⟩ = some (.bool bn) ∧ u.cell? ⟨gi, oi + k * 3 + 1, none⟩ = some (.string bx) ∧ u.cell? ⟨gi, oi + k * 3 + 2, none⟩ = some (.string by_) ∧ u.cell? ⟨g, o + k, none⟩ = some (.slice (some ⟨gj, oj, none⟩) n cj) ∧ u.cell? ⟨gj, oj + i * 3, none⟩ = some (.bool dn) ∧ u.cell? ⟨gj, oj + i * 3 + 1, none⟩ = some (.string dx) ∧ u.cell? ⟨gj, oj + i * 3 + 2, none⟩ = some (.string dy)) := fun u h => ⟨(h.cell (p := ⟨g, _, none⟩) hg).trans x0, (h.cell (p := ⟨gi, _, none⟩) hgi).trans x1, (h.cell (p := ⟨gi, _, none⟩) hgi).trans x2, (h.cell (p := ⟨gi, _, none⟩) hgi).trans x3, (h.cell (p := ⟨g, _, none⟩) hg).trans y0, (h.cell (p := ⟨gj, _, none⟩) hgj).trans y1, (h.cell (p := ⟨gj, _, none⟩) hgj).trans y2, (h.cell (p := ⟨gj, _, none⟩) hgj).trans y3⟩
          have HU : Hid (Below W0.heap.size W0 wr.drew) := HB0.out.drew
          replace HRW := hid (HRW.out.below (Below.refl _ _).drew)
          clear x0 x1 x2 x3 y0 y1 y2 y3
          refine wp_region_held_drew (S := fun u => u.cell? ⟨g, o + i, none⟩ = some (.slice (some ⟨gi, oi, none⟩) n ci) ∧ u.cell? ⟨gi, oi + k * 3, none⟩ = some (.bool bn) ∧ u.cell? ⟨gi, oi + k * 3 + 1, none⟩ = some (.string bx) ∧ u.cell? ⟨gi, oi + k * 3 + 2, none⟩ = some (.string by_) ∧ u.cell? ⟨g, o + k, none⟩ = some (.slice (some ⟨gj, oj, none⟩) n cj) ∧ u.cell? ⟨gj, oj + i * 3, none⟩ = some (.bool dn) ∧ u.cell? ⟨gj, oj + i * 3 + 1, none⟩ = some (.string dx) ∧ u.cell? ⟨gj, oj + i * 3 + 2, none⟩ = some (.string dy)) (by kernel_rfl) (HELD.out _ HU.out) (fun hSd => ?_)
          generalize wr.drew = u0 at *
          refine wpAnyH_take (i := 0) (oi := _) (v := .slice dv nv cv) rfl (by kernel_rfl) (by kernel_rfl) (by kernel_rfl) (fun _ _ _ h => h) (Or.inl ⟨by rfl, ?_⟩) (by assumption) ?_
          · intro u' hSu
            (try simp only [List.getElem_toArray, List.getElem_cons_zero])
            go_simp
          (try simp only [List.getElem_toArray, List.getElem_cons_zero])
          (try simp only [Act.put, List.setIfInBounds_toArray, List.set_cons_zero, List.set_cons_succ])
          refine wpAnyH_take (i := 1) (oi := _) (v := .slice (some ⟨g, o, none⟩) n ca) rfl (by kernel_rfl) (by kernel_rfl) (by kernel_rfl) (fun _ _ _ h => h) (Or.inl ⟨by rfl, ?_⟩) (by assumption) ?_
          · intro u' hSu
            (try simp only [List.getElem_toArray, List.getElem_cons_zero, List.getElem_cons_succ])
            go_simp
          (try simp only [List.getElem_toArray, List.getElem_cons_zero, List.getElem_cons_succ])
          (try simp only [Act.put, List.setIfInBounds_toArray, List.set_cons_zero, List.set_cons_succ])
          refine wpAnyH_take (i := 2) (oi := _) (v := .int .i64 (i : Nat)) rfl (by kernel_rfl) (by kernel_rfl) (by kernel_rfl) (fun _ _ _ h => h) (Or.inl ⟨by rfl, ?_⟩) (by assumption) ?_
          · intro u' hSu
            (try simp only [List.getElem_toArray, List.getElem_cons_zero, List.getElem_cons_succ])
            go_simp
          (try simp only [List.getElem_toArray, List.getElem_cons_zero, List.getElem_cons_succ])
          (try simp only [Act.put, List.setIfInBounds_toArray, List.set_cons_zero, List.set_cons_succ])
          refine wpAnyH_take (i := 3) (oi := _) (v := .pointer (some ⟨g, o + i, none⟩)) rfl (by kernel_rfl) (by kernel_rfl) (by kernel_rfl) (fun _ _ _ h => h) (Or.inl ⟨by rfl, ?_⟩) (by assumption) ?_
          · intro u' hSu
            (try simp only [List.getElem_toArray, List.getElem_cons_zero, List.getElem_cons_succ])
            go_simp
          (try simp only [List.getElem_toArray, List.getElem_cons_zero, List.getElem_cons_succ])
          (try simp only [Act.put, List.setIfInBounds_toArray, List.set_cons_zero, List.set_cons_succ])
          refine wpAnyH_take (i := 4) (oi := _) (v := .slice (some ⟨gi, oi, none⟩) n ci) rfl (by kernel_rfl) (by kernel_rfl) (by kernel_rfl) (fun _ _ _ h => h) (Or.inl ⟨by rfl, ?_⟩) (by assumption) ?_
          · intro u' hSu
            (try simp only [List.getElem_toArray, List.getElem_cons_zero, List.getElem_cons_succ])
            obtain ⟨s0, s1, s2, s3, s4, s5, s6, s7⟩ := hSu
            go_simp
          (try simp only [List.getElem_toArray, List.getElem_cons_zero, List.getElem_cons_succ])
          (try simp only [Act.put, List.setIfInBounds_toArray, List.set_cons_zero, List.set_cons_succ])
          refine wpAnyH_take (i := 5) (oi := _) (v := .int .i64 (k : Nat)) rfl (by kernel_rfl) (by kernel_rfl) (by kernel_rfl) (fun _ _ _ h => h) (Or.inl ⟨by rfl, ?_⟩) (by assumption) ?_
          · intro u' hSu
            (try simp only [List.getElem_toArray, List.getElem_cons_zero, List.getElem_cons_succ])
            go_simp
          (try simp only [List.getElem_toArray, List.getElem_cons_zero, List.getElem_cons_succ])
          (try simp only [Act.put, List.setIfInBounds_toArray, List.set_cons_zero, List.set_cons_succ])
          refine wpAnyH_take (i := 6) (oi := _) (v := .pointer (some ⟨gi, oi + k * 3, none⟩)) rfl (by kernel_rfl) (by kernel_rfl) (by kernel_rfl) (fun _ _ _ h => h) (Or.inl ⟨by rfl, ?_⟩) (by assumption) ?_
          · intro u' hSu
            (try simp only [List.getElem_toArray, List.getElem_cons_zero, List.getElem_cons_succ])
            go_simp
          (try simp only [List.getElem_toArray, List.getElem_cons_zero, List.getElem_cons_succ])
          (try simp only [Act.put, List.setIfInBounds_toArray, List.set_cons_zero, List.set_cons_succ])
          refine wpAnyH_take (i := 7) (oi := _) (v := .agg #[.bool bn, .string bx, .string by_]) rfl (by kernel_rfl) (by kernel_rfl) (by kernel_rfl) (fun _ _ _ h => h) (Or.inl ⟨by rfl, ?_⟩) (by assumption) ?_
          · intro u' hSu
            (try simp only [List.getElem_toArray, List.getElem_cons_zero, List.getElem_cons_succ])
            obtain ⟨s0, s1, s2, s3, s4, s5, s6, s7⟩ := hSu
            go_simp
          (try simp only [List.getElem_toArray, List.getElem_cons_zero, List.getElem_cons_succ])
          (try simp only [Act.put, List.setIfInBounds_toArray, List.set_cons_zero, List.set_cons_succ])
          refine wpAnyH_take (i := 8) (oi := _) (v := .slice (some ⟨g, o, none⟩) n ca) rfl (by kernel_rfl) (by kernel_rfl) (by kernel_rfl) (fun _ _ _ h => h) (Or.inl ⟨by rfl, ?_⟩) (by assumption) ?_
          · intro u' hSu
            (try simp only [List.getElem_toArray, List.getElem_cons_zero, List.getElem_cons_succ])
            go_simp
          (try simp only [List.getElem_toArray, List.getElem_cons_zero, List.getElem_cons_succ])
          (try simp only [Act.put, List.setIfInBounds_toArray, List.set_cons_zero, List.set_cons_succ])
          refine wpAnyH_take (i := 9) (oi := _) (v := .int .i64 (k : Nat)) rfl (by kernel_rfl) (by kernel_rfl) (by kernel_rfl) (fun _ _ _ h => h) (Or.inl ⟨by rfl, ?_⟩) (by assumption) ?_
          · intro u' hSu
            (try simp only [List.getElem_toArray, List.getElem_cons_zero, List.getElem_cons_succ])
            go_simp
          (try simp only [List.getElem_toArray, List.getElem_cons_zero, List.getElem_cons_succ])
          (try simp only [Act.put, List.setIfInBounds_toArray, List.set_cons_zero, List.set_cons_succ])
          refine wpAnyH_take (i := 10) (oi := _) (v := .pointer (some ⟨g, o + k, none⟩)) rfl (by kernel_rfl) (by kernel_rfl) (by kernel_rfl) (fun _ _ _ h => h) (Or.inl ⟨by rfl, ?_⟩) (by assumption) ?_
          · intro u' hSu
            (try simp only [List.getElem_toArray, List.getElem_cons_zero, List.getElem_cons_succ])
            go_simp
          (try simp only [List.getElem_toArray, List.getElem_cons_zero, List.getElem_cons_succ])
          (try simp only [Act.put, List.setIfInBounds_toArray, List.set_cons_zero, List.set_cons_succ])
          refine wpAnyH_take (i := 11) (oi := _) (v := .slice (some ⟨gj, oj, none⟩) n cj) rfl (by kernel_rfl) (by kernel_rfl) (by kernel_rfl) (fun _ _ _ h => h) (Or.inl ⟨by rfl, ?_⟩) (by assumption) ?_
          · intro u' hSu
            (try simp only [List.getElem_toArray, List.getElem_cons_zero, List.getElem_cons_succ])
            obtain ⟨s0, s1, s2, s3, s4, s5, s6, s7⟩ := hSu
            go_simp
          (try simp only [List.getElem_toArray, List.getElem_cons_zero, List.getElem_cons_succ])
          (try simp only [Act.put, List.setIfInBounds_toArray, List.set_cons_zero, List.set_cons_succ])
          refine wpAnyH_take (i := 12) (oi := _) (v := .int .i64 (i : Nat)) rfl (by kernel_rfl) (by kernel_rfl) (by kernel_rfl) (fun _ _ _ h => h) (Or.inl ⟨by rfl, ?_⟩) (by assumption) ?_
          · intro u' hSu
            (try simp only [List.getElem_toArray, List.getElem_cons_zero, List.getElem_cons_succ])
            go_simp
          (try simp only [List.getElem_toArray, List.getElem_cons_zero, List.getElem_cons_succ])
          (try simp only [Act.put, List.setIfInBounds_toArray, List.set_cons_zero, List.set_cons_succ])
          refine wpAnyH_take (i := 13) (oi := _) (v := .pointer (some ⟨gj, oj + i * 3, none⟩)) rfl (by kernel_rfl) (by kernel_rfl) (by kernel_rfl) (fun _ _ _ h => h) (Or.inl ⟨by rfl, ?_⟩) (by assumption) ?_
          · intro u' hSu
            (try simp only [List.getElem_toArray, List.getElem_cons_zero, List.getElem_cons_succ])
            go_simp
          (try simp only [List.getElem_toArray, List.getElem_cons_zero, List.getElem_cons_succ])
          (try simp only [Act.put, List.setIfInBounds_toArray, List.set_cons_zero, List.set_cons_succ])
          refine wpAnyH_take (i := 14) (oi := _) (v := .agg #[.bool dn, .string dx, .string dy]) rfl (by kernel_rfl) (by kernel_rfl) (by kernel_rfl) (fun _ _ _ h => h) (Or.inl ⟨by rfl, ?_⟩) (by assumption) ?_
          · intro u' hSu
            (try simp only [List.getElem_toArray, List.getElem_cons_zero, List.getElem_cons_succ])
            obtain ⟨s0, s1, s2, s3, s4, s5, s6, s7⟩ := hSu
            go_simp
          (try simp only [List.getElem_toArray, List.getElem_cons_zero, List.getElem_cons_succ])
          (try simp only [Act.put, List.setIfInBounds_toArray, List.set_cons_zero, List.set_cons_succ])
          refine wpAnyH_ready (rs := [15]) (by kernel_rfl) (by simp) (AllReadyH.cons rfl ?_ (AllReadyH.nil))
          · intro K' hK'
            (try simp only [List.getElem_toArray, List.getElem_cons_zero, List.getElem_cons_succ])
            go_simp
            refine (HAD.out _).mono ?_
            rintro e u1 ⟨rfl, hb⟩
            replace HRW := hid (HRW.out.below hb)
            replace HU := hid (HU.out.trans (hb.mono HU.out.size))
            clear hb
            refine hK'.out _ _ (HELD.out _ HU.out) (fun hSe => ?_)
            clear hK' K' hSd
            have hSd := hSe
            clear hSe
            (try simp only [List.getElem_toArray, List.getElem_cons_zero, List.getElem_cons_succ])
            (try simp only [Act.put, List.setIfInBounds_toArray, List.set_cons_zero, List.set_cons_succ])
            refine wpAnyH_ready (rs := [16]) (by kernel_rfl) (by simp) (AllReadyH.cons rfl ?_ (AllReadyH.nil))
            · intro K' hK'
              (try simp only [List.getElem_toArray, List.getElem_cons_zero, List.getElem_cons_succ])
              go_simp
              have hbA := (Below.refl u1.heap.size u1).alloc (Nat.le_refl _) (FC en ex ey)
              have HY := hid (Box.new u1 en ex ey)
              replace HRW := hid (HRW.out.below hbA)
              replace HU := hid (HU.out.trans (hbA.mono HU.out.size))
              clear hbA
              refine hK'.out _ _ (HELD.out _ HU.out) (fun hSe => ?_)
              clear hK' K' hSd
              have hSd := hSe
              clear hSe
              obtain ⟨gy, hgy⟩ : ∃ x, u1.heap.size = x := ⟨_, rfl⟩
              obtain ⟨Vy, hV⟩ : ∃ x, u1.alloc (FC en ex ey) = x := ⟨_, rfl⟩
              rw [hgy] at HY
              rw [hV] at HY HRW HU hSd
              simp only [hV]
              simp only [hgy]
              clear hgy hV
              (try simp only [List.getElem_toArray, List.getElem_cons_zero, List.getElem_cons_succ])
              (try simp only [Act.put, List.setIfInBounds_toArray, List.set_cons_zero, List.set_cons_succ])
              refine wpAnyH_ready (rs := [17]) (by kernel_rfl) (by simp) (AllReadyH.cons rfl ?_ (AllReadyH.nil))
              · intro K' hK'
                rw [if_pos (by rfl)]
                refine wp_append_fr _ _ rfl W0.heap.size (.slice dv nv cv) (lF k (evW P i)) (en, ex, ey) rfl HRW.out gy rfl HY.out (by rw [lF_length]; omega) HU.out.size ?_
                intro v2 V8 hr8 hg8
                have HBN := hid (HU.out.grown hg8 HU.out.size (fun t et => HRW.out.own t et))
                have HRN : Hid (RwF V8 W0.heap.size v2 (lF (k + 1) (evW P i))) := by rw [HSN.out]; exact hr8
                refine hK'.out _ _ (HELD.out _ HBN.out) (fun hSe => ?_)
                clear hK' K' hSd hr8 hg8 HRW HY
                have hSd := hSe
                clear hSe
                (try simp only [List.getElem_toArray, List.getElem_cons_zero, List.getElem_cons_succ])
                (try simp only [Act.put, List.setIfInBounds_toArray, List.set_cons_zero, List.set_cons_succ])
                refine wpAnyH_take (i := 18) (oi := _) (v := v2) rfl (by kernel_rfl) (by kernel_rfl) (by kernel_rfl) (fun _ _ _ h => h) (Or.inl ⟨by rfl, ?_⟩) (by assumption) ?_
                · intro u' hSu
                  (try simp only [List.getElem_toArray, List.getElem_cons_zero, List.getElem_cons_succ])
                  go_simp
                (try simp only [List.getElem_toArray, List.getElem_cons_zero, List.getElem_cons_succ])
                (try simp only [Act.put, List.setIfInBounds_toArray, List.set_cons_zero, List.set_cons_succ])
                refine wpAnyH_done (by kernel_rfl) ?_ _
                clear hSd
                go_wp2
                go_roundw
                case rel => exact ⟨k + 1, by omega, by go_num, HRN, HBN⟩
                case measure => simp [intOf]; omega
        · obtain rfl : n = k := by omega
          obtain ⟨g, c, hlv⟩ : ∃ g c, u5 = .slice (some ⟨g, 0, none⟩) n c := by
            rcases HRW.out.2 with ⟨-, e⟩ | ⟨g, cap, cur, e, _⟩
            · rw [lF_length] at e; omega
            · exact ⟨g, cap, by rw [e, lF_length]⟩
          subst hlv
          have HEQ := hid (EqR.of HRW.out)
          have hfw : ∀ j, j < n → Fits 3 (evW P i j) := fun j hj => fits_up (m := 1 + 1 + 1) (fits_add (m := 1) (k := 1) (HCM.out.fit i j hlt hj) (HCM.out.fit j i hj hlt)) (by omega)
          have HSUM := hid (rSum_long (some ⟨g, 0, none⟩) c (lF n (evW P i)) wr HEQ.out.fr (fun k hk => by
            rw [lF_get]
            show (nu _).size + (de _).size ≤ 40000
            rw [own_size]
            have := fits_qw (hfw k (by rw [lF_length] at hk; exact hk))
            omega) (fun k hk => by
            have hk' : k ≤ n := by rw [lF_length] at hk; exact hk
            rw [(LsW.mk' fun j hj => by have := fits_qw (hfw j hj); omega : LsW n (evW P i) (lF n (evW P i))).fsumk hk']
            have h9 := fits_qw (fits_sumR (c := 3) (n := k) fun j hj => hfw j (by omega))
            omega) (by rw [lF_length]; omega))
          rw [fsum_lF, lF_length] at HSUM
          rw [show sumR (evW P i) n = evS n P i from rfl] at HSUM
          clear hfw HRW
          have HSU : Hid (Calls Tryz.prog 22 #[.slice (some ⟨g, 0, none⟩) n c] wr fun e w' => e = .returned (.agg #[.bool (qF (evS n P i)).1, .string (qF (evS n P i)).2.1, .string (qF (evS n P i)).2.2]) ∧ Below wr.heap.size wr w') := HSUM.out
          clear HSUM
          generalize hss : qF (evS n P i) = ss at *
          have HSS := hid hss
          clear hss
          obtain ⟨sn, sx, sy⟩ := ss
          simp only at HSU
          go_wp2_with fail
          refine HSU.out.mono ?_
          rintro e w2 ⟨rfl, hb2⟩
          have HB2 := hid (HB0.out.trans (hb2.mono HB0.out.size))
          have HE2 := hid (HEQ.out.below hb2)
          clear hb2 HEQ HSU HB0
          have hA := (Below.refl w2.heap.size w2).alloc (Nat.le_refl _) (FC sn sx sy)
          have hgl := HE2.out.lt
          have hne : w2.heap.size ≠ g := by omega
          have HK0 : Hid (DvS w2 W0.heap.size g n c w2.heap.size (fun j => if j < 0 then evQ n P i j else evW P i j) sn sx sy (w2.alloc (FC sn sx sy))) := ⟨(HE2.out.below hA).congr fun j _ => (if_neg (by omega)).symm, grown_below (World.grownBy.refl _ _) hA, Box.new w2 sn sx sy⟩
          have HDIV : Hid (∀ t, t < n → ∀ V : World, Calls Tryz.prog 52 #[.agg #[.bool (qF (evW P i t)).1, .string (qF (evW P i t)).2.1, .string (qF (evW P i t)).2.2], .agg #[.bool sn, .string sx, .string sy]] V fun e w' => e = .returned (.tuple #[.agg #[.bool (qF (evQ n P i t)).1, .string (qF (evQ n P i t)).2.1, .string (qF (evQ n P i t)).2.2], .int .i64 0]) ∧ Below V.heap.size V w') := fun t ht V => by
            have hp := evS_pos HCM.out.chn hlt
            have q1 : Fits 3 (evW P i t) := fits_up (m := 1 + 1 + 1) (fits_add (m := 1) (k := 1) (HCM.out.fit i t hlt ht) (HCM.out.fit t i ht hlt)) (by omega)
            have q2 : Fits 11 (evS n P i) := by
              rw [evS_is HCM.out.chn hlt]
              exact fits_up (m := 1 + (n * (1 + 1) + 1) + 1) (fits_add (m := 1) (k := n * (1 + 1) + 1) fits_one (fits_sumR (c := 1) fun k hk => HCM.out.fit k i hk hlt)) (by omega)
            have e1 : sn = sgn (evS n P i) := (congrArg (·.1) HSS.out).symm
            have e2 : sx = nu (evS n P i) := (congrArg (·.2.1) HSS.out).symm
            have e3 : sy = de (evS n P i) := (congrArg (·.2.2) HSS.out).symm
            have h := rDivF_yes (sgn (evW P i t)) (sgn (evS n P i)) (nu (evW P i t)) (de (evW P i t)) (nu (evS n P i)) (de (evS n P i)) V (by rw [val_own]; grind) (by rw [own_size]; have := fits_qw q1; omega) (by rw [own_size]; have := fits_qw q2; omega)
            rw [val_own, val_own] at h
            rw [e1, e2, e3]
            exact h
          clear hA HE2
          go_wp2_with fail
          generalize (w2.alloc (FC sn sx sy)) = W1 at *
          obtain ⟨gB, hgB⟩ : ∃ x, x = w2.heap.size := ⟨_, rfl⟩
          have hne' : gB ≠ g := by rw [hgB]; exact hne
          clear hne
          have hne := hne'
          clear hne'
          simp only [← hgB] at HK0 ⊢
          clear hgB
          obtain ⟨f', hf'⟩ : ∃ f, evQ n P i = f := ⟨_, rfl⟩
          have HFE := hid hf'
          simp only [hf'] at HK0 HDIV
          clear hf'
          obtain ⟨f, hf⟩ : ∃ f, evW P i = f := ⟨_, rfl⟩
          simp only [hf] at HK0 HDIV
          clear hf
          go_loopw [8] (fun tv wr => ∃ t : Nat, t ≤ n ∧ tv = .int .i64 t ∧ Hid (DvS w2 W0.heap.size g n c gB (fun j => if j < t then f' j else f j) sn sx sy wr)) (fun tv _ => n - (intOf tv).toNat)
          case atStart => exact ⟨0, Nat.zero_le _, rfl, HK0⟩
          case round =>
            have HKO := HK
            clear HK
            obtain ⟨t, ht, rfl, HK⟩ := hrel
            clear HK0
            by_cases hltt : t < n
            · have HDV := hid (HDIV.out t hltt)
              have HNX : Hid (∀ j, j < n → (if j = t then f' t else if j < t then f' j else f j) = if j < t + 1 then f' j else f j) := fun j _ => part_next t j
              have HHE : Hid ((if t < t then f' t else f t) = f t) := part_here t
              go_upto_region 14 with fail
              replace HK := hid HK.out.drew
              refine wp_region_held_drew (S := fun u => u.cell? ⟨gB, 0, none⟩ = some (.bool sn) ∧ u.cell? ⟨gB, 1, none⟩ = some (.string sx) ∧ u.cell? ⟨gB, 2, none⟩ = some (.string sy)) (by kernel_rfl) ⟨HK.out.bx.c0, HK.out.bx.c1, HK.out.bx.c2⟩ (fun hSd => ?_)
              generalize wr.drew = u0 at *
              obtain ⟨k0, k1, k2⟩ := HK.out.row.cells hltt
              rw [HHE.out] at k0 k1 k2
              generalize f' t = qn at *
              generalize hzz : qF (f t) = zz at *
              obtain ⟨an, ax, ay⟩ := zz
              simp only at k0 k1 k2 HDV
              refine wpAnyH_take (i := 0) (oi := _) (v := .slice (some ⟨g, 0, none⟩) n c) rfl (by kernel_rfl) (by kernel_rfl) (by kernel_rfl) (fun _ _ _ h => h) (Or.inl ⟨by rfl, ?_⟩) (by assumption) ?_
              · intro u' hSu
                (try simp only [List.getElem_toArray, List.getElem_cons_zero])
                go_simp
              (try simp only [List.getElem_toArray, List.getElem_cons_zero])
              (try simp only [Act.put, List.setIfInBounds_toArray, List.set_cons_zero, List.set_cons_succ])
              refine wpAnyH_take (i := 1) (oi := _) (v := .int .i64 (t : Nat)) rfl (by kernel_rfl) (by kernel_rfl) (by kernel_rfl) (fun _ _ _ h => h) (Or.inl ⟨by rfl, ?_⟩) (by assumption) ?_
              · intro u' hSu
                (try simp only [List.getElem_toArray, List.getElem_cons_zero, List.getElem_cons_succ])
                go_simp
              (try simp only [List.getElem_toArray, List.getElem_cons_zero, List.getElem_cons_succ])
              (try simp only [Act.put, List.setIfInBounds_toArray, List.set_cons_zero, List.set_cons_succ])
              refine wpAnyH_take (i := 2) (oi := _) (v := .slice (some ⟨g, 0, none⟩) n c) rfl (by kernel_rfl) (by kernel_rfl) (by kernel_rfl) (fun _ _ _ h => h) (Or.inl ⟨by rfl, ?_⟩) (by assumption) ?_
              · intro u' hSu
                (try simp only [List.getElem_toArray, List.getElem_cons_zero, List.getElem_cons_succ])
                go_simp
              (try simp only [List.getElem_toArray, List.getElem_cons_zero, List.getElem_cons_succ])
              (try simp only [Act.put, List.setIfInBounds_toArray, List.set_cons_zero, List.set_cons_succ])
              refine wpAnyH_take (i := 3) (oi := _) (v := .int .i64 (t : Nat)) rfl (by kernel_rfl) (by kernel_rfl) (by kernel_rfl) (fun _ _ _ h => h) (Or.inl ⟨by rfl, ?_⟩) (by assumption) ?_
              · intro u' hSu
                (try simp only [List.getElem_toArray, List.getElem_cons_zero, List.getElem_cons_succ])
                go_simp
              (try simp only [List.getElem_toArray, List.getElem_cons_zero, List.getElem_cons_succ])
              (try simp only [Act.put, List.setIfInBounds_toArray, List.set_cons_zero, List.set_cons_succ])
              refine wpAnyH_take (i := 4) (oi := _) (v := .pointer (some ⟨g, t * 3, none⟩)) rfl (by kernel_rfl) (by kernel_rfl) (by kernel_rfl) (fun _ _ _ h => h) (Or.inl ⟨by rfl, ?_⟩) (by assumption) ?_
              · intro u' hSu
                (try simp only [List.getElem_toArray, List.getElem_cons_zero, List.getElem_cons_succ])
                go_simp
              (try simp only [List.getElem_toArray, List.getElem_cons_zero, List.getElem_cons_succ])
              (try simp only [Act.put, List.setIfInBounds_toArray, List.set_cons_zero, List.set_cons_succ])
              refine wpAnyH_take (i := 6) (oi := _) (v := .agg #[.bool sn, .string sx, .string sy]) rfl (by kernel_rfl) (by kernel_rfl) (by kernel_rfl) (fun _ _ _ h => h) (Or.inl ⟨by rfl, ?_⟩) (by assumption) ?_
              · intro u' hSu
                (try simp only [List.getElem_toArray, List.getElem_cons_zero, List.getElem_cons_succ])
                obtain ⟨s0, s1, s2⟩ := hSu
                go_simp
              (try simp only [List.getElem_toArray, List.getElem_cons_zero, List.getElem_cons_succ])
              (try simp only [Act.put, List.setIfInBounds_toArray, List.set_cons_zero, List.set_cons_succ])
              refine wpAnyH_ready (rs := [5]) (by kernel_rfl) (by simp) (AllReadyH.cons rfl ?_ (AllReadyH.nil))
              · intro K' hK'
                (try simp only [List.getElem_toArray, List.getElem_cons_zero, List.getElem_cons_succ])
                go_simp
                refine hK'.out _ _ ⟨HK.out.bx.c0, HK.out.bx.c1, HK.out.bx.c2⟩ (fun hSe => ?_)
                clear hK' K' hSd
                have hSd := hSe
                clear hSe
                (try simp only [List.getElem_toArray, List.getElem_cons_zero, List.getElem_cons_succ])
                (try simp only [Act.put, List.setIfInBounds_toArray, List.set_cons_zero, List.set_cons_succ])
                refine wpAnyH_ready (rs := [7]) (by kernel_rfl) (by simp) (AllReadyH.cons rfl ?_ (AllReadyH.nil))
                · intro K' hK'
                  (try simp only [List.getElem_toArray, List.getElem_cons_zero, List.getElem_cons_succ])
                  go_simp
                  refine (HDV.out _).mono ?_
                  rintro e u1 ⟨rfl, hb⟩
                  replace HK := hid (HK.out.step hb)
                  obtain ⟨k0, k1, k2⟩ := HK.out.row.cells hltt
                  refine hK'.out _ _ ⟨HK.out.bx.c0, HK.out.bx.c1, HK.out.bx.c2⟩ (fun hSe => ?_)
                  clear hK' K' hSd
                  have hSd := hSe
                  clear hSe
                  (try simp only [List.getElem_toArray, List.getElem_cons_zero, List.getElem_cons_succ])
                  (try simp only [Act.put, List.setIfInBounds_toArray, List.set_cons_zero, List.set_cons_succ])
                  clear hb
                  refine wpAnyH_take (i := 8) (oi := _) (v := .tuple #[.agg #[.bool (qF qn).1, .string (qF qn).2.1, .string (qF qn).2.2], .int .i64 0]) rfl (by kernel_rfl) (by kernel_rfl) (by kernel_rfl) (fun _ _ _ h => h) (Or.inl ⟨by rfl, ?_⟩) (by assumption) ?_
                  · intro u' hSu
                    (try simp only [List.getElem_toArray, List.getElem_cons_zero, List.getElem_cons_succ])
                    go_simp
                  (try simp only [List.getElem_toArray, List.getElem_cons_zero, List.getElem_cons_succ])
                  (try simp only [Act.put, List.setIfInBounds_toArray, List.set_cons_zero, List.set_cons_succ])
                  refine wpAnyH_take (i := 9) (oi := _) (v := .agg #[.bool (qF qn).1, .string (qF qn).2.1, .string (qF qn).2.2]) rfl (by kernel_rfl) (by kernel_rfl) (by kernel_rfl) (fun _ _ _ h => h) (Or.inl ⟨by rfl, ?_⟩) (by assumption) ?_
                  · intro u' hSu
                    (try simp only [List.getElem_toArray, List.getElem_cons_zero, List.getElem_cons_succ])
                    go_simp
                  (try simp only [List.getElem_toArray, List.getElem_cons_zero, List.getElem_cons_succ])
                  (try simp only [Act.put, List.setIfInBounds_toArray, List.set_cons_zero, List.set_cons_succ])
                  refine wpAnyH_take (i := 10) (oi := _) (v := .int .i64 0) rfl (by kernel_rfl) (by kernel_rfl) (by kernel_rfl) (fun _ _ _ h => h) (Or.inl ⟨by rfl, ?_⟩) (by assumption) ?_
                  · intro u' hSu
                    (try simp only [List.getElem_toArray, List.getElem_cons_zero, List.getElem_cons_succ])
                    go_simp
                  (try simp only [List.getElem_toArray, List.getElem_cons_zero, List.getElem_cons_succ])
                  (try simp only [Act.put, List.setIfInBounds_toArray, List.set_cons_zero, List.set_cons_succ])
                  refine wpAnyH_take (i := 11) (oi := _) (v := .pointer (some ⟨g, t * 3, none⟩)) rfl (by kernel_rfl) (by kernel_rfl) (by kernel_rfl) (fun _ _ _ h => h) (Or.inl ⟨by rfl, ?_⟩) (by assumption) ?_
                  · intro u' hSu
                    (try simp only [List.getElem_toArray, List.getElem_cons_zero, List.getElem_cons_succ])
                    go_simp
                  (try simp only [List.getElem_toArray, List.getElem_cons_zero, List.getElem_cons_succ])
                  (try simp only [Act.put, List.setIfInBounds_toArray, List.set_cons_zero, List.set_cons_succ])
                  have z0 := HK.out.row.fz (t * 3)
                  have z1 := HK.out.row.fz (t * 3 + 1)
                  have z2 := HK.out.row.fz (t * 3 + 2)
                  refine wpAnyH_ready (rs := [12]) (by kernel_rfl) (by simp) (AllReadyH.cons rfl ?_ (AllReadyH.nil))
                  · intro K' hK'
                    (try simp only [List.getElem_toArray, List.getElem_cons_zero, List.getElem_cons_succ])
                    go_simp
                    have HK9 := hid (HK.out.put hne t qn)
                    refine hK'.out _ _ ⟨HK9.out.bx.c0, HK9.out.bx.c1, HK9.out.bx.c2⟩ (fun _ => wpAnyH_done (by kernel_rfl) ?_ _)
                    clear hK' K' hSd k0 k1 k2 z0 z1 z2 HK
                    have HKn := hid (HK9.out.congr HNX.out)
                    clear HK9
                    go_wp2
                    go_roundw
                    case rel => exact ⟨t + 1, by omega, by go_num, HKn⟩
                    case measure => simp [intOf]; omega
            · obtain rfl : n = t := by omega
              have hE := HK.out.row.congr (f' := f') fun j hj => if_pos hj
              rw [← HFE.out] at hE
              have HRV : Hid (RwF wr W0.heap.size (.slice (some ⟨g, 0, none⟩) n c) (lF n (evQ n P i))) := by
                show World.ownsRow _ _ _ _ _ _ _
                rw [lF_length]
                exact hE
              have hbl := hE.block.1
              have HBW := hid (HB2.out.grown HK.out.gr HB2.out.size (fun t et => by cases et; exact hbl))
              have HK3 := hid (HKO.out.below HBW.out)
              have HB3 := hid (HB.out.trans (HBW.out.mono HB.out.size))
              have hszw := HB.out.size
              clear hE HK HKO HB2 HBW HDIV hne hgl HFE HB HRF
              obtain ⟨dy, cy, rfl, -⟩ := owns_slice HK3.out.1
              have hAL := (Below.refl wr.heap.size wr).alloc (Nat.le_refl _) (.cells #[.slice (some ⟨g, 0, none⟩) n c] 27)
              have hone : (wr.alloc (.cells #[.slice (some ⟨g, 0, none⟩) n c] 27)).heap[wr.heap.size]? = some (.cells #[.slice (some ⟨g, 0, none⟩) n c] 27 (0, 0)) := heap_alloc_new wr _
              have HC1 : Hid ((wr.alloc (.cells #[.slice (some ⟨g, 0, none⟩) n c] 27)).cell? ⟨wr.heap.size, 0, none⟩ = some (.slice (some ⟨g, 0, none⟩) n c)) := by
                show _ = _
                rw [cell_of_row _ _ _ _ _ (0, 0) hone]
                rfl
              have HB4 := hid (HB3.out.alloc HB3.out.size (.cells #[.slice (some ⟨g, 0, none⟩) n c] 27))
              have HA := hid ((HRV.out.lower hszw).below hAL)
              have HK4 := hid (HK3.out.below hAL)
              have HL1 : Hid (P1.length = i) := by
                show _ = _
                have := congrArg List.length HP.out
                simpa using this
              have HPN : Hid ((P1 ++ [((Value.slice (some ⟨g, 0, none⟩) n c, lF n (evQ n P i)) : PR)]).map (fun p : PR => p.2) = (List.range (i + 1)).map fun t => lF n (evQ n P t)) := by
                show _ = _
                rw [List.map_append, HP.out, List.range_succ, List.map_append]
                rfl
              clear hone hAL HRV HK3 HB3 hszw
              go_wp2_with (at_builtin; refine wpList_append_rs rfl _ _ rfl w.heap.size (.slice dy P1.length cy) P1 (.slice (some ⟨g, 0, none⟩) n c) ⟨_, _, _, rfl⟩ rfl HK4.out.1 wr.heap.size rfl HC1.out (by rw [HL1.out]; omega) HB4.out.size ?_; intro v5 w5 hr5 hg5; have HK5 := hid (HK4.out.push hr5 hg5 HA.out); have HB5 := hid (HB4.out.grown hg5 HB4.out.size (fun k e => owns_from HK4.out.1 k e)))
              go_roundw
              case rel => exact ⟨i + 1, _, by omega, by go_num, HK5, HPN, HB5⟩
              case measure => simp [intOf]; omega
    · obtain rfl : n = i := by omega
      obtain ⟨dy, cy, rfl, hfs⟩ := OwR.rows HK.out
      have hro : rOf P1 = mR n (evQ n P) := HP.out
      rw [hro] at hfs
      rw [hro, mR_length]
      have HFS := hid hfs
      clear hfs hro
      go_wp2
      go_ret
      exact ⟨dy, cy, rfl, HFS.out, HB.out⟩
end Go.Proofs.YtbejijgelljeaaaGreatDoor
