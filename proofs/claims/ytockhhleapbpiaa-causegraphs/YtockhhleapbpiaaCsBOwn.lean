/- Package cause: Rule. -/
import Derived.Test.YtockhhleapbpiaaCsAOwn
namespace Go.Proofs.Ytockhhleapbpiaa
open Go.RowKit Go.Shelf

theorem four_lists {U : World} {b0 b1 b2 b3 : Option Addr} {c0 c1 c2 c3 : Nat} {x y z v : List Int} (h0 : IntS U b0 x) (h1 : IntS U b1 y) (h2 : IntS U b2 z) (h3 : IntS U b3 v) : LsS (U.alloc (.cells #[.slice b0 x.length c0, .slice b1 y.length c1, .slice b2 z.length c2, .slice b3 v.length c3] 23)) (some ⟨U.heap.size, 0, none⟩) [x, y, z, v] := fun k hk => by
  have hA := (Below.refl U.heap.size U).alloc (Nat.le_refl _) (.cells #[.slice b0 x.length c0, .slice b1 y.length c1, .slice b2 z.length c2, .slice b3 v.length c3] 23)
  have hnew := heap_alloc_new U (.cells #[.slice b0 x.length c0, .slice b1 y.length c1, .slice b2 z.length c2, .slice b3 v.length c3] 23)
  have hlt := (Array.getElem?_eq_some_iff.1 hnew).1
  match k, hk with
  | 0, _ => exact ⟨_, 0, b0, c0, rfl, hlt, by rw [cell_of_row _ U.heap.size _ _ _ (0, 0) hnew]; rfl, h0.below hA⟩
  | 1, _ => exact ⟨_, 0, b1, c1, rfl, hlt, by rw [cell_of_row _ U.heap.size _ _ _ (0, 0) hnew]; rfl, h1.below hA⟩
  | 2, _ => exact ⟨_, 0, b2, c2, rfl, hlt, by rw [cell_of_row _ U.heap.size _ _ _ (0, 0) hnew]; rfl, h2.below hA⟩
  | 3, _ => exact ⟨_, 0, b3, c3, rfl, hlt, by rw [cell_of_row _ U.heap.size _ _ _ (0, 0) hnew]; rfl, h3.below hA⟩
theorem LsN.four {U : World} {b0 b1 b2 b3 : Option Addr} {n0 n1 n2 n3 c0 c1 c2 c3 : Nat} {Ls : List (List Int)} (h4 : Ls.length = 4) (h0 : b0 = none → c0 = 0) (h1 : b1 = none → c1 = 0) (h2 : b2 = none → c2 = 0) (h3 : b3 = none → c3 = 0) : LsN (U.alloc (.cells #[.slice b0 n0 c0, .slice b1 n1 c1, .slice b2 n2 c2, .slice b3 n3 c3] 23)) (some ⟨U.heap.size, 0, none⟩) Ls := fun k hk g o b n c ha hc hn => by
  have hnew := heap_alloc_new U (.cells #[.slice b0 n0 c0, .slice b1 n1 c1, .slice b2 n2 c2, .slice b3 n3 c3] 23)
  cases ha
  rw [cell_of_row _ U.heap.size _ _ _ (0, 0) hnew] at hc
  rw [h4] at hk
  match k, hk with
  | 0, _ => cases hc; exact h0 hn
  | 1, _ => cases hc; exact h1 hn
  | 2, _ => cases hc; exact h2 hn
  | 3, _ => cases hc; exact h3 hn
/-- Of the sets of a rule. -/
theorem rule_parts {n : Nat} {x y z v : List Int} (h : apB n [x, y, z, v] = true) : (risB x n = true ∧ risB y n = true ∧ risB z n = true ∧ risB v n = true) ∧ (x ++ v).Nodup ∧ apB n [y, z, togL x v] = true := by
  obtain ⟨h1, h2⟩ := apB_iff.1 h
  have hx := h1 x (by simp)
  have hy := h1 y (by simp)
  have hz := h1 z (by simp)
  have hv := h1 v (by simp)
  simp only [List.flatten_cons, List.flatten_nil, List.append_nil, List.nodup_append, List.mem_append] at h2
  obtain ⟨a1, ⟨a2, ⟨a3, a4, a5⟩, a6⟩, a7⟩ := h2
  have ht := togL_up (ris_up hx) (ris_up hv)
  have hm := (togL_rise x v).2
  refine ⟨⟨hx, hy, hz, hv⟩, List.nodup_append.2 ⟨a1, a4, fun a ha b hb => a7 a ha b (.inr (.inr hb))⟩, apB_iff.2 ⟨fun l hl => ?_, ?_⟩⟩
  · simp only [List.mem_cons, List.not_mem_nil, or_false] at hl
    rcases hl with rfl | rfl | rfl
    · exact hy
    · exact hz
    · exact up_risC ht
  · simp only [List.flatten_cons, List.flatten_nil, List.append_nil, List.nodup_append, List.mem_append]
    refine ⟨a2, ⟨a3, up_nodup ht, fun a ha b hb e => ?_⟩, fun a ha b hb e => ?_⟩
    · subst e
      rcases (hm a).1 hb with hb | hb
      · exact a7 a hb a (.inr (.inl ha)) rfl
      · exact a5 a ha a hb rfl
    · subst e
      rcases hb with hb | hb
      · exact a6 a ha a (.inl hb) rfl
      · rcases (hm a).1 hb with hb | hb
        · exact a7 a hb a (.inl ha) rfl
        · exact a6 a ha a (.inr hb) rfl
theorem tog_len {x v : List Int} {n : Nat} (hx : risB x n = true) (hv : risB v n = true) : (togL x v).length ≤ n := up_small (togL_up (ris_up hx) (ris_up hv))
theorem ris_len {x : List Int} {n : Nat} (hx : risB x n = true) : x.length ≤ n := up_small (ris_up hx)
theorem oth_mem {z m : List Int} {v : Int} (h : v ∈ othN z m) : v ∈ z := (List.mem_filter.1 h).1
theorem oth_len (z m : List Int) : (othN z m).length ≤ z.length := List.length_filter_le _ _

set_option maxRecDepth 100000 in
set_option maxHeartbeats 1000000 in
theorem cRule_any (a bx by' bz bv : Option Addr) (ca cx cy cz cv : Nat) (L : List (List Int)) (k : Int) (x y z v : List Int) (w : World) (h : LsS w a L) (hl : ∀ l ∈ L, l.length ≤ 1000) (hx : IntS w bx x) (hy : IntS w by' y) (hz : IntS w bz z) (hv : IntS w bv v) (hx0 : bx = none → cx = 0) (hy0 : by' = none → cy = 0) (hz0 : bz = none → cz = 0) (hv0 : bv = none → cv = 0) (hxl : x.length ≤ 1000) (hyl : y.length ≤ 1000) (hzl : z.length ≤ 1000) (hvl : v.length ≤ 1000) :
    Calls Try.prog 28 #[.slice a L.length ca, .int .i64 k, .slice bx x.length cx, .slice by' y.length cy, .slice bz z.length cz, .slice bv v.length cv] w fun e w' => e = .returned (.tuple #[.bool (rlA L k x y z v).1, .int .i64 (rlA L k x y z v).2]) ∧ Below w.heap.size w w' := by
  have hA3 := (Below.refl w.heap.size w).alloc (Nat.le_refl _) (.cells #[.slice bx x.length cx, .slice by' y.length cy, .slice bz z.length cz, .slice bv v.length cv] 23)
  have HST := hid (setsMayBe_any a (some ⟨w.heap.size, 0, none⟩) ca 4 L [x, y, z, v] _ (h.below hA3) (fun l hl' => by have := hl l hl'; omega) (four_lists (c0 := cx) (c1 := cy) (c2 := cz) (c3 := cv) hx hy hz hv) (LsN.four rfl hx0 hy0 hz0 hv0) (fun l hl' => by
    simp only [List.mem_cons, List.not_mem_nil, or_false] at hl'
    rcases hl' with rfl | rfl | rfl | rfl <;> assumption) (by simp) (by simp))
  have HA3 := hid hA3
  have HX := hid hx
  have HY := hid hy
  have HZ := hid hz
  have HV := hid hv
  have HL := hid h
  have HLL := hid hl
  have HX0 := hid hx0
  have HV0 := hid hv0
  obtain ⟨rb, re, hre⟩ : ∃ rb re, rlA L k x y z v = (rb, re) := ⟨_, _, rfl⟩
  have HBE : Hid (stE L [x, y, z, v] ≠ 0 → false = rb ∧ stE L [x, y, z, v] = re) := fun e => by
    rw [rlA, if_neg e] at hre
    exact Prod.mk.inj hre
  have HBO : Hid (stE L [x, y, z, v] = 0 → (k = 1 ∨ k = 2 ∨ k = 3) → (!opX (rlG L k x z v) y z (togL x v)) = rb ∧ 0 = re) := fun e e2 => by
    rw [rlA, if_pos e, if_pos e2] at hre
    exact Prod.mk.inj hre
  have HBP : Hid (stE L [x, y, z, v] = 0 → ¬ (k = 1 ∨ k = 2 ∨ k = 3) → false = rb ∧ 15 = re) := fun e e2 => by
    rw [rlA, if_pos e, if_neg e2] at hre
    exact Prod.mk.inj hre
  rw [hre]
  show Calls Try.prog 28 #[.slice a L.length ca, .int .i64 k, .slice bx x.length cx, .slice by' y.length cy, .slice bz z.length cz, .slice bv v.length cv] w fun e w' => e = .returned (.tuple #[.bool rb, .int .i64 re]) ∧ Below w.heap.size w w'
  clear hre hA3 h hl hx hy hz hv hx0 hy0 hz0 hv0
  go_enter Try.func28, Try.ntmps28
  go_wp2_with fail
  refine HST.out.mono ?_
  rintro e w1 ⟨rfl, hb1⟩
  have HB1 := hid (HA3.out.trans (hb1.mono HA3.out.size))
  clear hb1 HST HA3
  by_cases hst : stE L [x, y, z, v] = 0
  · obtain ⟨hg, hap⟩ := stE_ok hst
    obtain ⟨⟨hrx, hry, hrz, hrv⟩, hnd, hap3⟩ := rule_parts hap
    have hpos : 0 < L.length ∧ L.length ≤ 8 := ⟨(gB_parts (gc_parts hg).1).1, (gB_parts (gc_parts hg).1).2.1⟩
    have HTA : Hid (∀ (R cap : Nat) (G : List (List Int)) (U : World), Below w.heap.size w U → LsS U (some ⟨R, 0, none⟩) G → G.length = L.length → gcE G = 0 → (∀ l ∈ G, l.length ≤ 1000) → ∀ (d : Option Addr) (cd : Nat), IntS U d (togL x v) → Calls Try.prog 62 #[.slice (some ⟨R, 0, none⟩) L.length cap, .slice by' y.length cy, .slice bz z.length cz, .slice d (togL x v).length cd] U fun e w' => e = .returned (.bool (!opX G y z (togL x v))) ∧ Below U.heap.size U w') := fun R cap G U hU hG hGl hgg hGm d cd hd => by
      have := tog_len hrx hrv
      have := cApart_any (some ⟨R, 0, none⟩) by' bz d cap cy cz cd G y z (togL x v) U hG (fun l hl => by have := hGm l hl; omega) (HY.out.below hU) (HZ.out.below hU) hd (by omega) (by omega) (by omega) hgg (by rw [hGl]; exact hap3)
      rwa [hGl] at this
    have HUN := hid (fun (U : World) (hU : Below w.heap.size w U) => union_any bx bv cx cv x v U (HX.out.below hU) (HV.out.below hU) HX0.out HV0.out hxl hvl hnd)
    have HWI := hid (withoutIn_any a bx ca cx L x w1 (HL.out.below HB1.out) (HX.out.below HB1.out) hpos.1 hpos.2 (fun u hu => up_mem (ris_up hrx) hu) hxl)
    have HR1 := hid (HBO.out hst)
    have HR2 := hid (HBP.out hst)
    have HG := hid hg
    have HRZ := hid hrz
    have HRV := hid hrv
    rw [hst]
    clear hst hg hap hrx hry hrz hrv hnd hap3 HBE HBO HBP HX0 HV0 HX
    go_wp2_with fail
    refine HWI.out.mono ?_
    rintro e w2 ⟨R, cap, rfl, hL2, hb2⟩
    have HB2 := hid (HB1.out.trans (hb2.mono HB1.out.size))
    have HL2 := hid hL2
    have HC1 : Hid (gcE (cutG L x []) = 0) := cutG_gc HG.out x []
    have HC2 : Hid (∀ l ∈ cutG L x [], l.length ≤ 1000) := cutG_len HLL.out
    have HC3 : Hid ((cutG L x []).length = L.length) := cutG_length _ _ _
    clear hb2 hL2 HWI HB1
    by_cases hk1 : k = 1
    · subst hk1
      have HRE := hid (HR1.out (.inl rfl))
      have hG : rlG L 1 x z v = cutG L x [] := by rw [rlG, if_pos rfl]
      rw [hG] at HRE
      clear hG
      have HU := hid (HUN.out w2 HB2.out)
      go_wp2_with fail
      refine HU.out.mono ?_
      rintro e w8 ⟨d8, c8, rfl, hi8, _, hb8⟩
      have HB8 := hid (HB2.out.trans (hb8.mono HB2.out.size))
      have HAP := hid (HTA.out R cap (cutG L x []) w8 HB8.out (HL2.out.below hb8) HC3.out HC1.out HC2.out d8 c8 hi8)
      clear hb8 hi8 HU HTA HUN
      generalize opX (cutG L x []) y z (togL x v) = q at *
      go_wp2_with fail
      refine HAP.out.mono ?_
      rintro e w9 ⟨rfl, hb9⟩
      have HB9 := hid (HB8.out.trans (hb9.mono HB8.out.size))
      clear hb9
      go_wp2
      go_ret2
      exact ⟨by rw [← HRE.out.1, ← HRE.out.2]; rfl, HB9.out⟩
    · by_cases hk2 : k = 2
      · subst hk2
        have HRE := hid (HR1.out (.inr (.inl rfl)))
        have hG : rlG L 2 x z v = cutG (cutG L x []) [] z := by rw [rlG, if_neg (by decide), if_pos rfl]
        rw [hG] at HRE
        have HWO := hid (withoutOut_any (some ⟨R, 0, none⟩) bz cap cz (cutG L x []) z w2 HL2.out (HZ.out.below HB2.out) (by rw [HC3.out]; exact hpos.1) (by rw [HC3.out]; exact hpos.2) HC2.out hzl)
        rw [HC3.out] at HWO
        have HD1 : Hid (gcE (cutG (cutG L x []) [] z) = 0) := cutG_gc HC1.out [] z
        have HD2 : Hid (∀ l ∈ cutG (cutG L x []) [] z, l.length ≤ 1000) := cutG_len HC2.out
        have HD3 : Hid ((cutG (cutG L x []) [] z).length = L.length) := (cutG_length _ _ _).trans HC3.out
        generalize cutG (cutG L x []) [] z = G2 at *
        clear hG
        go_wp2_with fail
        refine HWO.out.mono ?_
        rintro e w3 ⟨R3, cap3, rfl, hL3, hb3⟩
        have HB3 := hid (HB2.out.trans (hb3.mono HB2.out.size))
        have HL3 := hid hL3
        clear hb3 hL3 HWO
        have HU := hid (HUN.out w3 HB3.out)
        go_wp2_with fail
        refine HU.out.mono ?_
        rintro e w8 ⟨d8, c8, rfl, hi8, _, hb8⟩
        have HB8 := hid (HB3.out.trans (hb8.mono HB3.out.size))
        have HAP := hid (HTA.out R3 cap3 G2 w8 HB8.out (HL3.out.below hb8) HD3.out HD1.out HD2.out d8 c8 hi8)
        clear hb8 hi8 HU HTA HUN
        generalize opX G2 y z (togL x v) = q at *
        go_wp2_with fail
        refine HAP.out.mono ?_
        rintro e w9 ⟨rfl, hb9⟩
        have HB9 := hid (HB8.out.trans (hb9.mono HB8.out.size))
        clear hb9
        go_wp2
        go_ret2
        exact ⟨by rw [← HRE.out.1, ← HRE.out.2]; rfl, HB9.out⟩
      · by_cases hk3 : k = 3
        · subst hk3
          have HRE := hid (HR1.out (.inr (.inr rfl)))
          have hG : rlG L 3 x z v = cutG (cutG L x []) (freeL (cutG L x []) z v) [] := by rw [rlG, if_neg (by decide), if_neg (by decide)]
          rw [hG] at HRE
          have HGA : Hid (Calls Try.prog 13 #[.slice (some ⟨R, 0, none⟩) L.length cap, .slice bv v.length cv] w2 fun e w' => ∃ d cd, e = .returned (.tuple #[.slice d (memL (abS (parN (cutG L x [])) (toN v) (cutG L x []).length)).length cd, .int .i64 0]) ∧ IntS w' d (memL (abS (parN (cutG L x [])) (toN v) (cutG L x []).length)) ∧ Below w2.heap.size w2 w') := by
            have h1 := gAbove_any (some ⟨R, 0, none⟩) bv cap cv (cutG L x []) v w2 HL2.out (cutG_big HLL.out) (HV.out.below HB2.out) (by omega)
            rw [HC3.out] at h1
            refine h1.mono fun e w' h => ?_
            rcases h.1 with ⟨k, _⟩ | ⟨_, k, _⟩ | ⟨_, _, d, cd, k, k2⟩
            · exact absurd HC1.out k
            · rw [HC3.out, HRV.out] at k; cases k
            · exact ⟨d, cd, k, k2, h.2⟩
          have HML : Hid ((memL (abS (parN (cutG L x [])) (toN v) (cutG L x []).length)).length ≤ 8) := by
            show _ ≤ _
            have := memU_len (abS (parN (cutG L x [])) (toN v) (cutG L x []).length) 8
            rw [memL, iL_length]
            exact this
          have HFL : Hid (freeL (cutG L x []) z v = othN z (memL (abS (parN (cutG L x [])) (toN v) (cutG L x []).length))) := rfl
          have HFM : Hid (∀ u ∈ freeL (cutG L x []) z v, 0 ≤ u ∧ u < (L.length : Int)) := fun u hu => up_mem (ris_up HRZ.out) (oth_mem hu)
          have HFN : Hid ((freeL (cutG L x []) z v).length ≤ 1000) := Nat.le_trans (oth_len _ _) hzl
          have HW3 : Hid (∀ (b : Option Addr) (cb : Nat) (U : World), Below w.heap.size w U → LsS U (some ⟨R, 0, none⟩) (cutG L x []) → IntS U b (freeL (cutG L x []) z v) → Calls Try.prog 59 #[.slice (some ⟨R, 0, none⟩) L.length cap, .slice b (freeL (cutG L x []) z v).length cb] U fun e w' => ∃ R cap, e = .returned (.slice (some ⟨R, 0, none⟩) L.length cap) ∧ LsS w' (some ⟨R, 0, none⟩) (cutG (cutG L x []) (freeL (cutG L x []) z v) []) ∧ Below U.heap.size U w') := fun b cb U hU hL hb => by
            have := withoutIn_any (some ⟨R, 0, none⟩) b cap cb (cutG L x []) (freeL (cutG L x []) z v) U hL hb (by rw [HC3.out]; exact hpos.1) (by rw [HC3.out]; exact hpos.2) (by rw [HC3.out]; exact HFM.out) HFN.out
            rwa [HC3.out] at this
          have HD1 : Hid (gcE (cutG (cutG L x []) (freeL (cutG L x []) z v) []) = 0) := cutG_gc HC1.out _ _
          have HD2 : Hid (∀ l ∈ cutG (cutG L x []) (freeL (cutG L x []) z v) [], l.length ≤ 1000) := cutG_len HC2.out
          have HD3 : Hid ((cutG (cutG L x []) (freeL (cutG L x []) z v) []).length = L.length) := (cutG_length _ _ _).trans HC3.out
          have HOT := hid (fun (d : Option Addr) (cd : Nat) (U : World) (hU : Below w.heap.size w U) (hd : IntS U d (memL (abS (parN (cutG L x [])) (toN v) (cutG L x []).length))) => others_any bz d cz cd z (memL (abS (parN (cutG L x [])) (toN v) (cutG L x []).length)) U (HZ.out.below hU) hd (by omega) (by have := HML.out; omega))
          rw [← HFL.out] at HOT
          generalize cutG (cutG L x []) (freeL (cutG L x []) z v) [] = G3 at *
          generalize memL (abS (parN (cutG L x [])) (toN v) (cutG L x []).length) = ml at *
          generalize freeL (cutG L x []) z v = fl at *
          clear hG HFL HFM HFN HML
          go_wp2_with fail
          refine HGA.out.mono ?_
          rintro e w3 ⟨d3, c3, rfl, hi3, hb3⟩
          have HB3 := hid (HB2.out.trans (hb3.mono HB2.out.size))
          have HO3 := hid (HOT.out d3 c3 w3 HB3.out hi3)
          have HL3 := hid (HL2.out.below hb3)
          clear hb3 hi3 HGA HOT HL2
          go_wp2_with fail
          refine HO3.out.mono ?_
          rintro e w4 ⟨d4, c4, rfl, hi4, _, hb4⟩
          have HB4 := hid (HB3.out.trans (hb4.mono HB3.out.size))
          have HW4 := hid (HW3.out d4 c4 w4 HB4.out (HL3.out.below hb4) hi4)
          clear hb4 hi4 HO3 HW3 HL3
          go_wp2_with fail
          refine HW4.out.mono ?_
          rintro e w5 ⟨R5, cap5, rfl, hL5, hb5⟩
          have HB5 := hid (HB4.out.trans (hb5.mono HB4.out.size))
          have HL5 := hid hL5
          clear hb5 hL5 HW4
          have HU := hid (HUN.out w5 HB5.out)
          go_wp2_with fail
          refine HU.out.mono ?_
          rintro e w8 ⟨d8, c8, rfl, hi8, _, hb8⟩
          have HB8 := hid (HB5.out.trans (hb8.mono HB5.out.size))
          have HAP := hid (HTA.out R5 cap5 G3 w8 HB8.out (HL5.out.below hb8) HD3.out HD1.out HD2.out d8 c8 hi8)
          clear hb8 hi8 HU HTA HUN
          generalize opX G3 y z (togL x v) = q at *
          go_wp2_with fail
          refine HAP.out.mono ?_
          rintro e w9 ⟨rfl, hb9⟩
          have HB9 := hid (HB8.out.trans (hb9.mono HB8.out.size))
          clear hb9
          go_wp2
          go_ret2
          exact ⟨by rw [← HRE.out.1, ← HRE.out.2]; rfl, HB9.out⟩
        · have HRE := hid (HR2.out (fun e => e.elim hk1 fun e => e.elim hk2 hk3))
          go_wp2
          go_ret2
          exact ⟨by rw [← HRE.out.1, ← HRE.out.2]; rfl, HB2.out⟩
  · have HE := hid (HBE.out hst)
    have hgb : (stE L [x, y, z, v] == 0) = false := by simpa using hst
    clear hst HBE HBO HBP
    generalize stE L [x, y, z, v] = st at *
    go_wp2
    go_ret2
    exact ⟨by rw [← HE.out.1, ← HE.out.2]; rfl, HB1.out⟩
end Go.Proofs.Ytockhhleapbpiaa

