/- The document's answer of chapter 8: Rule. -/
import Derived.Test.YtockhhleapbpiaaRcCOwn
namespace Go.Proofs.Ytockhhleapbpiaa
open Go.RowKit Go.Shelf

/-- Those of z that are free, as far as the i-th. -/
def freeT (L : List (List Int)) (z v : List Int) (i : Nat) : List Int := (z.take i).filter fun u => decide (¬ u ∈ memL (abS (parN L) (toN v) L.length))
theorem free_in {L : List (List Int)} {v : List Int} {t : Nat} (h : gcE L = 0) (hr : risB v L.length = true) (ht : t < L.length) : abO L t (toN v) = true ↔ ((t : Nat) : Int) ∈ memL (abS (parN L) (toN v) L.length) := by
  have h8 := (gB_parts (gc_parts h).1).2.1
  have hm : (memL (abS (parN L) (toN v) L.length)).contains ((t : Nat) : Int) = decide (t ∈ abS (parN L) (toN v) L.length) := memL_has (by omega)
  refine (abO_iff h h8 (up_lt (ris_up hr)) t).trans ⟨fun hi => List.contains_iff_mem.1 (by rw [hm]; exact decide_eq_true hi), fun hi => of_decide_eq_true (by rw [← hm]; exact List.contains_iff_mem.2 hi)⟩
theorem freeT_yes {L : List (List Int)} {z v : List Int} {i : Nat} (hi : i < z.length) (h : ¬ z[i] ∈ memL (abS (parN L) (toN v) L.length)) : freeT L z v (i + 1) = freeT L z v i ++ [z[i]] := by
  rw [freeT, freeT, List.take_succ_eq_append_getElem hi, List.filter_append]
  simp [h]
theorem freeT_no {L : List (List Int)} {z v : List Int} {i : Nat} (hi : i < z.length) (h : z[i] ∈ memL (abS (parN L) (toN v) L.length)) : freeT L z v (i + 1) = freeT L z v i := by
  rw [freeT, freeT, List.take_succ_eq_append_getElem hi, List.filter_append]
  simp [h]
theorem freeT_all (L : List (List Int)) (z v : List Int) : freeT L z v z.length = freeL L z v := by rw [freeT, List.take_length]; rfl
theorem freeT_len (L : List (List Int)) (z v : List Int) (i : Nat) : (freeT L z v i).length ≤ i := by
  have h1 := List.length_filter_le (fun u => decide (¬ u ∈ memL (abS (parN L) (toN v) L.length))) (z.take i)
  have h2 := List.length_take_le i z
  rw [freeT]
  omega

set_option maxRecDepth 100000 in
set_option maxHeartbeats 1000000 in
theorem rRule_any (a bx by' bz bv : Option Addr) (ca cx cy cz cv : Nat) (L : List (List Int)) (k : Int) (x y z v : List Int) (w : World) (h : LsS w a L) (hl : ∀ l ∈ L, l.length ≤ 1000) (hL : L.length ≤ 1000) (hx : IntS w bx x) (hy : IntS w by' y) (hz : IntS w bz z) (hv : IntS w bv v) (hxl : x.length ≤ 1000) (hyl : y.length ≤ 1000) (hzl : z.length ≤ 1000) (hvl : v.length ≤ 1000) :
    Calls Try.prog 29 #[.slice a L.length ca, .int .i64 k, .slice bx x.length cx, .slice by' y.length cy, .slice bz z.length cz, .slice bv v.length cv] w fun e w' => e = .returned (.tuple #[.bool (rlA L k x y z v).1, .int .i64 (rlA L k x y z v).2]) ∧ Below w.heap.size w w' := by
  have hA3 := (Below.refl w.heap.size w).alloc (Nat.le_refl _) (.cells #[.slice bx x.length cx, .slice by' y.length cy, .slice bz z.length cz, .slice bv v.length cv] 23)
  have HST := hid (rSetsOK_any a (some ⟨w.heap.size, 0, none⟩) ca 4 L [x, y, z, v] _ (h.below hA3) hl hL (four_lists (c0 := cx) (c1 := cy) (c2 := cz) (c3 := cv) hx hy hz hv) (fun l hl' => by
    simp only [List.mem_cons, List.not_mem_nil, or_false] at hl'
    rcases hl' with rfl | rfl | rfl | rfl <;> assumption) (by simp))
  have HA3 := hid hA3
  have HX := hid hx
  have HY := hid hy
  have HZ := hid hz
  have HV := hid hv
  have HL := hid h
  have HLL := hid hl
  obtain ⟨rb, re, hre⟩ : ∃ rb re, rlA L k x y z v = (rb, re) := ⟨_, _, rfl⟩
  have HBE : Hid (stE L [x, y, z, v] ≠ 0 → false = rb ∧ stE L [x, y, z, v] = re) := fun e => by
    rw [rlA, if_neg e] at hre
    exact Prod.mk.inj hre
  have HBO : Hid (stE L [x, y, z, v] = 0 → (k = 1 ∨ k = 2 ∨ k = 3) → (!opX (rlG L k x z v) y z (togL x v)) = rb ∧ 0 = re) := fun e e2 => by
    rw [rlA, if_pos e, if_pos e2] at hre
    exact Prod.mk.inj hre
  have HBP : Hid (stE L [x, y, z, v] = 0 → ¬ (k = 1 ∨ k = 2 ∨ k = 3) → false = rb ∧ 15 = re) := fun e e2 => by
    rw [rlA, if_pos e, if_neg e2] at hre
    exact Prod.mk.inj hre
  rw [hre]
  show Calls Try.prog 29 #[.slice a L.length ca, .int .i64 k, .slice bx x.length cx, .slice by' y.length cy, .slice bz z.length cz, .slice bv v.length cv] w fun e w' => e = .returned (.tuple #[.bool rb, .int .i64 re]) ∧ Below w.heap.size w w'
  clear hre hA3 h hl hx hy hz hv
  go_enter Try.func29, Try.ntmps29
  go_wp2_with fail
  refine HST.out.mono ?_
  rintro e w1 ⟨rfl, hb1⟩
  have HB1 := hid (HA3.out.trans (hb1.mono HA3.out.size))
  clear hb1 HST HA3
  by_cases hst : stE L [x, y, z, v] = 0
  · obtain ⟨hg, hap⟩ := stE_ok hst
    obtain ⟨⟨hrx, hry, hrz, hrv⟩, hnd, hap3⟩ := rule_parts hap
    have HKN : Hid (iL (bothN L.length x v) = togL x v) := (togL_both (ris_up hrx) (ris_up hrv)).symm
    have HTL : Hid ((togL x v).length ≤ L.length) := tog_len hrx hrv
    have HTA : Hid (∀ (R : Option Addr) (cap : Nat) (G : List (List Int)) (U : World), Below w.heap.size w U → LsS U R G → G.length = L.length → gcE G = 0 → (∀ l ∈ G, l.length ≤ 1000) → ∀ (d : Option Addr) (cd : Nat), IntS U d (togL x v) → Calls Try.prog 16 #[.slice R L.length cap, .slice by' y.length cy, .slice bz z.length cz, .slice d (togL x v).length cd] U fun e w' => e = .returned (.tuple #[.bool (!opX G y z (togL x v)), .int .i64 0]) ∧ Below U.heap.size U w') := fun R cap G U hU hG hGl hgg hGm d cd hd => by
      have := HTL.out
      exact rApartG R by' bz d cap cy cz cd L.length G y z (togL x v) U hGl hG hGm (HY.out.below hU) (HZ.out.below hU) hd hyl hzl (by omega) hgg hap3
    have HME := hid (rMerged_any bx bv cx cv L.length x v w1 (HX.out.below HB1.out) (HV.out.below HB1.out) hxl hvl hL)
    rw [HKN.out] at HME
    have HR1 := hid (HBO.out hst)
    have HR2 := hid (HBP.out hst)
    have HG := hid hg
    have HZU := hid (ris_up hrz)
    have HRV := hid hrv
    rw [hst]
    clear hst hg hap hrx hry hrz hrv hnd hap3 HBE HBO HBP HKN
    go_wp2_with fail
    refine HME.out.mono ?_
    rintro e w2 ⟨kv, rfl, hkv, hb2⟩
    obtain ⟨dk, ck, rfl, hik⟩ := hkv.ints
    have HB2 := hid (HB1.out.trans (hb2.mono HB1.out.size))
    have HIK := hid hik
    have HCU := hid (rCutL a bx none ca cx 0 L x [] w2 (HL.out.below HB2.out) HLL.out hL (HX.out.below HB2.out) (fun k hk => absurd hk (by simp)) hxl (by simp))
    clear hb2 hkv hik HME HB1
    generalize togL x v = kn at *
    go_wp2_with fail
    refine HCU.out.mono ?_
    rintro e w3 ⟨R, cap, rfl, hL3, hb3⟩
    have HB3 := hid (HB2.out.trans (hb3.mono HB2.out.size))
    have HK3 := hid (HIK.out.below hb3)
    have HL3 := hid hL3
    have HC1 : Hid (gcE (cutG L x []) = 0) := cutG_gc HG.out x []
    have HC2 : Hid (∀ l ∈ cutG L x [], l.length ≤ 1000) := cutG_len HLL.out
    have HC3 : Hid ((cutG L x []).length = L.length) := cutG_length _ _ _
    clear hb3 hL3 HCU HB2 HIK
    by_cases hk1 : k = 1
    · subst hk1
      have HRE := hid (HR1.out (.inl rfl))
      have hG : rlG L 1 x z v = cutG L x [] := by rw [rlG, if_pos rfl]
      rw [hG] at HRE
      clear hG
      have HAP := hid (HTA.out R cap (cutG L x []) w3 HB3.out HL3.out HC3.out HC1.out HC2.out dk ck HK3.out)
      generalize opX (cutG L x []) y z kn = q at *
      go_wp2_with fail
      refine HAP.out.mono ?_
      rintro e w9 ⟨rfl, hb9⟩
      have HB9 := hid (HB3.out.trans (hb9.mono HB3.out.size))
      clear hb9
      go_wp2
      go_ret2
      exact ⟨by rw [← HRE.out.1, ← HRE.out.2]; rfl, HB9.out⟩
    · by_cases hk2 : k = 2
      · subst hk2
        have HRE := hid (HR1.out (.inr (.inl rfl)))
        have hG : rlG L 2 x z v = cutG (cutG L x []) [] z := by rw [rlG, if_neg (by decide), if_pos rfl]
        rw [hG] at HRE
        have HCV := hid (rCutL R none bz cap 0 cz (cutG L x []) [] z w3 HL3.out HC2.out (by rw [HC3.out]; exact hL) (fun k hk => absurd hk (by simp)) (HZ.out.below HB3.out) (by simp) hzl)
        rw [HC3.out] at HCV
        have HD1 : Hid (gcE (cutG (cutG L x []) [] z) = 0) := cutG_gc HC1.out [] z
        have HD2 : Hid (∀ l ∈ cutG (cutG L x []) [] z, l.length ≤ 1000) := cutG_len HC2.out
        have HD3 : Hid ((cutG (cutG L x []) [] z).length = L.length) := (cutG_length _ _ _).trans HC3.out
        generalize cutG (cutG L x []) [] z = G2 at *
        clear hG
        go_wp2_with fail
        refine HCV.out.mono ?_
        rintro e w4 ⟨R4, cap4, rfl, hL4, hb4⟩
        have HB4 := hid (HB3.out.trans (hb4.mono HB3.out.size))
        have HAP := hid (HTA.out R4 cap4 G2 w4 HB4.out hL4 HD3.out HD1.out HD2.out dk ck (HK3.out.below hb4))
        clear hb4 hL4 HCV
        generalize opX G2 y z kn = q at *
        go_wp2_with fail
        refine HAP.out.mono ?_
        rintro e w9 ⟨rfl, hb9⟩
        have HB9 := hid (HB4.out.trans (hb9.mono HB4.out.size))
        clear hb9
        go_wp2
        go_ret2
        exact ⟨by rw [← HRE.out.1, ← HRE.out.2]; rfl, HB9.out⟩
      · by_cases hk3 : k = 3
        · subst hk3
          have HRE := hid (HR1.out (.inr (.inr rfl)))
          have hG : rlG L 3 x z v = cutG (cutG L x []) (freeL (cutG L x []) z v) [] := by rw [rlG, if_neg (by decide), if_neg (by decide)]
          rw [hG] at HRE
          have HAO : Hid (∀ (t : Nat) (U : World), Below w3.heap.size w3 U → Calls Try.prog 41 #[.slice R L.length cap, .int .i64 (t : Nat), .slice bv v.length cv] U fun e w' => e = .returned (.bool (abO (cutG L x []) t (toN v))) ∧ w' = U) := fun t U hU => by
            have := aboveOne_any R bv cap cv (cutG L x []) v U (HL3.out.below hU) HC2.out HC1.out ((HV.out.below HB3.out).below hU) hvl (by rw [HC3.out]; exact fun u hu => up_mem (ris_up HRV.out) hu) t
            rwa [HC3.out] at this
          have HFR : Hid (∀ (i t : Nat) (hi : i < z.length), z[i] = (t : Int) → (abO (cutG L x []) t (toN v) = true → freeT (cutG L x []) z v (i + 1) = freeT (cutG L x []) z v i) ∧ (abO (cutG L x []) t (toN v) = false → freeT (cutG L x []) z v (i + 1) = freeT (cutG L x []) z v i ++ [z[i]])) := fun i t hi ht => by
            have hzi := HZU.out.each i hi
            have hin := free_in (L := cutG L x []) (v := v) (t := t) HC1.out (by rw [HC3.out]; exact HRV.out) (by rw [HC3.out]; omega)
            rw [← ht] at hin
            refine ⟨fun e => freeT_no hi (hin.1 e), fun e => freeT_yes hi fun hm => ?_⟩
            rw [hin.2 hm] at e
            cases e
          have HF0 : Hid (freeT (cutG L x []) z v 0 = []) := by show _ = _; rw [freeT]; rfl
          have HFA := hid (freeT_all (cutG L x []) z v)
          have HFL := hid (freeT_len (cutG L x []) z v)
          have HFN : Hid ((freeL (cutG L x []) z v).length ≤ 1000) := Nat.le_trans (oth_len _ _) hzl
          have HCV : Hid (∀ (d : Option Addr) (cd : Nat) (U : World), Below w3.heap.size w3 U → IntS U d (freeL (cutG L x []) z v) → Calls Try.prog 66 #[.slice R L.length cap, .slice d (freeL (cutG L x []) z v).length cd, .slice none 0 0] U fun e w' => ∃ R cap, e = .returned (.slice R L.length cap) ∧ LsS w' R (cutG (cutG L x []) (freeL (cutG L x []) z v) []) ∧ Below U.heap.size U w') := fun d cd U hU hd => by
            have := rCutL R d none cap cd 0 (cutG L x []) (freeL (cutG L x []) z v) [] U (HL3.out.below hU) HC2.out (by rw [HC3.out]; exact hL) hd (fun k hk => absurd hk (by simp)) HFN.out (by simp)
            rwa [HC3.out] at this
          have HD1 : Hid (gcE (cutG (cutG L x []) (freeL (cutG L x []) z v) []) = 0) := cutG_gc HC1.out _ _
          have HD2 : Hid (∀ l ∈ cutG (cutG L x []) (freeL (cutG L x []) z v) [], l.length ≤ 1000) := cutG_len HC2.out
          have HD3 : Hid ((cutG (cutG L x []) (freeL (cutG L x []) z v) []).length = L.length) := (cutG_length _ _ _).trans HC3.out
          obtain ⟨T, hT⟩ : ∃ T : Nat → List Int, freeT (cutG L x []) z v = T := ⟨_, rfl⟩
          obtain ⟨AO, hAO⟩ : ∃ AO : Nat → Bool, ∀ t, abO (cutG L x []) t (toN v) = AO t := ⟨fun t => abO (cutG L x []) t (toN v), fun _ => rfl⟩
          simp only [hT, hAO] at HAO HFR HF0 HFA HFL
          generalize cutG (cutG L x []) (freeL (cutG L x []) z v) [] = G3 at *
          generalize freeL (cutG L x []) z v = fl at *
          clear hG hT hAO HC1 HC2 HC3 HFN
          go_wp2_with fail
          go_loopw [17, 18] (fun fv iv wr => ∃ i : Nat, i ≤ z.length ∧ iv = .int .i64 i ∧ Hid (RwI wr w3.heap.size fv (T i)) ∧ Hid (Below w3.heap.size w3 wr)) (fun _ iv _ => z.length - (intOf iv).toNat)
          case atStart => exact ⟨0, Nat.zero_le _, rfl, by rw [HF0.out]; exact ⟨rfl, .inl ⟨rfl, rfl⟩⟩, Below.refl _ _⟩
          case round =>
            obtain ⟨i, hi, rfl, HR, HW⟩ := hrel
            by_cases hlt : i < z.length
            · have HWB := hid (HB3.out.trans (HW.out.mono HB3.out.size))
              obtain ⟨g, o, rfl, hg, hc⟩ := HZ.out i hlt
              have hzi := HZU.out.each i hlt
              obtain ⟨t, ht⟩ : ∃ t : Nat, z[i] = (t : Int) := ⟨z[i].toNat, by omega⟩
              have kc := (HWB.out.cell (p := ⟨g, _, none⟩) hg).trans hc
              rw [ht] at kc
              have HFi := hid (HFR.out i t hlt ht)
              rw [ht] at HFi
              have HAt := hid (HAO.out t wr HW.out)
              generalize AO t = q at *
              clear hc ht hzi
              go_wp2_with fail
              refine HAt.out.mono ?_
              rintro e wq ⟨rfl, hwq⟩
              rw [hwq]
              clear hwq wq HAt
              cases q with
              | true =>
                have HE := hid (HFi.out.1 rfl)
                go_wp2
                go_roundw
                case rel => exact ⟨i + 1, by omega, by go_num, by rw [HE.out]; exact HR, HW⟩
                case measure => simp [intOf]; omega
              | false =>
                have HE := hid (HFi.out.2 rfl)
                have HOWN := hid HR.out.own
                have HRA := hid (World.ownsRow.alloc HR.out (.cells #[.int .i64 (t : Nat)] 3))
                have HBA := hid (HW.out.alloc HW.out.size (.cells #[.int .i64 (t : Nat)] 3))
                have HIA := hid (one_int wr (t : Nat))
                have hle := HFL.out i
                go_wp2_with (at_builtin; refine wpList_append_ints rfl _ _ rfl w3.heap.size _ (T i) [((t : Nat) : Int)] rfl HRA.out (some ⟨wr.heap.size, 0, none⟩) 1 rfl HIA.out (fun e => by cases e) (by simp; omega) HBA.out.size ?_; intro v' w7 hr7 hg7)
                have HR7 : Hid (RwI w7 w3.heap.size v' (T (i + 1))) := by rw [HE.out]; exact hr7
                have HB7 := hid (HBA.out.grown hg7 HBA.out.size HOWN.out)
                clear hr7 hg7
                go_wp2
                go_roundw
                case rel => exact ⟨i + 1, by omega, by go_num, HR7, HB7⟩
                case measure => simp [intOf]; omega
            · obtain rfl : i = z.length := by omega
              rw [HFA.out] at HR
              obtain ⟨d5, c5, rfl, hi5⟩ := HR.out.ints
              have HCW := hid (HCV.out d5 c5 wr HW.out hi5)
              clear hi5
              go_wp2_with fail
              refine HCW.out.mono ?_
              rintro e w6 ⟨R6, cap6, rfl, hL6, hb6⟩
              have HB6 := hid (HB3.out.trans ((HW.out.trans (hb6.mono HW.out.size)).mono HB3.out.size))
              have HAP := hid (HTA.out R6 cap6 G3 w6 HB6.out hL6 HD3.out HD1.out HD2.out dk ck ((HK3.out.below HW.out).below hb6))
              clear hb6 hL6 HCW
              generalize opX G3 y z kn = q at *
              go_wp2_with fail
              refine HAP.out.mono ?_
              rintro e w9 ⟨rfl, hb9⟩
              have HB9 := hid (HB6.out.trans (hb9.mono HB6.out.size))
              clear hb9
              go_wp2
              go_ret2
              exact ⟨by rw [← HRE.out.1, ← HRE.out.2]; rfl, HB9.out⟩
        · have HRE := hid (HR2.out (fun e => e.elim hk1 fun e => e.elim hk2 hk3))
          go_wp2
          go_ret2
          exact ⟨by rw [← HRE.out.1, ← HRE.out.2]; rfl, HB3.out⟩
  · have HE := hid (HBE.out hst)
    have hgb : (stE L [x, y, z, v] == 0) = false := by simpa using hst
    clear hst HBE HBO HBP
    generalize stE L [x, y, z, v] = st at *
    go_wp2
    go_ret2
    exact ⟨by rw [← HE.out.1, ← HE.out.2]; rfl, HB1.out⟩
end Go.Proofs.Ytockhhleapbpiaa

