/- The document's answer of chapter 8: Rule. -/
import Derived.Test.YthcfgoknphpkdaaRcAToRcC
import Derived.Test.YthcfgoknphpkdaaTreDToWayA
import Derived.Test.YthcfgoknphpkdaaOrdCToAbvB
namespace Go.Proofs.Ythcfgoknphpkdaa
open Go.RowKit Go.Shelf

/-- Those of z that are free, as far as the i-th. -/
def freeT (L : List (List Int)) (z v : List Int) (i : Nat) : List Int := (z.take i).filter fun u => decide (¬ u ∈ memL (abS (parN L) (toN v) L.length))
theorem free_in {L : List (List Int)} {v : List Int} {t : Nat} (h : gcE L = 0) (hr : risB v L.length = true) (ht : t < L.length) : abO L t (toN v) = true ↔ ((t : Nat) : Int) ∈ memL (abS (parN L) (toN v) L.length) := by
  have h8 := (gB_parts (gc_parts h).1).2.1
  have hm : (memL (abS (parN L) (toN v) L.length)).contains ((t : Nat) : Int) = decide (t ∈ abS (parN L) (toN v) L.length) := memL_has (by omega)
  refine (abO_iff h h8 (up_lt (ris_up hr)) t).trans ⟨fun hi => List.contains_iff_mem.1 (by rw [hm]; exact decide_eq_true hi), fun hi => of_decide_eq_true (by rw [← hm]; exact List.contains_iff_mem.2 hi)⟩
theorem freeT_yes {L : List (List Int)} {z v : List Int} {i : Nat} (hi : i < z.length) (h : ¬ z[i] ∈ memL (abS (parN L) (toN v) L.length)) : freeT L z v (i + 1) = freeT L z v i ++ [z[i]] := by
  rw [freeT, freeT, List.take_succ_eq_append_getElem hi, List.filter_append]
  simp [h]
theorem freeT_no {L : List (List Int)} {z v : List Int} {i : Nat} (hi : i < z.length) (h : z[i] ∈ memL (abS (parN L) (toN v) L.length)) : freeT L z v (i + 1) = freeT L z v i := by
  rw [freeT, freeT, List.take_succ_eq_append_getElem hi, List.filter_append]
  simp [h]
theorem freeT_all (L : List (List Int)) (z v : List Int) : freeT L z v z.length = freeL L z v := by rw [freeT, List.take_length]; rfl
theorem freeT_len (L : List (List Int)) (z v : List Int) (i : Nat) : (freeT L z v i).length ≤ i := by
  have h1 := List.length_filter_le (fun u => decide (¬ u ∈ memL (abS (parN L) (toN v) L.length))) (z.take i)
  have h2 := List.length_take_le i z
  rw [freeT]
  omega

set_option maxRecDepth 100000 in
set_option maxHeartbeats 1000000 in
theorem rRule_any (a bx by' bz bv : Option Addr) (ca cx cy cz cv : Nat) (L : List (List Int)) (k : Int) (x y z v : List Int) (w : World) (h : LsS w a L) (hl : ∀ l ∈ L, l.length ≤ 1000) (hL : L.length ≤ 1000) (hx : IntS w bx x) (hy : IntS w by' y) (hz : IntS w bz z) (hv : IntS w bv v) (hxl : x.length ≤ 1000) (hyl : y.length ≤ 1000) (hzl : z.length ≤ 1000) (hvl : v.length ≤ 1000) :
    Calls Try.prog 19 #[.slice a L.length ca, .int .i64 k, .slice bx x.length cx, .slice by' y.length cy, .slice bz z.length cz, .slice bv v.length cv] w fun e w' => e = .returned (.tuple #[.bool (rlA L k x y z v).1, .int .i64 (rlA L k x y z v).2]) ∧ Below w.heap.size w w' := by
  have hA3 := (Below.refl w.heap.size w).alloc (Nat.le_refl _) (.cells #[.slice bx x.length cx, .slice by' y.length cy, .slice bz z.length cz, .slice bv v.length cv] 23)
  have HST := hid (rSetsOK_any a (some ⟨w.heap.size, 0, none⟩) ca 4 L [x, y, z, v] _ (h.below hA3) hl hL (four_lists (c0 := cx) (c1 := cy) (c2 := cz) (c3 := cv) hx hy hz hv) (fun l hl' => by
    simp only [List.mem_cons, List.not_mem_nil, or_false] at hl'
    rcases hl' with rfl | rfl | rfl | rfl <;> assumption) (by simp))
  have HA3 := hid hA3
  have HX := hid hx
  have HY := hid hy
  have HZ := hid hz
  have HV := hid hv
  have HL := hid h
  have HLL := hid hl
  obtain ⟨rb, re, hre⟩ : ∃ rb re, rlA L k x y z v = (rb, re) := ⟨_, _, rfl⟩
  have HBE : Hid (stE L [x, y, z, v] ≠ 0 → false = rb ∧ stE L [x, y, z, v] = re) := fun e => by
    rw [rlA, if_neg e] at hre
    exact Prod.mk.inj hre
  have HBO : Hid (stE L [x, y, z, v] = 0 → (k = 1 ∨ k = 2 ∨ k = 3) → (!opX (rlG L k x z v) y z (togL x v)) = rb ∧ 0 = re) := fun e e2 => by
    rw [rlA, if_pos e, if_pos e2] at hre
    exact Prod.mk.inj hre
  have HBP : Hid (stE L [x, y, z, v] = 0 → ¬ (k = 1 ∨ k = 2 ∨ k = 3) → false = rb ∧ 15 = re) := fun e e2 => by
    rw [rlA, if_pos e, if_neg e2] at hre
    exact Prod.mk.inj hre
  rw [hre]
  show Calls Try.prog 19 #[.slice a L.length ca, .int .i64 k, .slice bx x.length cx, .slice by' y.length cy, .slice bz z.length cz, .slice bv v.length cv] w fun e w' => e = .returned (.tuple #[.bool rb, .int .i64 re]) ∧ Below w.heap.size w w'
  clear hre hA3 h hl hx hy hz hv
  go_enter Try.func19, Try.ntmps19
  go_wp2_with fail
  refine HST.out.mono ?_
  rintro e w1 ⟨rfl, hb1⟩
  have HB1 := hid (HA3.out.trans (hb1.mono HA3.out.size))
  clear hb1 HST HA3
  by_cases hst : stE L [x, y, z, v] = 0
  · obtain ⟨hg, hap⟩ := stE_ok hst
    obtain ⟨⟨hrx, hry, hrz, hrv⟩, hnd, hap3⟩ := rule_parts hap
    have HKN : Hid (iL (bothN L.length x v) = togL x v) := (togL_both (ris_up hrx) (ris_up hrv)).symm
    have HTL : Hid ((togL x v).length ≤ L.length) := tog_len hrx hrv
    have HTA : Hid (∀ (R : Option Addr) (cap : Nat) (G : List (List Int)) (U : World), Below w.heap.size w U → LsS U R G → G.length = L.length → gcE G = 0 → (∀ l ∈ G, l.length ≤ 1000) → ∀ (d : Option Addr) (cd : Nat), IntS U d (togL x v) → Calls Try.prog 14 #[.slice R L.length cap, .slice by' y.length cy, .slice bz z.length cz, .slice d (togL x v).length cd] U fun e w' => e = .returned (.tuple #[.bool (!opX G y z (togL x v)), .int .i64 0]) ∧ Below U.heap.size U w') := fun R cap G U hU hG hGl hgg hGm d cd hd => by
      have := HTL.out
      exact rApartG R by' bz d cap cy cz cd L.length G y z (togL x v) U hGl hG hGm (HY.out.below hU) (HZ.out.below hU) hd hyl hzl (by omega) hgg hap3
    have HME := hid (rMerged_any bx bv cx cv L.length x v w1 (HX.out.below HB1.out) (HV.out.below HB1.out) hxl hvl hL)
    rw [HKN.out] at HME
    have HR1 := hid (HBO.out hst)
    have HR2 := hid (HBP.out hst)
    have HG := hid hg
    have HZU := hid (ris_up hrz)
    have HRV := hid hrv
    rw [hst]
    clear hst hg hap hrx hry hrz hrv hnd hap3 HBE HBO HBP HKN
    go_wp2_with fail
    refine HME.out.mono ?_
    rintro e w2 ⟨kv, rfl, hkv, hb2⟩
    obtain ⟨dk, ck, rfl, hik⟩ := hkv.ints
    have HB2 := hid (HB1.out.trans (hb2.mono HB1.out.size))
    have HIK := hid hik
    have HCU := hid (rCutL a bx none ca cx 0 L x [] w2 (HL.out.below HB2.out) HLL.out hL (HX.out.below HB2.out) (fun k hk => absurd hk (by simp)) hxl (by simp))
    clear hb2 hkv hik HME HB1
    generalize togL x v = kn at *
    go_wp2_with fail
    refine HCU.out.mono ?_
    rintro e w3 ⟨R, cap, rfl, hL3, hb3⟩
    have HB3 := hid (HB2.out.trans (hb3.mono HB2.out.size))
    have HK3 := hid (HIK.out.below hb3)
    have HL3 := hid hL3
    have HC1 : Hid (gcE (cutG L x []) = 0) := cutG_gc HG.out x []
    have HC2 : Hid (∀ l ∈ cutG L x [], l.length ≤ 1000) := cutG_len HLL.out
    have HC3 : Hid ((cutG L x []).length = L.length) := cutG_length _ _ _
    clear hb3 hL3 HCU HB2 HIK
    by_cases hk1 : k = 1
    · subst hk1
      have HRE := hid (HR1.out (.inl rfl))
      have hG : rlG L 1 x z v = cutG L x [] := by rw [rlG, if_pos rfl]
      rw [hG] at HRE
      clear hG
      have HAP := hid (HTA.out R cap (cutG L x []) w3 HB3.out HL3.out HC3.out HC1.out HC2.out dk ck HK3.out)
      generalize opX (cutG L x []) y z kn = q at *
      go_wp2_with fail
      refine HAP.out.mono ?_
      rintro e w9 ⟨rfl, hb9⟩
      have HB9 := hid (HB3.out.trans (hb9.mono HB3.out.size))
      clear hb9
      go_wp2
      go_ret2
      exact ⟨by rw [← HRE.out.1, ← HRE.out.2]; rfl, HB9.out⟩
    · by_cases hk2 : k = 2
      · subst hk2
        have HRE := hid (HR1.out (.inr (.inl rfl)))
        have hG : rlG L 2 x z v = cutG (cutG L x []) [] z := by rw [rlG, if_neg (by decide), if_pos rfl]
        rw [hG] at HRE
        have HCV := hid (rCutL R none bz cap 0 cz (cutG L x []) [] z w3 HL3.out HC2.out (by rw [HC3.out]; exact hL) (fun k hk => absurd hk (by simp)) (HZ.out.below HB3.out) (by simp) hzl)
        rw [HC3.out] at HCV
        have HD1 : Hid (gcE (cutG (cutG L x []) [] z) = 0) := cutG_gc HC1.out [] z
        have HD2 : Hid (∀ l ∈ cutG (cutG L x []) [] z, l.length ≤ 1000) := cutG_len HC2.out
        have HD3 : Hid ((cutG (cutG L x []) [] z).length = L.length) := (cutG_length _ _ _).trans HC3.out
        generalize cutG (cutG L x []) [] z = G2 at *
        clear hG
        go_wp2_with fail
        refine HCV.out.mono ?_
        rintro e w4 ⟨R4, cap4, rfl, hL4, hb4⟩
        have HB4 := hid (HB3.out.trans (hb4.mono HB3.out.size))
        have HAP := hid (HTA.out R4 cap4 G2 w4 HB4.out hL4 HD3.out HD1.out HD2.out dk ck (HK3.out.below hb4))
        clear hb4 hL4 HCV
        generalize opX G2 y z kn = q at *
        go_wp2_with fail
        refine HAP.out.mono ?_
        rintro e w9 ⟨rfl, hb9⟩
        have HB9 := hid (HB4.out.trans (hb9.mono HB4.out.size))
        clear hb9
        go_wp2
        go_ret2
        exact ⟨by rw [← HRE.out.1, ← HRE.out.2]; rfl, HB9.out⟩
      · by_cases hk3 : k = 3
        · subst hk3
          have HRE := hid (HR1.out (.inr (.inr rfl)))
          have hG : rlG L 3 x z v = cutG (cutG L x []) (freeL (cutG L x []) z v) [] := by rw [rlG, if_neg (by decide), if_neg (by decide)]
          rw [hG] at HRE
          have HAO : Hid (∀ (t : Nat) (U : World), Below w3.heap.size w3 U → Calls Try.prog 32 #[.slice R L.length cap, .int .i64 (t : Nat), .slice bv v.length cv] U fun e w' => e = .returned (.bool (abO (cutG L x []) t (toN v))) ∧ w' = U) := fun t U hU => by
            have := aboveOne_any R bv cap cv (cutG L x []) v U (HL3.out.below hU) HC2.out HC1.out ((HV.out.below HB3.out).below hU) hvl (by rw [HC3.out]; exact fun u hu => up_mem (ris_up HRV.out) hu) t
            rwa [HC3.out] at this
          have HFR : Hid (∀ (i t : Nat) (hi : i < z.length), z[i] = (t : Int) → (abO (cutG L x []) t (toN v) = true → freeT (cutG L x []) z v (i + 1) = freeT (cutG L x []) z v i) ∧ (abO (cutG L x []) t (toN v) = false → freeT (cutG L x []) z v (i + 1) = freeT (cutG L x []) z v i ++ [z[i]])) := fun i t hi ht => by
            have hzi := HZU.out.each i hi
            have hin := free_in (L := cutG L x []) (v := v) (t := t) HC1.out (by rw [HC3.out]; exact HRV.out) (by rw [HC3.out]; omega)
            rw [← ht] at hin
            refine ⟨fun e => freeT_no hi (hin.1 e), fun e => freeT_yes hi fun hm => ?_⟩
            rw [hin.2 hm] at e
            cases e
          have HF0 : Hid (freeT (cutG L x []) z v 0 = []) := by show _ = _; rw [freeT]; rfl
          have HFA := hid (freeT_all (cutG L x []) z v)
          have HFL := hid (freeT_len (cutG L x []) z v)
          have HFN : Hid ((freeL (cutG L x []) z v).length ≤ 1000) := Nat.le_trans (oth_len _ _) hzl
          have HCV : Hid (∀ (d : Option Addr) (cd : Nat) (U : World), Below w3.heap.size w3 U → IntS U d (freeL (cutG L x []) z v) → Calls Try.prog 49 #[.slice R L.length cap, .slice d (freeL (cutG L x []) z v).length cd, .slice none 0 0] U fun e w' => ∃ R cap, e = .returned (.slice R L.length cap) ∧ LsS w' R (cutG (cutG L x []) (freeL (cutG L x []) z v) []) ∧ Below U.heap.size U w') := fun d cd U hU hd => by
            have := rCutL R d none cap cd 0 (cutG L x []) (freeL (cutG L x []) z v) [] U (HL3.out.below hU) HC2.out (by rw [HC3.out]; exact hL) hd (fun k hk => absurd hk (by simp)) HFN.out (by simp)
            rwa [HC3.out] at this
          have HD1 : Hid (gcE (cutG (cutG L x []) (freeL (cutG L x []) z v) []) = 0) := cutG_gc HC1.out _ _
          have HD2 : Hid (∀ l ∈ cutG (cutG L x []) (freeL (cutG L x []) z v) [], l.length ≤ 1000) := cutG_len HC2.out
          have HD3 : Hid ((cutG (cutG L x []) (freeL (cutG L x []) z v) []).length = L.length) := (cutG_length _ _ _).trans HC3.out
          obtain ⟨T, hT⟩ : ∃ T : Nat → List Int, freeT (cutG L x []) z v = T := ⟨_, rfl⟩
          obtain ⟨AO, hAO⟩ : ∃ AO : Nat → Bool, ∀ t, abO (cutG L x []) t (toN v) = AO t := ⟨fun t => abO (cutG L x []) t (toN v), fun _ => rfl⟩
          simp only [hT, hAO] at HAO HFR HF0 HFA HFL
          generalize cutG (cutG L x []) (freeL (cutG L x []) z v) [] = G3 at *
          generalize freeL (cutG L x []) z v = fl at *
          clear hG hT hAO HC1 HC2 HC3 HFN
          go_wp2_with fail
          go_loopw [17, 18] (fun fv iv wr => ∃ i : Nat, i ≤ z.length ∧ iv = .int .i64 i ∧ Hid (RwI wr w3.heap.size fv (T i)) ∧ Hid (Below w3.heap.size w3 wr)) (fun _ iv _ => z.length - (intOf iv).toNat)
          case atStart => exact ⟨0, Nat.zero_le _, rfl, by rw [HF0.out]; exact ⟨rfl, .inl ⟨rfl, rfl⟩⟩, Below.refl _ _⟩
          case round =>
            obtain ⟨i, hi, rfl, HR, HW⟩ := hrel
            by_cases hlt : i < z.length
            · have HWB := hid (HB3.out.trans (HW.out.mono HB3.out.size))
              obtain ⟨g, o, rfl, hg, hc⟩ := HZ.out i hlt
              have hzi := HZU.out.each i hlt
              obtain ⟨t, ht⟩ : ∃ t : Nat, z[i] = (t : Int) := ⟨z[i].toNat, by omega⟩
              have kc := (HWB.out.cell (p := ⟨g, _, none⟩) hg).trans hc
              rw [ht] at kc
              have HFi := hid (HFR.out i t hlt ht)
              rw [ht] at HFi
              have HAt := hid (HAO.out t wr HW.out)
              generalize AO t = q at *
              clear hc ht hzi
              go_wp2_with fail
              refine HAt.out.mono ?_
              rintro e wq ⟨rfl, hwq⟩
              rw [hwq]
              clear hwq wq HAt
              cases q with
              | true =>
                have HE := hid (HFi.out.1 rfl)
                go_wp2
                go_roundw
                case rel => exact ⟨i + 1, by omega, by go_num, by rw [HE.out]; exact HR, HW⟩
                case measure => simp [intOf]; omega
              | false =>
                have HE := hid (HFi.out.2 rfl)
                have HOWN := hid HR.out.own
                have HRA := hid (World.ownsRow.alloc HR.out (.cells #[.int .i64 (t : Nat)] 3))
                have HBA := hid (HW.out.alloc HW.out.size (.cells #[.int .i64 (t : Nat)] 3))
                have HIA := hid (one_int wr (t : Nat))
                have hle := HFL.out i
                go_wp2_with (at_builtin; refine wpList_append_ints rfl _ _ rfl w3.heap.size _ (T i) [((t : Nat) : Int)] rfl HRA.out (some ⟨wr.heap.size, 0, none⟩) 1 rfl HIA.out (fun e => by cases e) (by simp; omega) HBA.out.size ?_; intro v' w7 hr7 hg7)
                have HR7 : Hid (RwI w7 w3.heap.size v' (T (i + 1))) := by rw [HE.out]; exact hr7
                have HB7 := hid (HBA.out.grown hg7 HBA.out.size HOWN.out)
                clear hr7 hg7
                go_wp2
                go_roundw
                case rel => exact ⟨i + 1, by omega, by go_num, HR7, HB7⟩
                case measure => simp [intOf]; omega
            · obtain rfl : i = z.length := by omega
              rw [HFA.out] at HR
              obtain ⟨d5, c5, rfl, hi5⟩ := HR.out.ints
              have HCW := hid (HCV.out d5 c5 wr HW.out hi5)
              clear hi5
              go_wp2_with fail
              refine HCW.out.mono ?_
              rintro e w6 ⟨R6, cap6, rfl, hL6, hb6⟩
              have HB6 := hid (HB3.out.trans ((HW.out.trans (hb6.mono HW.out.size)).mono HB3.out.size))
              have HAP := hid (HTA.out R6 cap6 G3 w6 HB6.out hL6 HD3.out HD1.out HD2.out dk ck ((HK3.out.below HW.out).below hb6))
              clear hb6 hL6 HCW
              generalize opX G3 y z kn = q at *
              go_wp2_with fail
              refine HAP.out.mono ?_
              rintro e w9 ⟨rfl, hb9⟩
              have HB9 := hid (HB6.out.trans (hb9.mono HB6.out.size))
              clear hb9
              go_wp2
              go_ret2
              exact ⟨by rw [← HRE.out.1, ← HRE.out.2]; rfl, HB9.out⟩
        · have HRE := hid (HR2.out (fun e => e.elim hk1 fun e => e.elim hk2 hk3))
          go_wp2
          go_ret2
          exact ⟨by rw [← HRE.out.1, ← HRE.out.2]; rfl, HB3.out⟩
  · have HE := hid (HBE.out hst)
    have hgb : (stE L [x, y, z, v] == 0) = false := by simpa using hst
    clear hst HBE HBO HBP
    generalize stE L [x, y, z, v] = st at *
    go_wp2
    go_ret2
    exact ⟨by rw [← HE.out.1, ← HE.out.2]; rfl, HB1.out⟩
end Go.Proofs.Ythcfgoknphpkdaa


/- Plain: what fill does and what the document says of it come to the same: edges that lack, the first least, bags, who is near whom. -/
namespace Go.Proofs.Ythcfgoknphpkdaa
open Go.RowKit Go.Shelf

/-- The bag of a step, as a list that rises. -/
def bagN (P : List (List Nat)) (n k : Nat) : List Nat := memU (outV P n k :: (flS P n k).nei.getD (outV P n k) []) 8
/-- The matrix of edges, step by step: edges come in, none goes. -/
def emB (P : List (List Nat)) (n : Nat) : Nat → Nat → Nat → Bool
  | 0, v, u => decide (u ∈ P.getD v [])
  | k + 1, v, u => emB P n k v u || (decide (v ≠ u) && (decide (v ∈ bagN P n k) && decide (u ∈ bagN P n k)))
theorem flS_seq (P : List (List Nat)) (n : Nat) : ∀ k, (flS P n k).ord = (List.range k).map (outV P n)
  | 0 => rfl
  | k + 1 => by rw [List.range_succ, List.map_append, ← flS_seq P n k]; rfl
theorem flS_bags (P : List (List Nat)) (n k : Nat) : (flS P n k).bag.map memL = (List.range k).map fun i => iL (bagN P n i) := by rw [flS_ord, List.map_map]; rfl
theorem FI.gone {P : List (List Nat)} {n k : Nat} (h : FI P n k) {v : Nat} (hv : v < n) : v ∈ (flS P n k).lft ↔ ¬ v ∈ (List.range k).map (outV P n) := by
  rw [h.left]
  constructor
  · rintro ⟨_, h2⟩ hm
    obtain ⟨i, hi, e⟩ := List.mem_map.1 hm
    exact h2 i (List.mem_range.1 hi) e
  · exact fun hm => ⟨hv, fun i hi e => hm (List.mem_map.2 ⟨i, List.mem_range.2 hi, e⟩)⟩
theorem FI.bag {P : List (List Nat)} {n k : Nat} (h : FI P n k) (hk : k < n) (h8 : n ≤ 8) {u : Nat} : u ∈ bagN P n k ↔ u = outV P n k ∨ u ∈ (flS P n k).nei.getD (outV P n k) [] := by
  have hv := h.here hk h8
  rw [bagN, memU_mem, List.mem_cons]
  refine ⟨fun h => h.2, fun hu => ⟨?_, hu⟩⟩
  rcases hu with e | hu
  · have := ((h.left _).1 hv).1; omega
  · have := ((h.left _).1 (h.sym _ hv u hu).1).1; omega
theorem FI.em {P : List (List Nat)} {n : Nat} (hN : Nbr n P) (hF : ∀ k, k ≤ n → FI P n k) (h8 : n ≤ 8) : ∀ k, k ≤ n → ∀ u w, u ∈ (flS P n k).lft → w ∈ (flS P n k).lft → (emB P n k u w = true ↔ w ∈ (flS P n k).nei.getD u [])
  | 0, _, u, w, _, _ => by rw [emB, decide_eq_true_iff]; exact Iff.rfl
  | k + 1, hk, u, w, hu, hw => by
    have h := hF k (by omega)
    have hl : ∀ x, x ∈ (flS P n (k + 1)).lft ↔ x ∈ (flS P n k).lft ∧ x ≠ outV P n k := fun x => by
      show x ∈ (flS P n k).lft.filter (fun u => decide (u ≠ outV P n k)) ↔ _
      rw [List.mem_filter, decide_eq_true_iff]
    obtain ⟨u1, u2⟩ := (hl u).1 hu
    obtain ⟨w1, w2⟩ := (hl w).1 hw
    have hv := h.here (by omega) h8
    rw [h.next hN (by omega) h8 u1 u2, emB, Bool.or_eq_true, FI.em hN hF h8 k (by omega) u w u1 w1, Bool.and_eq_true, Bool.and_eq_true, decide_eq_true_iff, decide_eq_true_iff, decide_eq_true_iff, h.bag (by omega) h8, h.bag (by omega) h8]
    constructor
    · rintro (a | ⟨a, b, c⟩)
      · exact ⟨w2, (h.sym u u1 w a).2.2, .inl a⟩
      · exact ⟨w2, a, .inr ⟨(h.sym _ hv u (b.resolve_left u2)).2.1, c.resolve_left w2⟩⟩
    · rintro ⟨_, a, b | b⟩
      · exact .inl b
      · exact .inr ⟨a, .inr (h.sym u u1 _ b.1).2.1, .inr b.2⟩
/-- How many, as far as m. -/
def cntB (f : Nat → Bool) : Nat → Nat
  | 0 => 0
  | m + 1 => cntB f m + (if f m = true then 1 else 0)
/-- How many pairs, the first the greater one, as far as m. -/
def prsB (f : Nat → Nat → Bool) : Nat → Nat
  | 0 => 0
  | m + 1 => prsB f m + cntB (f m) m
def sumN (f : Nat → Nat) : Nat → Nat
  | 0 => 0
  | m + 1 => sumN f m + f m
theorem cntB_congr {f g : Nat → Bool} : ∀ {m : Nat}, (∀ x, x < m → f x = g x) → cntB f m = cntB g m
  | 0, _ => rfl
  | m + 1, h => by rw [cntB, cntB, cntB_congr fun x hx => h x (by omega), h m (by omega)]
theorem prsB_congr {f g : Nat → Nat → Bool} : ∀ {m : Nat}, (∀ x y, x < m → y < x → f x y = g x y) → prsB f m = prsB g m
  | 0, _ => rfl
  | m + 1, h => by rw [prsB, prsB, prsB_congr fun x y hx hy => h x y (by omega) hy, cntB_congr fun y hy => h m y (by omega) hy]
theorem sumN_congr {f g : Nat → Nat} : ∀ {m : Nat}, (∀ x, x < m → f x = g x) → sumN f m = sumN g m
  | 0, _ => rfl
  | m + 1, h => by rw [sumN, sumN, sumN_congr fun x hx => h x (by omega), h m (by omega)]
theorem sumN_add (f g : Nat → Nat) : ∀ m, sumN (fun x => f x + g x) m = sumN f m + sumN g m
  | 0 => rfl
  | m + 1 => by rw [sumN, sumN, sumN, sumN_add f g m]; omega
theorem cntB_none {f : Nat → Bool} : ∀ {m : Nat}, (∀ x, x < m → f x = false) → cntB f m = 0
  | 0, _ => rfl
  | m + 1, h => by rw [cntB, cntB_none fun x hx => h x (by omega), h m (by omega)]; rfl
theorem sum_ind (f : Nat → Bool) : ∀ m, sumN (fun x => if f x = true then 1 else 0) m = cntB f m
  | 0 => rfl
  | m + 1 => by rw [sumN, cntB, sum_ind f m]
/-- Pairs counted from both ends. -/
theorem both_ends {g : Nat → Nat → Bool} (hs : ∀ a b, g a b = g b a) (hi : ∀ a, g a a = false) : ∀ m, sumN (fun u => cntB (g u) m) m = 2 * prsB g m
  | 0 => rfl
  | m + 1 => by
    have ih := both_ends hs hi m
    have e1 : sumN (fun u => cntB (g u) (m + 1)) m = sumN (fun u => cntB (g u) m) m + cntB (g m) m := by
      have : sumN (fun u => cntB (g u) (m + 1)) m = sumN (fun u => cntB (g u) m + (if g u m = true then 1 else 0)) m := rfl
      rw [this, sumN_add, sum_ind fun u => g u m]
      congr 1
      exact cntB_congr fun x _ => hs x m
    have e2 : cntB (g m) (m + 1) = cntB (g m) m := by rw [cntB, hi]; rfl
    rw [sumN, e1, e2, ih, prsB]
    omega
theorem prsB_wide {g : Nat → Nat → Bool} {n : Nat} (h : ∀ a b, g a b = true → a < n) : ∀ d, prsB g (n + d) = prsB g n
  | 0 => rfl
  | d + 1 => by
    have e : cntB (g (n + d)) (n + d) = 0 := cntB_none fun x _ => by
      cases hg : g (n + d) x
      · rfl
      · have := h _ _ hg; omega
    rw [show n + (d + 1) = (n + d) + 1 by omega, prsB, e, prsB_wide h d, Nat.add_zero]
theorem memU_cnt (s : List Nat) : ∀ k, (memU s k).length = cntB (fun x => decide (x ∈ s)) k
  | 0 => rfl
  | k + 1 => by
    by_cases h : k ∈ s
    · rw [memU_yes h, List.length_append, memU_cnt s k, cntB, if_pos (decide_eq_true h)]; rfl
    · rw [memU_no h, memU_cnt s k, cntB, if_neg (by rw [decide_eq_true_iff]; exact h), Nat.add_zero]
theorem endsN_sum (B : List (List Nat)) (v : Nat) : ∀ k, endsN B v k = sumN (fun u => if u ∈ B.getD v [] then lackE B v u else 0) k
  | 0 => by simp [endsN, memU, sumN]
  | k + 1 => by
    by_cases h : k ∈ B.getD v []
    · rw [endsN, memU_yes h, List.map_append, List.sum_append, sumN, if_pos h, ← endsN_sum B v k, endsN]; simp
    · rw [endsN, memU_no h, sumN, if_neg h, ← endsN_sum B v k, endsN, Nat.add_zero]
/-- What the document's answer counts. -/
def lkF (e : Nat → Nat → Bool) (o : List Nat) (v a b : Nat) : Bool := !decide (a ∈ o) && (!decide (b ∈ o) && (e v a && (e v b && !e a b)))
theorem FI.lacks {P : List (List Nat)} {n k : Nat} (hN : Nbr n P) (hF : ∀ k, k ≤ n → FI P n k) (h8 : n ≤ 8) (hk : k ≤ n) {v : Nat} (hv : v ∈ (flS P n k).lft) : prsB (lkF (emB P n k) ((List.range k).map (outV P n)) v) n = lackN (flS P n k).nei v := by
  have h := hF k hk
  have hem := FI.em hN hF h8 k hk
  let g : Nat → Nat → Bool := fun a b => decide (a ∈ (flS P n k).nei.getD v []) && (decide (b ∈ (flS P n k).nei.getD v []) && (decide (a ≠ b) && !decide (b ∈ (flS P n k).nei.getD a [])))
  have hlft : ∀ a, a ∈ (flS P n k).nei.getD v [] → a ∈ (flS P n k).lft := fun a ha => (h.sym v hv a ha).1
  have hg : ∀ a b, g a b = true ↔ a ∈ (flS P n k).nei.getD v [] ∧ b ∈ (flS P n k).nei.getD v [] ∧ a ≠ b ∧ ¬ b ∈ (flS P n k).nei.getD a [] := fun a b => by
    show (decide _ && (decide _ && (decide _ && !decide _))) = true ↔ _
    rw [Bool.and_eq_true, Bool.and_eq_true, Bool.and_eq_true, Bool.not_eq_true', decide_eq_true_iff, decide_eq_true_iff, decide_eq_true_iff, decide_eq_false_iff_not]
  have hgs : ∀ a b, g a b = g b a := fun a b => Bool.eq_iff_iff.2 <| by
    rw [hg, hg]
    exact ⟨fun ⟨p, q, r, s⟩ => ⟨q, p, fun e => r e.symm, fun hm => s (h.sym b (hlft b q) a hm).2.1⟩, fun ⟨p, q, r, s⟩ => ⟨q, p, fun e => r e.symm, fun hm => s (h.sym a (hlft a q) b hm).2.1⟩⟩
  have hgi : ∀ a, g a a = false := fun a => by
    cases e : g a a
    · rfl
    · exact absurd rfl ((hg a a).1 e).2.2.1
  have hln : ∀ a b, g a b = true → a < n := fun a b e => ((h.left a).1 (hlft a ((hg a b).1 e).1)).1
  have e1 : prsB (lkF (emB P n k) ((List.range k).map (outV P n)) v) n = prsB g n := prsB_congr fun a b ha hb => by
    refine Bool.eq_iff_iff.2 ?_
    rw [hg, lkF, Bool.and_eq_true, Bool.and_eq_true, Bool.and_eq_true, Bool.and_eq_true, Bool.not_eq_true', Bool.not_eq_true', Bool.not_eq_true', decide_eq_false_iff_not, decide_eq_false_iff_not, ← h.gone ha, ← h.gone (show b < n by omega)]
    constructor
    · rintro ⟨p, q, r, s, t⟩
      refine ⟨(hem v a hv p).1 r, (hem v b hv q).1 s, by omega, fun hm => ?_⟩
      rw [(hem a b p q).2 hm] at t
      cases t
    · rintro ⟨p, q, r, s⟩
      refine ⟨hlft a p, hlft b q, (hem v a hv (hlft a p)).2 p, (hem v b hv (hlft b q)).2 q, ?_⟩
      cases e : emB P n k a b
      · rfl
      · exact absurd ((hem a b (hlft a p) (hlft b q)).1 e) s
  have e2 : prsB g 8 = prsB g n := by
    have := prsB_wide hln (8 - n)
    rwa [show n + (8 - n) = 8 by omega] at this
  have e3 : endsN (flS P n k).nei v 8 = sumN (fun u => cntB (g u) 8) 8 := by
    rw [endsN_sum]
    refine sumN_congr fun u _ => ?_
    by_cases hu : u ∈ (flS P n k).nei.getD v []
    · rw [if_pos hu, lackE, memU_cnt]
      refine cntB_congr fun x _ => Bool.eq_iff_iff.2 ?_
      rw [hg, decide_eq_true_iff, List.mem_filter, List.mem_filter, decide_eq_true_iff, decide_eq_true_iff]
      exact ⟨fun ⟨⟨a, b⟩, c⟩ => ⟨hu, a, fun e => c e.symm, b⟩, fun ⟨_, a, b, c⟩ => ⟨⟨a, c⟩, fun e => b e.symm⟩⟩
    · rw [if_neg hu]
      refine (cntB_none fun x _ => ?_).symm
      cases e : g u x
      · rfl
      · exact absurd ((hg u x).1 e).1 hu
  rw [e1, lackN, e3, both_ends hgs hgi, e2]
  omega
/-- The first least from j on, found from the last on. -/
def dnN (f : Nat → Nat) (s : List Nat) (n : Nat) : Nat → Option (Nat × Nat)
  | 0 => none
  | d + 1 => if n - 1 - d ∈ s then (match dnN f s n d with | none => some (n - 1 - d, f (n - 1 - d)) | some (b, m) => if f (n - 1 - d) ≤ m then some (n - 1 - d, f (n - 1 - d)) else some (b, m)) else dnN f s n d
/-- A first least one. -/
def FLs (f : Nat → Nat) (s : List Nat) (lo hi : Nat) (r : Option (Nat × Nat)) : Prop := match r with
  | none => ∀ x, x ∈ s → lo ≤ x → x < hi → False
  | some (b, m) => m = f b ∧ b ∈ s ∧ lo ≤ b ∧ b < hi ∧ ∀ x, x ∈ s → lo ≤ x → x < hi → f b < f x ∨ (f b = f x ∧ b ≤ x)
theorem FLs.one {f : Nat → Nat} {s : List Nat} {lo hi : Nat} {r r' : Option (Nat × Nat)} (h : FLs f s lo hi r) (h' : FLs f s lo hi r') : r = r' := by
  cases r with
  | none =>
    cases r' with
    | none => rfl
    | some p =>
      obtain ⟨b, m⟩ := p
      exact (h b h'.2.1 h'.2.2.1 h'.2.2.2.1).elim
  | some p =>
    obtain ⟨b, m⟩ := p
    cases r' with
    | none => exact (h' b h.2.1 h.2.2.1 h.2.2.2.1).elim
    | some p' =>
      obtain ⟨b', m'⟩ := p'
      obtain ⟨rfl, a2, a3, a4, a5⟩ := h
      obtain ⟨rfl, c2, c3, c4, c5⟩ := h'
      have h1 := a5 b' c2 c3 c4
      have h2 := c5 b a2 a3 a4
      obtain rfl : b = b' := by omega
      rfl
theorem fwN_spec {f : Nat → Nat} {s : List Nat} : ∀ k, FLs f s 0 k (fwN f s k)
  | 0 => fun x _ _ h => absurd h (Nat.not_lt_zero _)
  | k + 1 => by
    have ih := fwN_spec (f := f) (s := s) k
    rw [fwN]
    by_cases hk : k ∈ s
    · rw [if_pos hk]
      cases hf : fwN f s k with
      | none =>
        rw [hf] at ih
        refine ⟨rfl, hk, Nat.zero_le _, by omega, fun x hx h0 hl => ?_⟩
        rcases Nat.lt_or_ge x k with h | h
        · exact (ih x hx h0 h).elim
        · exact .inr ⟨by rw [show x = k by omega], h⟩
      | some p =>
        obtain ⟨b, m⟩ := p
        rw [hf] at ih
        obtain ⟨rfl, a2, a3, a4, a5⟩ := ih
        simp only
        by_cases hl : f k < f b
        · rw [if_pos hl]
          refine ⟨rfl, hk, Nat.zero_le _, by omega, fun x hx h0 hx' => ?_⟩
          rcases Nat.lt_or_ge x k with h | h
          · have := a5 x hx h0 h; omega
          · exact .inr ⟨by rw [show x = k by omega], h⟩
        · rw [if_neg hl]
          refine ⟨rfl, a2, a3, by omega, fun x hx h0 hx' => ?_⟩
          rcases Nat.lt_or_ge x k with h | h
          · exact a5 x hx h0 h
          · obtain rfl : x = k := by omega
            omega
    · rw [if_neg hk]
      revert ih
      cases fwN f s k with
      | none =>
        intro ih x hx h0 hx'
        rcases Nat.lt_or_ge x k with h | h
        · exact ih x hx h0 h
        · exact hk (by rw [show k = x by omega]; exact hx)
      | some p =>
        obtain ⟨b, m⟩ := p
        rintro ⟨a1, a2, a3, a4, a5⟩
        refine ⟨a1, a2, a3, by omega, fun x hx h0 hx' => ?_⟩
        rcases Nat.lt_or_ge x k with h | h
        · exact a5 x hx h0 h
        · exact absurd (by rw [show k = x by omega]; exact hx) hk
theorem dnN_spec {f : Nat → Nat} {s : List Nat} {n : Nat} : ∀ d, d ≤ n → FLs f s (n - d) n (dnN f s n d)
  | 0, _ => fun x _ h h' => by omega
  | d + 1, hd => by
    have ih := dnN_spec (f := f) (s := s) (n := n) d (by omega)
    rw [dnN]
    generalize hj : n - 1 - d = j
    have hj1 : n - d = j + 1 := by omega
    have hj2 : n - (d + 1) = j := by omega
    rw [hj1] at ih
    rw [hj2]
    by_cases hk : j ∈ s
    · rw [if_pos hk]
      cases hf : dnN f s n d with
      | none =>
        rw [hf] at ih
        refine ⟨rfl, hk, Nat.le_refl _, by omega, fun x hx h0 hl => ?_⟩
        rcases Nat.lt_or_ge j x with h | h
        · exact (ih x hx h hl).elim
        · exact .inr ⟨by rw [show x = j by omega], h0⟩
      | some p =>
        obtain ⟨b, m⟩ := p
        rw [hf] at ih
        obtain ⟨rfl, a2, a3, a4, a5⟩ := ih
        simp only
        by_cases hl : f j ≤ f b
        · rw [if_pos hl]
          refine ⟨rfl, hk, Nat.le_refl _, by omega, fun x hx h0 hx' => ?_⟩
          rcases Nat.lt_or_ge j x with h | h
          · have := a5 x hx h hx'; omega
          · exact .inr ⟨by rw [show x = j by omega], h0⟩
        · rw [if_neg hl]
          refine ⟨rfl, a2, by omega, a4, fun x hx h0 hx' => ?_⟩
          rcases Nat.lt_or_ge j x with h | h
          · exact a5 x hx h hx'
          · obtain rfl : x = j := by omega
            omega
    · rw [if_neg hk]
      revert ih
      cases dnN f s n d with
      | none =>
        intro ih x hx h0 hx'
        rcases Nat.lt_or_ge j x with h | h
        · exact ih x hx h hx'
        · exact hk (by rw [show j = x by omega]; exact hx)
      | some p =>
        obtain ⟨b, m⟩ := p
        rintro ⟨a1, a2, a3, a4, a5⟩
        refine ⟨a1, a2, by omega, a4, fun x hx h0 hx' => ?_⟩
        rcases Nat.lt_or_ge j x with h | h
        · exact a5 x hx h hx'
        · exact absurd (by rw [show j = x by omega]; exact hx) hk
theorem dn_few {P : List (List Nat)} {s : List Nat} {n : Nat} (h8 : n ≤ 8) (hs : ∀ u ∈ s, u < n) : fwB (dnN (lackN P) s n n) = fewV P s := by
  have h1 := dnN_spec (f := lackN P) (s := s) (n := n) n (Nat.le_refl _)
  have h2 := fwN_spec (f := lackN P) (s := s) 8
  rw [Nat.sub_self] at h1
  rw [fewV]
  congr 1
  refine h1.one (hi := n) ?_
  revert h2
  cases fwN (lackN P) s 8 with
  | none => exact fun h x hx h0 hl => h x hx h0 (by omega)
  | some p =>
    obtain ⟨b, m⟩ := p
    rintro ⟨a1, a2, a3, a4, a5⟩
    exact ⟨a1, a2, a3, hs b a2, fun x hx h0 hl => a5 x hx h0 (by omega)⟩
/-- The bag as the document's answer gathers it, as far as u. -/
def bgL (P : List (List Nat)) (n k u : Nat) : List Nat := (List.range u).filter fun u => !decide (u ∈ (List.range k).map (outV P n)) && (decide (u = outV P n k) || emB P n k (outV P n k) u)
theorem FI.bgL {P : List (List Nat)} {n k : Nat} (hN : Nbr n P) (hF : ∀ k, k ≤ n → FI P n k) (h8 : n ≤ 8) (hk : k < n) : bgL P n k n = bagN P n k := by
  have h := hF k (by omega)
  have hv := h.here hk h8
  have hem := FI.em hN hF h8 k (by omega)
  have e : ∀ d, memU (outV P n k :: (flS P n k).nei.getD (outV P n k) []) (n + d) = memU (outV P n k :: (flS P n k).nei.getD (outV P n k) []) n := fun d => by
    induction d with
    | zero => rfl
    | succ d ih =>
      rw [show n + (d + 1) = (n + d) + 1 by omega, memU_no, ih]
      intro hm
      rcases List.mem_cons.1 hm with e | hm
      · have := ((h.left _).1 hv).1; omega
      · have := ((h.left _).1 (h.sym _ hv _ hm).1).1; omega
  have e8 := e (8 - n)
  rw [show n + (8 - n) = 8 by omega] at e8
  rw [bagN, e8, Go.Proofs.Ythcfgoknphpkdaa.bgL, memU]
  refine List.filter_congr fun u hu => Bool.eq_iff_iff.2 ?_
  have hu' := List.mem_range.1 hu
  rw [Bool.and_eq_true, Bool.or_eq_true, Bool.not_eq_true', decide_eq_false_iff_not, decide_eq_true_iff, decide_eq_true_iff, List.mem_cons, ← h.gone hu']
  constructor
  · rintro ⟨a, b | b⟩
    · exact .inl b
    · exact .inr ((hem _ u hv a).1 b)
  · rintro (b | b)
    · exact ⟨by rw [b]; exact hv, .inl b⟩
    · exact ⟨(h.sym _ hv u b).1, .inr ((hem _ u hv (h.sym _ hv u b).1).2 b)⟩
/-- Neighbours of neighbours. -/
theorem near_iff {L : List (List Int)} (hg : gB L = true) : nearB L = true ↔ ∀ v u, v < L.length → u < L.length → (decide (u ∈ (parN L).getD v []) = decide (v ∈ (parN L).getD u [])) := by
  rw [nearB, hg, Bool.true_and, decide_eq_true_iff, masks_par]
  have hl : ∀ v, v < L.length → v < (parN L).length := fun v hv => by rw [parN_length]; exact hv
  have hlt := par_lt hg
  have hat : ∀ v, v < L.length → ∀ u, u ∈ (parN L).getD v [] → u < L.length := fun v hv u hu => by
    rw [List.getD_eq_getElem?_getD, List.getElem?_eq_getElem (hl v hv)] at hu
    exact hlt _ (List.getElem_mem (hl v hv)) u hu
  have key : ∀ v, v < L.length → ((((parN L).map mskN)[v]? = ((chA (parN L) L.length L.length).map mskN)[v]?) ↔ ∀ u, u < L.length → (decide (u ∈ (parN L).getD v []) = decide (v ∈ (parN L).getD u []))) := fun v hv => by
    have e1 : ((parN L).map mskN)[v]? = some (mskN ((parN L).getD v [])) := by rw [List.getElem?_map, List.getD_eq_getElem?_getD, List.getElem?_eq_getElem (hl v hv)]; rfl
    have e2 : ((chA (parN L) L.length L.length).map mskN)[v]? = some (mskN (chL (parN L) v L.length)) := by simp [chA, hv]
    rw [e1, e2]
    constructor
    · intro e u hu
      have e' := Option.some.inj e
      have h1 := msk_bit ((parN L).getD v []) u
      have h2 := msk_bit (chL (parN L) v L.length) u
      rw [← h1, e', h2, decide_eq_decide, chL_mem]
      exact ⟨fun h => h.2, fun h => ⟨hu, h⟩⟩
    · intro h
      congr 1
      refine msk_ext fun u => ?_
      rw [chL_mem]
      constructor
      · intro hu
        have := hat v hv u hu
        exact ⟨this, (decide_eq_decide.1 (h u this)).1 hu⟩
      · exact fun hu => (decide_eq_decide.1 (h u hu.1)).2 hu.2
  constructor
  · intro e v u hv hu
    exact (key v hv).1 (by rw [e]) u hu
  · intro h
    refine List.ext_getElem? fun v => ?_
    rcases Nat.lt_or_ge v L.length with hv | hv
    · exact (key v hv).2 fun u hu => h v u hv hu
    · rw [List.getElem?_eq_none (by rw [List.length_map, parN_length]; exact hv), List.getElem?_eq_none (by rw [List.length_map, chA_length]; exact hv)]
end Go.Proofs.Ythcfgoknphpkdaa

