/- The document's answer: Tree. (Made by mkflt.py of flt.base.) -/
import Derived.Test.YtockhhleapbpiaaFilFOwn
import Derived.BigQuiet
import Derived.Deep.RegionHeld3
import Derived.Laws.EntriesVeiled
namespace Go.Proofs.Ytockhhleapbpiaa
open Go.RowKit Go.Shelf

set_option maxRecDepth 100000 in
set_option maxHeartbeats 400000 in
theorem rTree_any (a : Option Addr) (ca : Nat) (L : List (List Int)) (w : World) (h : LsS w a L) (hl : ∀ l ∈ L, l.length ≤ 1000) (hL : L.length ≤ 1000) :
    Calls Try.prog 23 #[.slice a L.length ca] w fun e w' => Below w.heap.size w w' ∧
      ((bagsB L = true ∧ ∃ x y Ks P, e = .returned (.tuple #[x, y, .int .i64 0]) ∧ OwI w' w.heap.size x Ks ∧ Ks.map (·.2) = (ousL (parN L) L.length).map memL ∧ OwK w' w.heap.size y P ∧ P.map pk3 = lkL (ousL (parN L) L.length) ((ousL (parN L) L.length).length - 1)) ∨ (bagsB L = false ∧ e = .returned (.tuple #[.slice none 0 0, .slice none 0 0, .int .i64 11]))) := by
  have HBL := hid (fun h => bags_len (L := L) h)
  by_cases hlen : 1 ≤ L.length ∧ L.length ≤ 8
  · obtain ⟨hl1, hl8⟩ := hlen
    have hi1 : decide (((L.length : Nat) : Int) < 1) = false := decide_eq_false (by omega)
    have hi2 : decide ((8 : Int) < ((L.length : Nat) : Int)) = false := decide_eq_false (by omega)
    have HLV : Hid (∀ U : World, Below w.heap.size w U → ∃ g o, a = some ⟨g, o, none⟩ ∧ ∀ k, k < L.length → ∃ b c, U.cell? ⟨g, o + k, none⟩ = some (.slice b (L.getD k []).length c) ∧ IntS U b (L.getD k [])) := fun U hb => by
      obtain ⟨g, o, b, c, h1, h2, h3, h4⟩ := h 0 (by omega)
      refine ⟨g, o, h1, fun k hk => ?_⟩
      obtain ⟨g', o', b', c', e1, e2, e3, e4⟩ := h k hk
      rw [h1] at e1
      cases e1
      have hgd : L.getD k [] = L[k] := by rw [List.getD_eq_getElem?_getD, List.getElem?_eq_getElem hk]; rfl
      rw [hgd]
      exact ⟨b', c', (hb.cell (p := ⟨g, _, none⟩) e2).trans e3, e4.below hb⟩
    have HLL : Hid (∀ k, (L.getD k []).length ≤ 1000) := fun k => by
      by_cases hk : k < L.length
      · rw [List.getD_eq_getElem?_getD, List.getElem?_eq_getElem hk]; exact hl _ (List.getElem_mem hk)
      · rw [List.getD_eq_getElem?_getD, List.getElem?_eq_none (by omega)]; exact Nat.zero_le _
    have HRI : Hid (∀ (k : Nat) (b : Option Addr) (c : Nat) (U : World), IntS U b (L.getD k []) → Calls Try.prog 40 #[.slice b (L.getD k []).length c, .int .i64 8] U fun e w' => e = .returned (.bool (risB (L.getD k []) 8)) ∧ Below U.heap.size U w') := fun k b c U hi => rRising_any b c (L.getD k []) 8 U hi (by have := HLL.out k; omega)
    have HIS : Hid (∀ (i k : Nat) (b b' : Option Addr) (c c' : Nat) (U : World), IntS U b (L.getD i []) → IntS U b' (L.getD k []) → Calls Try.prog 56 #[.slice b (L.getD i []).length c, .slice b' (L.getD k []).length c'] U fun e w' => e = .returned (.bool ((L.getD i []).all fun z => inB z (L.getD k []))) ∧ w' = U) := fun i k b b' c c' U h1 h2 => inside_any b b' c c' _ _ U h1 h2 (HLL.out i) (HLL.out k)
    have HB1 : Hid (∀ i, i < L.length → risB (L.getD i []) 8 = false → bagsB L = false) := fun i hi e => bags_ris hi (by rw [← e, List.getD_eq_getElem?_getD, List.getElem?_eq_getElem hi]; rfl)
    have HB2 : Hid (∀ i, i < L.length → L.getD i [] = [] → bagsB L = false) := fun i hi e => bags_nil hi (by rw [← e, List.getD_eq_getElem?_getD, List.getElem?_eq_getElem hi]; rfl)
    have HB3 : Hid ((∀ i, i < L.length → risB (L.getD i []) 8 = true ∧ L.getD i [] ≠ []) → bagsB L = true ∧ allRis L 8 = true) := fun h => bags_good ⟨hl1, hl8⟩ fun i hi => by
      have := h i hi
      rw [List.getD_eq_getElem?_getD, List.getElem?_eq_getElem hi] at this
      exact this
    have HKY : Hid (∀ i, covR L i L.length = false → kpL L (i + 1) = kpL L i ++ [L.getD i []]) := fun i h => kpL_yes h
    have HKN : Hid (∀ i, covR L i L.length = true → kpL L (i + 1) = kpL L i) := fun i h => kpL_no h
    have HKO : Hid (allRis L 8 = true → ∀ i, kpL L i = (ousL (parN L) i).map memL) := fun h i => kpL_ous h i
    have HKL : Hid (∀ i, (kpL L i).length ≤ i) := fun i => by
      have := List.length_filter_le (fun j => !covR L j L.length) (List.range i)
      rw [List.length_range] at this
      show (((List.range i).filter fun j => !covR L j L.length).map fun j => L.getD j []).length ≤ i
      rw [List.length_map]
      exact this
    have HC0 : Hid (∀ i, covR L i 0 = false) := fun i => rfl
    have HCS : Hid (∀ i k, covR L i (k + 1) = (covR L i k || (decide (k ≠ i) && ((L.getD i []).all (fun x => inB x (L.getD k [])) && (decide ((L.getD i []).length < (L.getD k []).length) || decide (k < i)))))) := fun i k => rfl
    have HOP : Hid (allRis L 8 = true → 0 < (ousL (parN L) L.length).length ∧ (ousL (parN L) L.length).length ≤ 8) := fun h => by
      have hp : ∀ p ∈ parN L, ∀ u ∈ p, u < 8 := fun p hp u hu => by
        obtain ⟨l, hl', rfl⟩ := List.mem_map.1 hp
        obtain ⟨i, hi, rfl⟩ := List.getElem_of_mem hl'
        exact ris_all (Nat.le_refl _) (allRis_at h hi) u hu
      have h1 := ous_pos (B := parN L) (by rw [parN_length]; omega) hp
      have h2 := ousL_len (parN L) L.length
      rw [parN_length] at h1
      exact ⟨h1, by omega⟩
    have HK0 : Hid (kpL L 0 = []) := rfl
    clear h hl
    obtain ⟨F, hF⟩ : ∃ F : Nat → List Int, ∀ k, L.getD k [] = F k := ⟨fun k => L.getD k [], fun _ => rfl⟩
    simp only [hF] at HLV HLL HRI HIS HB1 HB2 HB3 HKY HCS
    clear hF
    go_enter Try.func23, Try.ntmps23
    go_wp2_with fail
    go_loopw [5, 6] (fun kv iv wr => ∃ (i : Nat) (Ks : List PI2), i ≤ L.length ∧ iv = .int .i64 i ∧ Hid (OwI wr w.heap.size kv Ks) ∧ Hid (Ks.map (·.2) = kpL L i) ∧ Hid (Below w.heap.size w wr) ∧ Hid (∀ j, j < i → risB (F j) 8 = true ∧ F j ≠ [])) (fun _ iv _ => L.length - (intOf iv).toNat)
    case atStart => exact ⟨0, [], Nat.zero_le _, rfl, OwI.nil _ _, by rw [HK0.out]; rfl, Below.refl _ _, fun j hj => absurd hj (Nat.not_lt_zero _)⟩
    case round =>
      obtain ⟨i, Ks, hi, rfl, HO, HS, HB, HG⟩ := hrel
      by_cases hil : i < L.length
      · obtain ⟨g, o, rfl, hlk⟩ := HLV.out wr HB.out
        obtain ⟨b, c, c0, hI⟩ := hlk i hil
        have HR := hid (HRI.out i b c wr hI)
        have HB1i := hid (HB1.out i hil)
        have HB2i := hid (HB2.out i hil)
        clear hlk hI
        go_wp2_with fail
        refine HR.out.mono ?_
        rintro e w1 ⟨rfl, hb1⟩
        have HBw := hid (HB.out.trans (hb1.mono HB.out.size))
        have HOw := hid (HO.out.below hb1)
        clear hb1 HR HRI
        obtain ⟨g', o', he, hlk⟩ := HLV.out w1 HBw.out
        cases he
        obtain ⟨b1, c1, k0, hI⟩ := hlk i hil
        clear hlk c0
        cases hq : risB (F i) 8 with
        | false =>
          have HE := hid (HB1i.out hq)
          clear hq
          go_wp2
          go_ret3
          exact ⟨HBw.out, .inr ⟨HE.out, rfl⟩⟩
        | true =>
          by_cases hz : (F i).length = 0
          · have HE := hid (HB2i.out (List.length_eq_zero_iff.1 hz))
            have hzi : ((((F i).length : Nat) : Int) == 0) = true := by rw [hz]; rfl
            clear hq hz
            go_wp2
            go_ret3
            exact ⟨HBw.out, .inr ⟨HE.out, rfl⟩⟩
          · have hzi : ((((F i).length : Nat) : Int) == 0) = false := beq_eq_false_iff_ne.2 (by omega)
            have HGN : Hid (∀ j, j < i + 1 → risB (F j) 8 = true ∧ F j ≠ []) := fun j hj => by
              rcases Nat.lt_or_ge j i with h1 | h1
              · exact HG.out j h1
              · rw [show j = i by omega]
                exact ⟨hq, fun e => hz (by rw [e]; rfl)⟩
            clear hq HG HB1i HB2i HB HO hI
            generalize w1 = V at *
            go_wp2_with fail
            go_loopw [8, 9] (fun bv kv wq => ∃ k : Nat, k ≤ L.length ∧ kv = .int .i64 k ∧ bv = .bool (covR L i k) ∧ Hid (Below V.heap.size V wq)) (fun _ kv _ => L.length - (intOf kv).toNat)
            case atStart => exact ⟨0, Nat.zero_le _, rfl, by rw [HC0.out], Below.refl _ _⟩
            case round =>
              obtain ⟨k, hk, rfl, rfl, HBV⟩ := hrel
              clear k0
              have HBU := hid (HBw.out.trans (HBV.out.mono HBw.out.size))
              obtain ⟨g', o', he, hlk⟩ := HLV.out wr HBU.out
              cases he
              obtain ⟨bi, ci, m0, hIi⟩ := hlk i hil
              by_cases hkl : k < L.length
              · obtain ⟨bk, ck, m1, hIk⟩ := hlk k hkl
                have HIC := hid (fun n' => HIS.out i k bi bk ci ck (wr.drewN n') (hIi.below (below_drewN (Below.refl _ wr) n')) (hIk.below (below_drewN (Below.refl _ wr) n')))
                have HBD := hid (fun n' => below_drewN HBV.out n')
                have HN := hid (HCS.out i k)
                generalize covR L i k = q0 at *
                generalize hl2 : (F k).length = lk at *
                generalize hl3 : (F i).length = li at *
                generalize ((F i).all fun z => inB z (F k)) = q1 at *
                clear hlk hIi hIk hl2 hl3 HBU
                by_cases hki : k = i
                · have hne : (((k : Nat) : Int) != ((i : Nat) : Int)) = false := by rw [hki]; exact bne_self_eq_false _
                  have HE : Hid (covR L i (k + 1) = q0) := by show _ = _; rw [HN.out, decide_eq_false (fun h => h hki)]; simp
                  clear hki HN
                  go_wp2_with fail
                  go_quiet ((go_at_call 56; refine Calls.quiet_of_same (HIC.out _)))
                  go_wp2_with fail
                  go_quiet (fail)
                  go_wp2
                  go_roundw
                  case rel => exact ⟨k + 1, by omega, by go_num, by rw [HE.out], HBD.out _⟩
                  case measure => simp [intOf]; omega
                · have hne : (((k : Nat) : Int) != ((i : Nat) : Int)) = true := by
                    have : ¬ ((k : Nat) : Int) = ((i : Nat) : Int) := by omega
                    simpa using this
                  rw [decide_eq_true hki, Bool.true_and] at HN
                  cases q1 with
                  | false =>
                    have HE : Hid (covR L i (k + 1) = q0) := by show _ = _; rw [HN.out]; simp
                    clear hki HN
                    go_wp2_with fail
                    go_quiet ((go_at_call 56; refine Calls.quiet_of_same (HIC.out _)))
                    go_wp2_with fail
                    go_quiet (fail)
                    go_wp2
                    go_roundw
                    case rel => exact ⟨k + 1, by omega, by go_num, by rw [HE.out], HBD.out _⟩
                    case measure => simp [intOf]; omega
                  | true =>
                    rw [Bool.true_and] at HN
                    by_cases hlt : li < lk
                    · have HE : Hid (covR L i (k + 1) = true) := by show _ = _; rw [HN.out, decide_eq_true hlt]; simp
                      clear hki HN
                      go_wp2_with fail
                      go_quiet ((go_at_call 56; refine Calls.quiet_of_same (HIC.out _)))
                      go_wp2_with fail
                      go_quiet (fail)
                      go_wp2
                      go_roundw
                      case rel => exact ⟨k + 1, by omega, by go_num, by rw [HE.out], HBD.out _⟩
                      case measure => simp [intOf]; omega
                    · rw [decide_eq_false hlt, Bool.false_or] at HN
                      by_cases hkl' : k < i
                      · have HE : Hid (covR L i (k + 1) = true) := by show _ = _; rw [HN.out, decide_eq_true hkl']; simp
                        clear hki HN
                        go_wp2_with fail
                        go_quiet ((go_at_call 56; refine Calls.quiet_of_same (HIC.out _)))
                        go_wp2_with fail
                        go_quiet (fail)
                        go_wp2
                        go_roundw
                        case rel => exact ⟨k + 1, by omega, by go_num, by rw [HE.out], HBD.out _⟩
                        case measure => simp [intOf]; omega
                      · have HE : Hid (covR L i (k + 1) = q0) := by show _ = _; rw [HN.out, decide_eq_false hkl']; simp
                        clear hki HN
                        go_wp2_with fail
                        go_quiet ((go_at_call 56; refine Calls.quiet_of_same (HIC.out _)))
                        go_wp2_with fail
                        go_quiet (fail)
                        go_wp2
                        go_roundw
                        case rel => exact ⟨k + 1, by omega, by go_num, by rw [HE.out], HBD.out _⟩
                        case measure => simp [intOf]; omega
              · obtain rfl : k = L.length := by omega
                cases hcov : covR L i L.length with
                | true =>
                  have HE := hid (HKN.out i hcov)
                  have HOu := hid (HOw.out.below HBV.out)
                  clear hcov hlk
                  go_wp2
                  go_roundw
                  case rel => exact ⟨i + 1, Ks, by omega, by go_num, HOu, by rw [HE.out]; exact HS, HBU, HGN⟩
                  case measure => simp [intOf]; omega
                | false =>
                  have HE := hid (HKY.out i hcov)
                  have HOu := hid (HOw.out.below HBV.out)
                  have hKl : Ks.length ≤ 8 := by
                    have h1 := congrArg List.length HS.out
                    have h2 := HKL.out i
                    rw [List.length_map] at h1
                    omega
                  clear hcov hlk
                  have hbe : Below wr.heap.size wr (wr.alloc (.cells #[] 3)) := (Below.refl _ wr).alloc (Nat.le_refl _) _
                  have hRe : RwI (wr.alloc (.cells #[] 3)) wr.heap.size (.slice (some ⟨wr.heap.size, 0, none⟩) 0 0) [] := ⟨rfl, .inr ⟨wr.heap.size, 0, #[], rfl, Nat.le_refl _, heap_alloc_new _ _, Nat.le_refl _, Nat.zero_le _, rfl, rfl⟩⟩
                  have m1 : (wr.alloc (.cells #[] 3)).cell? ⟨g, o + i, none⟩ = some (.slice bi (F i).length ci) := (hbe.cell (p := ⟨g, o + i, none⟩) (cell_in m0)).trans m0
                  have HIe := hid (hIi.below hbe)
                  have HRe := hid hRe
                  have HBE := hid hbe
                  have hse := hbe.size
                  have hll := HLL.out i
                  have hbin : bi = none → ci = 0 := fun e => by
                    obtain ⟨g1, o1, h1, -⟩ := hIi 0 (by omega)
                    rw [e] at h1
                    cases h1
                  clear hbe hRe hIi m0
                  go_wp2_with (first
                    | (at_builtin; refine wpList_append_ints rfl _ _ rfl wr.heap.size _ [] (F i) rfl HRe.out bi ci rfl HIe.out hbin (by simp; omega) hse ?_; intro v6 w6 hr6 hg6; rw [List.nil_append] at hr6; obtain ⟨d6, cd6, rfl, -⟩ := hr6.ints; have hb6 : Below wr.heap.size wr w6 := HBE.out.trans ((Below.refl _ _).grown hg6 hse (fun k e => by cases e; exact Nat.le_refl _)); have hO6 : OwI w6 w.heap.size u5 Ks := HOu.out.below hb6; have hbA := (Below.refl w6.heap.size w6).alloc (Nat.le_refl _) (.cells #[.slice d6 (F i).length cd6] 23); have HO7 := hid (hO6.below hbA); have HX7 := hid (own_low (hr6.under hbA) HBU.out.size); have HL6 := HBU.out.trans (hb6.mono HBU.out.size); have HL7 := hid (HL6.trans (hbA.mono HL6.size)); have HOC7 := hid (one_cell w6 (.slice d6 (F i).length cd6) 23); clear hr6 hg6 hb6 hO6 hbA HL6)
                    | (at_builtin; refine wpList_append_list rfl _ _ rfl w.heap.size _ Ks d6 (F i).length cd6 rfl HO7.out.1 w6.heap.size rfl HOC7.out (by omega) HL7.out.size ?_; intro v8 w8 hr8 hg8))
                  have HO8 := hid (OwI.push HO7.out HX7.out hr8 hg8)
                  have HL8 := hid (HL7.out.grown hg8 HL7.out.size (own_from HO7.out.1))
                  have HS8 : Hid ((Ks ++ [((Value.slice d6 (F i).length cd6, F i) : PI2)]).map (·.2) = kpL L (i + 1)) := by show _ = _; rw [HE.out, List.map_append, HS.out]; rfl
                  clear hr8 hg8 HO7 HX7 HL7 HOC7
                  go_wp2
                  go_roundw
                  case rel => exact ⟨i + 1, _, by omega, by go_num, HO8, HS8, HL8, HGN⟩
                  case measure => simp [intOf]; omega
      · obtain rfl : i = L.length := by omega
        obtain ⟨hbg, har⟩ := HB3.out HG.out
        have HBG := hid hbg
        obtain ⟨hm0, hm8⟩ := HOP.out har
        have hks : Ks.map (·.2) = (ousL (parN L) L.length).map memL := by rw [HS.out, HKO.out har]
        have HKS := hid hks
        have HTF := hid (fun t => thR_facts (C := ousL (parN L) L.length) hm8 t)
        have HTL : Hid (∀ t, ∀ u ∈ thR (ousL (parN L) L.length) t, u < (ousL (parN L) L.length).length) := fun t => thR_lt hm0 t
        have HNX := hid (fun t (ht : t + 1 < (ousL (parN L) L.length).length) => nrI_next hm8 ht)
        clear har hbg HB1 HB2 HB3 HKY HKN HKO HKL HC0 HCS HOP HK0 HLV HLL HRI HIS HG HS HBL
        obtain ⟨C, hC⟩ : ∃ C, C = ousL (parN L) L.length := ⟨_, rfl⟩
        rw [← hC] at hm0 hm8 hks HKS HTF HTL HNX
        have HCD := hid hC
        clear hC
        obtain ⟨gk, ck, hkv, hgk, hkc⟩ := HO.out.lists hks (by rw [List.length_map]; exact hm0)
        rw [List.length_map] at hkv hkc
        obtain ⟨m, hm⟩ : ∃ m, C.length = m := ⟨_, rfl⟩
        rw [hm] at hkv hkc hm0 hm8 HTF HTL HNX
        have HCM := hid hm
        have HKV : Hid (∀ i, i < m → ∃ b cb, ∀ U : World, Below wr.heap.size wr U → U.cell? ⟨gk, i, none⟩ = some (.slice b (memL (C.getD i [])).length cb) ∧ IntS U b (memL (C.getD i []))) := fun i hi => by
          obtain ⟨b, cb, h1, h2⟩ := hkc i hi
          have e : (C.map memL).getD i [] = memL (C.getD i []) := by
            rw [List.getD_eq_getElem?_getD, List.getElem?_map, List.getElem?_eq_getElem (by rw [hm]; exact hi), List.getD_eq_getElem?_getD, List.getElem?_eq_getElem (by rw [hm]; exact hi)]; rfl
          rw [e] at h1 h2
          exact ⟨b, cb, fun U hb => ⟨(hb.cell (p := ⟨gk, i, none⟩) hgk).trans h1, h2.below hb⟩⟩
        have HCO : Hid (∀ (i j : Nat) (b b' : Option Addr) (c c' : Nat) (U : World), IntS U b (memL (C.getD i [])) → IntS U b' (memL (C.getD j [])) → Calls Try.prog 57 #[.slice b (memL (C.getD i [])).length c, .slice b' (memL (C.getD j [])).length c'] U fun e w' => ∃ v, e = .returned v ∧ RwI w' U.heap.size v (memL (sepN C i j)) ∧ Below U.heap.size U w') := fun i j b b' c c' U h1 h2 => by
          have hl8 : ∀ s : List Nat, (memL s).length ≤ 1000 := fun s => by
            have := memU_len s 8
            rw [memL, iL_length]
            omega
          have := common_any b b' c c' _ _ U h1 h2 (hl8 _) (hl8 _)
          rw [comI_sep] at this
          exact this
        subst hkv
        obtain ⟨F2, hF2⟩ : ∃ F2 : Nat → Nat, ∀ k, (memL (C.getD k [])).length = F2 k := ⟨fun k => (memL (C.getD k [])).length, fun _ => rfl⟩
        simp only [hF2] at HKV HCO
        clear hF2 hkc hgk hks hm
        generalize wr = W0 at *
        have hbz : Below W0.heap.size W0 (W0.alloc (.cells #[.int .i64 0] 3)) := (Below.refl _ W0).alloc (Nat.le_refl _) _
        have hrz : RwI (W0.alloc (.cells #[.int .i64 0] 3)) W0.heap.size (.slice (some ⟨W0.heap.size, 0, none⟩) 1 1) [0] := ⟨rfl, .inr ⟨W0.heap.size, 1, #[.int .i64 0], rfl, Nat.le_refl _, heap_alloc_new _ _, Nat.le_refl _, by unfold maxLen; omega, rfl, rfl⟩⟩
        have HT0 : Hid (TL W0 C 0 (.slice none 0 0) (.slice (some ⟨W0.heap.size, 0, none⟩) 1 1) [] (W0.alloc (.cells #[.int .i64 0] 3))) := ⟨⟨⟨rfl, .inl ⟨rfl, rfl⟩⟩, (fun p hp => by cases hp)⟩, rfl, hrz, (fun p hp => by cases hp), hbz⟩
        clear hbz hrz
        go_wp2_with fail
        go_loopw [11, 12] (fun lv sv wr => ∃ (t : Nat) (P : List PK), t + 1 ≤ m ∧ Hid (TL W0 C t lv sv P wr) ∧ ∃ d cd, sv = .slice d (t + 1) cd) (fun _ sv _ => m - (match sv with | .slice _ k _ => k | _ => 0))
        case atStart => exact ⟨0, [], by omega, HT0, _, _, rfl⟩
        case round =>
          obtain ⟨t, P, ht, HT, d, cd, rfl⟩ := hrel
          clear HT0
          by_cases htm : t + 1 < m
          · have hlti : (((t + 1 : Nat) : Int)) < (m : Int) := by omega
            have hPl : P.length = t := by
              have h1 := congrArg List.length HT.out.ls
              rw [List.length_map, lkL_cnt] at h1
              exact h1
            obtain ⟨hnx1, hnx2⟩ := HNX.out t htm
            have HNM := hid hnx1
            have HNE := hid hnx2
            obtain ⟨-, hthl, -⟩ := HTF.out t ht
            have hrl : (iL (thR C t).reverse).length = t + 1 := by rw [iL_length, List.length_reverse, hthl]
            have HIN : Hid (∀ (x : Nat) (U' : World) (bb : Nat) (st : NSt), TB W0 wr C t u11 (.slice d (t + 1) cd) P bb st U' → Calls Try.prog 26 #[.int .i64 (x : Nat), .slice d (t + 1) cd] U' fun r w' => r = .returned (.bool (decide (x ∈ thR C t))) ∧ w' = U') := fun x U' bb st h => by
              obtain ⟨d', cd', e, hi⟩ := h.tl.sd.ints
              injection e with e1 e2 e3
              subst e1
              have := rIn_any (x : Int) d cd (iL (thR C t).reverse) U' hi (by omega)
              rw [hrl, inB_iL _ (by omega : (0 : Int) ≤ (x : Int)), Int.toNat_natCast] at this
              have ed : decide (x ∈ (thR C t).reverse) = decide (x ∈ thR C t) := decide_eq_decide.2 List.mem_reverse
              rw [ed] at this
              exact this
            have HST := hid (fun st hs => TB.start HT.out st hs)
            have HN0 : Hid ((nrI C (thR C t) 0).m = -1) := rfl
            have HB0 := hid (fun a => nrB_zero C (thR C t) a)
            have HBA : Hid (∀ a, nrB C (thR C t) a m = nrI C (thR C t) (a + 1)) := fun a => by rw [← HCM.out]; exact nrB_all C (thR C t) a
            have HBO : Hid (∀ a b, ¬ a ∈ thR C t → nrB C (thR C t) a (b + 1) = nrB C (thR C t) a b) := fun a b h => nrB_out h b
            have HBI : Hid (∀ a b, b ∈ thR C t → nrB C (thR C t) a (b + 1) = nrB C (thR C t) a b) := fun a b h => nrB_in b h
            have HBY : Hid (∀ a b, a ∈ thR C t → ¬ b ∈ thR C t → (nrB C (thR C t) a b).m < (comN C a b : Int) → nrB C (thR C t) a (b + 1) = ⟨a, b, (comN C a b : Int)⟩) := fun a b h1 h2 h3 => nrB_yes h1 h2 h3
            have HBN : Hid (∀ a b, a ∈ thR C t → ¬ (nrB C (thR C t) a b).m < (comN C a b : Int) → nrB C (thR C t) a (b + 1) = nrB C (thR C t) a b) := fun a b h1 h2 => nrB_no h1 h2
            have HSL := hid (sep_len C)
            have HRL := hid hrl
            clear hnx1 hnx2 hthl hrl HNX HTF HTL
            obtain ⟨s, hs⟩ : ∃ s, thR C t = s := ⟨_, rfl⟩
            rw [hs] at HNM HNE HIN HN0 HB0 HBA HBO HBI HBY HBN
            have HSS := hid hs
            clear hs
            generalize wr = U at *
            go_wp2_with fail
            have HTB0 := hid (HST.out (nrI C s 0) HN0.out)
            clear HST
            go_loopw [14] (fun av wq => ∃ a : Nat, a ≤ m ∧ av = .int .i64 a ∧ Hid (TB W0 U C t u11 (.slice d (t + 1) cd) P U.heap.size (nrI C s a) wq)) (fun av _ => m - (intOf av).toNat)
            case atStart => exact ⟨0, Nat.zero_le _, rfl, HTB0⟩
            case round =>
              obtain ⟨a, ha, rfl, HTA⟩ := hrel
              clear HTB0
              by_cases ham : a < m
              · have HTB0 := hid (HTA.out.same (HB0.out a))
                clear HTA
                go_wp2_with fail
                go_loopw [15] (fun bv wq => ∃ b : Nat, b ≤ m ∧ bv = .int .i64 b ∧ Hid (TB W0 U C t u11 (.slice d (t + 1) cd) P U.heap.size (nrB C s a b) wq)) (fun bv _ => m - (intOf bv).toNat)
                case atStart => exact ⟨0, Nat.zero_le _, rfl, HTB0⟩
                case round =>
                  obtain ⟨b, hb, rfl, HTB⟩ := hrel
                  clear HTB0
                  by_cases hbm : b < m
                  · obtain ⟨b1, c1, hk1⟩ := HKV.out a ham
                    obtain ⟨b2, c2, hk2⟩ := HKV.out b hbm
                    have HK1 := hid hk1
                    have HK2 := hid hk2
                    have HCOM := hid (fun U' hb => HCO.out a b b1 b2 c1 c2 U' (hk1 U' hb).2 (hk2 U' hb).2)
                    clear hk1 hk2
                    have HIa := hid (HIN.out a wr _ _ HTB.out)
                    have HIb := hid (HIN.out b wr _ _ HTB.out)
                    have HBYb := hid (HBY.out a b)
                    have HBNb := hid (HBN.out a b)
                    have HBOb := hid (HBO.out a b)
                    have HBIb := hid (HBI.out a b)
                    go_wp2_with fail
                    refine HIa.out.mono ?_
                    rintro r w3 ⟨rfl, rfl⟩
                    clear HIa
                    go_wp2_with fail
                    refine HIb.out.mono ?_
                    rintro r w4 ⟨rfl, rfl⟩
                    clear HIb
                    go_upto_region 31 with fail
                    refine wp_region_held_drew (S := fun U' => U'.cell? ⟨gk, a, none⟩ = some (.slice b1 (F2 a) c1) ∧ U'.cell? ⟨gk, b, none⟩ = some (.slice b2 (F2 b) c2)) (by kernel_rfl) ⟨(HK1.out _ HTB.out.tl.low.drew).1, (HK2.out _ HTB.out.tl.low.drew).1⟩ (fun hSd => ?_)
                    refine wpAnyH_take (i := 0) (oi := _) (v := .slice (some ⟨gk, 0, none⟩) m ck) rfl (by kernel_rfl) (by kernel_rfl) (by kernel_rfl) (fun _ _ _ h => h) (Or.inl ⟨by rfl, ?_⟩) (by assumption) ?_
                    · intro u' hSu
                      (try simp only [List.getElem_toArray, List.getElem_cons_zero])
                      go_simp
                    (try simp only [List.getElem_toArray, List.getElem_cons_zero])
                    (try simp only [Act.put, List.setIfInBounds_toArray, List.set_cons_zero, List.set_cons_succ])
                    refine wpAnyH_take (i := 1) (oi := _) (v := .int .i64 (a : Nat)) rfl (by kernel_rfl) (by kernel_rfl) (by kernel_rfl) (fun _ _ _ h => h) (Or.inl ⟨by rfl, ?_⟩) (by assumption) ?_
                    · intro u' hSu
                      (try simp only [List.getElem_toArray, List.getElem_cons_zero, List.getElem_cons_succ])
                      go_simp
                    (try simp only [List.getElem_toArray, List.getElem_cons_zero, List.getElem_cons_succ])
                    (try simp only [Act.put, List.setIfInBounds_toArray, List.set_cons_zero, List.set_cons_succ])
                    refine wpAnyH_take (i := 2) (oi := _) (v := .pointer (some ⟨gk, a, none⟩)) rfl (by kernel_rfl) (by kernel_rfl) (by kernel_rfl) (fun _ _ _ h => h) (Or.inl ⟨by rfl, ?_⟩) (by assumption) ?_
                    · intro u' hSu
                      (try simp only [List.getElem_toArray, List.getElem_cons_zero, List.getElem_cons_succ])
                      go_simp
                    (try simp only [List.getElem_toArray, List.getElem_cons_zero, List.getElem_cons_succ])
                    (try simp only [Act.put, List.setIfInBounds_toArray, List.set_cons_zero, List.set_cons_succ])
                    refine wpAnyH_take (i := 3) (oi := _) (v := .slice b1 (F2 a) c1) rfl (by kernel_rfl) (by kernel_rfl) (by kernel_rfl) (fun _ _ _ h => h) (Or.inl ⟨by rfl, ?_⟩) (by assumption) ?_
                    · intro u' hSu
                      (try simp only [List.getElem_toArray, List.getElem_cons_zero, List.getElem_cons_succ])
                      obtain ⟨s1, s2⟩ := hSu
                      go_simp
                    (try simp only [List.getElem_toArray, List.getElem_cons_zero, List.getElem_cons_succ])
                    (try simp only [Act.put, List.setIfInBounds_toArray, List.set_cons_zero, List.set_cons_succ])
                    refine wpAnyH_take (i := 4) (oi := _) (v := .slice (some ⟨gk, 0, none⟩) m ck) rfl (by kernel_rfl) (by kernel_rfl) (by kernel_rfl) (fun _ _ _ h => h) (Or.inl ⟨by rfl, ?_⟩) (by assumption) ?_
                    · intro u' hSu
                      (try simp only [List.getElem_toArray, List.getElem_cons_zero, List.getElem_cons_succ])
                      go_simp
                    (try simp only [List.getElem_toArray, List.getElem_cons_zero, List.getElem_cons_succ])
                    (try simp only [Act.put, List.setIfInBounds_toArray, List.set_cons_zero, List.set_cons_succ])
                    refine wpAnyH_take (i := 5) (oi := _) (v := .int .i64 (b : Nat)) rfl (by kernel_rfl) (by kernel_rfl) (by kernel_rfl) (fun _ _ _ h => h) (Or.inl ⟨by rfl, ?_⟩) (by assumption) ?_
                    · intro u' hSu
                      (try simp only [List.getElem_toArray, List.getElem_cons_zero, List.getElem_cons_succ])
                      go_simp
                    (try simp only [List.getElem_toArray, List.getElem_cons_zero, List.getElem_cons_succ])
                    (try simp only [Act.put, List.setIfInBounds_toArray, List.set_cons_zero, List.set_cons_succ])
                    refine wpAnyH_take (i := 6) (oi := _) (v := .pointer (some ⟨gk, b, none⟩)) rfl (by kernel_rfl) (by kernel_rfl) (by kernel_rfl) (fun _ _ _ h => h) (Or.inl ⟨by rfl, ?_⟩) (by assumption) ?_
                    · intro u' hSu
                      (try simp only [List.getElem_toArray, List.getElem_cons_zero, List.getElem_cons_succ])
                      go_simp
                    (try simp only [List.getElem_toArray, List.getElem_cons_zero, List.getElem_cons_succ])
                    (try simp only [Act.put, List.setIfInBounds_toArray, List.set_cons_zero, List.set_cons_succ])
                    refine wpAnyH_take (i := 7) (oi := _) (v := .slice b2 (F2 b) c2) rfl (by kernel_rfl) (by kernel_rfl) (by kernel_rfl) (fun _ _ _ h => h) (Or.inl ⟨by rfl, ?_⟩) (by assumption) ?_
                    · intro u' hSu
                      (try simp only [List.getElem_toArray, List.getElem_cons_zero, List.getElem_cons_succ])
                      obtain ⟨s1, s2⟩ := hSu
                      go_simp
                    (try simp only [List.getElem_toArray, List.getElem_cons_zero, List.getElem_cons_succ])
                    (try simp only [Act.put, List.setIfInBounds_toArray, List.set_cons_zero, List.set_cons_succ])
                    refine wpAnyH_ready (rs := [8]) (by kernel_rfl) (by simp) (AllReadyH.cons rfl ?_ (AllReadyH.nil))
                    · intro K' hK'
                      (try simp only [List.getElem_toArray, List.getElem_cons_zero, List.getElem_cons_succ])
                      go_simp
                      refine (HCOM.out _ HTB.out.tl.low.drew).mono ?_
                      rintro r w5 ⟨v5, rfl, hv5, hb5⟩
                      have hl5 : Below W0.heap.size W0 w5 := HTB.out.tl.low.drew.trans (hb5.mono HTB.out.tl.low.drew.size)
                      refine hK'.out _ _ ⟨(HK1.out _ hl5).1, (HK2.out _ hl5).1⟩ (fun hSe => ?_)
                      clear hK' K' hSd hl5
                      (try simp only [List.getElem_toArray, List.getElem_cons_zero, List.getElem_cons_succ])
                      (try simp only [Act.put, List.setIfInBounds_toArray, List.set_cons_zero, List.set_cons_succ])
                      obtain ⟨d5, c5, rfl, -⟩ := hv5.ints
                      rw [HSL.out a b] at hv5 ⊢
                      have HV5 := hid (own_low hv5 (Nat.le_trans HTB.out.size (Nat.le_refl _)))
                      have HT5 := hid ((HTB.out.below (Below.refl _ w4).drew).below hb5)
                      clear hv5 hb5 HTB
                      generalize hcab : comN C a b = cab at *
                      refine wpAnyH_take (i := 9) (oi := _) (v := .slice d5 cab c5) rfl (by kernel_rfl) (by kernel_rfl) (by kernel_rfl) (fun _ _ _ h => h) (Or.inl ⟨by rfl, ?_⟩) (by assumption) ?_
                      · intro u' hSu
                        (try simp only [List.getElem_toArray, List.getElem_cons_zero, List.getElem_cons_succ])
                        go_simp
                      (try simp only [List.getElem_toArray, List.getElem_cons_zero, List.getElem_cons_succ])
                      (try simp only [Act.put, List.setIfInBounds_toArray, List.set_cons_zero, List.set_cons_succ])
                      refine wpAnyH_done (by kernel_rfl) ?_ _
                      clear hSe
                      by_cases hx : a ∈ s
                      · rw [decide_eq_true hx]
                        by_cases hy : b ∈ s
                        · rw [decide_eq_true hy]
                          have HTN := hid (HT5.out.same (HBIb.out hy))
                          clear HT5 HV5 HBYb HBNb HBOb HBIb hx hy
                          go_wp2
                          go_roundw
                          case rel => exact ⟨b + 1, by omega, by go_num, HTN⟩
                          case measure => simp [intOf]; omega
                        · rw [decide_eq_false hy]
                          have HYb := hid (HBYb.out hx hy)
                          have HNb := hid (HBNb.out hx)
                          clear HBYb HBNb HBOb HBIb hx hy
                          obtain ⟨A, B, Sv, hbx⟩ := HT5.out.bx
                          obtain ⟨cA, cB, cS, cF⟩ := hbx.cells
                          have f0 := cF 0
                          have f1 := cF 1
                          have f2 := cF 2
                          clear cF
                          have HPT := hid (HT5.out.put HV5.out)
                          rcases hbx.2 with ⟨e1, rfl, rfl, rfl⟩ | ⟨e1, rfl, rfl, hSv⟩
                          · have HTN := hid (HPT.out.same ((HYb.out (by rw [e1]; omega)).trans (by rw [hcab])))
                            clear hbx e1 HYb HNb HT5 HV5 HPT
                            go_wp2
                            go_roundw
                            case rel => exact ⟨b + 1, by omega, by go_num, HTN⟩
                            case measure => simp [intOf]; omega
                          · obtain ⟨dS, kS, rfl, -⟩ := hSv.ints
                            rw [HSL.out] at cS
                            have ha0 : decide ((((nrB C s a b).a : Nat) : Int) < 0) = false := decide_eq_false (by omega)
                            generalize hcs : comN C (nrB C s a b).a (nrB C s a b).b = cs at *
                            by_cases hlt : cs < cab
                            · have HTN := hid (HPT.out.same ((HYb.out (by rw [e1]; omega)).trans (by rw [hcab])))
                              clear hbx e1 HYb HNb HT5 HV5 HPT hSv hcs
                              go_wp2
                              go_roundw
                              case rel => exact ⟨b + 1, by omega, by go_num, HTN⟩
                              case measure => simp [intOf]; omega
                            · have HTN := hid (HT5.out.same (HNb.out (by rw [e1]; omega)))
                              clear hbx e1 HYb HNb HT5 HV5 HPT hSv hcs
                              go_wp2
                              go_roundw
                              case rel => exact ⟨b + 1, by omega, by go_num, HTN⟩
                              case measure => simp [intOf]; omega
                      · rw [decide_eq_false hx]
                        have HTN := hid (HT5.out.same (HBOb.out hx))
                        clear HT5 HV5 HBYb HBNb HBOb HBIb hx
                        go_wp2
                        go_roundw
                        case rel => exact ⟨b + 1, by omega, by go_num, HTN⟩
                        case measure => simp [intOf]; omega
                  · obtain rfl : m = b := by omega
                    have HTN := hid (HTB.out.same (HBA.out a).symm)
                    clear HTB
                    go_wp2
                    go_roundw
                    case rel => exact ⟨a + 1, by omega, by go_num, HTN⟩
                    case measure => simp [intOf]; omega
              · obtain rfl : m = a := by omega
                have HTN := hid (HTA.out.same HNE.out)
                clear HTA
                obtain ⟨A, B, Sv, hbx⟩ := HTN.out.bx
                obtain ⟨cA, cB, cS, -⟩ := hbx.cells
                have hnm := HNM.out
                have HST8 : Hid (nrI C s 8 = nrI C (thR C t) 8) := by show _ = _; rw [HSS.out]
                clear HNM HNE HBY HBN HBO HBI HBA HB0 HN0 HIN HCO HKV
                generalize nrI C s 8 = r at *
                rcases hbx.2 with ⟨e1, rfl, rfl, rfl⟩ | ⟨e1, rfl, rfl, hSv⟩
                · exfalso
                  rw [e1] at hnm
                  omega
                obtain ⟨dS, kS, rfl, -⟩ := hSv.ints
                have hbA := (Below.refl wr.heap.size wr).alloc (Nat.le_refl _) (.cells #[.int .i64 (r.a : Nat), .int .i64 (r.b : Nat), .slice dS (memL (sepN C r.a r.b)).length kS] 47)
                have HTA := hid (HTN.out.below hbA)
                have HBX := hid (hbx.below hbA)
                have HSA := hid (hSv.under hbA)
                have H3C := hid (three_cells wr (.int .i64 (r.a : Nat)) (.int .i64 (r.b : Nat)) (.slice dS (memL (sepN C r.a r.b)).length kS) 47)
                clear hbA hbx hSv e1 hnm
                go_wp2_with (first
                  | (at_builtin; refine wpList_append_link rfl _ _ rfl W0.heap.size _ P r.a r.b dS (memL (sepN C r.a r.b)).length kS rfl HTA.out.tl.lk.1 wr.heap.size rfl H3C.out.1 H3C.out.2.1 H3C.out.2.2 (by omega) HTA.out.tl.low.size ?_; intro v6 w6 hr6 hg6; obtain ⟨k6, l6, s6, a6, b6, x6⟩ := HTA.out.push HSA.out HST8.out hr6 hg6; have cB6 := x6 _ _ _ HBX.out; have hbB := (Below.refl w6.heap.size w6).alloc (Nat.le_refl _) (.cells #[.int .i64 (r.b : Nat)] 3); have HK7 := hid (k6.keep (KpT.below hbB) (KpT.below hbB)); have HL7 := hid l6; have HS7 := hid (s6.under hbB); have HA7 := hid a6; have HB7 := hid (b6.trans (hbB.mono b6.size)); have HOC7 := hid (one_cell w6 (.int .i64 (r.b : Nat)) 3); clear k6 l6 s6 a6 b6 x6 hr6 hg6 hbB)
                  | (at_builtin; refine wpList_append_int1 rfl _ _ rfl W0.heap.size _ (iL (thR C t).reverse) ((r.b : Nat) : Int) rfl HS7.out w6.heap.size rfl HOC7.out (by have := HRL.out; omega) HB7.out.size ?_; intro v8 w8 hr8 hg8 hn8))
                have HT8 := hid (TL.next HK7.out HL7.out HS7.out HA7.out HB7.out (by rw [← HST8.out]) hr8 hg8 hn8)
                have hl8 : (iL (thR C t).reverse ++ [((r.b : Nat) : Int)]).length = t + 1 + 1 := by rw [List.length_append, HRL.out]; rfl
                obtain ⟨d8, cd8, rfl, -⟩ := hr8.ints
                rw [hl8] at HT8 ⊢
                clear hr8 hg8 hn8 HK7 HL7 HS7 HA7 HB7 HOC7 HTA HBX HSA H3C hl8
                go_wp2
                go_roundw
                case rel => exact ⟨t + 1, _, by omega, HT8, d8, cd8, rfl⟩
                case measure => show m - (t + 1 + 1) < m - (t + 1); omega
          · obtain rfl : m = t + 1 := by omega
            have HT1 := HT.out
            go_wp2
            go_ret3
            exact ⟨HB.out.trans (HT1.low.mono HB.out.size), .inl ⟨HBG.out, _, _, Ks, P, rfl, HO.out.below HT1.low, by rw [← HCD.out]; exact HKS.out, HT1.lk.low HB.out.size, by rw [HT1.ls, ← HCD.out, HCM.out]; rfl⟩⟩
  · have HE := hid (HBL.out hlen)
    clear h hl HBL
    by_cases h1 : L.length < 1
    · have hi1 : decide (((L.length : Nat) : Int) < 1) = true := decide_eq_true (by omega)
      go_enter Try.func23, Try.ntmps23
      go_wp2
      go_ret3
      exact ⟨Below.refl _ _, .inr ⟨HE.out, rfl⟩⟩
    · have hi1 : decide (((L.length : Nat) : Int) < 1) = false := decide_eq_false (by omega)
      have hi2 : decide ((8 : Int) < ((L.length : Nat) : Int)) = true := decide_eq_true (by omega)
      go_enter Try.func23, Try.ntmps23
      go_wp2
      go_ret3
      exact ⟨Below.refl _ _, .inr ⟨HE.out, rfl⟩⟩
end Go.Proofs.Ytockhhleapbpiaa

