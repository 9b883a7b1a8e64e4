/- The document's answer of chapter 8: BackDoor, FrontDoor. -/
import Derived.Test.YtockhhleapbpiaaRcAToRcB
namespace Go.Proofs.Ytockhhleapbpiaa
open Go.RowKit Go.Shelf

theorem rCutL (a bi bf : Option Addr) (ca ci cf : Nat) (L : List (List Int)) (I F : List Int) (w : World) (h : LsS w a L) (hl : ∀ l ∈ L, l.length ≤ 1000) (hL : L.length ≤ 1000) (hi : IntS w bi I) (hf : IntS w bf F) (hil : I.length ≤ 1000) (hfl : F.length ≤ 1000) :
    Calls Try.prog 66 #[.slice a L.length ca, .slice bi I.length ci, .slice bf F.length cf] w fun e w' => ∃ R cap, e = .returned (.slice R L.length cap) ∧ LsS w' R (cutG L I F) ∧ Below w.heap.size w w' :=
  (rCut_any a bi bf ca ci cf L I F w h hl hL hi hf hil hfl).mono fun e w' ⟨y, Ks, he, ho, hk, hb⟩ => by
    obtain ⟨R, cap, e1, e2⟩ := ho.lsC hk
    rw [cutG_length] at e1
    exact ⟨R, cap, by rw [he, e1], e2, hb⟩
theorem rApartG (R bx by' bz : Option Addr) (cap cx cy cz n : Nat) (G : List (List Int)) (x y z : List Int) (w : World) (hn : G.length = n) (h : LsS w R G) (hl : ∀ l ∈ G, l.length ≤ 1000) (hx : IntS w bx x) (hy : IntS w by' y) (hz : IntS w bz z) (hxl : x.length ≤ 1000) (hyl : y.length ≤ 1000) (hzl : z.length ≤ 1000) (hg : gcE G = 0) (hap : apB n [x, y, z] = true) :
    Calls Try.prog 16 #[.slice R n cap, .slice bx x.length cx, .slice by' y.length cy, .slice bz z.length cz] w fun e w' => e = .returned (.tuple #[.bool (!opX G x y z), .int .i64 0]) ∧ Below w.heap.size w w' := by
  subst hn
  have h8 := (gB_parts (gc_parts hg).1).2.1
  refine (rApart_any R bx by' bz cap cx cy cz G x y z w h hl (by omega) hx hy hz hxl hyl hzl).mono fun e w' hh => ?_
  rcases hh.2 with ⟨k, _⟩ | ⟨_, k, _⟩ | ⟨_, _, k⟩
  · exact absurd hg k
  · rw [hap] at k; cases k
  · exact ⟨k, hh.1⟩
theorem rdoor_sets (a bz : Option Addr) (ca cz : Nat) (L : List (List Int)) (x y : Int) (z : List Int) (w : World) (h : LsS w a L) (hl : ∀ l ∈ L, l.length ≤ 1000) (hL : L.length ≤ 1000) (hz : IntS w bz z) (hzl : z.length ≤ 1000) :
    Calls Try.prog 64 #[.slice a L.length ca, .slice (some ⟨w.heap.size + 1 + 1, 0, none⟩) 3 3] (((w.alloc (.cells #[.int .i64 x] 3)).alloc (.cells #[.int .i64 y] 3)).alloc (.cells #[.slice (some ⟨w.heap.size, 0, none⟩) 1 1, .slice (some ⟨w.heap.size + 1, 0, none⟩) 1 1, .slice bz z.length cz] 23)) (fun e w' => e = .returned (.int .i64 (stE L [[x], [y], z])) ∧ Below (((w.alloc (.cells #[.int .i64 x] 3)).alloc (.cells #[.int .i64 y] 3)).alloc (.cells #[.slice (some ⟨w.heap.size, 0, none⟩) 1 1, .slice (some ⟨w.heap.size + 1, 0, none⟩) 1 1, .slice bz z.length cz] 23)).heap.size (((w.alloc (.cells #[.int .i64 x] 3)).alloc (.cells #[.int .i64 y] 3)).alloc (.cells #[.slice (some ⟨w.heap.size, 0, none⟩) 1 1, .slice (some ⟨w.heap.size + 1, 0, none⟩) 1 1, .slice bz z.length cz] 23)) w') ∧ Below w.heap.size w (((w.alloc (.cells #[.int .i64 x] 3)).alloc (.cells #[.int .i64 y] 3)).alloc (.cells #[.slice (some ⟨w.heap.size, 0, none⟩) 1 1, .slice (some ⟨w.heap.size + 1, 0, none⟩) 1 1, .slice bz z.length cz] 23)) := by
  have hA1 := (Below.refl w.heap.size w).alloc (Nat.le_refl _) (.cells #[.int .i64 x] 3)
  have hs1 : (w.alloc (.cells #[.int .i64 x] 3)).heap.size = w.heap.size + 1 := by simp
  have hA2 := hA1.alloc hA1.size (.cells #[.int .i64 y] 3)
  have hs2 : ((w.alloc (.cells #[.int .i64 x] 3)).alloc (.cells #[.int .i64 y] 3)).heap.size = w.heap.size + 1 + 1 := by simp
  have hx2 : IntS ((w.alloc (.cells #[.int .i64 x] 3)).alloc (.cells #[.int .i64 y] 3)) (some ⟨w.heap.size, 0, none⟩) [x] := (one_int w x).below ((Below.refl _ _).alloc (Nat.le_refl _) _)
  have hy2 := one_int (w.alloc (.cells #[.int .i64 x] 3)) y
  rw [hs1] at hy2
  have hz2 := hz.below hA2
  have h3 := three_lists (cx := 1) (cy := 1) (cz := cz) hx2 hy2 hz2
  rw [hs2] at h3
  have hA3 := hA2.alloc hA2.size (.cells #[.slice (some ⟨w.heap.size, 0, none⟩) 1 1, .slice (some ⟨w.heap.size + 1, 0, none⟩) 1 1, .slice bz z.length cz] 23)
  exact ⟨rSetsOK_any a (some ⟨w.heap.size + 1 + 1, 0, none⟩) ca 3 L [[x], [y], z] _ (h.below hA3) hl hL h3 (fun l hl' => by
    simp only [List.mem_cons, List.not_mem_nil, or_false] at hl'
    rcases hl' with rfl | rfl | rfl
    · simp
    · simp
    · exact hzl) (by simp), hA3⟩

set_option maxRecDepth 100000 in
set_option maxHeartbeats 1000000 in
theorem rBack_any (a bz : Option Addr) (ca cz : Nat) (L : List (List Int)) (x y : Int) (z : List Int) (w : World) (h : LsS w a L) (hl : ∀ l ∈ L, l.length ≤ 1000) (hL : L.length ≤ 1000) (hz : IntS w bz z) (hzl : z.length ≤ 1000) :
    Calls Try.prog 31 #[.slice a L.length ca, .int .i64 x, .int .i64 y, .slice bz z.length cz] w fun e w' => e = .returned (.tuple #[.bool (bdA L x y z).1, .int .i64 (bdA L x y z).2]) ∧ Below w.heap.size w w' := by
  obtain ⟨hst0, hA3⟩ := rdoor_sets a bz ca cz L x y z w h hl hL hz hzl
  have HST := hid hst0
  have HA3 := hid hA3
  have HZ := hid hz
  have HL := hid h
  have HLL := hid hl
  obtain ⟨rb, re, hre⟩ : ∃ rb re, bdA L x y z = (rb, re) := ⟨_, _, rfl⟩
  have HBE : Hid (stE L [[x], [y], z] ≠ 0 → false = rb ∧ stE L [[x], [y], z] = re) := fun e => by
    rw [bdA, if_neg e] at hre
    exact Prod.mk.inj hre
  have HBO : Hid (stE L [[x], [y], z] = 0 → (!(abO L x.toNat (toN z)) && !opX (cutG L [] [x]) [x] [y] z) = rb ∧ 0 = re) := fun e => by
    rw [bdA, if_pos e] at hre
    exact Prod.mk.inj hre
  rw [hre]
  show Calls Try.prog 31 #[.slice a L.length ca, .int .i64 x, .int .i64 y, .slice bz z.length cz] w fun e w' => e = .returned (.tuple #[.bool rb, .int .i64 re]) ∧ Below w.heap.size w w'
  clear hre hst0 hA3 h hz hl
  go_enter Try.func31, Try.ntmps31
  go_wp2_with fail
  refine HST.out.mono ?_
  rintro e w1 ⟨rfl, hb1⟩
  have HB1 := hid (HA3.out.trans (hb1.mono HA3.out.size))
  clear hb1 HST HA3
  by_cases hst : stE L [[x], [y], z] = 0
  · obtain ⟨hg, hap⟩ := stE_ok hst
    obtain ⟨⟨hx0, hx1⟩, ⟨hy0, hy1⟩, hrz, _, _⟩ := door_parts hap
    obtain ⟨u, rfl⟩ : ∃ u : Nat, x = u := ⟨x.toNat, by omega⟩
    rw [hst]
    have hR := HBO.out hst
    rw [Int.toNat_natCast] at hR
    have HRE := hid hR
    have HG := hid hg
    have HAP := hid hap
    have HZU := hid (ris_up hrz)
    have HIA : Hid (∀ (v : Nat), v < L.length → Calls Try.prog 68 #[.slice a L.length ca, .int .i64 (u : Nat), .int .i64 (v : Nat)] w1 fun e w' => e = .returned (.bool (abB L u v)) ∧ w' = w1) := fun v hv => isAbove_any a ca L w1 (HL.out.below HB1.out) HLL.out hg u (rkN (parN L) v) v (Nat.le_refl _) hv
    have HAY : Hid (∀ (i v : Nat) (hi : i < z.length), z[i] = (v : Int) → abB L u v = true → abO L u (toN z) = true) := fun i v hi hv hq => List.any_eq_true.2 ⟨v, by
      refine List.mem_map.2 ⟨z[i], List.getElem_mem hi, ?_⟩
      rw [hv]; rfl, hq⟩
    have HAN : Hid ((∀ (i v : Nat) (hi : i < z.length), z[i] = (v : Int) → abB L u v = false) → abO L u (toN z) = false) := fun hh => List.any_eq_false.2 fun v hv => by
      obtain ⟨t, ht, rfl⟩ := List.mem_map.1 hv
      obtain ⟨i, hi, rfl⟩ := List.getElem_of_mem ht
      have h0 := (HZU.out.each i hi).1
      rw [hh i z[i].toNat hi (by omega)]
      decide
    clear hst hR hg hap hrz HBE HBO
    generalize abO L u (toN z) = q1 at *
    go_wp2_with fail
    go_loopw [11] (fun iv wr => ∃ i : Nat, i ≤ z.length ∧ iv = .int .i64 i ∧ Hid (∀ (j v : Nat) (hj : j < z.length), j < i → z[j] = (v : Int) → abB L u v = false) ∧ wr = w1) (fun iv _ => z.length - (intOf iv).toNat)
    case atStart => exact ⟨0, Nat.zero_le _, rfl, (fun j v _ hj => absurd hj (by omega)), rfl⟩
    case round =>
      obtain ⟨i, hi, rfl, HN, rfl⟩ := hrel
      by_cases hlt : i < z.length
      · obtain ⟨g, o, rfl, hg, hc⟩ := HZ.out i hlt
        have hzi := HZU.out.each i hlt
        obtain ⟨v, hv⟩ : ∃ v : Nat, z[i] = (v : Int) := ⟨z[i].toNat, by omega⟩
        have kc := (HB1.out.cell (p := ⟨g, _, none⟩) hg).trans hc
        rw [hv] at kc
        have HAv := hid (HIA.out v (by omega))
        have HYv := hid (HAY.out i v hlt hv)
        have HNX : Hid (abB L u v = false → ∀ (j v : Nat) (hj : j < z.length), j < i + 1 → z[j] = (v : Int) → abB L u v = false) := fun e j v' hj hlt' hv' => by
          rcases Nat.lt_or_ge j i with h2 | h2
          · exact HN.out j v' hj h2 hv'
          · obtain rfl : j = i := by omega
            have : v' = v := by omega
            rw [this]; exact e
        generalize abB L u v = q at *
        clear hc hv hzi
        cases q with
        | true =>
          have HQ := hid (HYv.out rfl)
          go_wp2_with fail
          refine HAv.out.mono ?_
          rintro e wq ⟨rfl, hwq⟩
          rw [hwq]
          clear hwq wq
          go_wp2
          go_ret2
          exact ⟨by rw [← HRE.out.1, ← HRE.out.2, HQ.out]; rfl, HB1.out⟩
        | false =>
          have HQ := hid (HNX.out rfl)
          go_wp2_with fail
          refine HAv.out.mono ?_
          rintro e wq ⟨rfl, hwq⟩
          rw [hwq]
          clear hwq wq
          go_wp2
          go_roundw
          case rel => exact ⟨i + 1, by omega, by go_num, HQ, (by first | rfl | trivial)⟩
          case measure => simp [intOf]; omega
      · have hq1 : q1 = false := HAN.out fun j v hj hv => HN.out j v hj (by omega) hv
        have HQ1 := hid hq1
        have hA := HB1.out.alloc HB1.out.size (.cells #[.int .i64 (u : Nat)] 3)
        have HCU := hid (rCutL a none (some ⟨wr.heap.size, 0, none⟩) ca 0 1 L [] [((u : Nat) : Int)] _ (HL.out.below hA) HLL.out hL (fun k hk => absurd hk (by simp)) (one_int wr u) (by simp) (by simp))
        have HA := hid hA
        clear hA hq1
        go_wp2_with fail
        refine HCU.out.mono ?_
        rintro e w3 ⟨R, cap, rfl, hL3, hb3⟩
        have HB3 := hid (HA.out.trans (hb3.mono HA.out.size))
        have hA4 := (Below.refl w3.heap.size w3).alloc (Nat.le_refl _) (.cells #[.int .i64 (u : Nat)] 3)
        have hs4 : (w3.alloc (.cells #[.int .i64 (u : Nat)] 3)).heap.size = w3.heap.size + 1 := by simp
        have hA5 := hA4.alloc hA4.size (.cells #[.int .i64 y] 3)
        have hB5 := HB3.out.trans (hA5.mono HB3.out.size)
        have hy5 := one_int (w3.alloc (.cells #[.int .i64 (u : Nat)] 3)) y
        rw [hs4] at hy5
        have HAC := hid (rApartG R (some ⟨w3.heap.size, 0, none⟩) (some ⟨w3.heap.size + 1, 0, none⟩) bz cap 1 1 cz L.length (cutG L [] [((u : Nat) : Int)]) [((u : Nat) : Int)] [y] z _ (cutG_length _ _ _) (hL3.below hA5) (cutG_len HLL.out) ((one_int w3 u).below ((Below.refl _ _).alloc (Nat.le_refl _) (.cells #[.int .i64 y] 3))) hy5 (HZ.out.below hB5) (by simp) (by simp) hzl (cutG_gc HG.out _ _) HAP.out)
        have HB5 := hid hB5
        clear hA4 hs4 hA5 hB5 hy5 hb3 hL3 HCU
        generalize opX (cutG L [] [((u : Nat) : Int)]) [((u : Nat) : Int)] [y] z = q2 at *
        go_wp2_with fail
        refine HAC.out.mono ?_
        rintro e w4 ⟨rfl, hb4⟩
        have HB6 := hid (HB5.out.trans (hb4.mono HB5.out.size))
        clear hb4
        go_wp2
        go_ret2
        exact ⟨by rw [← HRE.out.1, ← HRE.out.2, HQ1.out]; rfl, HB6.out⟩
  · have HE := hid (HBE.out hst)
    have hgb : (stE L [[x], [y], z] == 0) = false := by simpa using hst
    clear hst HBE HBO
    generalize stE L [[x], [y], z] = st at *
    go_wp2
    go_ret2
    exact ⟨by rw [← HE.out.1, ← HE.out.2]; rfl, HB1.out⟩

set_option maxRecDepth 100000 in
set_option maxHeartbeats 1000000 in
theorem rFront_any (a bz : Option Addr) (ca cz : Nat) (L : List (List Int)) (x y : Int) (z : List Int) (w : World) (h : LsS w a L) (hl : ∀ l ∈ L, l.length ≤ 1000) (hL : L.length ≤ 1000) (hz : IntS w bz z) (hzl : z.length ≤ 1000) :
    Calls Try.prog 33 #[.slice a L.length ca, .int .i64 x, .int .i64 y, .slice bz z.length cz] w fun e w' => e = .returned (.tuple #[.bool (fdA L x y z).1, .int .i64 (fdA L x y z).2]) ∧ Below w.heap.size w w' := by
  obtain ⟨hst0, hA3⟩ := rdoor_sets a bz ca cz L x y z w h hl hL hz hzl
  have HST := hid hst0
  have HA3 := hid hA3
  have HZ := hid hz
  have HL := hid h
  have HLL := hid hl
  obtain ⟨rb, re, hre⟩ : ∃ rb re, fdA L x y z = (rb, re) := ⟨_, _, rfl⟩
  have HBE : Hid (stE L [[x], [y], z] ≠ 0 → false = rb ∧ stE L [[x], [y], z] = re) := fun e => by
    rw [fdA, if_neg e] at hre
    exact Prod.mk.inj hre
  have HBO : Hid (stE L [[x], [y], z] = 0 → ((!(abO (cutG L z []) x.toNat (toN [y])) && !opX (cutG L [] [x]) [x] z []) && !opX (cutG L [] z) z [y] [x]) = rb ∧ 0 = re) := fun e => by
    rw [fdA, if_pos e] at hre
    exact Prod.mk.inj hre
  rw [hre]
  show Calls Try.prog 33 #[.slice a L.length ca, .int .i64 x, .int .i64 y, .slice bz z.length cz] w fun e w' => e = .returned (.tuple #[.bool rb, .int .i64 re]) ∧ Below w.heap.size w w'
  clear hre hst0 hA3 h hz hl
  go_enter Try.func33, Try.ntmps33
  go_wp2_with fail
  refine HST.out.mono ?_
  rintro e w1 ⟨rfl, hb1⟩
  have HB1 := hid (HA3.out.trans (hb1.mono HA3.out.size))
  clear hb1 HST HA3
  by_cases hst : stE L [[x], [y], z] = 0
  · obtain ⟨hg, hap⟩ := stE_ok hst
    obtain ⟨⟨hx0, hx1⟩, ⟨hy0, hy1⟩, hrz, hap2, hap3⟩ := door_parts hap
    obtain ⟨u, rfl⟩ : ∃ u : Nat, x = u := ⟨x.toNat, by omega⟩
    obtain ⟨t, rfl⟩ : ∃ t : Nat, y = t := ⟨y.toNat, by omega⟩
    rw [hst]
    have hR := HBO.out hst
    have hab : abO (cutG L z []) u (toN [((t : Nat) : Int)]) = abB (cutG L z []) u t := by simp [abO, toN]
    rw [Int.toNat_natCast, hab] at hR
    have HRE := hid hR
    have HG := hid hg
    have HAP2 := hid hap2
    have HAP3 := hid hap3
    have HCU := hid (rCutL a bz none ca cz 0 L z [] w1 (HL.out.below HB1.out) HLL.out hL (HZ.out.below HB1.out) (fun k hk => absurd hk (by simp)) hzl (by simp))
    have HIB : Hid (∀ (R : Option Addr) (cap : Nat) (U : World), LsS U R (cutG L z []) → Calls Try.prog 68 #[.slice R L.length cap, .int .i64 (u : Nat), .int .i64 (t : Nat)] U fun e w' => e = .returned (.bool (abB (cutG L z []) u t)) ∧ w' = U) := fun R cap U hU => by
      have := isAbove_any R cap (cutG L z []) U hU (cutG_len HLL.out) (cutG_gc HG.out z []) u (rkN (parN (cutG L z [])) t) t (Nat.le_refl _) (by rw [cutG_length]; omega)
      rwa [cutG_length] at this
    clear hst hR hg hap hap2 hap3 hrz hab HBE HBO
    generalize abB (cutG L z []) u t = q1 at *
    go_wp2_with fail
    refine HCU.out.mono ?_
    rintro e w2 ⟨R, cap, rfl, hL2, hb2⟩
    have HB2 := hid (HB1.out.trans (hb2.mono HB1.out.size))
    have HIA := hid (HIB.out R cap w2 hL2)
    clear hb2 hL2 HCU HIB
    go_wp2_with fail
    refine HIA.out.mono ?_
    rintro e wq ⟨rfl, hwq⟩
    rw [hwq]
    clear hwq wq HIA
    have hA := HB2.out.alloc HB2.out.size (.cells #[.int .i64 (u : Nat)] 3)
    have HCU := hid (rCutL a none (some ⟨w2.heap.size, 0, none⟩) ca 0 1 L [] [((u : Nat) : Int)] _ (HL.out.below hA) HLL.out hL (fun k hk => absurd hk (by simp)) (one_int w2 u) (by simp) (by simp))
    have HA := hid hA
    clear hA
    go_wp2_with fail
    refine HCU.out.mono ?_
    rintro e w5 ⟨R2, cap2, rfl, hL5, hb5⟩
    have HB5 := hid (HA.out.trans (hb5.mono HA.out.size))
    have hA6 := (Below.refl w5.heap.size w5).alloc (Nat.le_refl _) (.cells #[.int .i64 (u : Nat)] 3)
    have hB6 := HB5.out.trans (hA6.mono HB5.out.size)
    have HAC := hid (rApartG R2 (some ⟨w5.heap.size, 0, none⟩) bz none cap2 1 cz 0 L.length (cutG L [] [((u : Nat) : Int)]) [((u : Nat) : Int)] z [] _ (cutG_length _ _ _) (hL5.below hA6) (cutG_len HLL.out) (one_int w5 u) (HZ.out.below hB6) (fun k hk => absurd hk (by simp)) (by simp) hzl (by simp) (cutG_gc HG.out _ _) HAP2.out)
    have HB6 := hid hB6
    clear hA6 hB6 hb5 hL5 HCU HA HB5
    generalize opX (cutG L [] [((u : Nat) : Int)]) [((u : Nat) : Int)] z [] = q2 at *
    go_wp2_with fail
    refine HAC.out.mono ?_
    rintro e w7 ⟨rfl, hb7⟩
    have HB7 := hid (HB6.out.trans (hb7.mono HB6.out.size))
    clear hb7 HAC HB6
    have HCU := hid (rCutL a none bz ca 0 cz L [] z w7 (HL.out.below HB7.out) HLL.out hL (fun k hk => absurd hk (by simp)) (HZ.out.below HB7.out) (by simp) hzl)
    go_wp2_with fail
    refine HCU.out.mono ?_
    rintro e w8 ⟨R3, cap3, rfl, hL8, hb8⟩
    have HB8 := hid (HB7.out.trans (hb8.mono HB7.out.size))
    have hA9 := (Below.refl w8.heap.size w8).alloc (Nat.le_refl _) (.cells #[.int .i64 (t : Nat)] 3)
    have hs9 : (w8.alloc (.cells #[.int .i64 (t : Nat)] 3)).heap.size = w8.heap.size + 1 := by simp
    have hA10 := hA9.alloc hA9.size (.cells #[.int .i64 (u : Nat)] 3)
    have hB10 := HB8.out.trans (hA10.mono HB8.out.size)
    have hx10 := one_int (w8.alloc (.cells #[.int .i64 (t : Nat)] 3)) (u : Nat)
    rw [hs9] at hx10
    have HAC := hid (rApartG R3 bz (some ⟨w8.heap.size, 0, none⟩) (some ⟨w8.heap.size + 1, 0, none⟩) cap3 cz 1 1 L.length (cutG L [] z) z [((t : Nat) : Int)] [((u : Nat) : Int)] _ (cutG_length _ _ _) (hL8.below hA10) (cutG_len HLL.out) (HZ.out.below hB10) ((one_int w8 t).below ((Below.refl _ _).alloc (Nat.le_refl _) (.cells #[.int .i64 (u : Nat)] 3))) hx10 hzl (by simp) (by simp) (cutG_gc HG.out _ _) HAP3.out)
    have HB10 := hid hB10
    clear hA9 hs9 hA10 hB10 hx10 hb8 hL8 HCU
    generalize opX (cutG L [] z) z [((t : Nat) : Int)] [((u : Nat) : Int)] = q3 at *
    go_wp2_with fail
    refine HAC.out.mono ?_
    rintro e w11 ⟨rfl, hb11⟩
    have HB11 := hid (HB10.out.trans (hb11.mono HB10.out.size))
    clear hb11 HAC
    cases q1 with
    | true =>
      go_wp2
      go_ret2
      exact ⟨by rw [← HRE.out.1, ← HRE.out.2]; rfl, HB11.out⟩
    | false =>
      cases q2 with
      | true =>
        go_wp2
        go_ret2
        exact ⟨by rw [← HRE.out.1, ← HRE.out.2]; rfl, HB11.out⟩
      | false =>
        go_wp2
        go_ret2
        exact ⟨by rw [← HRE.out.1, ← HRE.out.2]; rfl, HB11.out⟩
  · have HE := hid (HBE.out hst)
    have hgb : (stE L [[x], [y], z] == 0) = false := by simpa using hst
    clear hst HBE HBO
    generalize stE L [[x], [y], z] = st at *
    go_wp2
    go_ret2
    exact ⟨by rw [← HE.out.1, ← HE.out.2]; rfl, HB1.out⟩
end Go.Proofs.Ytockhhleapbpiaa

