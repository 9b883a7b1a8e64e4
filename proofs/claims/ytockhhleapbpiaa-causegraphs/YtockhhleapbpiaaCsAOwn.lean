/- Package cause: BackDoor, FrontDoor. -/
import Derived.Test.YtockhhleapbpiaaStsAOwn
import Derived.Test.YtockhhleapbpiaaCntAToListA
namespace Go.Proofs.Ytockhhleapbpiaa
open Go.RowKit Go.Shelf

/-- What BackDoor, FrontDoor and Rule answer. -/
def bdA (L : List (List Int)) (x y : Int) (z : List Int) : Bool × Int :=
  if stE L [[x], [y], z] = 0 then (!(abO L x.toNat (toN z)) && !opX (cutG L [] [x]) [x] [y] z, 0) else (false, stE L [[x], [y], z])
def fdA (L : List (List Int)) (x y : Int) (z : List Int) : Bool × Int :=
  if stE L [[x], [y], z] = 0 then ((!(abO (cutG L z []) x.toNat (toN [y])) && !opX (cutG L [] [x]) [x] z []) && !opX (cutG L [] z) z [y] [x], 0) else (false, stE L [[x], [y], z])
/-- Those of z that are neither of w nor above one of it. -/
def freeL (L : List (List Int)) (z w : List Int) : List Int := othN z (memL (abS (parN L) (toN w) L.length))
def rlG (L : List (List Int)) (k : Int) (x z w : List Int) : List (List Int) :=
  if k = 1 then cutG L x [] else if k = 2 then cutG (cutG L x []) [] z else cutG (cutG L x []) (freeL (cutG L x []) z w) []
def rlA (L : List (List Int)) (k : Int) (x y z w : List Int) : Bool × Int :=
  if stE L [x, y, z, w] = 0 then (if k = 1 ∨ k = 2 ∨ k = 3 then (!opX (rlG L k x z w) y z (togL x w), 0) else (false, 15)) else (false, stE L [x, y, z, w])
theorem one_ris {x : Int} {n : Nat} (h : risB [x] n = true) : 0 ≤ x ∧ x < n := up_mem (ris_up h) List.mem_cons_self
/-- Of the sets of a door. -/
theorem door_parts {n : Nat} {x y : Int} {z : List Int} (h : apB n [[x], [y], z] = true) : (0 ≤ x ∧ x < n) ∧ (0 ≤ y ∧ y < n) ∧ risB z n = true ∧ apB n [[x], z, []] = true ∧ apB n [z, [y], [x]] = true := by
  obtain ⟨h1, h2⟩ := apB_iff.1 h
  have hx := h1 [x] (by simp)
  have hy := h1 [y] (by simp)
  have hz := h1 z (by simp)
  simp only [List.flatten_cons, List.flatten_nil, List.append_nil, List.nodup_append, List.mem_append, List.mem_singleton] at h2
  obtain ⟨a1, ⟨a2, a3, a4⟩, a5⟩ := h2
  refine ⟨one_ris hx, one_ris hy, hz, apB_iff.2 ⟨fun l hl => ?_, ?_⟩, apB_iff.2 ⟨fun l hl => ?_, ?_⟩⟩
  · simp only [List.mem_cons, List.not_mem_nil, or_false] at hl
    rcases hl with rfl | rfl | rfl
    · exact hx
    · exact hz
    · rfl
  · simp only [List.flatten_cons, List.flatten_nil, List.append_nil, List.nodup_append, List.mem_singleton]
    exact ⟨a1, a3, fun a ha b hb => a5 a ha b (.inr hb)⟩
  · simp only [List.mem_cons, List.not_mem_nil, or_false] at hl
    rcases hl with rfl | rfl | rfl
    · exact hz
    · exact hy
    · exact hx
  · simp only [List.flatten_cons, List.flatten_nil, List.append_nil, List.nodup_append, List.mem_append, List.mem_singleton]
    refine ⟨a3, ⟨a2, a1, fun a ha b hb e => a5 b hb a (.inl ha) e.symm⟩, fun a ha b hb e => ?_⟩
    rcases hb with hb | hb
    · exact a4 b hb a ha e.symm
    · exact a5 b hb a (.inr ha) e.symm
theorem LsN.three {U : World} {bx by' bz : Option Addr} {nx ny nz cx cy cz : Nat} {Ls : List (List Int)} (h3 : Ls.length = 3) (hx : bx = none → cx = 0) (hy : by' = none → cy = 0) (hz : bz = none → cz = 0) : LsN (U.alloc (.cells #[.slice bx nx cx, .slice by' ny cy, .slice bz nz cz] 23)) (some ⟨U.heap.size, 0, none⟩) Ls := fun k hk g o b n c ha hc hn => by
  have hnew := heap_alloc_new U (.cells #[.slice bx nx cx, .slice by' ny cy, .slice bz nz cz] 23)
  cases ha
  rw [cell_of_row _ U.heap.size _ _ _ (0, 0) hnew] at hc
  rw [h3] at hk
  match k, hk with
  | 0, _ => cases hc; exact hx hn
  | 1, _ => cases hc; exact hy hn
  | 2, _ => cases hc; exact hz hn
theorem cutG_big {L : List (List Int)} {I F : List Int} (h : ∀ l ∈ L, l.length ≤ 1000) : ∀ l ∈ cutG L I F, l.length ≤ 140737488355328 := fun l hl => by
  have := cutG_len h l hl
  omega
theorem cApartC {R cap : Nat} {L : List (List Int)} {I F : List Int} (bx by' bz : Option Addr) (cx cy cz : Nat) (x y z : List Int) (w : World) (h : LsS w (some ⟨R, 0, none⟩) (cutG L I F)) (hl : ∀ l ∈ L, l.length ≤ 1000) (hx : IntS w bx x) (hy : IntS w by' y) (hz : IntS w bz z) (hxl : x.length ≤ 1000) (hyl : y.length ≤ 1000) (hzl : z.length ≤ 1000) (hg : gcE L = 0) (hap : apB L.length [x, y, z] = true) :
    Calls Try.prog 62 #[.slice (some ⟨R, 0, none⟩) L.length cap, .slice bx x.length cx, .slice by' y.length cy, .slice bz z.length cz] w fun e w' => e = .returned (.bool (!opX (cutG L I F) x y z)) ∧ Below w.heap.size w w' := by
  have := cApart_any (some ⟨R, 0, none⟩) bx by' bz cap cx cy cz (cutG L I F) x y z w h (cutG_big hl) hx hy hz (by omega) (by omega) (by omega) (cutG_gc hg I F) (by rw [cutG_length]; exact hap)
  rwa [cutG_length] at this

theorem door_sets (a bz : Option Addr) (ca cz : Nat) (L : List (List Int)) (x y : Int) (z : List Int) (w : World) (h : LsS w a L) (hl : ∀ l ∈ L, l.length ≤ 1000) (hz : IntS w bz z) (hz0 : bz = none → cz = 0) (hzl : z.length ≤ 1000) :
    Calls Try.prog 58 #[.slice a L.length ca, .slice (some ⟨w.heap.size + 1 + 1, 0, none⟩) 3 3] (((w.alloc (.cells #[.int .i64 x] 3)).alloc (.cells #[.int .i64 y] 3)).alloc (.cells #[.slice (some ⟨w.heap.size, 0, none⟩) 1 1, .slice (some ⟨w.heap.size + 1, 0, none⟩) 1 1, .slice bz z.length cz] 23)) (fun e w' => e = .returned (.int .i64 (stE L [[x], [y], z])) ∧ Below (((w.alloc (.cells #[.int .i64 x] 3)).alloc (.cells #[.int .i64 y] 3)).alloc (.cells #[.slice (some ⟨w.heap.size, 0, none⟩) 1 1, .slice (some ⟨w.heap.size + 1, 0, none⟩) 1 1, .slice bz z.length cz] 23)).heap.size (((w.alloc (.cells #[.int .i64 x] 3)).alloc (.cells #[.int .i64 y] 3)).alloc (.cells #[.slice (some ⟨w.heap.size, 0, none⟩) 1 1, .slice (some ⟨w.heap.size + 1, 0, none⟩) 1 1, .slice bz z.length cz] 23)) w') ∧ Below w.heap.size w (((w.alloc (.cells #[.int .i64 x] 3)).alloc (.cells #[.int .i64 y] 3)).alloc (.cells #[.slice (some ⟨w.heap.size, 0, none⟩) 1 1, .slice (some ⟨w.heap.size + 1, 0, none⟩) 1 1, .slice bz z.length cz] 23)) := by
  have hA1 := (Below.refl w.heap.size w).alloc (Nat.le_refl _) (.cells #[.int .i64 x] 3)
  have hs1 : (w.alloc (.cells #[.int .i64 x] 3)).heap.size = w.heap.size + 1 := by simp
  have hA2 := hA1.alloc hA1.size (.cells #[.int .i64 y] 3)
  have hs2 : ((w.alloc (.cells #[.int .i64 x] 3)).alloc (.cells #[.int .i64 y] 3)).heap.size = w.heap.size + 1 + 1 := by simp
  have hx2 : IntS ((w.alloc (.cells #[.int .i64 x] 3)).alloc (.cells #[.int .i64 y] 3)) (some ⟨w.heap.size, 0, none⟩) [x] := (one_int w x).below ((Below.refl _ _).alloc (Nat.le_refl _) _)
  have hy2 := one_int (w.alloc (.cells #[.int .i64 x] 3)) y
  rw [hs1] at hy2
  have hz2 := hz.below hA2
  have h3 := three_lists (cx := 1) (cy := 1) (cz := cz) hx2 hy2 hz2
  have hn3 := LsN.three (U := (w.alloc (.cells #[.int .i64 x] 3)).alloc (.cells #[.int .i64 y] 3)) (bx := some ⟨w.heap.size, 0, none⟩) (by' := some ⟨w.heap.size + 1, 0, none⟩) (bz := bz) (nx := 1) (ny := 1) (nz := z.length) (cx := 1) (cy := 1) (cz := cz) (Ls := [[x], [y], z]) rfl (fun e => by cases e) (fun e => by cases e) hz0
  rw [hs2] at h3 hn3
  have hA3 := hA2.alloc hA2.size (.cells #[.slice (some ⟨w.heap.size, 0, none⟩) 1 1, .slice (some ⟨w.heap.size + 1, 0, none⟩) 1 1, .slice bz z.length cz] 23)
  refine ⟨setsMayBe_any a (some ⟨w.heap.size + 1 + 1, 0, none⟩) ca 3 L [[x], [y], z] _ (h.below hA3) (fun l hl' => by have := hl l hl'; omega) h3 hn3 (fun l hl' => by
    simp only [List.mem_cons, List.not_mem_nil, or_false] at hl'
    rcases hl' with rfl | rfl | rfl
    · simp
    · simp
    · exact hzl) (by simp) (by simp), hA3⟩

set_option maxRecDepth 100000 in
set_option maxHeartbeats 1000000 in
theorem cBack_any (a bz : Option Addr) (ca cz : Nat) (L : List (List Int)) (x y : Int) (z : List Int) (w : World) (h : LsS w a L) (hl : ∀ l ∈ L, l.length ≤ 1000) (hz : IntS w bz z) (hz0 : bz = none → cz = 0) (hzl : z.length ≤ 1000) :
    Calls Try.prog 30 #[.slice a L.length ca, .int .i64 x, .int .i64 y, .slice bz z.length cz] w fun e w' => e = .returned (.tuple #[.bool (bdA L x y z).1, .int .i64 (bdA L x y z).2]) ∧ Below w.heap.size w w' := by
  obtain ⟨hst0, hA3⟩ := door_sets a bz ca cz L x y z w h hl hz hz0 hzl
  have HST := hid hst0
  have HA3 := hid hA3
  have HZ := hid hz
  have HL := hid h
  have HLL := hid hl
  obtain ⟨rb, re, hre⟩ : ∃ rb re, bdA L x y z = (rb, re) := ⟨_, _, rfl⟩
  have HBE : Hid (stE L [[x], [y], z] ≠ 0 → false = rb ∧ stE L [[x], [y], z] = re) := fun e => by
    rw [bdA, if_neg e] at hre
    exact Prod.mk.inj hre
  have HBO : Hid (stE L [[x], [y], z] = 0 → (!(abO L x.toNat (toN z)) && !opX (cutG L [] [x]) [x] [y] z) = rb ∧ 0 = re) := fun e => by
    rw [bdA, if_pos e] at hre
    exact Prod.mk.inj hre
  rw [hre]
  show Calls Try.prog 30 #[.slice a L.length ca, .int .i64 x, .int .i64 y, .slice bz z.length cz] w fun e w' => e = .returned (.tuple #[.bool rb, .int .i64 re]) ∧ Below w.heap.size w w'
  clear hre
  clear hst0 hA3 h hz hl
  go_enter Try.func30, Try.ntmps30
  go_wp2_with fail
  refine HST.out.mono ?_
  rintro e w1 ⟨rfl, hb1⟩
  have HB1 := hid (HA3.out.trans (hb1.mono HA3.out.size))
  clear hb1 HST HA3
  by_cases hst : stE L [[x], [y], z] = 0
  · obtain ⟨hg, hap⟩ := stE_ok hst
    obtain ⟨⟨hx0, hx1⟩, ⟨hy0, hy1⟩, hrz, _, _⟩ := door_parts hap
    obtain ⟨u, rfl⟩ : ∃ u : Nat, x = u := ⟨x.toNat, by omega⟩
    rw [hst]
    have hR := HBO.out hst
    rw [Int.toNat_natCast] at hR
    have HRE := hid hR
    have HIA := hid (cIsAbove_any a bz ca cz u L z w1 (HL.out.below HB1.out) (fun l hl' => by have := HLL.out l hl'; omega) (HZ.out.below HB1.out) (by omega) hg hrz (by omega))
    have HG := hid hg
    have HAP := hid hap
    have h8 : 0 < L.length ∧ L.length ≤ 8 := ⟨by omega, (gB_parts (gc_parts hg).1).2.1⟩
    clear hst hR hg hap hrz HBE HBO
    generalize abO L u (toN z) = q1 at *
    cases q1 with
    | true =>
      go_wp2_with fail
      refine HIA.out.mono ?_
      rintro e w2 ⟨rfl, hb2⟩
      have HB2 := hid (HB1.out.trans (hb2.mono HB1.out.size))
      clear hb2
      go_wp2
      go_ret2
      exact ⟨by rw [← HRE.out.1, ← HRE.out.2]; rfl, HB2.out⟩
    | false =>
      go_wp2_with fail
      refine HIA.out.mono ?_
      rintro e w2 ⟨rfl, hb2⟩
      have HB2 := hid (HB1.out.trans (hb2.mono HB1.out.size))
      clear hb2
      have hA := HB2.out.alloc HB2.out.size (.cells #[.int .i64 (u : Nat)] 3)
      have HWO := hid (withoutOut_any a (some ⟨w2.heap.size, 0, none⟩) ca 1 L [((u : Nat) : Int)] _ (HL.out.below hA) (one_int w2 u) h8.1 h8.2 HLL.out (by simp))
      have HA := hid hA
      clear hA
      go_wp2_with fail
      refine HWO.out.mono ?_
      rintro e w3 ⟨R, cap, rfl, hL3, hb3⟩
      have HB3 := hid (HA.out.trans (hb3.mono HA.out.size))
      have hA4 := (Below.refl w3.heap.size w3).alloc (Nat.le_refl _) (.cells #[.int .i64 (u : Nat)] 3)
      have hs4 : (w3.alloc (.cells #[.int .i64 (u : Nat)] 3)).heap.size = w3.heap.size + 1 := by simp
      have hA5 := hA4.alloc hA4.size (.cells #[.int .i64 y] 3)
      have hB5 := HB3.out.trans (hA5.mono HB3.out.size)
      have hy5 := one_int (w3.alloc (.cells #[.int .i64 (u : Nat)] 3)) y
      rw [hs4] at hy5
      have HAC := hid (cApartC (cap := cap) (some ⟨w3.heap.size, 0, none⟩) (some ⟨w3.heap.size + 1, 0, none⟩) bz 1 1 cz [((u : Nat) : Int)] [y] z _ (hL3.below hA5) HLL.out ((one_int w3 u).below ((Below.refl _ _).alloc (Nat.le_refl _) (.cells #[.int .i64 y] 3))) hy5 (HZ.out.below hB5) (by simp) (by simp) hzl HG.out HAP.out)
      have HB5 := hid hB5
      clear hA4 hs4 hA5 hB5 hy5 hb3 hL3 HWO
      generalize opX (cutG L [] [((u : Nat) : Int)]) [((u : Nat) : Int)] [y] z = q2 at *
      go_wp2_with fail
      refine HAC.out.mono ?_
      rintro e w4 ⟨rfl, hb4⟩
      have HB6 := hid (HB5.out.trans (hb4.mono HB5.out.size))
      clear hb4
      go_wp2
      go_ret2
      exact ⟨by rw [← HRE.out.1, ← HRE.out.2]; rfl, HB6.out⟩
  · have HE := hid (HBE.out hst)
    have hgb : (stE L [[x], [y], z] == 0) = false := by simpa using hst
    clear hst HBE HBO
    generalize stE L [[x], [y], z] = st at *
    go_wp2
    go_ret2
    exact ⟨by rw [← HE.out.1, ← HE.out.2]; rfl, HB1.out⟩
set_option maxRecDepth 100000 in
set_option maxHeartbeats 1000000 in
theorem cFront_any (a bz : Option Addr) (ca cz : Nat) (L : List (List Int)) (x y : Int) (z : List Int) (w : World) (h : LsS w a L) (hl : ∀ l ∈ L, l.length ≤ 1000) (hz : IntS w bz z) (hz0 : bz = none → cz = 0) (hzl : z.length ≤ 1000) :
    Calls Try.prog 32 #[.slice a L.length ca, .int .i64 x, .int .i64 y, .slice bz z.length cz] w fun e w' => e = .returned (.tuple #[.bool (fdA L x y z).1, .int .i64 (fdA L x y z).2]) ∧ Below w.heap.size w w' := by
  obtain ⟨hst0, hA3⟩ := door_sets a bz ca cz L x y z w h hl hz hz0 hzl
  have HST := hid hst0
  have HA3 := hid hA3
  have HZ := hid hz
  have HL := hid h
  have HLL := hid hl
  obtain ⟨rb, re, hre⟩ : ∃ rb re, fdA L x y z = (rb, re) := ⟨_, _, rfl⟩
  have HBE : Hid (stE L [[x], [y], z] ≠ 0 → false = rb ∧ stE L [[x], [y], z] = re) := fun e => by
    rw [fdA, if_neg e] at hre
    exact Prod.mk.inj hre
  have HBO : Hid (stE L [[x], [y], z] = 0 → ((!(abO (cutG L z []) x.toNat (toN [y])) && !opX (cutG L [] [x]) [x] z []) && !opX (cutG L [] z) z [y] [x]) = rb ∧ 0 = re) := fun e => by
    rw [fdA, if_pos e] at hre
    exact Prod.mk.inj hre
  rw [hre]
  show Calls Try.prog 32 #[.slice a L.length ca, .int .i64 x, .int .i64 y, .slice bz z.length cz] w fun e w' => e = .returned (.tuple #[.bool rb, .int .i64 re]) ∧ Below w.heap.size w w'
  clear hre
  clear hst0 hA3 h hz hl
  go_enter Try.func32, Try.ntmps32
  go_wp2_with fail
  refine HST.out.mono ?_
  rintro e w1 ⟨rfl, hb1⟩
  have HB1 := hid (HA3.out.trans (hb1.mono HA3.out.size))
  clear hb1 HST HA3
  by_cases hst : stE L [[x], [y], z] = 0
  · obtain ⟨hg, hap⟩ := stE_ok hst
    obtain ⟨⟨hx0, hx1⟩, ⟨hy0, hy1⟩, hrz, hap2, hap3⟩ := door_parts hap
    obtain ⟨u, rfl⟩ : ∃ u : Nat, x = u := ⟨x.toNat, by omega⟩
    rw [hst]
    have hR := HBO.out hst
    rw [Int.toNat_natCast] at hR
    have HRE := hid hR
    have HG := hid hg
    have HAP2 := hid hap2
    have HAP3 := hid hap3
    have h8 : 0 < L.length ∧ L.length ≤ 8 := ⟨by omega, (gB_parts (gc_parts hg).1).2.1⟩
    have hry : risB [y] L.length = true := (apB_iff.1 hap).1 [y] (by simp)
    have HWI := hid (withoutIn_any a bz ca cz L z w1 (HL.out.below HB1.out) (HZ.out.below HB1.out) h8.1 h8.2 (fun v hv => up_mem (ris_up hrz) hv) hzl)
    have HIB : Hid (∀ (R cap : Nat) (b : Option Addr) (U : World), LsS U (some ⟨R, 0, none⟩) (cutG L z []) → IntS U b [y] → Calls Try.prog 67 #[.slice (some ⟨R, 0, none⟩) L.length cap, .int .i64 (u : Nat), .slice b 1 1] U fun e w' => e = .returned (.bool (abO (cutG L z []) u (toN [y]))) ∧ Below U.heap.size U w') := fun R cap b U hU hb => by
      have := cIsAbove_any (some ⟨R, 0, none⟩) b cap 1 u (cutG L z []) [y] U hU (cutG_big HLL.out) hb (by simp) (cutG_gc HG.out z []) (by rw [cutG_length]; exact hry) (by rw [cutG_length]; omega)
      rwa [cutG_length] at this
    clear hst hR hg hap hap2 hap3 hrz hry HBE HBO
    go_wp2_with fail
    refine HWI.out.mono ?_
    rintro e w2 ⟨R, cap, rfl, hL2, hb2⟩
    have HB2 := hid (HB1.out.trans (hb2.mono HB1.out.size))
    have hA2 := (Below.refl w2.heap.size w2).alloc (Nat.le_refl _) (.cells #[.int .i64 y] 3)
    have HIA := hid (HIB.out R cap (some ⟨w2.heap.size, 0, none⟩) _ (hL2.below hA2) (one_int w2 y))
    have HB3 := hid (HB2.out.trans (hA2.mono HB2.out.size))
    clear hb2 hA2 hL2 HWI HIB
    generalize abO (cutG L z []) u (toN [y]) = q1 at *
    cases q1 with
    | true =>
      go_wp2_with fail
      refine HIA.out.mono ?_
      rintro e w4 ⟨rfl, hb4⟩
      have HB4 := hid (HB3.out.trans (hb4.mono HB3.out.size))
      clear hb4
      go_wp2
      go_ret2
      exact ⟨by rw [← HRE.out.1, ← HRE.out.2]; rfl, HB4.out⟩
    | false =>
      go_wp2_with fail
      refine HIA.out.mono ?_
      rintro e w4 ⟨rfl, hb4⟩
      have HB4 := hid (HB3.out.trans (hb4.mono HB3.out.size))
      clear hb4 HIA HB3 HB2
      have hA := HB4.out.alloc HB4.out.size (.cells #[.int .i64 (u : Nat)] 3)
      have HWO := hid (withoutOut_any a (some ⟨w4.heap.size, 0, none⟩) ca 1 L [((u : Nat) : Int)] _ (HL.out.below hA) (one_int w4 u) h8.1 h8.2 HLL.out (by simp))
      have HA := hid hA
      clear hA
      go_wp2_with fail
      refine HWO.out.mono ?_
      rintro e w5 ⟨R2, cap2, rfl, hL5, hb5⟩
      have HB5 := hid (HA.out.trans (hb5.mono HA.out.size))
      have hA6 := (Below.refl w5.heap.size w5).alloc (Nat.le_refl _) (.cells #[.int .i64 (u : Nat)] 3)
      have hB6 := HB5.out.trans (hA6.mono HB5.out.size)
      have HAC := hid (cApartC (cap := cap2) (some ⟨w5.heap.size, 0, none⟩) bz none 1 cz 0 [((u : Nat) : Int)] z [] _ (hL5.below hA6) HLL.out (one_int w5 u) (HZ.out.below hB6) (fun k hk => absurd hk (by simp)) (by simp) hzl (by simp) HG.out HAP2.out)
      have HB6 := hid hB6
      clear hA6 hB6 hb5 hL5 HWO HA HB5
      generalize opX (cutG L [] [((u : Nat) : Int)]) [((u : Nat) : Int)] z [] = q2 at *
      cases q2 with
      | true =>
        go_wp2_with fail
        refine HAC.out.mono ?_
        rintro e w7 ⟨rfl, hb7⟩
        have HB7 := hid (HB6.out.trans (hb7.mono HB6.out.size))
        clear hb7
        go_wp2
        go_ret2
        exact ⟨by rw [← HRE.out.1, ← HRE.out.2]; rfl, HB7.out⟩
      | false =>
        go_wp2_with fail
        refine HAC.out.mono ?_
        rintro e w7 ⟨rfl, hb7⟩
        have HB7 := hid (HB6.out.trans (hb7.mono HB6.out.size))
        clear hb7 HAC HB6 HB4
        have HWO := hid (withoutOut_any a bz ca cz L z w7 (HL.out.below HB7.out) (HZ.out.below HB7.out) h8.1 h8.2 HLL.out hzl)
        go_wp2_with fail
        refine HWO.out.mono ?_
        rintro e w8 ⟨R3, cap3, rfl, hL8, hb8⟩
        have HB8 := hid (HB7.out.trans (hb8.mono HB7.out.size))
        have hA9 := (Below.refl w8.heap.size w8).alloc (Nat.le_refl _) (.cells #[.int .i64 y] 3)
        have hs9 : (w8.alloc (.cells #[.int .i64 y] 3)).heap.size = w8.heap.size + 1 := by simp
        have hA10 := hA9.alloc hA9.size (.cells #[.int .i64 (u : Nat)] 3)
        have hB10 := HB8.out.trans (hA10.mono HB8.out.size)
        have hx10 := one_int (w8.alloc (.cells #[.int .i64 y] 3)) (u : Nat)
        rw [hs9] at hx10
        have HAC := hid (cApartC (cap := cap3) bz (some ⟨w8.heap.size, 0, none⟩) (some ⟨w8.heap.size + 1, 0, none⟩) cz 1 1 z [y] [((u : Nat) : Int)] _ (hL8.below hA10) HLL.out (HZ.out.below hB10) ((one_int w8 y).below ((Below.refl _ _).alloc (Nat.le_refl _) (.cells #[.int .i64 (u : Nat)] 3))) hx10 hzl (by simp) (by simp) HG.out HAP3.out)
        have HB10 := hid hB10
        clear hA9 hs9 hA10 hB10 hx10 hb8 hL8 HWO
        generalize opX (cutG L [] z) z [y] [((u : Nat) : Int)] = q3 at *
        go_wp2_with fail
        refine HAC.out.mono ?_
        rintro e w11 ⟨rfl, hb11⟩
        have HB11 := hid (HB10.out.trans (hb11.mono HB10.out.size))
        clear hb11
        go_wp2
        go_ret2
        exact ⟨by rw [← HRE.out.1, ← HRE.out.2]; rfl, HB11.out⟩
  · have HE := hid (HBE.out hst)
    have hgb : (stE L [[x], [y], z] == 0) = false := by simpa using hst
    clear hst HBE HBO
    generalize stE L [[x], [y], z] = st at *
    go_wp2
    go_ret2
    exact ⟨by rw [← HE.out.1, ← HE.out.2]; rfl, HB1.out⟩
end Go.Proofs.Ytockhhleapbpiaa

