/- Package table: how many assignments there are, and the place of one. -/
import Derived.Test.YtknlhejhnopnaaaGreatDoorTabR3ToTabR4
namespace Go.Proofs.YtknlhejhnopnaaaGreatDoor
open Go.RowKit

set_option maxRecDepth 100000 in
set_option maxHeartbeats 1000000 in
theorem maySize_any (a : Option Addr) (cap : Nat) (l : List Int) (w : World) (h : IntS w a l) (hn : l.length ≤ 140737488355328) :
    Calls Tryz.prog 44 #[.slice a l.length cap] w fun e w' => e = .returned (.bool (fitB l)) ∧ Below w.heap.size w w' := by
  have HF := hid h
  clear h
  by_cases hl : 1 ≤ l.length ∧ l.length ≤ 8
  · have HB : Hid (fitB l = l.all okSize) := by show _ = _; rw [fitB, decide_eq_true hl]; rfl
    obtain ⟨hl1, hl2⟩ := hl
    generalize fitB l = fb at *
    go_enter Tryz.func44, Tryz.ntmps44
    go_wp2_with fail
    go_loopw [15] (fun iv wr => ∃ i : Nat, i ≤ l.length ∧ iv = .int .i64 i ∧ Hid ((l.take i).all okSize = true) ∧ Below w.heap.size w wr) (fun iv _ => l.length - (intOf iv).toNat)
    case atStart => exact ⟨0, Nat.zero_le _, rfl, rfl, Below.refl _ _⟩
    case round =>
      obtain ⟨i, hi, rfl, HI, hB⟩ := hrel
      by_cases hlt : i < l.length
      · obtain ⟨g, o, rfl, hg, c0⟩ := (HF.out.below hB) i hlt
        by_cases e : 1 ≤ l[i] ∧ l[i] ≤ 4
        · have HS := hid (all_take_succ hlt HI.out (p := okSize) (decide_eq_true e))
          obtain ⟨e1, e2⟩ := e
          generalize l[i] = x at *
          go_wp2
          go_roundw
          case rel => exact ⟨i + 1, by omega, by go_num, HS.out, hB⟩
          case measure => simp [intOf]; omega
        · have HE : Hid (fb = false) := by show _ = _; rw [HB.out]; exact all_bad hlt (decide_eq_false e)
          rcases (show l[i] < 1 ∨ (1 ≤ l[i] ∧ 4 < l[i]) by omega) with h3 | ⟨h3, h4⟩
          all_goals
            clear e
            generalize l[i] = x at *
            go_wp2
            go_ret
            exact ⟨by rw [HE.out]; rfl, hB⟩
      · have HE : Hid (fb = true) := by
          show _ = _
          rw [HB.out]
          have := HI.out
          rwa [List.take_of_length_le (by omega)] at this
        go_wp2
        go_ret
        exact ⟨by rw [HE.out]; rfl, hB⟩
  · have HE : Hid (fitB l = false) := by show _ = _; rw [fitB, decide_eq_false hl]; rfl
    generalize fitB l = fb at *
    go_enter Tryz.func44, Tryz.ntmps44
    rcases (show l.length < 1 ∨ (1 ≤ l.length ∧ 8 < l.length) by omega) with h3 | ⟨h3, h4⟩
    all_goals
      go_wp2
      go_ret
      exact ⟨by rw [HE.out]; rfl, Below.refl _ _⟩

/-- The least number that may follow. -/
def least (l : List Int) (i : Nat) : Int := if i = 0 then 0 else l.getD (i - 1) 0 + 1
theorem least_succ {l : List Int} {i : Nat} (h : i < l.length) : least l (i + 1) = l[i] + 1 := by
  rw [least, if_neg (by omega), Nat.add_sub_cancel, getD_eq h]
theorem okAt_least {l : List Int} {n : Int} {i : Nat} (hi : i < l.length) (h : (List.range i).all (okAt l n) = true) : okAt l n i = decide (least l i ≤ l[i] ∧ l[i] < n) ∧ 0 ≤ least l i := by
  rw [okAt, getD_eq hi, least]
  by_cases h0 : i = 0
  · subst h0
    refine ⟨?_, by simp⟩
    simp
  · have hp := List.all_eq_true.1 h (i - 1) (List.mem_range.2 (by omega))
    rw [okAt, decide_eq_true_iff, getD_eq (by omega)] at hp
    rw [if_neg h0, getD_eq (by omega)]
    refine ⟨?_, by omega⟩
    rw [decide_eq_decide]
    constructor
    · intro ⟨_, h2, h3⟩; have := h3 (by omega); exact ⟨by omega, h2⟩
    · intro ⟨h1, h2⟩; exact ⟨by omega, h2, fun _ => by omega⟩

set_option maxRecDepth 100000 in
set_option maxHeartbeats 1000000 in
theorem rises_any (a : Option Addr) (cap : Nat) (l : List Int) (n : Int) (w : World) (h : IntS w a l) (hn : l.length ≤ 140737488355328) (hnn : n ≤ 140737488355328) :
    Calls Tryz.prog 45 #[.slice a l.length cap, .int .i64 n] w fun e w' => e = .returned (.bool (risB l n)) ∧ Below w.heap.size w w' := by
  have HF := hid h
  clear h
  have HB := hid (fun i h e => risB_bad (l := l) (n := n) (i := i) h e)
  have HT : Hid ((List.range l.length).all (okAt l n) = true → risB l n = true) := id
  generalize risB l n = rb at *
  go_enter Tryz.func45, Tryz.ntmps45
  go_wp2_with fail
  go_loopw [5, 10] (fun lv iv wr => ∃ i : Nat, i ≤ l.length ∧ iv = .int .i64 i ∧ lv = .int .i64 (least l i) ∧ Hid ((List.range i).all (okAt l n) = true) ∧ Below w.heap.size w wr) (fun _ iv _ => l.length - (intOf iv).toNat)
  case atStart => exact ⟨0, Nat.zero_le _, rfl, rfl, rfl, Below.refl _ _⟩
  case round =>
    obtain ⟨i, hi, rfl, rfl, HI, hB⟩ := hrel
    by_cases hlt : i < l.length
    · obtain ⟨g, o, rfl, hg, c0⟩ := (HF.out.below hB) i hlt
      obtain ⟨hok, hl0⟩ := okAt_least hlt HI.out
      have HLS := hid (least_succ hlt)
      have HOK := hid hok
      clear hok
      generalize least l i = m at *
      generalize l[i] = x at *
      by_cases e : m ≤ x ∧ x < n
      · have HS := hid (ris_succ HI.out (by rw [HOK.out]; exact decide_eq_true e))
        obtain ⟨e1, e2⟩ := e
        go_wp2
        go_roundw
        case rel => exact ⟨i + 1, by omega, by go_num, by rw [HLS.out], HS.out, hB⟩
        case measure => simp [intOf]; omega
      · have HE := hid (HB.out i hlt (by rw [HOK.out]; exact decide_eq_false e))
        rcases (show x < m ∨ (m ≤ x ∧ n ≤ x) by omega) with h3 | ⟨h3, h4⟩
        all_goals
          clear e
          go_wp2
          go_ret
          exact ⟨by rw [HE.out]; rfl, hB⟩
    · obtain rfl : i = l.length := by omega
      have HE := hid (HT.out HI.out)
      go_wp2
      go_ret
      exact ⟨by rw [HE.out]; rfl, hB⟩

set_option maxRecDepth 100000 in
set_option maxHeartbeats 1000000 in
theorem countOf_any (a b : Option Addr) (ca cb : Nat) (sizes vars : List Int) (w : World) (hs : IntS w a sizes) (hv : IntS w b vars) (hfi : Fine sizes) (hup : Up vars sizes.length) :
    Calls Tryz.prog 46 #[.slice a sizes.length ca, .slice b vars.length cb] w fun e w' => e = .returned (.int .i64 (cnt (toN sizes) (toN vars) : Nat)) ∧ Below w.heap.size w w' := by
  have HS := hid hs
  have HV := hid hv
  have hl8 := hfi.eight
  have hvl := hup.length
  have HFI := hid hfi
  have HUP := hid hup
  clear hs hv hfi hup
  have HFIN : Hid (cnt (toN sizes) ((toN vars).take vars.length) = cnt (toN sizes) (toN vars)) := by show _ = _; rw [List.take_of_length_le (by rw [toN_length]; exact Nat.le_refl _)]
  go_enter Tryz.func46, Tryz.ntmps46
  go_wp2_with fail
  go_loopw [5, 10] (fun nv iv wr => ∃ i : Nat, i ≤ vars.length ∧ iv = .int .i64 i ∧ nv = .int .i64 (cnt (toN sizes) ((toN vars).take i) : Nat) ∧ Below w.heap.size w wr) (fun _ iv _ => vars.length - (intOf iv).toNat)
  case atStart => exact ⟨0, Nat.zero_le _, rfl, rfl, Below.refl _ _⟩
  case round =>
    obtain ⟨i, hi, rfl, rfl, hB⟩ := hrel
    by_cases hlt : i < vars.length
    · obtain ⟨g, o, rfl, hg, c0⟩ := (HV.out.below hB) i hlt
      obtain ⟨hvi, hvn⟩ := HUP.out.nat hlt
      have hst : cnt (toN sizes) ((toN vars).take (i + 1)) = cnt (toN sizes) ((toN vars).take i) * sz (toN sizes) vars[i].toNat := by
        rw [cnt_take _ _ (by rw [toN_length]; exact hlt), toN_get hlt]
      have hsm : cnt (toN sizes) ((toN vars).take (i + 1)) ≤ 65536 := cnt_small HFI.out.sz_le (by rw [List.length_take, toN_length]; omega)
      generalize hV : vars[i].toNat = v at *
      rw [← hvi] at c0
      obtain ⟨g', o', rfl, hg', c1⟩ := (HS.out.below hB) v hvn
      rw [← HFI.out.sz_eq hvn] at c1
      rw [hst] at hsm
      have hpi : ((cnt (toN sizes) ((toN vars).take i) : Nat) : Int) * ((sz (toN sizes) v : Nat) : Int) = ((cnt (toN sizes) ((toN vars).take i) * sz (toN sizes) v : Nat) : Int) := (Int.natCast_mul _ _).symm
      have HST := hid hst
      clear hst hvi hV
      generalize cnt (toN sizes) ((toN vars).take i) = X at *
      generalize sz (toN sizes) v = Y at *
      have hp0 : 0 ≤ (X : Int) * (Y : Int) := by rw [hpi]; omega
      have hp1 : (X : Int) * (Y : Int) ≤ 65536 := by rw [hpi]; omega
      have HPI := hid hpi
      clear hpi
      go_wp2
      go_roundw
      case rel => exact ⟨i + 1, by omega, by go_num, by rw [HST.out, ← HPI.out], hB⟩
      case measure => simp [intOf]; omega
    · obtain rfl : i = vars.length := by omega
      rw [HFIN.out]
      go_wp2
      go_ret
      exact ⟨rfl, hB⟩

set_option maxRecDepth 100000 in
set_option maxHeartbeats 1000000 in
theorem tCount_any (a b : Option Addr) (ca cb : Nat) (sizes vars : List Int) (w : World) (hs : IntS w a sizes) (hv : IntS w b vars) (hn : sizes.length ≤ 140737488355328) (hm : vars.length ≤ 140737488355328) :
    Calls Tryz.prog 8 #[.slice a sizes.length ca, .slice b vars.length cb] w fun e w' => e = .returned (.tuple #[.int .i64 (countA sizes vars).1, .int .i64 (countA sizes vars).2]) ∧ Below w.heap.size w w' := by
  have HS := hid hs
  have HV := hid hv
  clear hs hv
  have HFIT := hid (fun V h => maySize_any a ca sizes V h hn)
  have HRIS := hid (fun V h => rises_any b cb vars sizes.length V h hm (by omega))
  cases hf : fitB sizes with
  | false =>
    have HA := hid (countA_no (sizes := sizes) (vars := vars) (by rw [countB, hf]; rfl))
    rw [hf] at HFIT
    generalize countA sizes vars = r at *
    go_enter Tryz.func8, Tryz.ntmps8
    go_wp2_with fail
    refine (HFIT.out _ HS.out).mono ?_
    rintro e w1 ⟨rfl, hb1⟩
    go_wp2
    go_ret2
    exact ⟨by rw [HA.out]; rfl, hb1⟩
  | true =>
    rw [hf] at HFIT
    cases hr : risB vars sizes.length with
    | false =>
      have HA := hid (countA_no (sizes := sizes) (vars := vars) (by rw [countB, hr, Bool.and_false]))
      rw [hr] at HRIS
      generalize countA sizes vars = r at *
      go_enter Tryz.func8, Tryz.ntmps8
      go_wp2_with fail
      refine (HFIT.out _ HS.out).mono ?_
      rintro e w1 ⟨rfl, hb1⟩
      go_wp2_with fail
      refine (HRIS.out _ (HV.out.below hb1)).mono ?_
      rintro e w2 ⟨rfl, hb2⟩
      have hB2 := hb1.trans (hb2.mono hb1.size)
      go_wp2
      go_ret2
      exact ⟨by rw [HA.out]; rfl, hB2⟩
    | true =>
      have HA := hid (countA_yes (sizes := sizes) (vars := vars) (by rw [countB, hf, hr]; rfl))
      rw [hr] at HRIS
      have HCO := hid (fun V h1 h2 => countOf_any a b ca cb sizes vars V h1 h2 (fit_fine hf) (ris_up hr))
      generalize countA sizes vars = r at *
      go_enter Tryz.func8, Tryz.ntmps8
      go_wp2_with fail
      refine (HFIT.out _ HS.out).mono ?_
      rintro e w1 ⟨rfl, hb1⟩
      go_wp2_with fail
      refine (HRIS.out _ (HV.out.below hb1)).mono ?_
      rintro e w2 ⟨rfl, hb2⟩
      have hB2 := hb1.trans (hb2.mono hb1.size)
      go_wp2_with fail
      refine (HCO.out _ (HS.out.below hB2) (HV.out.below hB2)).mono ?_
      rintro e w3 ⟨rfl, hb3⟩
      go_wp2
      go_ret2
      exact ⟨by rw [HA.out]; rfl, hB2.trans (hb3.mono hB2.size)⟩

set_option maxRecDepth 100000 in
set_option maxHeartbeats 1000000 in
theorem isValue_any (a : Option Addr) (ca : Nat) (sizes : List Int) (v : Nat) (x : Int) (w : World) (hs : IntS w a sizes) (hfi : Fine sizes) (hv : v < sizes.length) :
    Calls Tryz.prog 49 #[.slice a sizes.length ca, .int .i64 (v : Nat), .int .i64 x] w fun e w' => e = .returned (.bool (decide (0 ≤ x ∧ x < (sz (toN sizes) v : Int)))) ∧ Below w.heap.size w w' := by
  obtain ⟨g, o, rfl, hg, c0⟩ := hs v hv
  rw [← hfi.sz_eq hv] at c0
  have hl8 := hfi.eight
  generalize sz (toN sizes) v = Y at *
  by_cases e : 0 ≤ x ∧ x < (Y : Int)
  · rw [decide_eq_true e]
    obtain ⟨e1, e2⟩ := e
    go_enter Tryz.func49, Tryz.ntmps49
    go_wp2
    go_ret
    exact ⟨rfl, Below.refl _ _⟩
  · rw [decide_eq_false e]
    rcases (show x < 0 ∨ (0 ≤ x ∧ (Y : Int) ≤ x) by omega) with h3 | ⟨h3, h4⟩
    all_goals
      clear e
      go_enter Tryz.func49, Tryz.ntmps49
      go_wp2
      go_ret
      first
        | exact ⟨rfl, Below.refl _ _⟩
        | exact ⟨congrArg (fun b => Ending.returned (Value.bool b)) (decide_eq_false (by omega)), Below.refl _ _⟩
end Go.Proofs.YtknlhejhnopnaaaGreatDoor
