/- The document's answer: the place of an assignment. -/
import Derived.Test.YtncccbdledcibaaGreatDoorTabR1ToTabR3
import Derived.Laws.BitsAllLaws
namespace Go.Proofs.YtncccbdledcibaaGreatDoor
open Go.RowKit

/-- Is the i-th value one of its variable's? -/
def valB (S vs : List Nat) (l : List Int) (i : Nat) : Bool := decide (0 ≤ l.getD i 0 ∧ l.getD i 0 < (sz S (vs.getD i 0) : Int))
/-- The place that the first n values come to. -/
def idxN (S vs l : List Nat) (n : Nat) : Nat := (List.range n).foldl (fun k i => k * sz S (vs.getD i 0) + l.getD i 0) 0
theorem idxN_succ (S vs l : List Nat) (n : Nat) : idxN S vs l (n + 1) = idxN S vs l n * sz S (vs.getD n 0) + l.getD n 0 := by
  rw [idxN, List.range_succ, List.foldl_append]; rfl
theorem getN_eq {l : List Nat} {i : Nat} (h : i < l.length) : l.getD i 0 = l[i] := by simp [List.getD, h]
theorem idxN_lt {S vs : List Nat} {l : List Int} : ∀ (n : Nat), n ≤ vs.length → n ≤ l.length → (List.range n).all (valB S vs l) = true → idxN S vs (toN l) n < cnt S (vs.take n)
  | 0, _, _, _ => by simp [idxN, cnt]
  | n + 1, h1, h2, h => by
    rw [List.range_succ, List.all_append, Bool.and_eq_true] at h
    have ih := idxN_lt n (by omega) (by omega) h.1
    have hv : valB S vs l n = true := by simpa using h.2
    rw [valB, decide_eq_true_iff, getD_eq (by omega), getN_eq (by omega)] at hv
    rw [idxN_succ, cnt_take S vs (by omega), getN_eq (show n < vs.length by omega), getN_eq (by rw [toN_length]; omega), toN_get (by omega)]
    have : (idxN S vs (toN l) n + 1) * sz S vs[n] ≤ cnt S (vs.take n) * sz S vs[n] := Nat.mul_le_mul_right _ ih
    rw [Nat.add_mul, Nat.one_mul] at this
    omega
def indexA (sizes vars l : List Int) : Int × Int :=
  if countB sizes vars = true then (if l.length = vars.length then (if (List.range vars.length).all (valB (toN sizes) (toN vars) l) = true then (((idxN (toN sizes) (toN vars) (toN l) vars.length : Nat) : Int), 0) else (0, 12)) else (0, 8)) else (0, 11)
theorem indexA_none {sizes vars l : List Int} (h : countB sizes vars = false) : indexA sizes vars l = (0, 11) := if_neg (by rw [h]; decide)
theorem indexA_len {sizes vars l : List Int} (h : countB sizes vars = true) (h1 : ¬ l.length = vars.length) : indexA sizes vars l = (0, 8) := by rw [indexA, if_pos h, if_neg h1]
theorem indexA_val {sizes vars l : List Int} (h : countB sizes vars = true) (h1 : l.length = vars.length) {i : Nat} (hi : i < vars.length) (h2 : valB (toN sizes) (toN vars) l i = false) : indexA sizes vars l = (0, 12) := by
  rw [indexA, if_pos h, if_pos h1, if_neg]
  rw [Bool.not_eq_true, List.all_eq_false]
  exact ⟨i, List.mem_range.2 hi, by rw [h2]; decide⟩
theorem indexA_ok {sizes vars l : List Int} (h : countB sizes vars = true) (h1 : l.length = vars.length) (h2 : (List.range vars.length).all (valB (toN sizes) (toN vars) l) = true) : indexA sizes vars l = (((idxN (toN sizes) (toN vars) (toN l) vars.length : Nat) : Int), 0) := by
  rw [indexA, if_pos h, if_pos h1, if_pos h2]
theorem val_succ {S vs : List Nat} {l : List Int} {i : Nat} (h0 : (List.range i).all (valB S vs l) = true) (e : valB S vs l i = true) : (List.range (i + 1)).all (valB S vs l) = true := by
  rw [List.range_succ, List.all_append, h0]; simp [e]
theorem countB_parts {sizes vars : List Int} (h : countB sizes vars = true) : Fine sizes ∧ Up vars sizes.length := by
  rw [countB, Bool.and_eq_true] at h
  exact ⟨fit_fine h.1, ris_up h.2⟩

set_option maxRecDepth 100000 in
set_option maxHeartbeats 1000000 in
theorem rIndex_any (a b c : Option Addr) (ca cb cc : Nat) (sizes vars l : List Int) (w : World) (hs : IntS w a sizes) (hv : IntS w b vars) (hl : IntS w c l) (hn : sizes.length ≤ 140737488355328) (hm : vars.length ≤ 140737488355328) (hk : l.length ≤ 140737488355328) :
    Calls Tryz.prog 38 #[.slice a sizes.length ca, .slice b vars.length cb, .slice c l.length cc] w fun e w' => e = .returned (.tuple #[.int .i64 (indexA sizes vars l).1, .int .i64 (indexA sizes vars l).2]) ∧ Below w.heap.size w w' := by
  have HS := hid hs
  have HV := hid hv
  have HL := hid hl
  have HC := hid (fun V h1 h2 => rCount_any a b ca cb sizes vars V h1 h2 hn hm)
  clear hs hv hl
  cases hcb : countB sizes vars with
  | false =>
    have HA := hid (indexA_none (l := l) hcb)
    rw [countA_no hcb] at HC
    simp only at HC
    generalize indexA sizes vars l = r at *
    go_enter Tryz.func38, Tryz.ntmps38
    go_wp2_with fail
    refine (HC.out _ HS.out HV.out).mono ?_
    rintro e w1 ⟨rfl, hb1⟩
    go_wp2
    go_ret2
    exact ⟨by rw [HA.out]; rfl, hb1⟩
  | true =>
    have HN := hid (fun h => indexA_len (l := l) hcb h)
    have HB := hid (fun i h hi h2 => indexA_val (l := l) hcb h (i := i) hi h2)
    have HO := hid (fun h h2 => indexA_ok (l := l) hcb h h2)
    rw [countA_yes hcb] at HC
    simp only at HC
    obtain ⟨hfi, hup⟩ := countB_parts hcb
    have hl8 := hfi.eight
    have hvl := hup.length
    have HFI := hid hfi
    have HUP := hid hup
    clear hcb hfi hup
    generalize indexA sizes vars l = r at *
    generalize cnt (toN sizes) (toN vars) = N0 at *
    go_enter Tryz.func38, Tryz.ntmps38
    go_wp2_with fail
    refine (HC.out _ HS.out HV.out).mono ?_
    rintro e w1 ⟨rfl, hb1⟩
    by_cases hlen : l.length = vars.length
    · have HLEN := hid hlen
      have hlb : ((l.length : Int) == (vars.length : Int)) = true := by simp [hlen]
      have hli : (l.length : Int) = (vars.length : Int) := by omega
      have hln : ¬ ¬ l.length = vars.length := fun h => h hlen
      clear HN
      go_wp2_with fail
      go_loopw [10, 11] (fun kv iv wr => ∃ i : Nat, i ≤ vars.length ∧ iv = .int .i64 i ∧ kv = .int .i64 (idxN (toN sizes) (toN vars) (toN l) i : Nat) ∧ Hid ((List.range i).all (valB (toN sizes) (toN vars) l) = true) ∧ Below w.heap.size w wr) (fun _ iv _ => vars.length - (intOf iv).toNat)
      case atStart => exact ⟨0, Nat.zero_le _, rfl, rfl, rfl, hb1⟩
      case round =>
        obtain ⟨i, hi, rfl, rfl, HI, hB⟩ := hrel
        clear hb1 hlb hli hln
        by_cases hlt : i < vars.length
        · obtain ⟨g, o, rfl, hg, c0⟩ := (HV.out.below hB) i hlt
          obtain ⟨g2, o2, rfl, hg2, c2⟩ := (HL.out.below hB) i (by rw [HLEN.out]; exact hlt)
          obtain ⟨hvi, hvn⟩ := HUP.out.nat hlt
          have hvb : valB (toN sizes) (toN vars) l i = decide (0 ≤ l[i]'(by omega) ∧ l[i]'(by omega) < (sz (toN sizes) vars[i].toNat : Int)) := by
            rw [valB, getD_eq (by omega), getN_eq (by rw [toN_length]; exact hlt), toN_get hlt]
          have hst : idxN (toN sizes) (toN vars) (toN l) (i + 1) = idxN (toN sizes) (toN vars) (toN l) i * sz (toN sizes) vars[i].toNat + (l[i]'(by omega)).toNat := by
            rw [idxN_succ, getN_eq (show i < (toN vars).length by rw [toN_length]; exact hlt), toN_get hlt, getN_eq (show i < (toN l).length by rw [toN_length]; omega), toN_get (by omega)]
          have HBI := hid (fun h2 => HB.out i HLEN.out hlt h2)
          have hbd : valB (toN sizes) (toN vars) l i = true → idxN (toN sizes) (toN vars) (toN l) (i + 1) < 65537 := fun h => by
            have h1 := idxN_lt (i + 1) (by rw [toN_length]; omega) (by omega) (val_succ HI.out h)
            have h2 : cnt (toN sizes) ((toN vars).take (i + 1)) ≤ 65536 := cnt_small HFI.out.sz_le (by rw [List.length_take, toN_length]; omega)
            omega
          have HBD := hid hbd
          have HVS := hid (fun h => val_succ HI.out h (i := i))
          have hxl : i < l.length := by omega
          generalize hV : vars[i].toNat = v at *
          rw [← hvi] at c0
          obtain ⟨g', o', rfl, hg', c1⟩ := (HS.out.below hB) v hvn
          rw [← HFI.out.sz_eq hvn] at c1
          have HVB := hid hvb
          have HST := hid hst
          clear hst hvi hV hvb hbd
          generalize idxN (toN sizes) (toN vars) (toN l) i = X at *
          generalize sz (toN sizes) v = Y at *
          generalize l[i] = x at *
          by_cases e0 : x < 0
          · have HE := hid (HBI.out (by rw [HVB.out]; exact decide_eq_false (by omega)))
            have d0 : decide (x < 0) = true := decide_eq_true e0
            go_wp2_with fail
            go_quiet (fail)
            go_wp2
            go_ret2
            exact ⟨by rw [HE.out]; rfl, below_dn hB _⟩
          · have d0 : decide (x < 0) = false := decide_eq_false e0
            by_cases e1 : (Y : Int) ≤ x
            · have HE := hid (HBI.out (by rw [HVB.out]; exact decide_eq_false (by omega)))
              have d1 : decide ((Y : Int) ≤ x) = true := decide_eq_true e1
              go_wp2_with fail
              go_quiet (fail)
              go_wp2
              go_ret2
              exact ⟨by rw [HE.out]; rfl, below_dn hB _⟩
            · have d1 : decide ((Y : Int) ≤ x) = false := decide_eq_false e1
              have hok : valB (toN sizes) (toN vars) l i = true := by rw [HVB.out]; exact decide_eq_true (by omega)
              have h1 := HBD.out hok
              rw [HST.out] at h1
              have HS2 := hid (HVS.out hok)
              have hpi : ((X : Nat) : Int) * ((Y : Nat) : Int) = ((X * Y : Nat) : Int) := (Int.natCast_mul _ _).symm
              have hp0 : 0 ≤ (X : Int) * (Y : Int) := by rw [hpi]; omega
              have hp1 : (X : Int) * (Y : Int) + x ≤ 65536 := by rw [hpi]; omega
              have HFN : Hid ((X : Int) * (Y : Int) + x = ((X * Y + x.toNat : Nat) : Int)) := by show _ = _; rw [hpi]; omega
              clear hpi h1 hok HBD HBI HB
              go_wp2_with fail
              go_quiet (fail)
              go_wp2_with fail
              go_quiet (fail)
              go_wp2
              go_roundw
              case rel => exact ⟨i + 1, by omega, by go_num, by rw [HST.out, ← HFN.out], HS2.out, below_dn hB _⟩
              case measure => simp [intOf]; omega
        · obtain rfl : i = vars.length := by omega
          have HE := hid (HO.out HLEN.out HI.out)
          go_wp2
          go_ret2
          exact ⟨by rw [HE.out]; rfl, hB⟩
    · have HE := hid (HN.out hlen)
      have hlb : ((l.length : Int) == (vars.length : Int)) = false := by simp; omega
      go_wp2
      go_ret2
      exact ⟨by rw [HE.out]; rfl, hb1⟩
end Go.Proofs.YtncccbdledcibaaGreatDoor

/- Package table: how many assignments there are, and the place of one. -/
namespace Go.Proofs.YtncccbdledcibaaGreatDoor
open Go.RowKit

set_option maxRecDepth 100000 in
set_option maxHeartbeats 1000000 in
theorem maySize_any (a : Option Addr) (cap : Nat) (l : List Int) (w : World) (h : IntS w a l) (hn : l.length ≤ 140737488355328) :
    Calls Tryz.prog 92 #[.slice a l.length cap] w fun e w' => e = .returned (.bool (fitB l)) ∧ Below w.heap.size w w' := by
  have HF := hid h
  clear h
  by_cases hl : 1 ≤ l.length ∧ l.length ≤ 8
  · have HB : Hid (fitB l = l.all okSize) := by show _ = _; rw [fitB, decide_eq_true hl]; rfl
    obtain ⟨hl1, hl2⟩ := hl
    generalize fitB l = fb at *
    go_enter Tryz.func92, Tryz.ntmps92
    go_wp2_with fail
    go_loopw [15] (fun iv wr => ∃ i : Nat, i ≤ l.length ∧ iv = .int .i64 i ∧ Hid ((l.take i).all okSize = true) ∧ Below w.heap.size w wr) (fun iv _ => l.length - (intOf iv).toNat)
    case atStart => exact ⟨0, Nat.zero_le _, rfl, rfl, Below.refl _ _⟩
    case round =>
      obtain ⟨i, hi, rfl, HI, hB⟩ := hrel
      by_cases hlt : i < l.length
      · obtain ⟨g, o, rfl, hg, c0⟩ := (HF.out.below hB) i hlt
        by_cases e : 1 ≤ l[i] ∧ l[i] ≤ 4
        · have HS := hid (all_take_succ hlt HI.out (p := okSize) (decide_eq_true e))
          obtain ⟨e1, e2⟩ := e
          generalize l[i] = x at *
          go_wp2
          go_roundw
          case rel => exact ⟨i + 1, by omega, by go_num, HS.out, hB⟩
          case measure => simp [intOf]; omega
        · have HE : Hid (fb = false) := by show _ = _; rw [HB.out]; exact all_bad hlt (decide_eq_false e)
          rcases (show l[i] < 1 ∨ (1 ≤ l[i] ∧ 4 < l[i]) by omega) with h3 | ⟨h3, h4⟩
          all_goals
            clear e
            generalize l[i] = x at *
            go_wp2
            go_ret
            exact ⟨by rw [HE.out]; rfl, hB⟩
      · have HE : Hid (fb = true) := by
          show _ = _
          rw [HB.out]
          have := HI.out
          rwa [List.take_of_length_le (by omega)] at this
        go_wp2
        go_ret
        exact ⟨by rw [HE.out]; rfl, hB⟩
  · have HE : Hid (fitB l = false) := by show _ = _; rw [fitB, decide_eq_false hl]; rfl
    generalize fitB l = fb at *
    go_enter Tryz.func92, Tryz.ntmps92
    rcases (show l.length < 1 ∨ (1 ≤ l.length ∧ 8 < l.length) by omega) with h3 | ⟨h3, h4⟩
    all_goals
      go_wp2
      go_ret
      exact ⟨by rw [HE.out]; rfl, Below.refl _ _⟩

/-- The least number that may follow. -/
def least (l : List Int) (i : Nat) : Int := if i = 0 then 0 else l.getD (i - 1) 0 + 1
theorem least_succ {l : List Int} {i : Nat} (h : i < l.length) : least l (i + 1) = l[i] + 1 := by
  rw [least, if_neg (by omega), Nat.add_sub_cancel, getD_eq h]
theorem okAt_least {l : List Int} {n : Int} {i : Nat} (hi : i < l.length) (h : (List.range i).all (okAt l n) = true) : okAt l n i = decide (least l i ≤ l[i] ∧ l[i] < n) ∧ 0 ≤ least l i := by
  rw [okAt, getD_eq hi, least]
  by_cases h0 : i = 0
  · subst h0
    refine ⟨?_, by simp⟩
    simp
  · have hp := List.all_eq_true.1 h (i - 1) (List.mem_range.2 (by omega))
    rw [okAt, decide_eq_true_iff, getD_eq (by omega)] at hp
    rw [if_neg h0, getD_eq (by omega)]
    refine ⟨?_, by omega⟩
    rw [decide_eq_decide]
    constructor
    · intro ⟨_, h2, h3⟩; have := h3 (by omega); exact ⟨by omega, h2⟩
    · intro ⟨h1, h2⟩; exact ⟨by omega, h2, fun _ => by omega⟩

set_option maxRecDepth 100000 in
set_option maxHeartbeats 1000000 in
theorem rises_any (a : Option Addr) (cap : Nat) (l : List Int) (n : Int) (w : World) (h : IntS w a l) (hn : l.length ≤ 140737488355328) (hnn : n ≤ 140737488355328) :
    Calls Tryz.prog 93 #[.slice a l.length cap, .int .i64 n] w fun e w' => e = .returned (.bool (risB l n)) ∧ Below w.heap.size w w' := by
  have HF := hid h
  clear h
  have HB := hid (fun i h e => risB_bad (l := l) (n := n) (i := i) h e)
  have HT : Hid ((List.range l.length).all (okAt l n) = true → risB l n = true) := id
  generalize risB l n = rb at *
  go_enter Tryz.func93, Tryz.ntmps93
  go_wp2_with fail
  go_loopw [5, 10] (fun lv iv wr => ∃ i : Nat, i ≤ l.length ∧ iv = .int .i64 i ∧ lv = .int .i64 (least l i) ∧ Hid ((List.range i).all (okAt l n) = true) ∧ Below w.heap.size w wr) (fun _ iv _ => l.length - (intOf iv).toNat)
  case atStart => exact ⟨0, Nat.zero_le _, rfl, rfl, rfl, Below.refl _ _⟩
  case round =>
    obtain ⟨i, hi, rfl, rfl, HI, hB⟩ := hrel
    by_cases hlt : i < l.length
    · obtain ⟨g, o, rfl, hg, c0⟩ := (HF.out.below hB) i hlt
      obtain ⟨hok, hl0⟩ := okAt_least hlt HI.out
      have HLS := hid (least_succ hlt)
      have HOK := hid hok
      clear hok
      generalize least l i = m at *
      generalize l[i] = x at *
      by_cases e : m ≤ x ∧ x < n
      · have HS := hid (ris_succ HI.out (by rw [HOK.out]; exact decide_eq_true e))
        obtain ⟨e1, e2⟩ := e
        go_wp2
        go_roundw
        case rel => exact ⟨i + 1, by omega, by go_num, by rw [HLS.out], HS.out, hB⟩
        case measure => simp [intOf]; omega
      · have HE := hid (HB.out i hlt (by rw [HOK.out]; exact decide_eq_false e))
        rcases (show x < m ∨ (m ≤ x ∧ n ≤ x) by omega) with h3 | ⟨h3, h4⟩
        all_goals
          clear e
          go_wp2
          go_ret
          exact ⟨by rw [HE.out]; rfl, hB⟩
    · obtain rfl : i = l.length := by omega
      have HE := hid (HT.out HI.out)
      go_wp2
      go_ret
      exact ⟨by rw [HE.out]; rfl, hB⟩

set_option maxRecDepth 100000 in
set_option maxHeartbeats 1000000 in
theorem countOf_any (a b : Option Addr) (ca cb : Nat) (sizes vars : List Int) (w : World) (hs : IntS w a sizes) (hv : IntS w b vars) (hfi : Fine sizes) (hup : Up vars sizes.length) :
    Calls Tryz.prog 94 #[.slice a sizes.length ca, .slice b vars.length cb] w fun e w' => e = .returned (.int .i64 (cnt (toN sizes) (toN vars) : Nat)) ∧ Below w.heap.size w w' := by
  have HS := hid hs
  have HV := hid hv
  have hl8 := hfi.eight
  have hvl := hup.length
  have HFI := hid hfi
  have HUP := hid hup
  clear hs hv hfi hup
  have HFIN : Hid (cnt (toN sizes) ((toN vars).take vars.length) = cnt (toN sizes) (toN vars)) := by show _ = _; rw [List.take_of_length_le (by rw [toN_length]; exact Nat.le_refl _)]
  go_enter Tryz.func94, Tryz.ntmps94
  go_wp2_with fail
  go_loopw [5, 10] (fun nv iv wr => ∃ i : Nat, i ≤ vars.length ∧ iv = .int .i64 i ∧ nv = .int .i64 (cnt (toN sizes) ((toN vars).take i) : Nat) ∧ Below w.heap.size w wr) (fun _ iv _ => vars.length - (intOf iv).toNat)
  case atStart => exact ⟨0, Nat.zero_le _, rfl, rfl, Below.refl _ _⟩
  case round =>
    obtain ⟨i, hi, rfl, rfl, hB⟩ := hrel
    by_cases hlt : i < vars.length
    · obtain ⟨g, o, rfl, hg, c0⟩ := (HV.out.below hB) i hlt
      obtain ⟨hvi, hvn⟩ := HUP.out.nat hlt
      have hst : cnt (toN sizes) ((toN vars).take (i + 1)) = cnt (toN sizes) ((toN vars).take i) * sz (toN sizes) vars[i].toNat := by
        rw [cnt_take _ _ (by rw [toN_length]; exact hlt), toN_get hlt]
      have hsm : cnt (toN sizes) ((toN vars).take (i + 1)) ≤ 65536 := cnt_small HFI.out.sz_le (by rw [List.length_take, toN_length]; omega)
      generalize hV : vars[i].toNat = v at *
      rw [← hvi] at c0
      obtain ⟨g', o', rfl, hg', c1⟩ := (HS.out.below hB) v hvn
      rw [← HFI.out.sz_eq hvn] at c1
      rw [hst] at hsm
      have hpi : ((cnt (toN sizes) ((toN vars).take i) : Nat) : Int) * ((sz (toN sizes) v : Nat) : Int) = ((cnt (toN sizes) ((toN vars).take i) * sz (toN sizes) v : Nat) : Int) := (Int.natCast_mul _ _).symm
      have HST := hid hst
      clear hst hvi hV
      generalize cnt (toN sizes) ((toN vars).take i) = X at *
      generalize sz (toN sizes) v = Y at *
      have hp0 : 0 ≤ (X : Int) * (Y : Int) := by rw [hpi]; omega
      have hp1 : (X : Int) * (Y : Int) ≤ 65536 := by rw [hpi]; omega
      have HPI := hid hpi
      clear hpi
      go_wp2
      go_roundw
      case rel => exact ⟨i + 1, by omega, by go_num, by rw [HST.out, ← HPI.out], hB⟩
      case measure => simp [intOf]; omega
    · obtain rfl : i = vars.length := by omega
      rw [HFIN.out]
      go_wp2
      go_ret
      exact ⟨rfl, hB⟩

set_option maxRecDepth 100000 in
set_option maxHeartbeats 1000000 in
theorem tCount_any (a b : Option Addr) (ca cb : Nat) (sizes vars : List Int) (w : World) (hs : IntS w a sizes) (hv : IntS w b vars) (hn : sizes.length ≤ 140737488355328) (hm : vars.length ≤ 140737488355328) :
    Calls Tryz.prog 64 #[.slice a sizes.length ca, .slice b vars.length cb] w fun e w' => e = .returned (.tuple #[.int .i64 (countA sizes vars).1, .int .i64 (countA sizes vars).2]) ∧ Below w.heap.size w w' := by
  have HS := hid hs
  have HV := hid hv
  clear hs hv
  have HFIT := hid (fun V h => maySize_any a ca sizes V h hn)
  have HRIS := hid (fun V h => rises_any b cb vars sizes.length V h hm (by omega))
  cases hf : fitB sizes with
  | false =>
    have HA := hid (countA_no (sizes := sizes) (vars := vars) (by rw [countB, hf]; rfl))
    rw [hf] at HFIT
    generalize countA sizes vars = r at *
    go_enter Tryz.func64, Tryz.ntmps64
    go_wp2_with fail
    refine (HFIT.out _ HS.out).mono ?_
    rintro e w1 ⟨rfl, hb1⟩
    go_wp2
    go_ret2
    exact ⟨by rw [HA.out]; rfl, hb1⟩
  | true =>
    rw [hf] at HFIT
    cases hr : risB vars sizes.length with
    | false =>
      have HA := hid (countA_no (sizes := sizes) (vars := vars) (by rw [countB, hr, Bool.and_false]))
      rw [hr] at HRIS
      generalize countA sizes vars = r at *
      go_enter Tryz.func64, Tryz.ntmps64
      go_wp2_with fail
      refine (HFIT.out _ HS.out).mono ?_
      rintro e w1 ⟨rfl, hb1⟩
      go_wp2_with fail
      refine (HRIS.out _ (HV.out.below hb1)).mono ?_
      rintro e w2 ⟨rfl, hb2⟩
      have hB2 := hb1.trans (hb2.mono hb1.size)
      go_wp2
      go_ret2
      exact ⟨by rw [HA.out]; rfl, hB2⟩
    | true =>
      have HA := hid (countA_yes (sizes := sizes) (vars := vars) (by rw [countB, hf, hr]; rfl))
      rw [hr] at HRIS
      have HCO := hid (fun V h1 h2 => countOf_any a b ca cb sizes vars V h1 h2 (fit_fine hf) (ris_up hr))
      generalize countA sizes vars = r at *
      go_enter Tryz.func64, Tryz.ntmps64
      go_wp2_with fail
      refine (HFIT.out _ HS.out).mono ?_
      rintro e w1 ⟨rfl, hb1⟩
      go_wp2_with fail
      refine (HRIS.out _ (HV.out.below hb1)).mono ?_
      rintro e w2 ⟨rfl, hb2⟩
      have hB2 := hb1.trans (hb2.mono hb1.size)
      go_wp2_with fail
      refine (HCO.out _ (HS.out.below hB2) (HV.out.below hB2)).mono ?_
      rintro e w3 ⟨rfl, hb3⟩
      go_wp2
      go_ret2
      exact ⟨by rw [HA.out]; rfl, hB2.trans (hb3.mono hB2.size)⟩

set_option maxRecDepth 100000 in
set_option maxHeartbeats 1000000 in
theorem isValue_any (a : Option Addr) (ca : Nat) (sizes : List Int) (v : Nat) (x : Int) (w : World) (hs : IntS w a sizes) (hfi : Fine sizes) (hv : v < sizes.length) :
    Calls Tryz.prog 67 #[.slice a sizes.length ca, .int .i64 (v : Nat), .int .i64 x] w fun e w' => e = .returned (.bool (decide (0 ≤ x ∧ x < (sz (toN sizes) v : Int)))) ∧ Below w.heap.size w w' := by
  obtain ⟨g, o, rfl, hg, c0⟩ := hs v hv
  rw [← hfi.sz_eq hv] at c0
  have hl8 := hfi.eight
  generalize sz (toN sizes) v = Y at *
  by_cases e : 0 ≤ x ∧ x < (Y : Int)
  · rw [decide_eq_true e]
    obtain ⟨e1, e2⟩ := e
    go_enter Tryz.func67, Tryz.ntmps67
    go_wp2
    go_ret
    exact ⟨rfl, Below.refl _ _⟩
  · rw [decide_eq_false e]
    rcases (show x < 0 ∨ (0 ≤ x ∧ (Y : Int) ≤ x) by omega) with h3 | ⟨h3, h4⟩
    all_goals
      clear e
      go_enter Tryz.func67, Tryz.ntmps67
      go_wp2
      go_ret
      first
        | exact ⟨rfl, Below.refl _ _⟩
        | exact ⟨congrArg (fun b => Ending.returned (Value.bool b)) (decide_eq_false (by omega)), Below.refl _ _⟩
end Go.Proofs.YtncccbdledcibaaGreatDoor

/- Package graph: sets as bits. -/
namespace Go.Proofs.YtncccbdledcibaaGreatDoor
open Go.RowKit

/-- A set of numbers as bits. -/
def mskN : List Nat → Nat
  | [] => 0
  | v :: l => mskN l ||| 2 ^ v
theorem msk_bit (l : List Nat) (v : Nat) : (mskN l).testBit v = decide (v ∈ l) := by
  induction l with
  | nil => simp [mskN]
  | cons u l ih =>
    rw [mskN, Nat.testBit_or, ih, Nat.testBit_two_pow]
    by_cases h : u = v
    · subst h; simp
    · have h' : ¬ v = u := fun e => h e.symm
      simp [h, h']
theorem msk_ext {a b : List Nat} (h : ∀ x, x ∈ a ↔ x ∈ b) : mskN a = mskN b := by
  apply Nat.eq_of_testBit_eq
  intro i
  rw [msk_bit, msk_bit]
  exact decide_eq_decide.2 (h i)
theorem msk_lt : ∀ {l : List Nat}, (∀ v ∈ l, v < 8) → mskN l < 256
  | [], _ => by decide
  | v :: l, h => by
    have h1 := msk_lt (l := l) fun u hu => h u (List.mem_cons_of_mem _ hu)
    have h2 : 2 ^ v < 2 ^ 8 := Nat.pow_lt_pow_right (by decide) (h v List.mem_cons_self)
    exact Nat.or_lt_two_pow (n := 8) h1 h2
theorem bit_div (s v : Nat) : (s / 2 ^ v &&& 1 = 1) ↔ s.testBit v = true := by
  rw [Nat.testBit_eq_decide_div_mod_eq, decide_eq_true_iff, Nat.and_one_is_mod]
theorem holds_iff {s p : Nat} (hs : s < 256) (hp : p < 256) : (p &&& (4294967295 - s) = 0) ↔ ∀ v, p.testBit v = true → s.testBit v = true := by
  have e : 4294967295 - s = 2 ^ 32 - (s + 1) := by omega
  have hs' : s < 2 ^ 32 := by omega
  rw [e]
  constructor
  · intro h v hv
    have h1 : (p &&& (2 ^ 32 - (s + 1))).testBit v = false := by rw [h]; simp
    rw [Nat.testBit_and, hv, Nat.testBit_two_pow_sub_succ hs', Bool.true_and] at h1
    have hlt : v < 32 := by
      rcases Nat.lt_or_ge v 32 with h2 | h2
      · exact h2
      · have := Nat.testBit_lt_two_pow (x := p) (i := v) (Nat.lt_of_lt_of_le (show p < 2 ^ 32 by omega) (Nat.pow_le_pow_right (by decide) h2))
        rw [this] at hv
        cases hv
    simpa [hlt] using h1
  · intro h
    apply Nat.eq_of_testBit_eq
    intro i
    rw [Nat.testBit_and, Nat.testBit_two_pow_sub_succ hs', Nat.zero_testBit]
    cases hp' : p.testBit i
    · rfl
    · rw [h i hp']; simp

set_option maxRecDepth 100000 in
set_option maxHeartbeats 400000 in
theorem sWith_any (l : List Nat) (v : Nat) (w : World) (hl : ∀ u ∈ l, u < 8) (hv : v < 8) :
    Calls Tryz.prog 140 #[.int .u32 (mskN l : Nat), .int .i64 (v : Nat)] w fun e w' => e = .returned (.int .u32 (mskN (v :: l) : Nat)) ∧ w' = w := by
  have hs := msk_lt hl
  have h2 : 2 ^ v < 256 := show 2 ^ v < 2 ^ 8 from Nat.pow_lt_pow_right (by decide) hv
  have HE : Hid (bits BinOp.or IntKind.u32 (mskN l : Nat) (2 ^ v % 4294967296) = ((mskN (v :: l) : Nat) : Int)) := by
    show _ = _
    have e : ((2 : Int) ^ v % 4294967296) = ((2 ^ v : Nat) : Int) := by
      have e2 : ((2 : Int) ^ v) = ((2 ^ v : Nat) : Int) := by rw [Int.natCast_pow]; rfl
      rw [e2]
      generalize (2 ^ v : Nat) = q at *
      omega
    rw [e, u32_or_nat _ _ (by omega) (by omega)]
    rfl
  generalize mskN (v :: l) = r at *
  generalize mskN l = s at *
  go_enter Tryz.func140, Tryz.ntmps140
  go_wp2
  go_ret
  exact ⟨by rw [HE.out]; rfl, rfl⟩
set_option maxRecDepth 100000 in
set_option maxHeartbeats 400000 in
theorem sHas_any (l : List Nat) (v : Nat) (w : World) (hl : ∀ u ∈ l, u < 8) (hv : v < 8) :
    Calls Tryz.prog 138 #[.int .u32 (mskN l : Nat), .int .i64 (v : Nat)] w fun e w' => e = .returned (.bool (decide (v ∈ l))) ∧ w' = w := by
  have hs := msk_lt hl
  have HE : Hid ((bits BinOp.and IntKind.u32 ((mskN l : Nat) / 2 ^ v) 1 == 1) = decide (v ∈ l)) := by
    show _ = _
    have e : (((mskN l : Nat) : Int) / 2 ^ v) = ((mskN l / 2 ^ v : Nat) : Int) := by rw [Int.natCast_ediv, Int.natCast_pow]; rfl
    have hle : mskN l / 2 ^ v ≤ mskN l := Nat.div_le_self _ _
    rw [e, show (1 : Int) = ((1 : Nat) : Int) from rfl, u32_and_nat _ _ (by omega) (by omega), ← msk_bit, Bool.eq_iff_iff, ← bit_div, beq_iff_eq]
    omega
  generalize decide (v ∈ l) = r at *
  generalize mskN l = s at *
  go_enter Tryz.func138, Tryz.ntmps138
  go_wp2
  go_ret
  exact ⟨by rw [HE.out]; rfl, rfl⟩
set_option maxRecDepth 100000 in
set_option maxHeartbeats 400000 in
theorem sHolds_any (l p : List Nat) (w : World) (hl : ∀ u ∈ l, u < 8) (hp : ∀ u ∈ p, u < 8) :
    Calls Tryz.prog 139 #[.int .u32 (mskN l : Nat), .int .u32 (mskN p : Nat)] w fun e w' => e = .returned (.bool (decide (∀ v ∈ p, v ∈ l))) ∧ w' = w := by
  have hs := msk_lt hl
  have hq := msk_lt hp
  have HE : Hid ((bits BinOp.andNot IntKind.u32 (mskN p : Nat) (mskN l : Nat) == 0) = decide (∀ v ∈ p, v ∈ l)) := by
    show _ = _
    have hi := holds_iff hs hq
    simp only [msk_bit, decide_eq_true_eq] at hi
    rw [u32_andNot_nat _ _ (by omega) (by omega), Bool.eq_iff_iff, beq_iff_eq, decide_eq_true_iff, ← hi]
    omega
  generalize decide (∀ v ∈ p, v ∈ l) = r at *
  generalize mskN l = s at *
  generalize mskN p = t at *
  go_enter Tryz.func139, Tryz.ntmps139
  go_wp2
  go_ret
  exact ⟨by rw [HE.out]; rfl, rfl⟩

theorem toN_take (l : List Int) (i : Nat) : toN (l.take i) = (toN l).take i := by simp [toN, List.map_take]
theorem ris_small {l : List Int} {n i : Nat} (hn : n ≤ 8) (h : (List.range i).all (okAt l n) = true) (hi : i ≤ l.length) : ∀ u ∈ toN (l.take i), u < 8 := by
  intro u hu
  obtain ⟨x, hx, rfl⟩ := List.mem_map.1 hu
  obtain ⟨j, hj, rfl⟩ := List.getElem_of_mem hx
  rw [List.length_take] at hj
  have h1 := List.all_eq_true.1 h j (List.mem_range.2 (by omega))
  rw [okAt, decide_eq_true_iff, getD_eq (by omega)] at h1
  rw [List.getElem_take]
  omega
/-- What setOf answers. -/
def setA (l : List Int) (n : Nat) : Nat := if risB l n = true then mskN (toN l) else 0
set_option maxRecDepth 100000 in
set_option maxHeartbeats 1000000 in
theorem setOf_any (a : Option Addr) (cap : Nat) (l : List Int) (n : Nat) (w : World) (h : IntS w a l) (hn : l.length ≤ 140737488355328) (hnn : n ≤ 8) :
    Calls Tryz.prog 164 #[.slice a l.length cap, .int .i64 (n : Nat)] w fun e w' => e = .returned (.tuple #[.int .u32 (setA l n : Nat), .bool (risB l n)]) ∧ w' = w := by
  have HF := hid h
  clear h
  have HB := hid (fun i h e => risB_bad (l := l) (n := n) (i := i) h e)
  have HT : Hid ((List.range l.length).all (okAt l n) = true → risB l n = true) := id
  have HA1 : Hid (risB l n = true → setA l n = mskN (toN l)) := fun h => if_pos h
  have HA2 : Hid (risB l n = false → setA l n = 0) := fun h => if_neg (by rw [h]; decide)
  generalize risB l n = rb at *
  generalize setA l n = ra at *
  go_enter Tryz.func164, Tryz.ntmps164
  go_wp2_with fail
  go_loopw [6, 7, 12] (fun sv lv iv wr => ∃ i : Nat, i ≤ l.length ∧ iv = .int .i64 i ∧ lv = .int .i64 (least l i) ∧ sv = .int .u32 (mskN (toN (l.take i)) : Nat) ∧ Hid ((List.range i).all (okAt l n) = true) ∧ wr = w) (fun _ _ iv _ => l.length - (intOf iv).toNat)
  case atStart => exact ⟨0, Nat.zero_le _, rfl, rfl, rfl, rfl, rfl⟩
  case round =>
    obtain ⟨i, hi, rfl, rfl, rfl, HI, rfl⟩ := hrel
    by_cases hlt : i < l.length
    · obtain ⟨g, o, rfl, hg, c0⟩ := HF.out i hlt
      obtain ⟨hok, hl0⟩ := okAt_least hlt HI.out
      have HLS := hid (least_succ hlt)
      have HOK := hid hok
      have HSM := hid (ris_small hnn HI.out hi)
      have HST : Hid (∀ x : Nat, (x : Int) = l[i] → mskN (x :: toN (l.take i)) = mskN (toN (l.take (i + 1)))) := fun x hx => msk_ext fun z => by
        rw [List.take_succ_eq_append_getElem hlt, ← hx, toN, toN, List.map_append]
        simp only [List.mem_cons, List.mem_append, List.map_cons, List.map_nil, List.not_mem_nil, or_false, Int.toNat_natCast]
        exact or_comm
      clear hok
      generalize hs1 : mskN (toN (l.take (i + 1))) = s1 at *
      have HS1 := hid hs1
      clear hs1
      generalize toN (l.take i) = pre at *
      generalize least l i = m at *
      generalize l[i] = x at *
      by_cases e : m ≤ x ∧ x < n
      · have HS := hid (ris_succ HI.out (by rw [HOK.out]; exact decide_eq_true e))
        obtain ⟨e1, e2⟩ := e
        obtain ⟨X, rfl⟩ : ∃ X : Nat, x = X := ⟨x.toNat, by omega⟩
        have hst := HST.out X rfl
        go_wp2_with fail
        refine (sWith_any pre X _ HSM.out (by omega)).mono ?_
        rintro e w1 ⟨rfl, rfl⟩
        rw [hst]
        go_wp2
        go_roundw
        case rel => exact ⟨i + 1, by omega, by go_num, by rw [HLS.out], by rw [HS1.out], HS.out, trivial⟩
        case measure => simp [intOf]; omega
      · have HE := hid (HB.out i hlt (by rw [HOK.out]; exact decide_eq_false e))
        rcases (show x < m ∨ (m ≤ x ∧ (n : Int) ≤ x) by omega) with h3 | ⟨h3, h4⟩
        all_goals
          clear e
          go_wp2
          go_ret2
          exact ⟨by rw [HA2.out HE.out, HE.out]; rfl, rfl⟩
    · obtain rfl : i = l.length := by omega
      have HE := hid (HT.out HI.out)
      have HA := hid (HA1.out HE.out)
      rw [List.take_length]
      go_wp2
      go_ret2
      exact ⟨by rw [HA.out, HE.out]; rfl, rfl⟩
end Go.Proofs.YtncccbdledcibaaGreatDoor
