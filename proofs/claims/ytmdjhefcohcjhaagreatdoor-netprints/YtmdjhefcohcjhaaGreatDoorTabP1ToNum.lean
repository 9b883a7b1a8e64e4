/- Package table: how many assignments there are, and the place of one. -/
import Derived.Test.YtmdjhefcohcjhaaGreatDoorTabR1ToTabR4
import Derived.Laws.BitsAllLaws
namespace Go.Proofs.YtmdjhefcohcjhaaGreatDoor
open Go.RowKit

set_option maxRecDepth 100000 in
set_option maxHeartbeats 1000000 in
theorem maySize_any (a : Option Addr) (cap : Nat) (l : List Int) (w : World) (h : IntS w a l) (hn : l.length ≤ 140737488355328) :
    Calls Tryz.prog 51 #[.slice a l.length cap] w fun e w' => e = .returned (.bool (fitB l)) ∧ Below w.heap.size w w' := by
  have HF := hid h
  clear h
  by_cases hl : 1 ≤ l.length ∧ l.length ≤ 8
  · have HB : Hid (fitB l = l.all okSize) := by show _ = _; rw [fitB, decide_eq_true hl]; rfl
    obtain ⟨hl1, hl2⟩ := hl
    generalize fitB l = fb at *
    go_enter Tryz.func51, Tryz.ntmps51
    go_wp2_with fail
    go_loopw [15] (fun iv wr => ∃ i : Nat, i ≤ l.length ∧ iv = .int .i64 i ∧ Hid ((l.take i).all okSize = true) ∧ Below w.heap.size w wr) (fun iv _ => l.length - (intOf iv).toNat)
    case atStart => exact ⟨0, Nat.zero_le _, rfl, rfl, Below.refl _ _⟩
    case round =>
      obtain ⟨i, hi, rfl, HI, hB⟩ := hrel
      by_cases hlt : i < l.length
      · obtain ⟨g, o, rfl, hg, c0⟩ := (HF.out.below hB) i hlt
        by_cases e : 1 ≤ l[i] ∧ l[i] ≤ 4
        · have HS := hid (all_take_succ hlt HI.out (p := okSize) (decide_eq_true e))
          obtain ⟨e1, e2⟩ := e
          generalize l[i] = x at *
          go_wp2
          go_roundw
          case rel => exact ⟨i + 1, by omega, by go_num, HS.out, hB⟩
          case measure => simp [intOf]; omega
        · have HE : Hid (fb = false) := by show _ = _; rw [HB.out]; exact all_bad hlt (decide_eq_false e)
          rcases (show l[i] < 1 ∨ (1 ≤ l[i] ∧ 4 < l[i]) by omega) with h3 | ⟨h3, h4⟩
          all_goals
            clear e
            generalize l[i] = x at *
            go_wp2
            go_ret
            exact ⟨by rw [HE.out]; rfl, hB⟩
      · have HE : Hid (fb = true) := by
          show _ = _
          rw [HB.out]
          have := HI.out
          rwa [List.take_of_length_le (by omega)] at this
        go_wp2
        go_ret
        exact ⟨by rw [HE.out]; rfl, hB⟩
  · have HE : Hid (fitB l = false) := by show _ = _; rw [fitB, decide_eq_false hl]; rfl
    generalize fitB l = fb at *
    go_enter Tryz.func51, Tryz.ntmps51
    rcases (show l.length < 1 ∨ (1 ≤ l.length ∧ 8 < l.length) by omega) with h3 | ⟨h3, h4⟩
    all_goals
      go_wp2
      go_ret
      exact ⟨by rw [HE.out]; rfl, Below.refl _ _⟩

/-- The least number that may follow. -/
def least (l : List Int) (i : Nat) : Int := if i = 0 then 0 else l.getD (i - 1) 0 + 1
theorem least_succ {l : List Int} {i : Nat} (h : i < l.length) : least l (i + 1) = l[i] + 1 := by
  rw [least, if_neg (by omega), Nat.add_sub_cancel, getD_eq h]
theorem okAt_least {l : List Int} {n : Int} {i : Nat} (hi : i < l.length) (h : (List.range i).all (okAt l n) = true) : okAt l n i = decide (least l i ≤ l[i] ∧ l[i] < n) ∧ 0 ≤ least l i := by
  rw [okAt, getD_eq hi, least]
  by_cases h0 : i = 0
  · subst h0
    refine ⟨?_, by simp⟩
    simp
  · have hp := List.all_eq_true.1 h (i - 1) (List.mem_range.2 (by omega))
    rw [okAt, decide_eq_true_iff, getD_eq (by omega)] at hp
    rw [if_neg h0, getD_eq (by omega)]
    refine ⟨?_, by omega⟩
    rw [decide_eq_decide]
    constructor
    · intro ⟨_, h2, h3⟩; have := h3 (by omega); exact ⟨by omega, h2⟩
    · intro ⟨h1, h2⟩; exact ⟨by omega, h2, fun _ => by omega⟩

set_option maxRecDepth 100000 in
set_option maxHeartbeats 1000000 in
theorem rises_any (a : Option Addr) (cap : Nat) (l : List Int) (n : Int) (w : World) (h : IntS w a l) (hn : l.length ≤ 140737488355328) (hnn : n ≤ 140737488355328) :
    Calls Tryz.prog 52 #[.slice a l.length cap, .int .i64 n] w fun e w' => e = .returned (.bool (risB l n)) ∧ Below w.heap.size w w' := by
  have HF := hid h
  clear h
  have HB := hid (fun i h e => risB_bad (l := l) (n := n) (i := i) h e)
  have HT : Hid ((List.range l.length).all (okAt l n) = true → risB l n = true) := id
  generalize risB l n = rb at *
  go_enter Tryz.func52, Tryz.ntmps52
  go_wp2_with fail
  go_loopw [5, 10] (fun lv iv wr => ∃ i : Nat, i ≤ l.length ∧ iv = .int .i64 i ∧ lv = .int .i64 (least l i) ∧ Hid ((List.range i).all (okAt l n) = true) ∧ Below w.heap.size w wr) (fun _ iv _ => l.length - (intOf iv).toNat)
  case atStart => exact ⟨0, Nat.zero_le _, rfl, rfl, rfl, Below.refl _ _⟩
  case round =>
    obtain ⟨i, hi, rfl, rfl, HI, hB⟩ := hrel
    by_cases hlt : i < l.length
    · obtain ⟨g, o, rfl, hg, c0⟩ := (HF.out.below hB) i hlt
      obtain ⟨hok, hl0⟩ := okAt_least hlt HI.out
      have HLS := hid (least_succ hlt)
      have HOK := hid hok
      clear hok
      generalize least l i = m at *
      generalize l[i] = x at *
      by_cases e : m ≤ x ∧ x < n
      · have HS := hid (ris_succ HI.out (by rw [HOK.out]; exact decide_eq_true e))
        obtain ⟨e1, e2⟩ := e
        go_wp2
        go_roundw
        case rel => exact ⟨i + 1, by omega, by go_num, by rw [HLS.out], HS.out, hB⟩
        case measure => simp [intOf]; omega
      · have HE := hid (HB.out i hlt (by rw [HOK.out]; exact decide_eq_false e))
        rcases (show x < m ∨ (m ≤ x ∧ n ≤ x) by omega) with h3 | ⟨h3, h4⟩
        all_goals
          clear e
          go_wp2
          go_ret
          exact ⟨by rw [HE.out]; rfl, hB⟩
    · obtain rfl : i = l.length := by omega
      have HE := hid (HT.out HI.out)
      go_wp2
      go_ret
      exact ⟨by rw [HE.out]; rfl, hB⟩

set_option maxRecDepth 100000 in
set_option maxHeartbeats 1000000 in
theorem countOf_any (a b : Option Addr) (ca cb : Nat) (sizes vars : List Int) (w : World) (hs : IntS w a sizes) (hv : IntS w b vars) (hfi : Fine sizes) (hup : Up vars sizes.length) :
    Calls Tryz.prog 53 #[.slice a sizes.length ca, .slice b vars.length cb] w fun e w' => e = .returned (.int .i64 (cnt (toN sizes) (toN vars) : Nat)) ∧ Below w.heap.size w w' := by
  have HS := hid hs
  have HV := hid hv
  have hl8 := hfi.eight
  have hvl := hup.length
  have HFI := hid hfi
  have HUP := hid hup
  clear hs hv hfi hup
  have HFIN : Hid (cnt (toN sizes) ((toN vars).take vars.length) = cnt (toN sizes) (toN vars)) := by show _ = _; rw [List.take_of_length_le (by rw [toN_length]; exact Nat.le_refl _)]
  go_enter Tryz.func53, Tryz.ntmps53
  go_wp2_with fail
  go_loopw [5, 10] (fun nv iv wr => ∃ i : Nat, i ≤ vars.length ∧ iv = .int .i64 i ∧ nv = .int .i64 (cnt (toN sizes) ((toN vars).take i) : Nat) ∧ Below w.heap.size w wr) (fun _ iv _ => vars.length - (intOf iv).toNat)
  case atStart => exact ⟨0, Nat.zero_le _, rfl, rfl, Below.refl _ _⟩
  case round =>
    obtain ⟨i, hi, rfl, rfl, hB⟩ := hrel
    by_cases hlt : i < vars.length
    · obtain ⟨g, o, rfl, hg, c0⟩ := (HV.out.below hB) i hlt
      obtain ⟨hvi, hvn⟩ := HUP.out.nat hlt
      have hst : cnt (toN sizes) ((toN vars).take (i + 1)) = cnt (toN sizes) ((toN vars).take i) * sz (toN sizes) vars[i].toNat := by
        rw [cnt_take _ _ (by rw [toN_length]; exact hlt), toN_get hlt]
      have hsm : cnt (toN sizes) ((toN vars).take (i + 1)) ≤ 65536 := cnt_small HFI.out.sz_le (by rw [List.length_take, toN_length]; omega)
      generalize hV : vars[i].toNat = v at *
      rw [← hvi] at c0
      obtain ⟨g', o', rfl, hg', c1⟩ := (HS.out.below hB) v hvn
      rw [← HFI.out.sz_eq hvn] at c1
      rw [hst] at hsm
      have hpi : ((cnt (toN sizes) ((toN vars).take i) : Nat) : Int) * ((sz (toN sizes) v : Nat) : Int) = ((cnt (toN sizes) ((toN vars).take i) * sz (toN sizes) v : Nat) : Int) := (Int.natCast_mul _ _).symm
      have HST := hid hst
      clear hst hvi hV
      generalize cnt (toN sizes) ((toN vars).take i) = X at *
      generalize sz (toN sizes) v = Y at *
      have hp0 : 0 ≤ (X : Int) * (Y : Int) := by rw [hpi]; omega
      have hp1 : (X : Int) * (Y : Int) ≤ 65536 := by rw [hpi]; omega
      have HPI := hid hpi
      clear hpi
      go_wp2
      go_roundw
      case rel => exact ⟨i + 1, by omega, by go_num, by rw [HST.out, ← HPI.out], hB⟩
      case measure => simp [intOf]; omega
    · obtain rfl : i = vars.length := by omega
      rw [HFIN.out]
      go_wp2
      go_ret
      exact ⟨rfl, hB⟩

set_option maxRecDepth 100000 in
set_option maxHeartbeats 1000000 in
theorem tCount_any (a b : Option Addr) (ca cb : Nat) (sizes vars : List Int) (w : World) (hs : IntS w a sizes) (hv : IntS w b vars) (hn : sizes.length ≤ 140737488355328) (hm : vars.length ≤ 140737488355328) :
    Calls Tryz.prog 31 #[.slice a sizes.length ca, .slice b vars.length cb] w fun e w' => e = .returned (.tuple #[.int .i64 (countA sizes vars).1, .int .i64 (countA sizes vars).2]) ∧ Below w.heap.size w w' := by
  have HS := hid hs
  have HV := hid hv
  clear hs hv
  have HFIT := hid (fun V h => maySize_any a ca sizes V h hn)
  have HRIS := hid (fun V h => rises_any b cb vars sizes.length V h hm (by omega))
  cases hf : fitB sizes with
  | false =>
    have HA := hid (countA_no (sizes := sizes) (vars := vars) (by rw [countB, hf]; rfl))
    rw [hf] at HFIT
    generalize countA sizes vars = r at *
    go_enter Tryz.func31, Tryz.ntmps31
    go_wp2_with fail
    refine (HFIT.out _ HS.out).mono ?_
    rintro e w1 ⟨rfl, hb1⟩
    go_wp2
    go_ret2
    exact ⟨by rw [HA.out]; rfl, hb1⟩
  | true =>
    rw [hf] at HFIT
    cases hr : risB vars sizes.length with
    | false =>
      have HA := hid (countA_no (sizes := sizes) (vars := vars) (by rw [countB, hr, Bool.and_false]))
      rw [hr] at HRIS
      generalize countA sizes vars = r at *
      go_enter Tryz.func31, Tryz.ntmps31
      go_wp2_with fail
      refine (HFIT.out _ HS.out).mono ?_
      rintro e w1 ⟨rfl, hb1⟩
      go_wp2_with fail
      refine (HRIS.out _ (HV.out.below hb1)).mono ?_
      rintro e w2 ⟨rfl, hb2⟩
      have hB2 := hb1.trans (hb2.mono hb1.size)
      go_wp2
      go_ret2
      exact ⟨by rw [HA.out]; rfl, hB2⟩
    | true =>
      have HA := hid (countA_yes (sizes := sizes) (vars := vars) (by rw [countB, hf, hr]; rfl))
      rw [hr] at HRIS
      have HCO := hid (fun V h1 h2 => countOf_any a b ca cb sizes vars V h1 h2 (fit_fine hf) (ris_up hr))
      generalize countA sizes vars = r at *
      go_enter Tryz.func31, Tryz.ntmps31
      go_wp2_with fail
      refine (HFIT.out _ HS.out).mono ?_
      rintro e w1 ⟨rfl, hb1⟩
      go_wp2_with fail
      refine (HRIS.out _ (HV.out.below hb1)).mono ?_
      rintro e w2 ⟨rfl, hb2⟩
      have hB2 := hb1.trans (hb2.mono hb1.size)
      go_wp2_with fail
      refine (HCO.out _ (HS.out.below hB2) (HV.out.below hB2)).mono ?_
      rintro e w3 ⟨rfl, hb3⟩
      go_wp2
      go_ret2
      exact ⟨by rw [HA.out]; rfl, hB2.trans (hb3.mono hB2.size)⟩

end Go.Proofs.YtmdjhefcohcjhaaGreatDoor


/- Package graph: sets as bits. -/
namespace Go.Proofs.YtmdjhefcohcjhaaGreatDoor
open Go.RowKit

/-- A set of numbers as bits. -/
def mskN : List Nat → Nat
  | [] => 0
  | v :: l => mskN l ||| 2 ^ v
theorem msk_bit (l : List Nat) (v : Nat) : (mskN l).testBit v = decide (v ∈ l) := by
  induction l with
  | nil => simp [mskN]
  | cons u l ih =>
    rw [mskN, Nat.testBit_or, ih, Nat.testBit_two_pow]
    by_cases h : u = v
    · subst h; simp
    · have h' : ¬ v = u := fun e => h e.symm
      simp [h, h']
theorem msk_ext {a b : List Nat} (h : ∀ x, x ∈ a ↔ x ∈ b) : mskN a = mskN b := by
  apply Nat.eq_of_testBit_eq
  intro i
  rw [msk_bit, msk_bit]
  exact decide_eq_decide.2 (h i)
theorem msk_lt : ∀ {l : List Nat}, (∀ v ∈ l, v < 8) → mskN l < 256
  | [], _ => by decide
  | v :: l, h => by
    have h1 := msk_lt (l := l) fun u hu => h u (List.mem_cons_of_mem _ hu)
    have h2 : 2 ^ v < 2 ^ 8 := Nat.pow_lt_pow_right (by decide) (h v List.mem_cons_self)
    exact Nat.or_lt_two_pow (n := 8) h1 h2
theorem bit_div (s v : Nat) : (s / 2 ^ v &&& 1 = 1) ↔ s.testBit v = true := by
  rw [Nat.testBit_eq_decide_div_mod_eq, decide_eq_true_iff, Nat.and_one_is_mod]
theorem holds_iff {s p : Nat} (hs : s < 256) (hp : p < 256) : (p &&& (4294967295 - s) = 0) ↔ ∀ v, p.testBit v = true → s.testBit v = true := by
  have e : 4294967295 - s = 2 ^ 32 - (s + 1) := by omega
  have hs' : s < 2 ^ 32 := by omega
  rw [e]
  constructor
  · intro h v hv
    have h1 : (p &&& (2 ^ 32 - (s + 1))).testBit v = false := by rw [h]; simp
    rw [Nat.testBit_and, hv, Nat.testBit_two_pow_sub_succ hs', Bool.true_and] at h1
    have hlt : v < 32 := by
      rcases Nat.lt_or_ge v 32 with h2 | h2
      · exact h2
      · have := Nat.testBit_lt_two_pow (x := p) (i := v) (Nat.lt_of_lt_of_le (show p < 2 ^ 32 by omega) (Nat.pow_le_pow_right (by decide) h2))
        rw [this] at hv
        cases hv
    simpa [hlt] using h1
  · intro h
    apply Nat.eq_of_testBit_eq
    intro i
    rw [Nat.testBit_and, Nat.testBit_two_pow_sub_succ hs', Nat.zero_testBit]
    cases hp' : p.testBit i
    · rfl
    · rw [h i hp']; simp

set_option maxRecDepth 100000 in
set_option maxHeartbeats 400000 in
theorem sWith_any (l : List Nat) (v : Nat) (w : World) (hl : ∀ u ∈ l, u < 8) (hv : v < 8) :
    Calls Tryz.prog 80 #[.int .u32 (mskN l : Nat), .int .i64 (v : Nat)] w fun e w' => e = .returned (.int .u32 (mskN (v :: l) : Nat)) ∧ w' = w := by
  have hs := msk_lt hl
  have h2 : 2 ^ v < 256 := show 2 ^ v < 2 ^ 8 from Nat.pow_lt_pow_right (by decide) hv
  have HE : Hid (bits BinOp.or IntKind.u32 (mskN l : Nat) (2 ^ v % 4294967296) = ((mskN (v :: l) : Nat) : Int)) := by
    show _ = _
    have e : ((2 : Int) ^ v % 4294967296) = ((2 ^ v : Nat) : Int) := by
      have e2 : ((2 : Int) ^ v) = ((2 ^ v : Nat) : Int) := by rw [Int.natCast_pow]; rfl
      rw [e2]
      generalize (2 ^ v : Nat) = q at *
      omega
    rw [e, u32_or_nat _ _ (by omega) (by omega)]
    rfl
  generalize mskN (v :: l) = r at *
  generalize mskN l = s at *
  go_enter Tryz.func80, Tryz.ntmps80
  go_wp2
  go_ret
  exact ⟨by rw [HE.out]; rfl, rfl⟩
set_option maxRecDepth 100000 in
set_option maxHeartbeats 400000 in
theorem sHas_any (l : List Nat) (v : Nat) (w : World) (hl : ∀ u ∈ l, u < 8) (hv : v < 8) :
    Calls Tryz.prog 78 #[.int .u32 (mskN l : Nat), .int .i64 (v : Nat)] w fun e w' => e = .returned (.bool (decide (v ∈ l))) ∧ w' = w := by
  have hs := msk_lt hl
  have HE : Hid ((bits BinOp.and IntKind.u32 ((mskN l : Nat) / 2 ^ v) 1 == 1) = decide (v ∈ l)) := by
    show _ = _
    have e : (((mskN l : Nat) : Int) / 2 ^ v) = ((mskN l / 2 ^ v : Nat) : Int) := by rw [Int.natCast_ediv, Int.natCast_pow]; rfl
    have hle : mskN l / 2 ^ v ≤ mskN l := Nat.div_le_self _ _
    rw [e, show (1 : Int) = ((1 : Nat) : Int) from rfl, u32_and_nat _ _ (by omega) (by omega), ← msk_bit, Bool.eq_iff_iff, ← bit_div, beq_iff_eq]
    omega
  generalize decide (v ∈ l) = r at *
  generalize mskN l = s at *
  go_enter Tryz.func78, Tryz.ntmps78
  go_wp2
  go_ret
  exact ⟨by rw [HE.out]; rfl, rfl⟩
set_option maxRecDepth 100000 in
set_option maxHeartbeats 400000 in
theorem sHolds_any (l p : List Nat) (w : World) (hl : ∀ u ∈ l, u < 8) (hp : ∀ u ∈ p, u < 8) :
    Calls Tryz.prog 79 #[.int .u32 (mskN l : Nat), .int .u32 (mskN p : Nat)] w fun e w' => e = .returned (.bool (decide (∀ v ∈ p, v ∈ l))) ∧ w' = w := by
  have hs := msk_lt hl
  have hq := msk_lt hp
  have HE : Hid ((bits BinOp.andNot IntKind.u32 (mskN p : Nat) (mskN l : Nat) == 0) = decide (∀ v ∈ p, v ∈ l)) := by
    show _ = _
    have hi := holds_iff hs hq
    simp only [msk_bit, decide_eq_true_eq] at hi
    rw [u32_andNot_nat _ _ (by omega) (by omega), Bool.eq_iff_iff, beq_iff_eq, decide_eq_true_iff, ← hi]
    omega
  generalize decide (∀ v ∈ p, v ∈ l) = r at *
  generalize mskN l = s at *
  generalize mskN p = t at *
  go_enter Tryz.func79, Tryz.ntmps79
  go_wp2
  go_ret
  exact ⟨by rw [HE.out]; rfl, rfl⟩

theorem toN_take (l : List Int) (i : Nat) : toN (l.take i) = (toN l).take i := by simp [toN, List.map_take]
theorem ris_small {l : List Int} {n i : Nat} (hn : n ≤ 8) (h : (List.range i).all (okAt l n) = true) (hi : i ≤ l.length) : ∀ u ∈ toN (l.take i), u < 8 := by
  intro u hu
  obtain ⟨x, hx, rfl⟩ := List.mem_map.1 hu
  obtain ⟨j, hj, rfl⟩ := List.getElem_of_mem hx
  rw [List.length_take] at hj
  have h1 := List.all_eq_true.1 h j (List.mem_range.2 (by omega))
  rw [okAt, decide_eq_true_iff, getD_eq (by omega)] at h1
  rw [List.getElem_take]
  omega
/-- What setOf answers. -/
def setA (l : List Int) (n : Nat) : Nat := if risB l n = true then mskN (toN l) else 0
set_option maxRecDepth 100000 in
set_option maxHeartbeats 1000000 in
theorem setOf_any (a : Option Addr) (cap : Nat) (l : List Int) (n : Nat) (w : World) (h : IntS w a l) (hn : l.length ≤ 140737488355328) (hnn : n ≤ 8) :
    Calls Tryz.prog 109 #[.slice a l.length cap, .int .i64 (n : Nat)] w fun e w' => e = .returned (.tuple #[.int .u32 (setA l n : Nat), .bool (risB l n)]) ∧ w' = w := by
  have HF := hid h
  clear h
  have HB := hid (fun i h e => risB_bad (l := l) (n := n) (i := i) h e)
  have HT : Hid ((List.range l.length).all (okAt l n) = true → risB l n = true) := id
  have HA1 : Hid (risB l n = true → setA l n = mskN (toN l)) := fun h => if_pos h
  have HA2 : Hid (risB l n = false → setA l n = 0) := fun h => if_neg (by rw [h]; decide)
  generalize risB l n = rb at *
  generalize setA l n = ra at *
  go_enter Tryz.func109, Tryz.ntmps109
  go_wp2_with fail
  go_loopw [6, 7, 12] (fun sv lv iv wr => ∃ i : Nat, i ≤ l.length ∧ iv = .int .i64 i ∧ lv = .int .i64 (least l i) ∧ sv = .int .u32 (mskN (toN (l.take i)) : Nat) ∧ Hid ((List.range i).all (okAt l n) = true) ∧ wr = w) (fun _ _ iv _ => l.length - (intOf iv).toNat)
  case atStart => exact ⟨0, Nat.zero_le _, rfl, rfl, rfl, rfl, rfl⟩
  case round =>
    obtain ⟨i, hi, rfl, rfl, rfl, HI, rfl⟩ := hrel
    by_cases hlt : i < l.length
    · obtain ⟨g, o, rfl, hg, c0⟩ := HF.out i hlt
      obtain ⟨hok, hl0⟩ := okAt_least hlt HI.out
      have HLS := hid (least_succ hlt)
      have HOK := hid hok
      have HSM := hid (ris_small hnn HI.out hi)
      have HST : Hid (∀ x : Nat, (x : Int) = l[i] → mskN (x :: toN (l.take i)) = mskN (toN (l.take (i + 1)))) := fun x hx => msk_ext fun z => by
        rw [List.take_succ_eq_append_getElem hlt, ← hx, toN, toN, List.map_append]
        simp only [List.mem_cons, List.mem_append, List.map_cons, List.map_nil, List.not_mem_nil, or_false, Int.toNat_natCast]
        exact or_comm
      clear hok
      generalize hs1 : mskN (toN (l.take (i + 1))) = s1 at *
      have HS1 := hid hs1
      clear hs1
      generalize toN (l.take i) = pre at *
      generalize least l i = m at *
      generalize l[i] = x at *
      by_cases e : m ≤ x ∧ x < n
      · have HS := hid (ris_succ HI.out (by rw [HOK.out]; exact decide_eq_true e))
        obtain ⟨e1, e2⟩ := e
        obtain ⟨X, rfl⟩ : ∃ X : Nat, x = X := ⟨x.toNat, by omega⟩
        have hst := HST.out X rfl
        go_wp2_with fail
        refine (sWith_any pre X _ HSM.out (by omega)).mono ?_
        rintro e w1 ⟨rfl, rfl⟩
        rw [hst]
        go_wp2
        go_roundw
        case rel => exact ⟨i + 1, by omega, by go_num, by rw [HLS.out], by rw [HS1.out], HS.out, trivial⟩
        case measure => simp [intOf]; omega
      · have HE := hid (HB.out i hlt (by rw [HOK.out]; exact decide_eq_false e))
        rcases (show x < m ∨ (m ≤ x ∧ (n : Int) ≤ x) by omega) with h3 | ⟨h3, h4⟩
        all_goals
          clear e
          go_wp2
          go_ret2
          exact ⟨by rw [HA2.out HE.out, HE.out]; rfl, rfl⟩
    · obtain rfl : i = l.length := by omega
      have HE := hid (HT.out HI.out)
      have HA := hid (HA1.out HE.out)
      rw [List.take_length]
      go_wp2
      go_ret2
      exact ⟨by rw [HA.out, HE.out]; rfl, rfl⟩
end Go.Proofs.YtmdjhefcohcjhaaGreatDoor


/- Plain facts on numbers written as bytes (the highest first) and as parts below 2^32 (the lowest first); no condition; nothing of the program is named here. -/
namespace Go.Proofs.YtmdjhefcohcjhaaGreatDoor

theorem snoc_ind {α : Type} {P : List α → Prop} (h0 : P []) (h1 : ∀ l a, P l → P (l ++ [a])) (l : List α) : P l := by
  have h : ∀ m : List α, P m.reverse := by
    intro m
    induction m with
    | nil => exact h0
    | cons a m ih => rw [List.reverse_cons]; exact h1 _ _ ih
  have := h l.reverse
  rwa [List.reverse_reverse] at this

/-- The number that bytes stand for, the highest first. -/
def nb (l : List UInt8) : Nat := l.foldl (fun n c => n * 256 + c.toNat) 0

theorem nb_nil : nb [] = 0 := rfl
theorem nb_snoc (l : List UInt8) (c : UInt8) : nb (l ++ [c]) = nb l * 256 + c.toNat := by simp [nb]
theorem nb_append (a b : List UInt8) : nb (a ++ b) = nb a * 256 ^ b.length + nb b := by
  induction b using snoc_ind with
  | h0 => simp [nb_nil]
  | h1 l c ih =>
    rw [← List.append_assoc, nb_snoc, ih, nb_snoc, List.length_append, List.length_singleton, Nat.pow_succ, Nat.add_mul, Nat.mul_assoc, Nat.add_assoc]
theorem nb_one (c : UInt8) : nb [c] = c.toNat := by simp [nb]
theorem nb_cons (c : UInt8) (l : List UInt8) : nb (c :: l) = c.toNat * 256 ^ l.length + nb l := by
  have := nb_append [c] l
  rwa [List.singleton_append, nb_one] at this
theorem nb_lt (l : List UInt8) : nb l < 256 ^ l.length := by
  induction l using snoc_ind with
  | h0 => simp [nb_nil]
  | h1 l c ih =>
    rw [nb_snoc, List.length_append, List.length_singleton, Nat.pow_succ]
    have := c.toNat_lt
    omega

/-- A number's bytes, the highest first, without noughts ahead. -/
def bn (n : Nat) : List UInt8 := if _h : n = 0 then [] else bn (n / 256) ++ [UInt8.ofNat (n % 256)]

theorem bn_zero : bn 0 = [] := by rw [bn]; simp
theorem bn_pos (n : Nat) (h : n ≠ 0) : bn n = bn (n / 256) ++ [UInt8.ofNat (n % 256)] := by rw [bn]; simp [h]
theorem ofNat_toNat (n : Nat) : (UInt8.ofNat (n % 256)).toNat = n % 256 := by simp
theorem nb_bn (n : Nat) : nb (bn n) = n := by
  induction n using Nat.strongRecOn with
  | ind n ih =>
    by_cases h : n = 0
    · subst h; simp [bn_zero, nb_nil]
    · rw [bn_pos n h, nb_snoc, ih (n / 256) (by omega), ofNat_toNat]; omega

theorem bn_snoc (n : Nat) (c : UInt8) (h : n ≠ 0 ∨ c.toNat ≠ 0) : bn (n * 256 + c.toNat) = bn n ++ [c] := by
  have hc := c.toNat_lt
  rw [bn_pos _ (by omega), show (n * 256 + c.toNat) / 256 = n by omega, show (n * 256 + c.toNat) % 256 = c.toNat by omega]
  simp

theorem bn_nb (l : List UInt8) : bn (nb l) = l.dropWhile (· == 0) := by
  induction l using snoc_ind with
  | h0 => simp [nb_nil, bn_zero]
  | h1 l c ih =>
    rw [nb_snoc]
    by_cases h : nb l ≠ 0 ∨ c.toNat ≠ 0
    · rw [bn_snoc _ _ h, ih]
      by_cases hl : l.dropWhile (· == 0) = []
      · have hz : nb l = 0 := by rw [← nb_bn (nb l), ih, hl, nb_nil]
        have hc : c ≠ 0 := by intro e; subst e; simp [hz] at h
        rw [hl, List.dropWhile_append, hl]
        simp [hc]
      · rw [List.dropWhile_append]
        simp [hl]
    · have h1 : nb l = 0 := by omega
      have h2 : c.toNat = 0 := by omega
      have hc : c = 0 := by simpa [← UInt8.toNat_inj] using h2
      rw [h1, h2]
      rw [h1, bn_zero] at ih
      rw [List.dropWhile_append, ← ih]
      simp [hc, bn_zero]

theorem bn_length (n : Nat) : n < 256 ^ (bn n).length := by
  have := nb_lt (bn n)
  rwa [nb_bn] at this

theorem bn_inj {a b : Nat} (h : bn a = bn b) : a = b := by rw [← nb_bn a, ← nb_bn b, h]

/-- Of two numbers the one with more bytes is the greater. -/
theorem bn_length_mono {a b : Nat} (h : a ≤ b) : (bn a).length ≤ (bn b).length := by
  induction a using Nat.strongRecOn generalizing b with
  | ind a ih =>
    by_cases ha : a = 0
    · subst ha; simp [bn_zero]
    · rw [bn_pos a ha, bn_pos b (by omega)]
      have := @ih (a / 256) (by omega) (b / 256) (by omega)
      simp; omega

/-! ### Parts below 2^32, the lowest first -/
/-- 2^32. -/
def W : Nat := 4294967296
theorem W_eq : W = 4294967296 := rfl
theorem W_pos : 0 < W := by decide

def nw : List Nat → Nat
  | [] => 0
  | x :: r => x + W * nw r

theorem nw_nil : nw [] = 0 := rfl
theorem nw_cons (x : Nat) (r : List Nat) : nw (x :: r) = x + W * nw r := rfl
theorem nw_append (a b : List Nat) : nw (a ++ b) = nw a + W ^ a.length * nw b := by
  induction a with
  | nil => simp [nw_nil]
  | cons x a ih => rw [List.cons_append, nw_cons, nw_cons, ih, List.length_cons, Nat.pow_succ, Nat.mul_add]; rw [Nat.mul_comm (W ^ a.length) W, Nat.mul_assoc]; omega
theorem nw_snoc (a : List Nat) (x : Nat) : nw (a ++ [x]) = nw a + W ^ a.length * x := by rw [nw_append, nw_cons, nw_nil]; simp

/-- All parts are below 2^32. -/
def Small (l : List Nat) : Prop := ∀ x ∈ l, x < W

theorem nw_lt (l : List Nat) (h : Small l) : nw l < W ^ l.length := by
  induction l with
  | nil => simp [nw_nil]
  | cons x r ih =>
    have h1 := ih (fun y hy => h y (List.mem_cons_of_mem _ hy))
    have h2 := h x (List.mem_cons_self)
    rw [nw_cons, List.length_cons, Nat.pow_succ]
    have : W * (nw r + 1) ≤ W * W ^ r.length := Nat.mul_le_mul_left _ h1
    rw [Nat.mul_comm (W ^ r.length) W]
    rw [Nat.mul_add] at this
    omega

def words (n : Nat) : List Nat := if _h : n = 0 then [] else (n % 4294967296) :: words (n / 4294967296)

theorem words_zero : words 0 = [] := by rw [words, dif_pos rfl]
theorem words_pos (n : Nat) (h : n ≠ 0) : words n = (n % W) :: words (n / W) := by rw [words, dif_neg h, W_eq]
theorem div_W_lt {n : Nat} (h : n ≠ 0) : n / W < n := Nat.div_lt_self (Nat.pos_of_ne_zero h) (by decide)
theorem nw_words (n : Nat) : nw (words n) = n := by
  induction n using Nat.strongRecOn with
  | ind n ih =>
    by_cases h : n = 0
    · subst h; simp [words_zero, nw_nil]
    · rw [words_pos n h, nw_cons, ih _ (div_W_lt h)]; exact Nat.mod_add_div n W
theorem words_small (n : Nat) : Small (words n) := by
  induction n using Nat.strongRecOn with
  | ind n ih =>
    by_cases h : n = 0
    · subst h; simp [words_zero, Small]
    · rw [words_pos n h]
      intro x hx
      rcases List.mem_cons.1 hx with rfl | hx
      · exact Nat.mod_lt _ W_pos
      · exact ih _ (div_W_lt h) x hx
theorem words_nil_iff (n : Nat) : words n = [] ↔ n = 0 := by
  constructor
  · intro h; rw [← nw_words n, h, nw_nil]
  · rintro rfl; exact words_zero
theorem words_last (n : Nat) (h : words n ≠ []) : (words n).getLast h ≠ 0 := by
  induction n using Nat.strongRecOn with
  | ind n ih =>
    have hn : n ≠ 0 := fun e => h ((words_nil_iff n).2 e)
    by_cases h2 : words (n / W) = []
    · have hz := (words_nil_iff _).1 h2
      have : (words n).getLast h = n % W := by
        have hw := words_pos n hn
        rw [h2] at hw
        simp [hw]
      rw [this]
      intro hm
      have := Nat.mod_add_div n W
      rw [hm, hz] at this
      simp at this
      exact hn this.symm
    · have : (words n).getLast h = (words (n / W)).getLast h2 := by
        have hw := words_pos n hn
        simp only [hw]
        rw [List.getLast_cons h2]
      rw [this]
      exact ih _ (div_W_lt hn) h2

/-- Parts without a nought at the end are the number's own. -/
theorem words_nw (l : List Nat) (hs : Small l) (hl : ∀ h : l ≠ [], l.getLast h ≠ 0) : words (nw l) = l := by
  induction l with
  | nil => simp [nw_nil, words_zero]
  | cons x r ih =>
    have hx := hs x (List.mem_cons_self)
    have hr : words (nw r) = r := ih (fun y hy => hs y (List.mem_cons_of_mem _ hy)) (fun h => by have := hl (by simp); rwa [List.getLast_cons h] at this)
    have hne : nw (x :: r) ≠ 0 := by
      intro h
      rw [nw_cons] at h
      have hx0 : x = 0 := by omega
      have hr0 : nw r = 0 := by
        have : W * nw r = 0 := by omega
        rcases Nat.mul_eq_zero.1 this with h | h
        · simp [W] at h
        · exact h
      rw [hr0, words_zero] at hr
      subst hr
      exact hl (by simp) (by simpa using hx0)
    rw [words_pos _ hne, nw_cons, Nat.add_mul_mod_self_left, Nat.mod_eq_of_lt hx, Nat.add_mul_div_left _ _ W_pos, Nat.div_eq_of_lt hx, Nat.zero_add, hr]

/-- How many parts: as many as four bytes each make. -/
theorem words_length (n : Nat) : (words n).length = ((bn n).length + 3) / 4 := by
  induction n using Nat.strongRecOn with
  | ind n ih =>
    by_cases h : n = 0
    · subst h; simp [words_zero, bn_zero]
    · rw [words_pos n h, List.length_cons, ih _ (div_W_lt h)]
      by_cases h1 : n / 256 = 0
      · rw [bn_pos n h, h1, bn_zero, show n / W = 0 by simp only [W]; omega, bn_zero]; simp
      · by_cases h2 : n / 256 / 256 = 0
        · rw [bn_pos n h, bn_pos _ h1, h2, bn_zero, show n / W = 0 by simp only [W]; omega, bn_zero]; simp
        · by_cases h3 : n / 256 / 256 / 256 = 0
          · rw [bn_pos n h, bn_pos _ h1, bn_pos _ h2, h3, bn_zero, show n / W = 0 by simp only [W]; omega, bn_zero]; simp
          · rw [bn_pos n h, bn_pos _ h1, bn_pos _ h2, bn_pos _ h3, show n / 256 / 256 / 256 / 256 = n / W by simp only [W]; omega]
            simp; omega

/-- The i-th part of a number. -/
def part (n i : Nat) : Nat := n / W ^ i % W
theorem part_zero (n : Nat) : part n 0 = n % W := by rw [part, Nat.pow_zero, Nat.div_one]
theorem part_succ (n i : Nat) : part n (Nat.succ i) = part (n / W) i := by rw [part, part, Nat.succ_eq_add_one, Nat.pow_succ, Nat.mul_comm, Nat.div_div_eq_div_mul]
theorem words_get (i : Nat) : ∀ n, i < (words n).length → (words n)[i]? = some (part n i) := by
  induction i with
  | zero =>
    intro n h
    have hn : n ≠ 0 := by rintro rfl; rw [words_zero] at h; simp at h
    rw [words_pos n hn, part_zero]; rfl
  | succ i ih =>
    intro n h
    have hn : n ≠ 0 := by rintro rfl; rw [words_zero] at h; simp at h
    rw [words_pos n hn, List.length_cons] at h
    rw [words_pos n hn, List.getElem?_cons_succ, ih _ (Nat.lt_of_succ_lt_succ h), ← part_succ]
theorem words_eq_parts (n : Nat) : words n = (List.range (words n).length).map (part n) := by
  apply List.ext_getElem?
  intro i
  rw [List.getElem?_map]
  by_cases h : i < (words n).length
  · rw [words_get i n h, List.getElem?_range h]; rfl
  · rw [List.getElem?_eq_none (by omega), List.getElem?_eq_none (by simpa using h)]; rfl

theorem W_pow (i : Nat) : W ^ i = 256 ^ (4 * i) := by rw [Nat.pow_mul]; rfl

/-- What fromEnd reads: the four bytes (or what is left of them) that end 4 i ahead of the end. -/
theorem part_of_bytes (l : List UInt8) (i : Nat) (h : 4 * i ≤ l.length) : nb ((l.take (l.length - 4 * i)).drop (l.length - 4 * i - 4)) = part (nb l) i := by
  have e1 : nb (l.take (l.length - 4 * i)) = nb l / W ^ i := by
    have hsplit := List.take_append_drop (l.length - 4 * i) l
    have hn := nb_append (l.take (l.length - 4 * i)) (l.drop (l.length - 4 * i))
    rw [hsplit] at hn
    have hlen : (l.drop (l.length - 4 * i)).length = 4 * i := by simp; omega
    rw [hlen] at hn
    have hlt := nb_lt (l.drop (l.length - 4 * i))
    rw [hlen] at hlt
    have hp : 0 < 256 ^ (4 * i) := Nat.pow_pos (by decide)
    rw [W_pow, hn, Nat.add_comm, Nat.add_mul_div_right _ _ hp, Nat.div_eq_of_lt hlt, Nat.zero_add]
  rw [part, ← e1]
  generalize hm : l.take (l.length - 4 * i) = m
  have hml : m.length = l.length - 4 * i := by rw [← hm]; simp
  rw [← hml]
  have hn := nb_append (m.take (m.length - 4)) (m.drop (m.length - 4))
  rw [List.take_append_drop] at hn
  by_cases h4 : 4 ≤ m.length
  · have hlen : (m.drop (m.length - 4)).length = 4 := by simp; omega
    have hlt := nb_lt (m.drop (m.length - 4))
    rw [hlen] at hn hlt
    rw [hn, show (256 : Nat) ^ 4 = W from rfl, Nat.add_comm, Nat.add_mul_mod_self_right]
    exact (Nat.mod_eq_of_lt hlt).symm
  · have hz : m.length - 4 = 0 := by omega
    rw [hz, List.drop_zero]
    have hlt := nb_lt m
    have : 256 ^ m.length ≤ 256 ^ 4 := Nat.pow_le_pow_right (by decide) (by omega)
    exact (Nat.mod_eq_of_lt (by show nb m < 256 ^ 4; omega)).symm

/-- Noughts at the end change nothing. -/
theorem nw_take_succ (l : List Nat) (k : Nat) (h : k < l.length) : nw (l.take (k + 1)) = nw (l.take k) + W ^ k * l[k] := by
  rw [List.take_succ_eq_append_getElem h, nw_snoc, List.length_take, Nat.min_eq_left (Nat.le_of_lt h)]
theorem small_take {l : List Nat} (h : Small l) (k : Nat) : Small (l.take k) := fun x hx => h x (List.mem_of_mem_take hx)
theorem words_take (l : List Nat) (hs : Small l) (k : Nat) (hk : k ≤ l.length) (hn : nw (l.take k) = nw l) (hl : k = 0 ∨ l[k - 1]?.getD 0 ≠ 0) : words (nw l) = l.take k := by
  rw [← hn]
  refine words_nw _ (small_take hs k) fun h => ?_
  rcases hl with rfl | hl
  · simp at h
  · have hk0 : k ≠ 0 := by rintro rfl; simp at h
    rw [List.getLast_eq_getElem]
    simp only [List.length_take, Nat.min_eq_left hk, List.getElem_take]
    rwa [List.getElem?_eq_getElem (by omega)] at hl

/-- The number's own parts stand ahead. -/
theorem words_prefix (l : List Nat) (hs : Small l) : ∃ k, k ≤ l.length ∧ words (nw l) = l.take k := by
  induction l using snoc_ind with
  | h0 => exact ⟨0, Nat.le_refl _, by rw [nw_nil, words_zero]; rfl⟩
  | h1 l a ih =>
    by_cases ha : a = 0
    · subst ha
      obtain ⟨k, hk, e⟩ := ih (fun x hx => hs x (List.mem_append_left _ hx))
      refine ⟨k, by simp; omega, ?_⟩
      rw [nw_snoc, Nat.mul_zero, Nat.add_zero, e, List.take_append_of_le_length hk]
    · refine ⟨(l ++ [a]).length, Nat.le_refl _, ?_⟩
      exact words_take _ hs _ (Nat.le_refl _) (by rw [List.take_length]) (Or.inr (by simpa using ha))

/-! ### Division of parts by a small number, from the highest part down -/
def divG (d : Nat) : List Nat → List Nat × Nat
  | [] => ([], 0)
  | x :: r => (((divG d r).2 * W + x) / d :: (divG d r).1, ((divG d r).2 * W + x) % d)

theorem divG_length (d : Nat) (l : List Nat) : (divG d l).1.length = l.length := by
  induction l with
  | nil => rfl
  | cons x r ih => simp [divG, ih]
theorem divG_lt (d : Nat) (hd : 0 < d) (l : List Nat) : (divG d l).2 < d := by
  cases l with
  | nil => exact hd
  | cons x r => exact Nat.mod_lt _ hd
theorem divG_eq (d : Nat) (l : List Nat) : nw (divG d l).1 * d + (divG d l).2 = nw l := by
  induction l with
  | nil => simp [divG, nw_nil]
  | cons x r ih =>
    rw [divG, nw_cons, nw_cons, Nat.add_mul]
    show _ / d * d + _ + _ % d = _
    have e := Nat.div_add_mod' ((divG d r).2 * W + x) d
    have e2 : W * nw (divG d r).1 * d + (divG d r).2 * W = W * nw r := by
      rw [← ih, Nat.mul_add, Nat.mul_assoc, Nat.mul_comm (divG d r).2 W]
    omega
theorem divG_small (d : Nat) (hd : 0 < d) (l : List Nat) (hs : Small l) : Small (divG d l).1 := by
  induction l with
  | nil => intro x hx; simp [divG] at hx
  | cons x r ih =>
    have hr := divG_lt d hd r
    have hx := hs x List.mem_cons_self
    intro y hy
    rw [divG] at hy
    rcases List.mem_cons.1 hy with rfl | hy
    · refine Nat.div_lt_of_lt_mul ?_
      have : ((divG d r).2 + 1) * W ≤ d * W := Nat.mul_le_mul_right _ hr
      rw [Nat.add_mul] at this
      omega
    · exact ih (fun z hz => hs z (List.mem_cons_of_mem _ hz)) y hy
theorem divG_quot (d : Nat) (hd : 0 < d) (l : List Nat) : nw (divG d l).1 = nw l / d := by
  have e := divG_eq d l
  have h := divG_lt d hd l
  rw [← e, Nat.add_comm, Nat.add_mul_div_right _ _ hd, Nat.div_eq_of_lt h, Nat.zero_add]
theorem divG_rest (d : Nat) (hd : 0 < d) (l : List Nat) : (divG d l).2 = nw l % d := by
  have e := divG_eq d l
  have h := divG_lt d hd l
  rw [← e, Nat.add_comm, Nat.add_mul_mod_self_right, Nat.mod_eq_of_lt h]

theorem take_set_append (l q : List Nat) (m y : Nat) (h : m < l.length) : (l.take (m + 1) ++ q).set m y = l.take m ++ y :: q := by
  rw [List.take_succ_eq_append_getElem h, List.append_assoc]
  have e : (l.take m).length = m := by simp; omega
  rw [List.set_append_right _ _ (by omega), e, Nat.sub_self]
  rfl

end Go.Proofs.YtmdjhefcohcjhaaGreatDoor

