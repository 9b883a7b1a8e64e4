/- The document's answer: the place of an assignment. -/
import Derived.Test.YtockhhleapbpiaaTabR1ToTabR3
import Derived.Laws.BitsAllLaws
namespace Go.Proofs.Ytockhhleapbpiaa
open Go.RowKit

/-- Is the i-th value one of its variable's? -/
def valB (S vs : List Nat) (l : List Int) (i : Nat) : Bool := decide (0 ≤ l.getD i 0 ∧ l.getD i 0 < (sz S (vs.getD i 0) : Int))
/-- The place that the first n values come to. -/
def idxN (S vs l : List Nat) (n : Nat) : Nat := (List.range n).foldl (fun k i => k * sz S (vs.getD i 0) + l.getD i 0) 0
theorem idxN_succ (S vs l : List Nat) (n : Nat) : idxN S vs l (n + 1) = idxN S vs l n * sz S (vs.getD n 0) + l.getD n 0 := by
  rw [idxN, List.range_succ, List.foldl_append]; rfl
theorem getN_eq {l : List Nat} {i : Nat} (h : i < l.length) : l.getD i 0 = l[i] := by simp [List.getD, h]
theorem idxN_lt {S vs : List Nat} {l : List Int} : ∀ (n : Nat), n ≤ vs.length → n ≤ l.length → (List.range n).all (valB S vs l) = true → idxN S vs (toN l) n < cnt S (vs.take n)
  | 0, _, _, _ => by simp [idxN, cnt]
  | n + 1, h1, h2, h => by
    rw [List.range_succ, List.all_append, Bool.and_eq_true] at h
    have ih := idxN_lt n (by omega) (by omega) h.1
    have hv : valB S vs l n = true := by simpa using h.2
    rw [valB, decide_eq_true_iff, getD_eq (by omega), getN_eq (by omega)] at hv
    rw [idxN_succ, cnt_take S vs (by omega), getN_eq (show n < vs.length by omega), getN_eq (by rw [toN_length]; omega), toN_get (by omega)]
    have : (idxN S vs (toN l) n + 1) * sz S vs[n] ≤ cnt S (vs.take n) * sz S vs[n] := Nat.mul_le_mul_right _ ih
    rw [Nat.add_mul, Nat.one_mul] at this
    omega
def indexA (sizes vars l : List Int) : Int × Int :=
  if countB sizes vars = true then (if l.length = vars.length then (if (List.range vars.length).all (valB (toN sizes) (toN vars) l) = true then (((idxN (toN sizes) (toN vars) (toN l) vars.length : Nat) : Int), 0) else (0, 12)) else (0, 8)) else (0, 11)
theorem indexA_none {sizes vars l : List Int} (h : countB sizes vars = false) : indexA sizes vars l = (0, 11) := if_neg (by rw [h]; decide)
theorem indexA_len {sizes vars l : List Int} (h : countB sizes vars = true) (h1 : ¬ l.length = vars.length) : indexA sizes vars l = (0, 8) := by rw [indexA, if_pos h, if_neg h1]
theorem indexA_val {sizes vars l : List Int} (h : countB sizes vars = true) (h1 : l.length = vars.length) {i : Nat} (hi : i < vars.length) (h2 : valB (toN sizes) (toN vars) l i = false) : indexA sizes vars l = (0, 12) := by
  rw [indexA, if_pos h, if_pos h1, if_neg]
  rw [Bool.not_eq_true, List.all_eq_false]
  exact ⟨i, List.mem_range.2 hi, by rw [h2]; decide⟩
theorem indexA_ok {sizes vars l : List Int} (h : countB sizes vars = true) (h1 : l.length = vars.length) (h2 : (List.range vars.length).all (valB (toN sizes) (toN vars) l) = true) : indexA sizes vars l = (((idxN (toN sizes) (toN vars) (toN l) vars.length : Nat) : Int), 0) := by
  rw [indexA, if_pos h, if_pos h1, if_pos h2]
theorem val_succ {S vs : List Nat} {l : List Int} {i : Nat} (h0 : (List.range i).all (valB S vs l) = true) (e : valB S vs l i = true) : (List.range (i + 1)).all (valB S vs l) = true := by
  rw [List.range_succ, List.all_append, h0]; simp [e]
theorem countB_parts {sizes vars : List Int} (h : countB sizes vars = true) : Fine sizes ∧ Up vars sizes.length := by
  rw [countB, Bool.and_eq_true] at h
  exact ⟨fit_fine h.1, ris_up h.2⟩

end Go.Proofs.Ytockhhleapbpiaa


/- Package table: how many assignments there are, and the place of one. -/
namespace Go.Proofs.Ytockhhleapbpiaa
open Go.RowKit

/-- The least number that may follow. -/
def least (l : List Int) (i : Nat) : Int := if i = 0 then 0 else l.getD (i - 1) 0 + 1
theorem least_succ {l : List Int} {i : Nat} (h : i < l.length) : least l (i + 1) = l[i] + 1 := by
  rw [least, if_neg (by omega), Nat.add_sub_cancel, getD_eq h]
theorem okAt_least {l : List Int} {n : Int} {i : Nat} (hi : i < l.length) (h : (List.range i).all (okAt l n) = true) : okAt l n i = decide (least l i ≤ l[i] ∧ l[i] < n) ∧ 0 ≤ least l i := by
  rw [okAt, getD_eq hi, least]
  by_cases h0 : i = 0
  · subst h0
    refine ⟨?_, by simp⟩
    simp
  · have hp := List.all_eq_true.1 h (i - 1) (List.mem_range.2 (by omega))
    rw [okAt, decide_eq_true_iff, getD_eq (by omega)] at hp
    rw [if_neg h0, getD_eq (by omega)]
    refine ⟨?_, by omega⟩
    rw [decide_eq_decide]
    constructor
    · intro ⟨_, h2, h3⟩; have := h3 (by omega); exact ⟨by omega, h2⟩
    · intro ⟨h1, h2⟩; exact ⟨by omega, h2, fun _ => by omega⟩

end Go.Proofs.Ytockhhleapbpiaa


/- Package graph: sets as bits. -/
namespace Go.Proofs.Ytockhhleapbpiaa
open Go.RowKit

/-- A set of numbers as bits. -/
def mskN : List Nat → Nat
  | [] => 0
  | v :: l => mskN l ||| 2 ^ v
theorem msk_bit (l : List Nat) (v : Nat) : (mskN l).testBit v = decide (v ∈ l) := by
  induction l with
  | nil => simp [mskN]
  | cons u l ih =>
    rw [mskN, Nat.testBit_or, ih, Nat.testBit_two_pow]
    by_cases h : u = v
    · subst h; simp
    · have h' : ¬ v = u := fun e => h e.symm
      simp [h, h']
theorem msk_ext {a b : List Nat} (h : ∀ x, x ∈ a ↔ x ∈ b) : mskN a = mskN b := by
  apply Nat.eq_of_testBit_eq
  intro i
  rw [msk_bit, msk_bit]
  exact decide_eq_decide.2 (h i)
theorem msk_lt : ∀ {l : List Nat}, (∀ v ∈ l, v < 8) → mskN l < 256
  | [], _ => by decide
  | v :: l, h => by
    have h1 := msk_lt (l := l) fun u hu => h u (List.mem_cons_of_mem _ hu)
    have h2 : 2 ^ v < 2 ^ 8 := Nat.pow_lt_pow_right (by decide) (h v List.mem_cons_self)
    exact Nat.or_lt_two_pow (n := 8) h1 h2
theorem bit_div (s v : Nat) : (s / 2 ^ v &&& 1 = 1) ↔ s.testBit v = true := by
  rw [Nat.testBit_eq_decide_div_mod_eq, decide_eq_true_iff, Nat.and_one_is_mod]
theorem holds_iff {s p : Nat} (hs : s < 256) (hp : p < 256) : (p &&& (4294967295 - s) = 0) ↔ ∀ v, p.testBit v = true → s.testBit v = true := by
  have e : 4294967295 - s = 2 ^ 32 - (s + 1) := by omega
  have hs' : s < 2 ^ 32 := by omega
  rw [e]
  constructor
  · intro h v hv
    have h1 : (p &&& (2 ^ 32 - (s + 1))).testBit v = false := by rw [h]; simp
    rw [Nat.testBit_and, hv, Nat.testBit_two_pow_sub_succ hs', Bool.true_and] at h1
    have hlt : v < 32 := by
      rcases Nat.lt_or_ge v 32 with h2 | h2
      · exact h2
      · have := Nat.testBit_lt_two_pow (x := p) (i := v) (Nat.lt_of_lt_of_le (show p < 2 ^ 32 by omega) (Nat.pow_le_pow_right (by decide) h2))
        rw [this] at hv
        cases hv
    simpa [hlt] using h1
  · intro h
    apply Nat.eq_of_testBit_eq
    intro i
    rw [Nat.testBit_and, Nat.testBit_two_pow_sub_succ hs', Nat.zero_testBit]
    cases hp' : p.testBit i
    · rfl
    · rw [h i hp']; simp

set_option maxRecDepth 100000 in
set_option maxHeartbeats 400000 in
theorem sWith_any (l : List Nat) (v : Nat) (w : World) (hl : ∀ u ∈ l, u < 8) (hv : v < 8) :
    Calls Try.prog 46 #[.int .u32 (mskN l : Nat), .int .i64 (v : Nat)] w fun e w' => e = .returned (.int .u32 (mskN (v :: l) : Nat)) ∧ w' = w := by
  have hs := msk_lt hl
  have h2 : 2 ^ v < 256 := show 2 ^ v < 2 ^ 8 from Nat.pow_lt_pow_right (by decide) hv
  have HE : Hid (bits BinOp.or IntKind.u32 (mskN l : Nat) (2 ^ v % 4294967296) = ((mskN (v :: l) : Nat) : Int)) := by
    show _ = _
    have e : ((2 : Int) ^ v % 4294967296) = ((2 ^ v : Nat) : Int) := by
      have e2 : ((2 : Int) ^ v) = ((2 ^ v : Nat) : Int) := by rw [Int.natCast_pow]; rfl
      rw [e2]
      generalize (2 ^ v : Nat) = q at *
      omega
    rw [e, u32_or_nat _ _ (by omega) (by omega)]
    rfl
  generalize mskN (v :: l) = r at *
  generalize mskN l = s at *
  go_enter Try.func46, Try.ntmps46
  go_wp2
  go_ret
  exact ⟨by rw [HE.out]; rfl, rfl⟩
set_option maxRecDepth 100000 in
set_option maxHeartbeats 400000 in
theorem sHas_any (l : List Nat) (v : Nat) (w : World) (hl : ∀ u ∈ l, u < 8) (hv : v < 8) :
    Calls Try.prog 70 #[.int .u32 (mskN l : Nat), .int .i64 (v : Nat)] w fun e w' => e = .returned (.bool (decide (v ∈ l))) ∧ w' = w := by
  have hs := msk_lt hl
  have HE : Hid ((bits BinOp.and IntKind.u32 ((mskN l : Nat) / 2 ^ v) 1 == 1) = decide (v ∈ l)) := by
    show _ = _
    have e : (((mskN l : Nat) : Int) / 2 ^ v) = ((mskN l / 2 ^ v : Nat) : Int) := by rw [Int.natCast_ediv, Int.natCast_pow]; rfl
    have hle : mskN l / 2 ^ v ≤ mskN l := Nat.div_le_self _ _
    rw [e, show (1 : Int) = ((1 : Nat) : Int) from rfl, u32_and_nat _ _ (by omega) (by omega), ← msk_bit, Bool.eq_iff_iff, ← bit_div, beq_iff_eq]
    omega
  generalize decide (v ∈ l) = r at *
  generalize mskN l = s at *
  go_enter Try.func70, Try.ntmps70
  go_wp2
  go_ret
  exact ⟨by rw [HE.out]; rfl, rfl⟩
set_option maxRecDepth 100000 in
set_option maxHeartbeats 400000 in
theorem sHolds_any (l p : List Nat) (w : World) (hl : ∀ u ∈ l, u < 8) (hp : ∀ u ∈ p, u < 8) :
    Calls Try.prog 71 #[.int .u32 (mskN l : Nat), .int .u32 (mskN p : Nat)] w fun e w' => e = .returned (.bool (decide (∀ v ∈ p, v ∈ l))) ∧ w' = w := by
  have hs := msk_lt hl
  have hq := msk_lt hp
  have HE : Hid ((bits BinOp.andNot IntKind.u32 (mskN p : Nat) (mskN l : Nat) == 0) = decide (∀ v ∈ p, v ∈ l)) := by
    show _ = _
    have hi := holds_iff hs hq
    simp only [msk_bit, decide_eq_true_eq] at hi
    rw [u32_andNot_nat _ _ (by omega) (by omega), Bool.eq_iff_iff, beq_iff_eq, decide_eq_true_iff, ← hi]
    omega
  generalize decide (∀ v ∈ p, v ∈ l) = r at *
  generalize mskN l = s at *
  generalize mskN p = t at *
  go_enter Try.func71, Try.ntmps71
  go_wp2
  go_ret
  exact ⟨by rw [HE.out]; rfl, rfl⟩

theorem toN_take (l : List Int) (i : Nat) : toN (l.take i) = (toN l).take i := by simp [toN, List.map_take]
theorem ris_small {l : List Int} {n i : Nat} (hn : n ≤ 8) (h : (List.range i).all (okAt l n) = true) (hi : i ≤ l.length) : ∀ u ∈ toN (l.take i), u < 8 := by
  intro u hu
  obtain ⟨x, hx, rfl⟩ := List.mem_map.1 hu
  obtain ⟨j, hj, rfl⟩ := List.getElem_of_mem hx
  rw [List.length_take] at hj
  have h1 := List.all_eq_true.1 h j (List.mem_range.2 (by omega))
  rw [okAt, decide_eq_true_iff, getD_eq (by omega)] at h1
  rw [List.getElem_take]
  omega
/-- What setOf answers. -/
def setA (l : List Int) (n : Nat) : Nat := if risB l n = true then mskN (toN l) else 0
set_option maxRecDepth 100000 in
set_option maxHeartbeats 1000000 in
theorem setOf_any (a : Option Addr) (cap : Nat) (l : List Int) (n : Nat) (w : World) (h : IntS w a l) (hn : l.length ≤ 140737488355328) (hnn : n ≤ 8) :
    Calls Try.prog 37 #[.slice a l.length cap, .int .i64 (n : Nat)] w fun e w' => e = .returned (.tuple #[.int .u32 (setA l n : Nat), .bool (risB l n)]) ∧ w' = w := by
  have HF := hid h
  clear h
  have HB := hid (fun i h e => risB_bad (l := l) (n := n) (i := i) h e)
  have HT : Hid ((List.range l.length).all (okAt l n) = true → risB l n = true) := id
  have HA1 : Hid (risB l n = true → setA l n = mskN (toN l)) := fun h => if_pos h
  have HA2 : Hid (risB l n = false → setA l n = 0) := fun h => if_neg (by rw [h]; decide)
  generalize risB l n = rb at *
  generalize setA l n = ra at *
  go_enter Try.func37, Try.ntmps37
  go_wp2_with fail
  go_loopw [6, 7, 12] (fun sv lv iv wr => ∃ i : Nat, i ≤ l.length ∧ iv = .int .i64 i ∧ lv = .int .i64 (least l i) ∧ sv = .int .u32 (mskN (toN (l.take i)) : Nat) ∧ Hid ((List.range i).all (okAt l n) = true) ∧ wr = w) (fun _ _ iv _ => l.length - (intOf iv).toNat)
  case atStart => exact ⟨0, Nat.zero_le _, rfl, rfl, rfl, rfl, rfl⟩
  case round =>
    obtain ⟨i, hi, rfl, rfl, rfl, HI, rfl⟩ := hrel
    by_cases hlt : i < l.length
    · obtain ⟨g, o, rfl, hg, c0⟩ := HF.out i hlt
      obtain ⟨hok, hl0⟩ := okAt_least hlt HI.out
      have HLS := hid (least_succ hlt)
      have HOK := hid hok
      have HSM := hid (ris_small hnn HI.out hi)
      have HST : Hid (∀ x : Nat, (x : Int) = l[i] → mskN (x :: toN (l.take i)) = mskN (toN (l.take (i + 1)))) := fun x hx => msk_ext fun z => by
        rw [List.take_succ_eq_append_getElem hlt, ← hx, toN, toN, List.map_append]
        simp only [List.mem_cons, List.mem_append, List.map_cons, List.map_nil, List.not_mem_nil, or_false, Int.toNat_natCast]
        exact or_comm
      clear hok
      generalize hs1 : mskN (toN (l.take (i + 1))) = s1 at *
      have HS1 := hid hs1
      clear hs1
      generalize toN (l.take i) = pre at *
      generalize least l i = m at *
      generalize l[i] = x at *
      by_cases e : m ≤ x ∧ x < n
      · have HS := hid (ris_succ HI.out (by rw [HOK.out]; exact decide_eq_true e))
        obtain ⟨e1, e2⟩ := e
        obtain ⟨X, rfl⟩ : ∃ X : Nat, x = X := ⟨x.toNat, by omega⟩
        have hst := HST.out X rfl
        go_wp2_with fail
        refine (sWith_any pre X _ HSM.out (by omega)).mono ?_
        rintro e w1 ⟨rfl, rfl⟩
        rw [hst]
        go_wp2
        go_roundw
        case rel => exact ⟨i + 1, by omega, by go_num, by rw [HLS.out], by rw [HS1.out], HS.out, trivial⟩
        case measure => simp [intOf]; omega
      · have HE := hid (HB.out i hlt (by rw [HOK.out]; exact decide_eq_false e))
        rcases (show x < m ∨ (m ≤ x ∧ (n : Int) ≤ x) by omega) with h3 | ⟨h3, h4⟩
        all_goals
          clear e
          go_wp2
          go_ret2
          exact ⟨by rw [HA2.out HE.out, HE.out]; rfl, rfl⟩
    · obtain rfl : i = l.length := by omega
      have HE := hid (HT.out HI.out)
      have HA := hid (HA1.out HE.out)
      rw [List.take_length]
      go_wp2
      go_ret2
      exact ⟨by rw [HA.out, HE.out]; rfl, rfl⟩
end Go.Proofs.Ytockhhleapbpiaa

