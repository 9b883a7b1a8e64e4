/- Shares of dice, plainly: which share a die falls into, how many fall into each. -/
import Derived.Test.YtbejijgelljeaaaGreatDoorRefQToSumA
import Derived.Test.YtbejijgelljeaaaGreatDoorHidPToHitP
import Derived.Test.YtbejijgelljeaaaGreatDoorProg
import Derived.WalkKit
import Derived.WalkSpells
import Derived.WalkLawsBesides
import Derived.Deep.QuietTactic
import Derived.BigQuiet
import Derived.Test.YtbejijgelljeaaaGreatDoorDivBToRefC
import Derived.Test.YtbejijgelljeaaaGreatDoorCore1ToNumD
import Derived.Deep.RegionHeld3
import Derived.Deep.OwnRows
namespace Go.Proofs.YtbejijgelljeaaaGreatDoor
/-- Which of so many shares a die falls into. -/
def dN : List Nat → Nat → Nat
  | [], _ => 0
  | a :: A, k => if k < a then 0 else dN A (k - a) + 1
/-- How many of the first k dice fell into each share. -/
def cntA : List Nat → Nat → List Nat
  | [], _ => []
  | a :: A, k => min k a :: cntA A (k - a)
theorem cntA_length : ∀ (A : List Nat) (k : Nat), (cntA A k).length = A.length
  | [], _ => rfl
  | a :: A, k => by rw [cntA, List.length_cons, List.length_cons, cntA_length A]
theorem cntA_zero : ∀ A : List Nat, cntA A 0 = List.replicate A.length 0
  | [] => rfl
  | a :: A => by rw [cntA, Nat.zero_min, Nat.zero_sub, cntA_zero A, List.length_cons, List.replicate_succ]
theorem cntA_le : ∀ (A : List Nat) (k : Nat), ∀ x ∈ cntA A k, x ≤ k
  | [], _, x, h => by cases h
  | a :: A, k, x, h => by
    rw [cntA] at h
    rcases List.mem_cons.1 h with rfl | h
    · exact Nat.min_le_left _ _
    · exact Nat.le_trans (cntA_le A _ x h) (Nat.sub_le _ _)
theorem dN_lt : ∀ (A : List Nat) (k : Nat), k < A.sum → dN A k < A.length
  | [], k, h => absurd h (by simp)
  | a :: A, k, h => by
    rw [List.sum_cons] at h
    rw [dN, List.length_cons]
    by_cases h1 : k < a
    · rw [if_pos h1]; omega
    · rw [if_neg h1]; have := dN_lt A (k - a) (by omega); omega
theorem cntA_step : ∀ (A : List Nat) (k : Nat) (h : k < A.sum), cntA A (k + 1) = (cntA A k).set (dN A k) ((cntA A k)[dN A k]'(by rw [cntA_length]; exact dN_lt A k h) + 1)
  | [], k, h => absurd h (by simp)
  | a :: A, k, h => by
    have h0 := h
    rw [List.sum_cons] at h
    by_cases h1 : k < a
    · have e1 : min (k + 1) a = k + 1 := by omega
      have e2 : min k a = k := by omega
      have e3 : k + 1 - a = 0 := by omega
      have e4 : k - a = 0 := by omega
      simp [cntA, dN, h1, e1, e2, e3, e4]
    · have e1 : min (k + 1) a = a := by omega
      have e2 : min k a = a := by omega
      have e3 : k + 1 - a = k - a + 1 := by omega
      have ih := cntA_step A (k - a) (by omega)
      simp [cntA, dN, h1, e1, e2, e3, ih]
theorem cntA_sum : ∀ A : List Nat, cntA A A.sum = A
  | [] => rfl
  | a :: A => by
    have e1 : min (a + A.sum) a = a := by omega
    have e2 : a + A.sum - a = A.sum := by omega
    rw [cntA, List.sum_cons, e1, e2, cntA_sum A]
theorem dN_first : ∀ (A : List Nat) (k : Nat), k < A.sum → (A.take (dN A k)).sum ≤ k ∧ k < (A.take (dN A k + 1)).sum
  | [], k, h => absurd h (by simp)
  | a :: A, k, h => by
    rw [List.sum_cons] at h
    rw [dN]
    by_cases h1 : k < a
    · rw [if_pos h1]; simp; exact h1
    · rw [if_neg h1]
      have ih := dN_first A (k - a) (by omega)
      rw [List.take_succ_cons, List.take_succ_cons, List.sum_cons, List.sum_cons]
      omega
theorem take_sum_mono (A : List Nat) {i j : Nat} (h : i ≤ j) : (A.take i).sum ≤ (A.take j).sum := by
  obtain ⟨d, rfl⟩ := Nat.exists_eq_add_of_le h
  rw [List.take_add, List.sum_append]
  omega
/-- The first share that has it is the one that it falls into. -/
theorem dN_is {A : List Nat} {k j : Nat} (hk : k < A.sum) (h1 : k < (A.take (j + 1)).sum) (h2 : ∀ i, i < j → ¬ k < (A.take (i + 1)).sum) : j = dN A k := by
  obtain ⟨f1, f2⟩ := dN_first A k hk
  rcases Nat.lt_trichotomy j (dN A k) with h | h | h
  · have := take_sum_mono A (i := j + 1) (j := dN A k) (by omega)
    omega
  · exact h
  · exact absurd f2 (h2 _ h)
/-- Rounded up. -/
def ceilN (n d : Nat) : Nat := n / d + if n % d = 0 then 0 else 1
theorem lt_ceilN {n d k : Nat} (hd : 0 < d) : k < ceilN n d ↔ k * d < n := by
  have h1 := Nat.div_add_mod n d
  have h2 := Nat.mod_lt n hd
  rw [ceilN]
  generalize n / d = q at *
  generalize n % d = r at *
  rw [Nat.mul_comm] at h1
  by_cases hr : r = 0
  · rw [if_pos hr, Nat.add_zero]
    constructor
    · intro h
      have := Nat.mul_lt_mul_of_pos_right h hd
      omega
    · intro h
      rcases Nat.lt_or_ge k q with h3 | h3
      · exact h3
      · have := Nat.mul_le_mul_right d h3; omega
  · rw [if_neg hr]
    constructor
    · intro h
      have : k * d ≤ q * d := Nat.mul_le_mul_right d (by omega)
      omega
    · intro h
      rcases Nat.lt_or_ge k (q + 1) with h3 | h3
      · exact h3
      · have h4 := Nat.mul_le_mul_right d h3
        rw [Nat.add_mul] at h4
        omega
theorem lt_nat_rat {q : Rat} {k : Nat} (hq : 0 ≤ q) : (k : Rat) < q ↔ k * q.den < q.num.natAbs := by
  have hn : 0 ≤ q.num := Rat.num_nonneg.2 hq
  rw [Rat.lt_iff]
  have e1 : (k : Rat).num = (k : Int) := Rat.num_natCast k
  have e2 : (k : Rat).den = 1 := rfl
  rw [e1, e2]
  constructor
  · intro h
    have : ((k * q.den : Nat) : Int) < q.num := by push_cast; omega
    omega
  · intro h
    have : ((k * q.den : Nat) : Int) < q.num := by omega
    push_cast at this
    omega
theorem ceil_lt {q : Rat} {k : Nat} (hq : 0 ≤ q) : k < ceilN q.num.natAbs q.den ↔ (k : Rat) < q := by
  rw [lt_ceilN q.den_pos, lt_nat_rat hq]
theorem ceil_le {q : Rat} {m : Nat} (hq : 0 ≤ q) (h : q ≤ (m : Rat)) : ceilN q.num.natAbs q.den ≤ m := by
  rcases Nat.lt_or_ge m (ceilN q.num.natAbs q.den) with h1 | h1
  · exact absurd ((ceil_lt hq).1 h1) (Rat.not_lt.2 h)
  · exact h1
/-- So many times a fraction, whose denominator divides that, is whole. -/
theorem whole_part {q : Rat} {n : Nat} (hq : 0 ≤ q) (h : q.den ∣ n) : q * (n : Rat) = ((q.num.natAbs * (n / q.den) : Nat) : Rat) := by
  obtain ⟨m, rfl⟩ := h
  have hd : 0 < q.den := q.den_pos
  rw [Nat.mul_div_cancel_left _ hd]
  have hn : 0 ≤ q.num := Rat.num_nonneg.2 hq
  have e : ((q.num.natAbs : Nat) : Rat) = (q.num : Rat) := by
    have : ((q.num.natAbs : Nat) : Int) = q.num := by omega
    rw [← Rat.intCast_natCast, this]
  have hdn : (q.den : Rat) ≠ 0 := fun h => by
    have h' : q.den = 0 := by exact_mod_cast h
    omega
  have e2 : q * (q.den : Rat) = (q.num : Rat) := by
    have h : (q.num : Rat) / (q.den : Rat) = q := by rw [← Rat.mkRat_eq_div, Rat.mkRat_self]
    rw [Rat.div_def] at h
    calc q * (q.den : Rat) = ((q.num : Rat) * (q.den : Rat)⁻¹) * (q.den : Rat) := by rw [h]
      _ = (q.num : Rat) := by rw [Rat.mul_assoc, Rat.inv_mul_cancel _ hdn, Rat.mul_one]
  rw [Rat.natCast_mul, Rat.natCast_mul, e, ← Rat.mul_assoc, e2]
theorem cum_whole {l : List Fr} {A : List Nat} {n : Nat} (hl : l.length = A.length) (h : ∀ j (h1 : j < l.length) (h2 : j < A.length), frv l[j] * (n : Rat) = (A[j] : Rat)) : ∀ i, i ≤ l.length → fsum (l.take i) * (n : Rat) = ((A.take i).sum : Rat)
  | 0, _ => by simp [fsum]
  | i + 1, hi => by
    have h2 : i < A.length := by omega
    rw [take_one (by omega : i < l.length), Rat.add_mul, cum_whole hl h i (by omega), h i (by omega) h2, List.take_succ_eq_append_getElem h2, List.sum_append, List.sum_singleton, Rat.natCast_add]
theorem den_le {a S : Nat} (hS : S ≠ 0) : ((a : Rat) / (S : Rat)).den ≤ S := by
  have e : (a : Rat) / (S : Rat) = mkRat (a : Int) S := by rw [Rat.mkRat_eq_div]; rfl
  rw [e]
  obtain ⟨m, _, _, h2⟩ := Rat.mkRat_num_den hS (rfl : mkRat (a : Int) S = ⟨(mkRat (a : Int) S).num, (mkRat (a : Int) S).den, (mkRat (a : Int) S).den_nz, (mkRat (a : Int) S).reduced⟩)
  exact Nat.le_of_dvd (Nat.pos_of_ne_zero hS) ⟨m, h2⟩
/-- The first thing that has the die in its share. -/
def DrwN (l : List Fr) (m k j : Nat) : Prop := j < l.length ∧ (k : Rat) < fsum (l.take (j + 1)) * (m : Rat) ∧ ∀ i, i < j → ¬ (k : Rat) < fsum (l.take (i + 1)) * (m : Rat)
/-- Of so many dice, how many each thing is to have. -/
def wA (l : List Fr) (m : Nat) : List Nat := l.map fun f => (frv f).num.natAbs * (m / (frv f).den)
theorem wA_length (l : List Fr) (m : Nat) : (wA l m).length = l.length := by simp [wA]
/-- Chances whose denominators divide so many. -/
structure Sha (l : List Fr) (m : Nat) : Prop where
  low : ∀ f ∈ l, 0 ≤ frv f
  div : ∀ f ∈ l, (frv f).den ∣ m
  one : fsum l = 1
theorem Sha.each {l : List Fr} {m : Nat} (h : Sha l m) (j : Nat) (h1 : j < l.length) (h2 : j < (wA l m).length) : frv l[j] * (m : Rat) = ((wA l m)[j] : Rat) := by
  have e : (wA l m)[j] = (frv l[j]).num.natAbs * (m / (frv l[j]).den) := by simp [wA]
  rw [e]
  exact whole_part (h.low _ (List.getElem_mem h1)) (h.div _ (List.getElem_mem h1))
theorem Sha.cum {l : List Fr} {m : Nat} (h : Sha l m) {i : Nat} (hi : i ≤ l.length) : fsum (l.take i) * (m : Rat) = (((wA l m).take i).sum : Rat) := cum_whole (wA_length l m).symm h.each i hi
theorem Sha.sum {l : List Fr} {m : Nat} (h : Sha l m) : (wA l m).sum = m := by
  have e := h.cum (Nat.le_refl l.length)
  rw [List.take_length, h.one, Rat.one_mul, List.take_of_length_le (by rw [wA_length]; exact Nat.le_refl _)] at e
  exact (by exact_mod_cast e.symm)
theorem Sha.drawn {l : List Fr} {m k j : Nat} (h : Sha l m) (hk : k < m) (hd : DrwN l m k j) : j = dN (wA l m) k := by
  obtain ⟨h1, h2, h3⟩ := hd
  refine dN_is (by rw [h.sum]; exact hk) ?_ fun i hi hlt => h3 i hi ?_
  · rw [h.cum (by omega)] at h2
    exact_mod_cast h2
  · rw [h.cum (by omega)]
    exact_mod_cast hlt
theorem fsum_app (l r : List Fr) : fsum (l ++ r) = fsum l + fsum r := by
  induction r using snoc_ind with
  | h0 => rw [List.append_nil, show fsum [] = 0 from rfl, Rat.add_zero]
  | h1 r f ih => rw [← List.append_assoc, fsum_snoc, fsum_snoc, ih, Rat.add_assoc]
theorem fsum_low {l : List Fr} : (∀ f ∈ l, 0 ≤ frv f) → 0 ≤ fsum l := by
  induction l using snoc_ind with
  | h0 => intro _; exact Rat.le_refl
  | h1 l f ih =>
    intro h
    rw [fsum_snoc]
    exact Rat.add_nonneg (ih fun g hg => h g (List.mem_append_left _ hg)) (h f (List.mem_append_right _ (List.mem_singleton.2 rfl)))
theorem fsum_take_le {l : List Fr} (h : ∀ f ∈ l, 0 ≤ frv f) (i : Nat) : fsum (l.take i) ≤ fsum l := by
  have e : fsum l = fsum (l.take i) + fsum (l.drop i) := by rw [← fsum_app, List.take_append_drop]
  rw [e]
  have h2 : 0 ≤ fsum (l.drop i) := fsum_low fun f hf => h f (List.mem_of_mem_drop hf)
  have h3 := (Rat.add_le_add_left (c := fsum (l.take i))).2 h2
  rwa [Rat.add_zero] at h3
theorem fits_tim {m k : Nat} {p q : Rat} (hp : Fits m p) (hq : Fits k q) : Fits (m + k) (p * q) := by
  obtain ⟨A, D, h1, rfl, h3, h4⟩ := hp
  obtain ⟨A', D', h1', rfl, h3', h4'⟩ := hq
  refine ⟨A * A', D * D', Nat.mul_ne_zero h1 h1', by rw [Rat.mkRat_mul_mkRat], ?_, ?_⟩
  · rw [Nat.pow_add]
    exact Nat.mul_lt_mul'' h3 h3'
  · rw [Int.natAbs_mul, Nat.pow_add]
    exact Nat.mul_lt_mul'' h4 h4'
/-- So many dice draw a thing or one ahead of it, as a fraction. -/
def cqR (l : List Fr) (m i : Nat) : Rat := fsum (l.take (i + 1)) * (m : Rat)
/-- The same, rounded up, of all things. -/
def shN (l : List Fr) (m : Nat) : List Nat := (List.range l.length).map fun i => ceilN (cqR l m i).num.natAbs (cqR l m i).den
theorem shN_length (l : List Fr) (m : Nat) : (shN l m).length = l.length := by simp [shN]
theorem shN_get (l : List Fr) (m : Nat) {i : Nat} (h : i < (shN l m).length) : (shN l m)[i] = ceilN (cqR l m i).num.natAbs (cqR l m i).den := by simp [shN]
theorem cqR_low {l : List Fr} (h : ∀ f ∈ l, 0 ≤ frv f) (m i : Nat) : 0 ≤ cqR l m i := Rat.mul_nonneg (fsum_low fun f hf => h f (List.mem_of_mem_take hf)) Rat.natCast_nonneg
theorem cqR_high {l : List Fr} (h : ∀ f ∈ l, 0 ≤ frv f) (h1 : fsum l = 1) (m i : Nat) : cqR l m i ≤ (m : Rat) := by
  have h2 := fsum_take_le h (i + 1)
  rw [h1] at h2
  have h3 := Rat.mul_le_mul_of_nonneg_right h2 (Rat.natCast_nonneg (a := m))
  rwa [Rat.one_mul] at h3
theorem shN_lt {l : List Fr} (h : ∀ f ∈ l, 0 ≤ frv f) (m : Nat) {k i : Nat} (hi : i < (shN l m).length) : k < (shN l m)[i] ↔ (k : Rat) < cqR l m i := by
  rw [shN_get]
  exact ceil_lt (cqR_low h m i)
/-- A die that there is falls into a share. -/
theorem shN_ex {l : List Fr} (h : ∀ f ∈ l, 0 ≤ frv f) (h1 : fsum l = 1) {m k : Nat} (hk : k < m) : ∃ i, ∃ h : i < (shN l m).length, k < (shN l m)[i] := by
  have hl : 0 < l.length := by
    rcases l with _ | ⟨f, l⟩
    · exact absurd (show (0 : Rat) = 1 from h1) (by decide)
    · exact Nat.succ_pos _
  refine ⟨l.length - 1, by rw [shN_length]; omega, ?_⟩
  rw [shN_lt h, cqR, show l.length - 1 + 1 = l.length by omega, List.take_length, h1, Rat.one_mul]
  exact_mod_cast hk
theorem shN_drw {l : List Fr} (h : ∀ f ∈ l, 0 ≤ frv f) {m k j : Nat} (hj : j < (shN l m).length) (h1 : k < (shN l m)[j]) (h2 : ∀ i (h : i < (shN l m).length), i < j → ¬ k < (shN l m)[i]) : DrwN l m k j :=
  ⟨by rw [shN_length] at hj; exact hj, (shN_lt h m hj).1 h1, fun i hi hlt => h2 i (by omega) hi ((shN_lt h m (by omega)).2 hlt)⟩
end Go.Proofs.YtbejijgelljeaaaGreatDoor


/- Chains, plainly: how long numbers are when equations are solved. -/
namespace Go.Proofs.YtbejijgelljeaaaGreatDoor
theorem fits_neg {m : Nat} {q : Rat} (h : Fits m q) : Fits m (-q) := by
  obtain ⟨A, D, hD, rfl, h1, h2⟩ := h
  exact ⟨-A, D, hD, (Rat.neg_mkRat A D), h1, by rw [Int.natAbs_neg]; exact h2⟩
theorem mk_cancel {A : Int} {D : Nat} (h : D ≠ 0) : mkRat A D * (D : Rat) = (A : Rat) := by
  have hd : (D : Rat) ≠ 0 := by exact_mod_cast h
  rw [Rat.mkRat_eq_div, Rat.div_def, Rat.mul_assoc, Rat.inv_mul_cancel _ hd, Rat.mul_one]
theorem mk_of {A : Int} {D : Nat} {q : Rat} (h : D ≠ 0) (e : q * (D : Rat) = (A : Rat)) : q = mkRat A D := by
  have hd : (D : Rat) ≠ 0 := by exact_mod_cast h
  rw [Rat.mkRat_eq_div, ← e, Rat.div_def, Rat.mul_assoc, Rat.mul_inv_cancel _ hd, Rat.mul_one]
theorem fits_divq {m k : Nat} {p q : Rat} (hp : Fits m p) (hq : Fits k q) (h0 : q ≠ 0) : Fits (m + k) (p / q) := by
  obtain ⟨A, D, hD, rfl, h1, h2⟩ := hp
  obtain ⟨A', D', hD', rfl, h3, h4⟩ := hq
  have hA : A' ≠ 0 := fun e => h0 (by rw [e, Rat.zero_mkRat])
  have hn : A'.natAbs ≠ 0 := by omega
  refine ⟨A * (D' * A'.sign), D * A'.natAbs, Nat.mul_ne_zero hD hn, mk_of (Nat.mul_ne_zero hD hn) ?_, ?_, ?_⟩
  · have e1 := mk_cancel (A := A) hD
    have e2 := mk_cancel (A := A') hD'
    have e3 : ((A'.natAbs : Nat) : Rat) = (A' : Rat) * (A'.sign : Rat) := by
      have : ((A'.natAbs : Nat) : Int) = A' * A'.sign := by rw [Int.mul_sign_self]
      exact_mod_cast this
    generalize mkRat A D = p at *
    generalize mkRat A' D' = q at *
    have e4 : p / q * q = p := by rw [Rat.div_def, Rat.mul_assoc, Rat.inv_mul_cancel _ h0, Rat.mul_one]
    push_cast
    rw [e3, ← e1, ← e2]
    generalize p / q = r at *
    rw [← e4]
    grind
  · rw [Nat.pow_add]
    exact Nat.mul_lt_mul'' h1 h4
  · have hs : A'.sign.natAbs = 1 := by rw [Int.natAbs_sign, if_neg hA]
    rw [Int.natAbs_mul, Int.natAbs_mul, hs, Nat.mul_one, Int.natAbs_natCast, Nat.pow_add]
    exact Nat.mul_lt_mul'' h2 h3
theorem fits_up {m n : Nat} {q : Rat} (h : Fits m q) (hm : m ≤ n) : Fits n q := by
  obtain ⟨A, D, hD, e, h1, h2⟩ := h
  exact ⟨A, D, hD, e, Nat.lt_of_lt_of_le h1 (pow_mono hm), Nat.lt_of_lt_of_le h2 (pow_mono hm)⟩
theorem fits_sub {m k : Nat} {p q : Rat} (hp : Fits m p) (hq : Fits k q) : Fits (m + k + 1) (p - q) := by
  rw [Rat.sub_eq_add_neg]
  exact fits_add hp (fits_neg hq)
theorem fits_zero : Fits 1 0 := ⟨0, 1, by decide, rfl, by decide, by decide⟩
theorem fits_one : Fits 1 1 := ⟨1, 1, by decide, rfl, by decide, by decide⟩
theorem fits_sumR {c : Nat} {f : Nat → Rat} : ∀ {n : Nat}, (∀ i, i < n → Fits c (f i)) → Fits (n * (c + 1) + 1) (sumR f n)
  | 0, _ => fits_up fits_zero (by omega)
  | n + 1, h => fits_up (fits_add (fits_sumR fun i hi => h i (by omega)) (h n (by omega))) (by rw [Nat.add_mul]; omega)
def bE (b : Nat) : Nat → Nat
  | 0 => b
  | k + 1 => 4 * bE b k + 1
theorem elm_fits {n b : Nat} {M : Nat → Nat → Rat} (hb : ∀ i c, i < n → c ≤ n → Fits b (M i c)) (hp : ∀ j, j < n → elm M j j j ≠ 0) : ∀ k, k ≤ n → ∀ i c, i < n → c ≤ n → Fits (bE b k) (elm M k i c)
  | 0, _, i, c, hi, hc => hb i c hi hc
  | k + 1, hk, i, c, hi, hc => by
    have ih := elm_fits hb hp k (by omega)
    have h1 := fits_divq (ih k c (by omega) hc) (ih k k (by omega) (by omega)) (hp k (by omega))
    show Fits _ (if i = k then elm M k k c / elm M k k k else elm M k i c - elm M k k c / elm M k k k * elm M k i k)
    by_cases e : i = k
    · rw [if_pos e]
      exact fits_up h1 (by rw [bE]; omega)
    · rw [if_neg e]
      exact fits_up (fits_sub (ih i c hi hc) (fits_tim h1 (ih i k hi (by omega)))) (by rw [bE]; omega)
theorem bE_mono (b : Nat) : ∀ {k n : Nat}, k ≤ n → bE b k ≤ bE b n
  | _, 0, h => by obtain rfl := Nat.le_zero.1 h; exact Nat.le_refl _
  | k, n + 1, h => by
    rcases Nat.lt_or_ge k (n + 1) with h1 | h1
    · exact Nat.le_trans (bE_mono b (Nat.lt_succ_iff.1 h1)) (by rw [bE]; omega)
    · obtain rfl : k = n + 1 := by omega
      exact Nat.le_refl _
/-- The equations while the step k is done: row k is divided, the rows ahead of o are done. -/
def elmP (k o : Nat) (M : Nat → Nat → Rat) : Nat → Nat → Rat := fun i c => if i = k then M k c / M k k else if i < o then M i c - M k c / M k k * M i k else M i c
theorem elmP_last {n k : Nat} {M : Nat → Nat → Rat} {i : Nat} (hi : i < n) : elmP k n M i = elmS k M i := by
  funext c
  show (if i = k then _ else if i < n then _ else _) = (if i = k then _ else _)
  rw [if_pos hi]
theorem elmP_skip (k : Nat) (M : Nat → Nat → Rat) : elmP k (k + 1) M = elmP k k M := by
  funext i c
  show (if i = k then _ else if i < k + 1 then _ else _) = (if i = k then _ else if i < k then _ else _)
  by_cases e : i = k
  · rw [if_pos e, if_pos e]
  · rw [if_neg e, if_neg e]
    by_cases h : i < k
    · rw [if_pos h, if_pos (by omega)]
    · rw [if_neg h, if_neg (by omega)]
theorem elmP_next {k o : Nat} (M : Nat → Nat → Rat) (h : o ≠ k) (i : Nat) : elmP k (o + 1) M i = if i = o then (fun c => M o c - M k c / M k k * M o k) else elmP k o M i := by
  by_cases e : i = o
  · rw [if_pos e]
    subst e
    funext c
    show (if i = k then _ else if i < i + 1 then _ else _) = _
    rw [if_neg h, if_pos (by omega)]
  · rw [if_neg e]
    funext c
    show (if i = k then _ else if i < o + 1 then _ else _) = (if i = k then _ else if i < o then _ else _)
    by_cases e1 : i = k
    · rw [if_pos e1, if_pos e1]
    · rw [if_neg e1, if_neg e1]
      by_cases h1 : i < o
      · rw [if_pos h1, if_pos (by omega)]
      · rw [if_neg h1, if_neg (by omega)]
theorem elmP_zero {k : Nat} (M : Nat → Nat → Rat) (i : Nat) : elmP k 0 M i = if i = k then (fun c => M k c / M k k) else M i := by
  by_cases e : i = k
  · rw [if_pos e]; funext c; show (if i = k then _ else _) = _; rw [if_pos e]
  · rw [if_neg e]; funext c; show (if i = k then _ else if i < 0 then _ else _) = _; rw [if_neg e, if_neg (by omega)]
theorem cmpQ_pos {p q : Rat} : 0 < cmpQ p q ↔ q < p := by
  by_cases h : p < q
  · rw [cmpQ, if_pos h]; exact ⟨fun h1 => absurd h1 (by decide), fun h1 => absurd h1 (by grind)⟩
  · by_cases e : p = q
    · subst e; rw [cmpQ, if_neg Rat.lt_irrefl, if_pos rfl]; exact ⟨fun h1 => absurd h1 (by decide), fun h1 => absurd h1 Rat.lt_irrefl⟩
    · rw [cmpQ, if_neg h, if_neg e]; exact ⟨fun _ => Rat.lt_of_le_of_ne (Rat.not_lt.1 h) (Ne.symm e), fun _ => by decide⟩
end Go.Proofs.YtbejijgelljeaaaGreatDoor


/- Lists of ints in memory; the document's answer: what is in a list, sizes that may be, lists that rise. -/
namespace Go.Proofs.YtbejijgelljeaaaGreatDoor
open Go.RowKit

theorem hid {p : Prop} (h : p) : Hid p := h
/-- A list of ints, as a slice at a. -/
def IntS (w : World) (a : Option Addr) (l : List Int) : Prop := ∀ k (h : k < l.length), ∃ g o, a = some ⟨g, o, none⟩ ∧ g < w.heap.size ∧ w.cell? ⟨g, o + k, none⟩ = some (.int .i64 l[k])
theorem IntS.below {w w' : World} {a : Option Addr} {l : List Int} (h : IntS w a l) (hb : Below w.heap.size w w') : IntS w' a l := fun k hk => by
  obtain ⟨g, o, h1, h2, h3⟩ := h k hk
  exact ⟨g, o, h1, Nat.lt_of_lt_of_le h2 hb.size, (hb.cell (p := ⟨g, _, none⟩) h2).trans h3⟩
theorem IntS.drew {w : World} {a : Option Addr} {l : List Int} (h : IntS w a l) : IntS w.drew a l := h
theorem below_dn {B : Nat} {a b : World} (h : Below B a b) (k : Nat) : Below B a (b.drewN k) := ⟨h.os, h.tape, h.output, h.size, h.block⟩

def inB (k : Int) (l : List Int) : Bool := l.any (· == k)
theorem inB_take {k : Int} {l : List Int} {i : Nat} (h : i < l.length) : inB k (l.take (i + 1)) = (inB k (l.take i) || l[i] == k) := by
  rw [List.take_succ_eq_append_getElem h, inB, inB, List.any_append]; simp
theorem inB_hit {k : Int} {l : List Int} {i : Nat} (h : i < l.length) (e : l[i] = k) : inB k l = true := by
  rw [inB, List.any_eq_true]; exact ⟨l[i], List.getElem_mem h, by simp [e]⟩

set_option maxRecDepth 100000 in
set_option maxHeartbeats 1000000 in
theorem rIn_any (k : Int) (a : Option Addr) (cap : Nat) (l : List Int) (w : World) (h : IntS w a l) (hn : l.length ≤ 140737488355328) :
    Calls Tryz.prog 12 #[.int .i64 k, .slice a l.length cap] w fun e w' => e = .returned (.bool (inB k l)) ∧ w' = w := by
  have HF := hid h
  clear h
  go_enter Tryz.func12, Tryz.ntmps12
  go_wp2_with fail
  go_loop [5] (fun iv => ∃ i : Nat, i ≤ l.length ∧ iv = .int .i64 i ∧ Hid (inB k (l.take i) = false)) (fun iv => l.length - (intOf iv).toNat)
  case atStart => exact ⟨0, Nat.zero_le _, rfl, rfl⟩
  case round =>
    obtain ⟨i, hi, rfl, HI⟩ := hrel
    by_cases hlt : i < l.length
    · obtain ⟨g, o, rfl, hg, c0⟩ := HF.out i hlt
      by_cases e : l[i] = k
      · have HE := hid (inB_hit hlt e)
        go_wp2
        go_ret
        exact ⟨by rw [HE.out]; rfl, rfl⟩
      · have HS : Hid (inB k (l.take (i + 1)) = false) := by show _ = _; rw [inB_take hlt, HI.out]; simp [e]
        have eb : (l[i] == k) = false := by simp [e]
        generalize l[i] = x at *
        go_wp2
        go_round
        case rel => exact ⟨i + 1, by omega, by go_num, HS.out⟩
        case measure => simp [intOf]; omega
    · have HE : Hid (inB k l = false) := by
        show _ = _
        have := HI.out
        rwa [List.take_of_length_le (by omega)] at this
      go_wp2
      go_ret
      exact ⟨by rw [HE.out]; rfl, rfl⟩

/-- Sizes that may be. -/
def okSize (x : Int) : Bool := decide (1 ≤ x ∧ x ≤ 4)
def fitB (l : List Int) : Bool := decide (1 ≤ l.length ∧ l.length ≤ 8) && l.all okSize
theorem all_bad {l : List Int} {p : Int → Bool} {i : Nat} (h : i < l.length) (e : p l[i] = false) : l.all p = false := by
  rw [List.all_eq_false]; exact ⟨l[i], List.getElem_mem h, by rw [e]; decide⟩
theorem all_take_succ {l : List Int} {p : Int → Bool} {i : Nat} (h : i < l.length) (h0 : (l.take i).all p = true) (e : p l[i] = true) : (l.take (i + 1)).all p = true := by
  rw [List.take_succ_eq_append_getElem h, List.all_append, h0]; simp [e]

end Go.Proofs.YtbejijgelljeaaaGreatDoor


/- The document's answer: lists that rise. -/
namespace Go.Proofs.YtbejijgelljeaaaGreatDoor
open Go.RowKit

/-- Does the list rise, of numbers from 0 on below n? -/
def okAt (l : List Int) (n : Int) (i : Nat) : Bool := decide (0 ≤ l.getD i 0 ∧ l.getD i 0 < n ∧ (0 < i → l.getD (i - 1) 0 < l.getD i 0))
def risB (l : List Int) (n : Int) : Bool := (List.range l.length).all (okAt l n)
theorem risB_bad {l : List Int} {n : Int} {i : Nat} (h : i < l.length) (e : okAt l n i = false) : risB l n = false := by
  rw [risB, List.all_eq_false]; exact ⟨i, List.mem_range.2 h, by rw [e]; decide⟩
theorem ris_succ {l : List Int} {n : Int} {i : Nat} (h0 : (List.range i).all (okAt l n) = true) (e : okAt l n i = true) : (List.range (i + 1)).all (okAt l n) = true := by
  rw [List.range_succ, List.all_append, h0]; simp [e]
theorem getD_eq {l : List Int} {i : Nat} (h : i < l.length) : l.getD i 0 = l[i] := by simp [List.getD, h]

end Go.Proofs.YtbejijgelljeaaaGreatDoor


/- Plain facts on assignments of variables and their places in tables; nothing of the program is named here. -/
namespace Go.Proofs.YtbejijgelljeaaaGreatDoor

/-- How many values a variable has. -/
def sz (S : List Nat) (v : Nat) : Nat := S[v]?.getD 1
/-- How many assignments variables have. -/
def cnt (S : List Nat) : List Nat → Nat
  | [] => 1
  | v :: vs => sz S v * cnt S vs
theorem cnt_append (S a b : List Nat) : cnt S (a ++ b) = cnt S a * cnt S b := by
  induction a with
  | nil => simp [cnt]
  | cons v a ih => simp only [List.cons_append, cnt, ih, Nat.mul_assoc]
theorem cnt_snoc (S a : List Nat) (v : Nat) : cnt S (a ++ [v]) = cnt S a * sz S v := by rw [cnt_append]; simp [cnt]
/-- All sizes are at least 1. -/
def Pos (S : List Nat) : Prop := ∀ x ∈ S, 1 ≤ x
theorem sz_pos {S : List Nat} (h : Pos S) (v : Nat) : 1 ≤ sz S v := by
  rw [sz]
  cases e : S[v]? with
  | none => simp
  | some x => exact h x (List.mem_of_getElem? e)
theorem cnt_pos {S : List Nat} (h : Pos S) (vs : List Nat) : 1 ≤ cnt S vs := by
  induction vs with
  | nil => exact Nat.le_refl _
  | cons v vs ih => exact Nat.mul_le_mul (sz_pos h v) ih

/-- The assignment of a place. -/
def digs (S : List Nat) : List Nat → Nat → List Nat
  | [], _ => []
  | _ :: vs, k => (k / cnt S vs) :: digs S vs (k % cnt S vs)
theorem digs_length (S vs : List Nat) : ∀ k, (digs S vs k).length = vs.length := by
  induction vs with
  | nil => intro _; rfl
  | cons v vs ih => intro k; simp [digs, ih]
theorem mod_div (k c s : Nat) : k % (s * c) / c = k / c % s := by
  rw [Nat.mul_comm s c, Nat.mod_mul_right_div_self]
theorem mod_mod_c (k c s : Nat) : k % (s * c) % c = k % c := by
  rw [Nat.mul_comm s c, Nat.mod_mul_right_mod]
theorem digs_snoc {S : List Nat} (h : Pos S) (vs : List Nat) (v : Nat) : ∀ k, digs S (vs ++ [v]) k = digs S vs (k / sz S v) ++ [k % sz S v] ∨ ¬ k < cnt S (vs ++ [v]) := by
  induction vs with
  | nil =>
    intro k
    by_cases hk : k < cnt S ([] ++ [v])
    · left
      simp [digs, cnt] at hk ⊢
      exact (Nat.mod_eq_of_lt hk).symm
    · exact .inr hk
  | cons u vs ih =>
    intro k
    by_cases hk : k < cnt S ((u :: vs) ++ [v])
    · left
      have hs := sz_pos h v
      have hc := cnt_pos h vs
      have e : cnt S (vs ++ [v]) = cnt S vs * sz S v := cnt_snoc S vs v
      have hk2 : k % cnt S (vs ++ [v]) < cnt S (vs ++ [v]) := Nat.mod_lt _ (cnt_pos h _)
      rcases ih (k % cnt S (vs ++ [v])) with h1 | h1
      · show (k / cnt S (vs ++ [v])) :: digs S (vs ++ [v]) (k % cnt S (vs ++ [v])) = _
        rw [h1, e]
        show _ = (k / sz S v / cnt S vs) :: digs S vs (k / sz S v % cnt S vs) ++ [k % sz S v]
        rw [mod_div k _ _, mod_mod_c, Nat.div_div_eq_div_mul, Nat.mul_comm (sz S v)]
        rfl
      · exact absurd hk2 h1
    · exact .inr hk

/-- The assignment of a place, variable by variable: 0 for those that it hasn't. -/
def asg (S : List Nat) : List Nat → Nat → Nat → Nat
  | [], _, _ => 0
  | u :: vs, k, v => if v = u then k / cnt S vs else asg S vs (k % cnt S vs) v
theorem asg_out {S : List Nat} : ∀ {vs : List Nat} {k v : Nat}, ¬ v ∈ vs → asg S vs k v = 0
  | [], _, _, _ => rfl
  | u :: vs, k, v, h => by
    rw [asg, if_neg (fun e => h (by rw [e]; exact List.mem_cons_self))]
    exact asg_out fun e => h (List.mem_cons_of_mem _ e)
/-- How far apart two values of a variable stand. -/
def stp (S : List Nat) : List Nat → Nat → Nat
  | [], _ => 0
  | u :: vs, v => if v = u then cnt S vs else stp S vs v
theorem stp_out {S : List Nat} : ∀ {vs : List Nat} {v : Nat}, ¬ v ∈ vs → stp S vs v = 0
  | [], _, _ => rfl
  | u :: vs, v, h => by
    rw [stp, if_neg (fun e => h (by rw [e]; exact List.mem_cons_self))]
    exact stp_out fun e => h (List.mem_cons_of_mem _ e)
/-- The place of an assignment. -/
def pos (S : List Nat) (f : Nat → Nat) (vs : List Nat) : Nat := vs.foldl (fun k v => k * sz S v + f v) 0
theorem pos_snoc (S : List Nat) (f : Nat → Nat) (vs : List Nat) (v : Nat) : pos S f (vs ++ [v]) = pos S f vs * sz S v + f v := by simp [pos]

/-- A sum over some. -/
def sumL (g : Nat → Nat) : List Nat → Nat
  | [] => 0
  | v :: vs => g v + sumL g vs
theorem sumL_append (g : Nat → Nat) (a b : List Nat) : sumL g (a ++ b) = sumL g a + sumL g b := by
  induction a with
  | nil => simp [sumL]
  | cons v a ih => simp only [List.cons_append, sumL, ih]; omega
theorem sumL_congr {g h : Nat → Nat} : ∀ {l : List Nat}, (∀ v ∈ l, g v = h v) → sumL g l = sumL h l
  | [], _ => rfl
  | v :: l, e => by rw [sumL, sumL, e v List.mem_cons_self, sumL_congr fun u hu => e u (List.mem_cons_of_mem _ hu)]
theorem foldl_pos (S : List Nat) (f : Nat → Nat) : ∀ (vs : List Nat) (k : Nat), vs.foldl (fun k v => k * sz S v + f v) k = k * cnt S vs + pos S f vs
  | [], k => by simp [pos, cnt]
  | v :: vs, k => by
    have e : pos S f (v :: vs) = f v * cnt S vs + pos S f vs := by
      show vs.foldl (fun k v => k * sz S v + f v) (0 * sz S v + f v) = _
      rw [foldl_pos S f vs, Nat.zero_mul, Nat.zero_add]
    rw [List.foldl_cons, foldl_pos S f vs, e, cnt, Nat.add_mul, Nat.mul_assoc]
    omega
theorem pos_sum (S : List Nat) (f : Nat → Nat) : ∀ {vs : List Nat}, vs.Nodup → pos S f vs = sumL (fun v => f v * stp S vs v) vs
  | [], _ => rfl
  | u :: vs, h => by
    rw [List.nodup_cons] at h
    rw [pos, List.foldl_cons, foldl_pos, sumL, pos_sum S f h.2, Nat.zero_mul, Nat.zero_add]
    congr 1
    · rw [stp, if_pos rfl]
    · exact sumL_congr fun v hv => by rw [stp, if_neg (fun e => h.1 (by rw [← e]; exact hv))]
/-- A sum over some is a sum over all of what is 0 elsewhere. -/
theorem sumL_all (g : Nat → Nat) (n : Nat) : ∀ {vs : List Nat}, vs.Nodup → (∀ v ∈ vs, v < n) → (∀ v, ¬ v ∈ vs → g v = 0) → sumL g vs = sumL g (List.range n) := by
  intro vs hn hlt h0
  have key : ∀ {vs : List Nat}, vs.Nodup → (∀ v ∈ vs, v < n) → sumL g vs = sumL (fun v => if v ∈ vs then g v else 0) (List.range n) := by
    intro vs
    induction vs with
    | nil =>
      intro _ _
      have : ∀ l : List Nat, sumL (fun v => if v ∈ ([] : List Nat) then g v else 0) l = 0 := by
        intro l
        induction l with
        | nil => rfl
        | cons x l ih => rw [sumL, ih]; simp
      rw [this]; rfl
    | cons u vs ih =>
      intro hn hlt
      rw [List.nodup_cons] at hn
      rw [sumL, ih hn.2 fun v hv => hlt v (List.mem_cons_of_mem _ hv)]
      have hu := hlt u List.mem_cons_self
      have one : ∀ m, u < m → sumL (fun v => if v ∈ u :: vs then g v else 0) (List.range m) = g u + sumL (fun v => if v ∈ vs then g v else 0) (List.range m) := by
        intro m
        induction m with
        | zero => intro h; omega
        | succ m ihm =>
          intro h
          rw [List.range_succ, sumL_append, sumL_append]
          by_cases e : u = m
          · subst e
            have : sumL (fun v => if v ∈ u :: vs then g v else 0) (List.range u) = sumL (fun v => if v ∈ vs then g v else 0) (List.range u) := sumL_congr fun v hv => by
              have : ¬ v = u := by have := List.mem_range.1 hv; omega
              simp [this]
            rw [this]
            simp [sumL, hn.1]
            omega
          · rw [ihm (by omega)]
            have : ¬ m = u := fun h => e h.symm
            simp [sumL, this]
            omega
      rw [one n hu]
  rw [key hn hlt]
  exact sumL_congr fun v _ => by
    by_cases h : v ∈ vs
    · rw [if_pos h]
    · rw [if_neg h, h0 v h]
/-- The place in another table: a sum over the variables of the first. -/
theorem stand {S vs other : List Nat} (n k : Nat) (hv : vs.Nodup) (ho : other.Nodup) (hvl : ∀ v ∈ vs, v < n) (hol : ∀ v ∈ other, v < n) : sumL (fun v => asg S vs k v * stp S other v) vs = pos S (asg S vs k) other := by
  rw [pos_sum S _ ho, sumL_all _ n hv hvl, sumL_all _ n ho hol]
  · intro v h; rw [stp_out h, Nat.mul_zero]
  · intro v h; rw [asg_out h, Nat.zero_mul]
theorem asg_step {S : List Nat} (u : Nat) (suf : List Nat) (k v : Nat) : asg S (u :: suf) (k % cnt S (u :: suf)) v = if v = u then k / cnt S suf % sz S u else asg S suf (k % cnt S suf) v := by
  rw [asg, cnt, mod_div k _ _, mod_mod_c]
end Go.Proofs.YtbejijgelljeaaaGreatDoor


/- Sizes and variables that may be, as natural numbers; the document's answer: how many assignments there are. -/
namespace Go.Proofs.YtbejijgelljeaaaGreatDoor
open Go.RowKit

def toN (l : List Int) : List Nat := l.map Int.toNat
theorem toN_length (l : List Int) : (toN l).length = l.length := by simp [toN]
theorem toN_get {l : List Int} {i : Nat} (h : i < l.length) : (toN l)[i]'(by rw [toN_length]; exact h) = l[i].toNat := by simp [toN]

/-- Sizes that may be. -/
structure Fine (l : List Int) : Prop where
  one : 1 ≤ l.length
  eight : l.length ≤ 8
  each : ∀ i (h : i < l.length), 1 ≤ l[i] ∧ l[i] ≤ 4
theorem fit_fine {l : List Int} (h : fitB l = true) : Fine l := by
  rw [fitB, Bool.and_eq_true, decide_eq_true_iff] at h
  exact ⟨h.1.1, h.1.2, fun i hi => by
    have := List.all_eq_true.1 h.2 l[i] (List.getElem_mem hi)
    simpa [okSize] using this⟩
theorem Fine.pos {l : List Int} (h : Fine l) : Pos (toN l) := by
  intro x hx
  obtain ⟨i, hi, rfl⟩ := List.mem_iff_getElem.1 hx
  rw [toN_length] at hi
  rw [toN_get hi]
  have := h.each i hi
  omega
theorem Fine.sz_le {l : List Int} (h : Fine l) (v : Nat) : sz (toN l) v ≤ 4 := by
  rw [sz]
  by_cases hv : v < l.length
  · rw [List.getElem?_eq_getElem (by rw [toN_length]; exact hv), Option.getD_some, toN_get hv]
    have := h.each v hv
    omega
  · rw [List.getElem?_eq_none (by rw [toN_length]; omega)]; simp
theorem Fine.sz_eq {l : List Int} (h : Fine l) {v : Nat} (hv : v < l.length) : (sz (toN l) v : Int) = l[v] := by
  rw [sz, List.getElem?_eq_getElem (by rw [toN_length]; exact hv), Option.getD_some, toN_get hv]
  have := h.each v hv
  omega

/-- A list that rises, of numbers from 0 on below n. -/
structure Up (l : List Int) (n : Nat) : Prop where
  each : ∀ i (h : i < l.length), 0 ≤ l[i] ∧ l[i] < n
  lt : ∀ i j (hj : j < l.length) (hi : i < j), l[i] < l[j]
theorem ris_up {l : List Int} {n : Nat} (h : risB l n = true) : Up l n := by
  have hok : ∀ i (hi : i < l.length), 0 ≤ l[i] ∧ l[i] < (n : Int) ∧ (0 < i → l.getD (i - 1) 0 < l[i]) := fun i hi => by
    have := List.all_eq_true.1 h i (List.mem_range.2 hi)
    rw [okAt, decide_eq_true_iff, getD_eq hi] at this
    exact this
  refine ⟨fun i hi => ⟨(hok i hi).1, (hok i hi).2.1⟩, ?_⟩
  intro i j
  induction j with
  | zero => intro _ h; omega
  | succ j ih =>
    intro hj hi
    have h1 := (hok (j + 1) hj).2.2 (by omega)
    rw [Nat.add_sub_cancel, getD_eq (by omega)] at h1
    rcases Nat.lt_or_ge i j with h2 | h2
    · have := ih (by omega) h2
      omega
    · obtain rfl : i = j := by omega
      exact h1
theorem Up.nat {l : List Int} {n : Nat} (h : Up l n) {i : Nat} (hi : i < l.length) : ((l[i].toNat : Nat) : Int) = l[i] ∧ l[i].toNat < n := by
  have := h.each i hi
  constructor <;> omega
theorem Up.below {l : List Int} {n : Nat} (h : Up l n) : ∀ v ∈ toN l, v < n := by
  intro v hv
  obtain ⟨i, hi, rfl⟩ := List.mem_iff_getElem.1 hv
  rw [toN_length] at hi
  rw [toN_get hi]
  exact (h.nat hi).2
theorem Up.nodup {l : List Int} {n : Nat} (h : Up l n) : (toN l).Nodup := by
  rw [List.Nodup, List.pairwise_iff_getElem]
  intro i j hi hj hij
  rw [toN_length] at hi hj
  rw [toN_get hi, toN_get hj]
  have h1 := h.lt i j hj hij
  have h2 := h.each i hi
  omega
theorem Up.ge {l : List Int} {n : Nat} (h : Up l n) : ∀ i (hi : i < l.length), (i : Int) ≤ l[i] := by
  intro i
  induction i with
  | zero => intro hi; exact (h.each 0 hi).1
  | succ i ih =>
    intro hi
    have := ih (by omega)
    have := h.lt i (i + 1) hi (by omega)
    omega
theorem Up.length {l : List Int} {n : Nat} (h : Up l n) : l.length ≤ n := by
  rcases Nat.eq_zero_or_pos l.length with h0 | h0
  · omega
  · have h1 := h.ge (l.length - 1) (by omega)
    have h2 := (h.each (l.length - 1) (by omega)).2
    omega
theorem cnt_le {S : List Nat} (h : ∀ v, sz S v ≤ 4) : ∀ vs : List Nat, cnt S vs ≤ 4 ^ vs.length
  | [] => Nat.le_refl _
  | v :: vs => by
    rw [cnt, List.length_cons, Nat.pow_succ, Nat.mul_comm (4 ^ _)]
    exact Nat.mul_le_mul (h v) (cnt_le h vs)
theorem cnt_small {S : List Nat} (h : ∀ v, sz S v ≤ 4) {vs : List Nat} (hv : vs.length ≤ 8) : cnt S vs ≤ 65536 := by
  have h1 := cnt_le h vs
  have h2 : 4 ^ vs.length ≤ 4 ^ 8 := Nat.pow_le_pow_right (by decide) hv
  have h3 : (4 : Nat) ^ 8 = 65536 := by decide
  omega
theorem cnt_take (S vs : List Nat) {i : Nat} (h : i < vs.length) : cnt S (vs.take (i + 1)) = cnt S (vs.take i) * sz S vs[i] := by
  rw [List.take_succ_eq_append_getElem h, cnt_snoc]

/-- What Count answers. -/
def countB (sizes vars : List Int) : Bool := fitB sizes && risB vars sizes.length
def countA (sizes vars : List Int) : Int × Int := if countB sizes vars = true then (((cnt (toN sizes) (toN vars) : Nat) : Int), 0) else (0, 11)
theorem countA_yes {sizes vars : List Int} (h : countB sizes vars = true) : countA sizes vars = (((cnt (toN sizes) (toN vars) : Nat) : Int), 0) := if_pos h
theorem countA_no {sizes vars : List Int} (h : countB sizes vars = false) : countA sizes vars = (0, 11) := if_neg (by rw [h]; decide)

end Go.Proofs.YtbejijgelljeaaaGreatDoor


/- The document's answer: the place of an assignment. -/
namespace Go.Proofs.YtbejijgelljeaaaGreatDoor
open Go.RowKit

/-- Is the i-th value one of its variable's? -/
def valB (S vs : List Nat) (l : List Int) (i : Nat) : Bool := decide (0 ≤ l.getD i 0 ∧ l.getD i 0 < (sz S (vs.getD i 0) : Int))
/-- The place that the first n values come to. -/
def idxN (S vs l : List Nat) (n : Nat) : Nat := (List.range n).foldl (fun k i => k * sz S (vs.getD i 0) + l.getD i 0) 0
theorem idxN_succ (S vs l : List Nat) (n : Nat) : idxN S vs l (n + 1) = idxN S vs l n * sz S (vs.getD n 0) + l.getD n 0 := by
  rw [idxN, List.range_succ, List.foldl_append]; rfl
theorem getN_eq {l : List Nat} {i : Nat} (h : i < l.length) : l.getD i 0 = l[i] := by simp [List.getD, h]
theorem idxN_lt {S vs : List Nat} {l : List Int} : ∀ (n : Nat), n ≤ vs.length → n ≤ l.length → (List.range n).all (valB S vs l) = true → idxN S vs (toN l) n < cnt S (vs.take n)
  | 0, _, _, _ => by simp [idxN, cnt]
  | n + 1, h1, h2, h => by
    rw [List.range_succ, List.all_append, Bool.and_eq_true] at h
    have ih := idxN_lt n (by omega) (by omega) h.1
    have hv : valB S vs l n = true := by simpa using h.2
    rw [valB, decide_eq_true_iff, getD_eq (by omega), getN_eq (by omega)] at hv
    rw [idxN_succ, cnt_take S vs (by omega), getN_eq (show n < vs.length by omega), getN_eq (by rw [toN_length]; omega), toN_get (by omega)]
    have : (idxN S vs (toN l) n + 1) * sz S vs[n] ≤ cnt S (vs.take n) * sz S vs[n] := Nat.mul_le_mul_right _ ih
    rw [Nat.add_mul, Nat.one_mul] at this
    omega
def indexA (sizes vars l : List Int) : Int × Int :=
  if countB sizes vars = true then (if l.length = vars.length then (if (List.range vars.length).all (valB (toN sizes) (toN vars) l) = true then (((idxN (toN sizes) (toN vars) (toN l) vars.length : Nat) : Int), 0) else (0, 12)) else (0, 8)) else (0, 11)
theorem indexA_none {sizes vars l : List Int} (h : countB sizes vars = false) : indexA sizes vars l = (0, 11) := if_neg (by rw [h]; decide)
theorem indexA_len {sizes vars l : List Int} (h : countB sizes vars = true) (h1 : ¬ l.length = vars.length) : indexA sizes vars l = (0, 8) := by rw [indexA, if_pos h, if_neg h1]
theorem indexA_val {sizes vars l : List Int} (h : countB sizes vars = true) (h1 : l.length = vars.length) {i : Nat} (hi : i < vars.length) (h2 : valB (toN sizes) (toN vars) l i = false) : indexA sizes vars l = (0, 12) := by
  rw [indexA, if_pos h, if_pos h1, if_neg]
  rw [Bool.not_eq_true, List.all_eq_false]
  exact ⟨i, List.mem_range.2 hi, by rw [h2]; decide⟩
theorem indexA_ok {sizes vars l : List Int} (h : countB sizes vars = true) (h1 : l.length = vars.length) (h2 : (List.range vars.length).all (valB (toN sizes) (toN vars) l) = true) : indexA sizes vars l = (((idxN (toN sizes) (toN vars) (toN l) vars.length : Nat) : Int), 0) := by
  rw [indexA, if_pos h, if_pos h1, if_pos h2]
theorem val_succ {S vs : List Nat} {l : List Int} {i : Nat} (h0 : (List.range i).all (valB S vs l) = true) (e : valB S vs l i = true) : (List.range (i + 1)).all (valB S vs l) = true := by
  rw [List.range_succ, List.all_append, h0]; simp [e]
theorem countB_parts {sizes vars : List Int} (h : countB sizes vars = true) : Fine sizes ∧ Up vars sizes.length := by
  rw [countB, Bool.and_eq_true] at h
  exact ⟨fit_fine h.1, ris_up h.2⟩

end Go.Proofs.YtbejijgelljeaaaGreatDoor


/- Package table: how many assignments there are, and the place of one. -/
namespace Go.Proofs.YtbejijgelljeaaaGreatDoor
open Go.RowKit

/-- The least number that may follow. -/
def least (l : List Int) (i : Nat) : Int := if i = 0 then 0 else l.getD (i - 1) 0 + 1
theorem least_succ {l : List Int} {i : Nat} (h : i < l.length) : least l (i + 1) = l[i] + 1 := by
  rw [least, if_neg (by omega), Nat.add_sub_cancel, getD_eq h]
theorem okAt_least {l : List Int} {n : Int} {i : Nat} (hi : i < l.length) (h : (List.range i).all (okAt l n) = true) : okAt l n i = decide (least l i ≤ l[i] ∧ l[i] < n) ∧ 0 ≤ least l i := by
  rw [okAt, getD_eq hi, least]
  by_cases h0 : i = 0
  · subst h0
    refine ⟨?_, by simp⟩
    simp
  · have hp := List.all_eq_true.1 h (i - 1) (List.mem_range.2 (by omega))
    rw [okAt, decide_eq_true_iff, getD_eq (by omega)] at hp
    rw [if_neg h0, getD_eq (by omega)]
    refine ⟨?_, by omega⟩
    rw [decide_eq_decide]
    constructor
    · intro ⟨_, h2, h3⟩; have := h3 (by omega); exact ⟨by omega, h2⟩
    · intro ⟨h1, h2⟩; exact ⟨by omega, h2, fun _ => by omega⟩

end Go.Proofs.YtbejijgelljeaaaGreatDoor


/- Package table: the place of an assignment; whether a table may be, in both. -/
namespace Go.Proofs.YtbejijgelljeaaaGreatDoor
open Go.RowKit

/-- What Check answers. -/
def checkA (sizes vars : List Int) (m : Nat) : Int := if countB sizes vars = true then (if m = cnt (toN sizes) (toN vars) then 0 else 8) else 11
theorem checkA_none {sizes vars : List Int} {m : Nat} (h : countB sizes vars = false) : checkA sizes vars m = 11 := if_neg (by rw [h]; decide)
theorem checkA_no {sizes vars : List Int} {m : Nat} (h : countB sizes vars = true) (h1 : ¬ m = cnt (toN sizes) (toN vars)) : checkA sizes vars m = 8 := by rw [checkA, if_pos h, if_neg h1]
theorem checkA_yes {sizes vars : List Int} {m : Nat} (h : countB sizes vars = true) (h1 : m = cnt (toN sizes) (toN vars)) : checkA sizes vars m = 0 := by rw [checkA, if_pos h, if_pos h1]
end Go.Proofs.YtbejijgelljeaaaGreatDoor


/- The document's answer: the assignment of a place. -/
namespace Go.Proofs.YtbejijgelljeaaaGreatDoor
open Go.RowKit

theorem cnt_drop_dvd (S vs : List Nat) (i : Nat) : cnt S (vs.drop i) ∣ cnt S vs := by
  have h := cnt_append S (vs.take i) (vs.drop i)
  rw [List.take_append_drop] at h
  exact ⟨_, by rw [h, Nat.mul_comm]⟩
theorem digs_get {S : List Nat} (hp : Pos S) : ∀ (vs : List Nat) (k i : Nat) (_ : k < cnt S vs) (h : i < vs.length), (digs S vs k)[i]'(by rw [digs_length]; exact h) = k % cnt S (vs.drop i) / cnt S (vs.drop (i + 1))
  | [], _, _, _, h => absurd h (by simp)
  | v :: vs, k, 0, hk, _ => by
    show k / cnt S vs = k % cnt S (v :: vs) / cnt S vs
    rw [Nat.mod_eq_of_lt hk]
  | v :: vs, k, i + 1, _, h => by
    have h' : i < vs.length := by simpa using h
    have := digs_get hp vs (k % cnt S vs) i (Nat.mod_lt _ (cnt_pos hp vs)) h'
    show (digs S vs (k % cnt S vs))[i]'_ = k % cnt S (vs.drop i) / cnt S (vs.drop (i + 1))
    rw [this, Nat.mod_mod_of_dvd _ (cnt_drop_dvd S vs i)]
theorem digs_at {S : List Nat} (hp : Pos S) (vs : List Nat) (k i : Nat) (hk : k < cnt S vs) (h : i < vs.length) : (digs S vs k)[i]? = some (k % cnt S (vs.drop i) / cnt S (vs.drop (i + 1))) := by
  rw [List.getElem?_eq_getElem (by rw [digs_length]; exact h), digs_get hp vs k i hk h]
theorem cnt_drop (S vs : List Nat) {i : Nat} (h : i < vs.length) : cnt S (vs.drop i) = sz S vs[i] * cnt S (vs.drop (i + 1)) := by
  rw [List.drop_eq_getElem_cons h, cnt]
/-- What is written when i values are told. -/
def partD (l : List Nat) (i : Nat) : List Nat := l.take i ++ List.replicate (l.length - i) 0
theorem partD_zero (l : List Nat) : partD l 0 = List.replicate l.length 0 := by simp [partD]
theorem partD_length (l : List Nat) {i : Nat} (h : i ≤ l.length) : (partD l i).length = l.length := by simp [partD]; omega
theorem partD_all (l : List Nat) : partD l l.length = l := by simp [partD]
theorem partD_set (l : List Nat) {i : Nat} (h : i < l.length) : (partD l i).set i l[i] = partD l (i + 1) := by
  rw [partD, partD, List.set_append_right _ _ (by simp; omega), List.take_succ_eq_append_getElem h]
  have e : l.length - i = (l.length - (i + 1)) + 1 := by omega
  rw [e, List.replicate_succ, List.length_take, Nat.min_eq_left (by omega), Nat.sub_self, List.set_cons_zero, List.append_assoc]
  rfl
/-- Natural numbers as ints. -/
def iL (l : List Nat) : List Int := l.map fun x : Nat => (x : Int)
theorem iL_length (l : List Nat) : (iL l).length = l.length := by simp [iL]
theorem toN_iL (l : List Nat) : toN (iL l) = l := by simp [toN, iL, Function.comp_def]
theorem RowI.ints {w : World} {g : Nat} {l : List Nat} (h : RowI w g l) : IntS w (some ⟨g, 0, none⟩) (iL l) := fun k hk => by
  rw [iL_length] at hk
  refine ⟨g, 0, rfl, h.lt, ?_⟩
  rw [Nat.zero_add, h.cell k hk]
  simp [iL]

theorem wrap_le (n : Nat) (h : n ≤ 65536) : wrap64 (n : Int) = (n : Int) := by
  rw [wrap64]
  omega

/-- What Where answers. -/
def whereL (sizes vars : List Int) (k : Int) : List Nat := if countB sizes vars = true ∧ 0 ≤ k ∧ k < (cnt (toN sizes) (toN vars) : Int) then digs (toN sizes) (toN vars) k.toNat else []
def whereE (sizes vars : List Int) (k : Int) : Int := if countB sizes vars = true then (if 0 ≤ k ∧ k < (cnt (toN sizes) (toN vars) : Int) then 0 else 15) else 11

end Go.Proofs.YtbejijgelljeaaaGreatDoor


/- slices.Backward over a slice of ints: what a loop over it may lean on. -/
namespace Go.Proofs.YtbejijgelljeaaaGreatDoor
open Go.RowKit Go.Shelf

attribute [local go_sem] Oper.semAt_some

/-- A list of ints, as a slice at a, in blocks below B. -/
def IntB (B : Nat) (w : World) (a : Option Addr) (l : List Int) : Prop := ∀ k (h : k < l.length), ∃ g o, a = some ⟨g, o, none⟩ ∧ g < B ∧ w.cell? ⟨g, o + k, none⟩ = some (.int .i64 l[k])
theorem IntB.below {B : Nat} {w w' : World} {a : Option Addr} {l : List Int} (h : IntB B w a l) (hb : Below B w w') : IntB B w' a l := fun k hk => by
  obtain ⟨g, o, h1, h2, h3⟩ := h k hk
  exact ⟨g, o, h1, h2, (hb.cell (p := ⟨g, _, none⟩) h2).trans h3⟩
theorem IntS.toB {w : World} {a : Option Addr} {l : List Int} (h : IntS w a l) : IntB w.heap.size w a l := h
theorem IntB.mono {B B' : Nat} {w : World} {a : Option Addr} {l : List Int} (h : IntB B w a l) (hB : B ≤ B') : IntB B' w a l := fun k hk => by
  obtain ⟨g, o, h1, h2, h3⟩ := h k hk
  exact ⟨g, o, h1, Nat.lt_of_lt_of_le h2 hB, h3⟩
/-- What a round must keep: the iterator's box, and all that lay below B. -/
def KeepsB (Bn B : Nat) (V V' : World) : Prop := KeepsBox Bn V V' ∧ Below B V V'
theorem KeepsB.t {Bn B : Nat} {X Y Z : World} (h : KeepsB Bn B X Y) (k : KeepsB Bn B Y Z) : KeepsB Bn B X Z := ⟨h.1.t k.1, h.2.trans k.2⟩
theorem KeepsB.b {Bn B : Nat} {w : World} (hn : Bn < w.heap.size) (hB : B ≤ w.heap.size) (V : World) (l : Nat) (o o' : Obj) (hl : w.heap.size ≤ l) (h1 : V.heap[l]? = some o) (h2 : o.isCells = false) (h3 : o.isWalk = false) : KeepsB Bn B V (V.putObj l o') :=
  ⟨KeepsBox.b hn V l o o' hl h1 h2 h3, belowK_b hB V l o o' hl h1 h2 h3⟩

/-- The places of a list, from the last on. -/
def backs (n k : Nat) : List Nat := (List.range k).map fun j => n - 1 - j
theorem backs_succ (n k : Nat) : backs n (k + 1) = backs n k ++ [n - 1 - k] := by simp [backs, List.range_succ]
theorem backs_length (n k : Nat) : (backs n k).length = k := by simp [backs]

abbrev At (l : List Int) : Type := { i : Nat // i < l.length }
abbrev atV (l : List Int) (x : At l) : Array Value := #[.int .i64 (x.1 : Nat), .int .i64 (l[x.1]'x.2)]

end Go.Proofs.YtbejijgelljeaaaGreatDoor


/- A region that draws its order, in a round of a range over a function: by the plain region's law. -/
namespace Go.Proofs.YtbejijgelljeaaaGreatDoor
open Go.RowKit Go.Shelf

/-- No operation of the region defers. -/
def plainOps (ops : Array Oper) : Bool := ops.all fun o => match o.op with | .defer _ => false | _ => true
theorem plainOps_at {ops : Array Oper} (h : plainOps ops = true) {i : Nat} {o : Oper} (ho : ops[i]? = some o) : ∀ c, o.op ≠ .defer c := by
  intro c e
  rw [plainOps, Array.all_eq_true] at h
  obtain ⟨hi, he⟩ := Array.getElem?_eq_some_iff.1 ho
  have := h i hi
  rw [he, e] at this
  cases this

theorem op_in {l n : Nat} {P : Program} {ops : Array Oper} {Q : Exit → Act → World → Prop} (hnd : plainOps ops = true) (hlo : ¬ LetsOut Q) {i : Nat} {K K' : Act → World → Prop} {a : Act} {w : World} (hK : ∀ a w, K a w → K' a w)
    (h : wpOp P ops Q i K a w) : wpOpIn (Fence.wide.inRound l) n P ops Q i K' a w := by
  unfold wpOp at h
  unfold wpOpIn
  cases ho : ops[i]? with
  | none => rw [ho] at h; exact hK _ _ h
  | some o =>
    rw [ho] at h
    simp only at h ⊢
    by_cases hw : Region.wanted o (yielded ops a.tmps) = true
    · rw [if_pos hw] at h ⊢
      rcases h with h | h
      · refine ⟨fun _ _ => trivial, ?_⟩
        rw [Oper.semAt_eq _ _ _ (plainOps_at hnd ho)]
        unfold Oper.wp at h
        generalize (execOp a.eval o).run P w = r at *
        cases r with
        | ok nx w' =>
          cases nx with
          | value v => exact hK _ _ h
          | skip => exact hK _ _ h
          | defer d => exact hK _ _ h
          | enter f args =>
            refine ⟨fun hd => absurd hd (show ¬ Fence.wide.depth.isSome = true by decide), (callsIn_wide (n := n - 1)).2 (Calls.mono h ?_)⟩
            intro e w'' he
            cases e with
            | returned v => exact hK _ _ he
            | panicked c => exact he
            | outgrown => exact he
          | row r args => exact ⟨fun hd => absurd hd (show ¬ Fence.wide.depth.isSome = true by decide), fun c cs _ => let ⟨v, w2, r, s⟩ := h c cs; ⟨v, w2, hK _ _ r, stepsIn_wide.2 s⟩⟩
          | _ => exact h.elim
        | halt hl w' =>
          cases hl with
          | panic v => exact h
          | _ => exact h.elim
      · exact absurd h.2 hlo
    · rw [if_neg hw] at h ⊢
      exact ⟨fun _ _ => trivial, hK _ _ h⟩
theorem any_in {l n : Nat} {P : Program} {md : Region.Mode} {ops : Array Oper} {Q : Exit → Act → World → Prop} (hnd : plainOps ops = true) (hlo : ¬ LetsOut Q) : ∀ (fuel : Nat) (listed : Array Bool) (a : Act) (w : World), wpAny P md ops Q fuel listed a w → wpAnyIn (Fence.wide.inRound l) n P md ops Q fuel listed a w
  | 0, _, _, _, h => h
  | fuel + 1, _, _, _, h => ⟨h.1, fun i hi => op_in hnd hlo (fun a w => any_in hnd hlo fuel _ a w) (h.2 i hi)⟩
theorem region_round {l n id : Nat} {P : Program} {ops : Array Oper} {Q : Exit → Act → World → Prop} {a : Act} {w : World} (S : World → Prop) (hm : P.follows .mixedOrders = true) (hnd : plainOps ops = true) (hlo : ¬ LetsOut Q) (hS : S w.drew)
    (h : S w.drew → wpAnyH P .any ops Q S ops.size (Array.replicate ops.size false) a w.drew) : (Code.region id ops true).wpIn (Fence.wide.inRound l) n P Q a w :=
  wpIn_region_any hm (any_in hnd hlo _ _ _ _ (wpAny_of_held _ _ _ _ (h hS)))
end Go.Proofs.YtbejijgelljeaaaGreatDoor


/- Package table: the assignment of a place. -/
namespace Go.Proofs.YtbejijgelljeaaaGreatDoor
open Go.RowKit Go.Shelf

attribute [local go_sem] Oper.semAt_some

/-- One step of telling an assignment from its end: what is left of the place, and the values. -/
def bst (S vs : List Nat) (st : Nat × List Nat) (i : Nat) : Nat × List Nat := (st.1 / sz S (vs.getD i 0), st.2.set i (st.1 % sz S (vs.getD i 0)))
def asgF (S vs : List Nat) (K n : Nat) (pre : List Nat) : Nat × List Nat := pre.foldl (bst S vs) (K, List.replicate n 0)
theorem asgF_snoc (S vs : List Nat) (K n : Nat) (pre : List Nat) (i : Nat) : asgF S vs K n (pre ++ [i]) = bst S vs (asgF S vs K n pre) i := by simp [asgF]
theorem asgF_le (S vs : List Nat) (K n : Nat) (pre : List Nat) : (asgF S vs K n pre).1 ≤ K ∧ (asgF S vs K n pre).2.length = n := by
  have key : ∀ (l : List Nat) (st : Nat × List Nat), st.1 ≤ K → st.2.length = n → (l.foldl (bst S vs) st).1 ≤ K ∧ (l.foldl (bst S vs) st).2.length = n := by
    intro l
    induction l with
    | nil => intro st h1 h2; exact ⟨h1, h2⟩
    | cons i l ih =>
      intro st h1 h2
      exact ih _ (Nat.le_trans (Nat.div_le_self _ _) h1) (by simp [bst, h2])
  exact key pre _ (Nat.le_refl _) (by simp)
theorem asgF_backs (S vs : List Nat) (K : Nat) : ∀ m, m ≤ vs.length → asgF S vs K vs.length (backs vs.length m) = (K / cnt S (vs.drop (vs.length - m)), List.replicate (vs.length - m) 0 ++ digs S (vs.drop (vs.length - m)) (K % cnt S (vs.drop (vs.length - m))))
  | 0, _ => by simp [asgF, backs, cnt, digs]
  | m + 1, h => by
    rw [backs_succ, asgF_snoc, asgF_backs S vs K m (by omega)]
    have hj : vs.length - 1 - m < vs.length := by omega
    have e1 : vs.length - (m + 1) = vs.length - 1 - m := by omega
    have e2 : vs.length - m = (vs.length - 1 - m) + 1 := by omega
    have hd : vs.drop (vs.length - 1 - m) = vs[vs.length - 1 - m] :: vs.drop ((vs.length - 1 - m) + 1) := List.drop_eq_getElem_cons hj
    rw [e1, e2, hd, bst, getN_eq hj]
    generalize vs.drop ((vs.length - 1 - m) + 1) = rest
    generalize vs[vs.length - 1 - m] = v
    generalize vs.length - 1 - m = j
    simp only [cnt, digs]
    rw [mod_div, mod_mod_c, Nat.div_div_eq_div_mul, Nat.mul_comm (cnt S rest), List.replicate_succ', List.append_assoc, List.set_append_right _ _ (by simp)]
    simp
theorem asgF_all {S vs : List Nat} {K : Nat} (h : K < cnt S vs) : asgF S vs K vs.length (backs vs.length vs.length) = (0, digs S vs K) := by
  rw [asgF_backs S vs K _ (Nat.le_refl _), Nat.sub_self]
  simp [Nat.mod_eq_of_lt h, Nat.div_eq_of_lt h]

theorem row_own {β : Type} (g : Nat) (f : β → List Nat) : Own (fun s W => RowI W g (f s)) := fun s X Y row hs hg hrow => by
  refine (hg.block g hs.lt fun e' => ?_).trans hs
  obtain ⟨o, ho, hc⟩ := hrow g e'.symm
  rw [show X.heap[g]? = _ from hs] at ho
  cases ho; cases hc
theorem made_row (w : World) (n : Nat) : RowI (w.alloc (.cells (madeCells #[Value.int .i64 0] n) 3)) w.heap.size (List.replicate n 0) := by
  have h : (madeCells #[Value.int .i64 0] n).toList = (List.replicate n (0 : Nat)).map iv := by
    have := made_ints n
    rwa [Nat.mul_one, show (Value.int .i64 0).cells = #[Value.int .i64 0] from rfl] at this
  have e : madeCells #[Value.int .i64 0] n = ((List.replicate n (0 : Nat)).map iv).toArray := by rw [← h]
  rw [RowI, ← e]
  exact heap_alloc_new _ _
theorem RowI.alloc {w : World} {g : Nat} {l : List Nat} (h : RowI w g l) (o : Obj) : RowI (w.alloc o) g l := (Below.heap_alloc w o g h.lt).trans h

theorem boxed_off {V : World} {k : Nat} {t : TypeId} {v : Value} (h : Boxed V k t v) (b j : Nat) (y : Value) (hne : k ≠ b) : Boxed (V.setCell ⟨b, j, none⟩ y) k t v := (Below.heap_setCell V ⟨b, j, none⟩ y k hne).trans h
theorem RowI.off {V : World} {g : Nat} {l : List Nat} (h : RowI V g l) (b j : Nat) (y : Value) (hne : g ≠ b) : RowI (V.setCell ⟨b, j, none⟩ y) g l := (Below.heap_setCell V ⟨b, j, none⟩ y g hne).trans h

end Go.Proofs.YtbejijgelljeaaaGreatDoor


/- Package table: the assignment of a place. -/
namespace Go.Proofs.YtbejijgelljeaaaGreatDoor
open Go.RowKit

end Go.Proofs.YtbejijgelljeaaaGreatDoor

