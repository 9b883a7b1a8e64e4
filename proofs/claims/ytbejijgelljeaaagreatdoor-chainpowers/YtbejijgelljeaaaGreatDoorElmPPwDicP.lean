/- Elimination, plainly: what chain.solve leaves solves the equations; of a chain that may leave from each state, or of what is still in a closed class, no step divides by 0. -/
import Derived.Test.YtbejijgelljeaaaGreatDoorFracFPwHidP
namespace Go.Proofs.YtbejijgelljeaaaGreatDoor
/-- One step of an elimination: row k is divided, and taken from all others. -/
def elmS (k : Nat) (M : Nat → Nat → Rat) : Nat → Nat → Rat := fun i c => if i = k then M k c / M k k else M i c - M k c / M k k * M i k
/-- So many steps. -/
def elm (M : Nat → Nat → Rat) : Nat → Nat → Nat → Rat
  | 0 => M
  | k + 1 => elmS k (elm M k)
/-- These solve as many equations; what they are to be stands behind each. -/
def Sol (n : Nat) (M : Nat → Nat → Rat) (x : Nat → Rat) : Prop := ∀ i, i < n → sumR (fun j => M i j * x j) n = M i n
theorem div_mulR {p q : Rat} (h : q ≠ 0) : p / q * q = p := by rw [Rat.div_def, Rat.mul_assoc, Rat.inv_mul_cancel _ h, Rat.mul_one]
theorem sumR_sub (f g : Nat → Rat) (n : Nat) : sumR (fun i => f i - g i) n = sumR f n - sumR g n := by
  have h : sumR (fun i => f i - g i) n + sumR g n = sumR f n := by
    rw [← sumR_add]
    exact sumR_congr fun i _ => by grind
  grind
theorem elmS_sol {n k : Nat} {M : Nat → Nat → Rat} {x : Nat → Rat} (hk : k < n) (hp : M k k ≠ 0) (h : Sol n (elmS k M) x) : Sol n M x := by
  have hkk : sumR (fun j => M k j * x j) n = M k n := by
    have h1 := h k hk
    simp only [elmS, if_pos] at h1
    have h2 : sumR (fun j => M k j * x j) n = M k k * sumR (fun j => M k j / M k k * x j) n := by
      rw [← sumR_mul]
      refine sumR_congr fun j _ => ?_
      rw [← Rat.mul_assoc, Rat.mul_comm (M k k), div_mulR hp]
    rw [h2, h1, Rat.mul_comm, div_mulR hp]
  intro i hi
  by_cases e : i = k
  · subst e; exact hkk
  · have h1 := h i hi
    simp only [elmS, if_neg e] at h1
    have h2 : sumR (fun j => (M i j - M k j / M k k * M i k) * x j) n = sumR (fun j => M i j * x j) n - M i k / M k k * sumR (fun j => M k j * x j) n := by
      rw [← sumR_mul, ← sumR_sub]
      exact sumR_congr fun j _ => by rw [Rat.div_def, Rat.div_def]; grind
    rw [h2, hkk] at h1
    rw [Rat.div_def, Rat.div_def] at h1
    grind
theorem elm_sol {n : Nat} {M : Nat → Nat → Rat} {x : Nat → Rat} : ∀ k, k ≤ n → (∀ j, j < k → elm M j j j ≠ 0) → Sol n (elm M k) x → Sol n M x
  | 0, _, _, h => h
  | k + 1, hk, hp, h => elm_sol k (by omega) (fun j hj => hp j (by omega)) (elmS_sol (by omega) (hp k (by omega)) h)
/-- The first columns are those of one by one. -/
def UnitM (n k : Nat) (M : Nat → Nat → Rat) : Prop := ∀ i, i < n → ∀ j, j < k → M i j = if i = j then 1 else 0
theorem elmS_unit {n k : Nat} {M : Nat → Nat → Rat} (hk : k < n) (hp : M k k ≠ 0) (h : UnitM n k M) : UnitM n (k + 1) (elmS k M) := by
  intro i hi j hj
  rcases Nat.lt_or_ge j k with h1 | h1
  · have hkj : M k j = 0 := by rw [h k hk j h1, if_neg (by omega)]
    by_cases e : i = k
    · subst e
      rw [elmS, if_pos rfl, hkj, if_neg (by omega), Rat.div_def, Rat.zero_mul]
    · rw [elmS, if_neg e, hkj, h i hi j h1, Rat.div_def, Rat.zero_mul, Rat.zero_mul]
      grind
  · obtain rfl : j = k := by omega
    by_cases e : i = j
    · subst e
      rw [elmS, if_pos rfl, if_pos rfl, Rat.div_def, Rat.mul_inv_cancel _ hp]
    · rw [elmS, if_neg e, if_neg e, Rat.div_def, Rat.mul_inv_cancel _ hp, Rat.one_mul]
      grind
theorem elm_unit {n : Nat} {M : Nat → Nat → Rat} : ∀ k, k ≤ n → (∀ j, j < k → elm M j j j ≠ 0) → UnitM n k (elm M k)
  | 0, _, _ => fun i _ j hj => absurd hj (by omega)
  | k + 1, hk, hp => elmS_unit (by omega) (hp k (by omega)) (elm_unit k (by omega) fun j hj => hp j (by omega))
theorem sumR_one {n i : Nat} (x : Nat → Rat) (hi : i < n) : sumR (fun j => (if i = j then 1 else 0) * x j) n = x i := by
  have key : ∀ n, sumR (fun j => (if i = j then (1 : Rat) else 0) * x j) n = if i < n then x i else 0 := fun n => by
    induction n with
    | zero => rfl
    | succ n ih =>
      rw [sumR, ih]
      by_cases h1 : i = n
      · subst h1
        rw [if_neg (by omega), if_pos rfl, if_pos (by omega), Rat.one_mul, Rat.zero_add]
      · rw [if_neg h1, Rat.zero_mul, Rat.add_zero]
        by_cases h2 : i < n
        · rw [if_pos h2, if_pos (by omega)]
        · rw [if_neg h2, if_neg (by omega)]
  rw [key, if_pos hi]
/-- WHAT IS LEFT SOLVES ALL EQUATIONS, where no step divides by 0. -/
theorem elm_solves {n : Nat} {M : Nat → Nat → Rat} (hp : ∀ j, j < n → elm M j j j ≠ 0) : Sol n M fun i => elm M n i n := by
  refine elm_sol n (Nat.le_refl _) hp fun i hi => ?_
  have hu := elm_unit n (Nat.le_refl _) hp
  rw [sumR_congr (g := fun j => (if i = j then 1 else 0) * elm M n j n) fun j hj => by rw [hu i hi j hj]]
  exact sumR_one (fun j => elm M n j n) hi
/-- The sum of those from k on. -/
def tailR (f : Nat → Rat) (k n : Nat) : Rat := sumR f n - sumR f k
theorem tailR_head (f : Nat → Rat) {k n : Nat} : tailR f k n = f k + tailR f (k + 1) n := by
  rw [tailR, tailR, sumR]
  grind
theorem tailR_low {f : Nat → Rat} {k : Nat} : ∀ {n : Nat}, k ≤ n → (∀ j, k ≤ j → j < n → 0 ≤ f j) → 0 ≤ tailR f k n := by
  intro n hn h
  obtain ⟨d, rfl⟩ := Nat.exists_eq_add_of_le hn
  clear hn
  induction d with
  | zero => rw [Nat.add_zero, tailR]; grind
  | succ d ih =>
    have h1 := ih fun j h1 h2 => h j h1 (by omega)
    have h2 := h (k + d) (by omega) (by omega)
    have e : tailR f k (k + (d + 1)) = tailR f k (k + d) + f (k + d) := by
      rw [tailR, tailR, ← Nat.add_assoc, sumR]
      grind
    rw [e]
    exact Rat.add_nonneg h1 h2
theorem tailR_part {f : Nat → Rat} {k n j : Nat} (hk : k ≤ j) (hj : j < n) (h : ∀ i, k ≤ i → i < n → 0 ≤ f i) : f j ≤ tailR f k n := by
  have h1 := tailR_low (f := f) (k := k) (n := j) hk fun i h1 h2 => h i h1 (by omega)
  have h2 := tailR_low (f := f) (k := j + 1) (n := n) (by omega) fun i h1 h2 => h i (by omega) h2
  have e : tailR f k n = tailR f k j + (f j + tailR f (j + 1) n) := by rw [tailR, tailR, tailR, sumR]; grind
  rw [e]
  grind
/-- A chain that is watched on the states from k on, less 1 at each state: it may leave them, from each. -/
structure Wt (n k : Nat) (M : Nat → Nat → Rat) : Prop where
  low : ∀ i, k ≤ i → i < n → ∀ j, k ≤ j → j < n → i ≠ j → 0 ≤ M i j
  sum : ∀ i, k ≤ i → i < n → tailR (M i) k n ≤ 0
  trap : ∀ C : Nat → Prop, (∃ i, k ≤ i ∧ i < n ∧ C i) → ∃ i, k ≤ i ∧ i < n ∧ C i ∧ (tailR (M i) k n < 0 ∨ ∃ j, k ≤ j ∧ j < n ∧ ¬ C j ∧ 0 < M i j)
theorem Wt.pivot {n k : Nat} {M : Nat → Nat → Rat} (h : Wt n k M) (hk : k < n) : M k k < 0 := by
  obtain ⟨i, h1, h2, rfl, h4⟩ := h.trap (fun i => i = k) ⟨k, Nat.le_refl _, hk, rfl⟩
  have hs := h.sum i (Nat.le_refl _) hk
  have hl : 0 ≤ tailR (M i) (i + 1) n := tailR_low (by omega) fun j q1 q2 => h.low i (Nat.le_refl _) hk j (by omega) q2 (by omega)
  rw [tailR_head] at hs
  rcases h4 with h4 | ⟨j, q1, q2, q3, q4⟩
  · rw [tailR_head] at h4
    grind
  · have hj : i + 1 ≤ j := by
      rcases Nat.lt_or_ge i j with q5 | q5
      · exact q5
      · exact absurd (by omega : j = i) q3
    have := tailR_part (f := M i) hj q2 fun a q5 q6 => h.low i (Nat.le_refl _) hk a (by omega) q6 (by omega)
    grind
theorem tailR_sub (f g : Nat → Rat) (k n : Nat) : tailR (fun i => f i - g i) k n = tailR f k n - tailR g k n := by
  rw [tailR, tailR, tailR, sumR_sub, sumR_sub]
  grind
theorem tailR_mulR (c : Rat) (f : Nat → Rat) (k n : Nat) : tailR (fun i => f i * c) k n = tailR f k n * c := by
  rw [tailR, tailR, sumR_mulR, sumR_mulR]
  grind
theorem tailR_congr {f g : Nat → Rat} {k n : Nat} (hk : k ≤ n) (h : ∀ i, k ≤ i → i < n → f i = g i) : tailR f k n = tailR g k n := by
  have h1 : 0 ≤ tailR (fun i => f i - g i) k n := tailR_low hk fun i q1 q2 => by rw [h i q1 q2]; grind
  have h2 : 0 ≤ tailR (fun i => g i - f i) k n := tailR_low hk fun i q1 q2 => by rw [h i q1 q2]; grind
  rw [tailR_sub] at h1 h2
  grind
theorem inv_low {q : Rat} (hq : q < 0) : q⁻¹ < 0 := by
  have h1 : q * q⁻¹ = 1 := Rat.mul_inv_cancel _ (by grind)
  by_cases h : q⁻¹ < 0
  · exact h
  · have h2 : 0 ≤ -q * q⁻¹ := Rat.mul_nonneg (by grind) (Rat.not_lt.1 h)
    rw [Rat.neg_mul, h1] at h2
    exact absurd h2 (by decide)
theorem quot_low {p q r : Rat} (hp : 0 ≤ p) (hq : q < 0) (hr : 0 ≤ r) : 0 ≤ -(p / q * r) := by
  have h1 := inv_low hq
  have h3 : 0 ≤ p * (-q⁻¹) * r := Rat.mul_nonneg (Rat.mul_nonneg hp (by grind)) hr
  rw [Rat.div_def]
  grind
theorem quot_pos {p q r : Rat} (hp : 0 < p) (hq : q < 0) (hr : 0 < r) : 0 < -(p / q * r) := by
  have h1 := inv_low hq
  have h3 : 0 < p * (-q⁻¹) * r := Rat.mul_pos (Rat.mul_pos hp (by grind)) hr
  rw [Rat.div_def]
  grind
theorem Wt.step {n k : Nat} {M : Nat → Nat → Rat} (h : Wt n k M) (hk : k < n) : Wt n (k + 1) (elmS k M) := by
  have hp := h.pivot hk
  have hne : M k k ≠ 0 := by grind
  have ev : ∀ i, k + 1 ≤ i → ∀ j, elmS k M i j = M i j - M k j / M k k * M i k := fun i hi j => by rw [elmS, if_neg (by omega)]
  have es : ∀ i, k + 1 ≤ i → i < n → tailR (elmS k M i) (k + 1) n = tailR (M i) k n - tailR (M k) k n / M k k * M i k := fun i hi hn => by
    have e1 : tailR (elmS k M i) (k + 1) n = tailR (fun j => M i j - M k j * (M i k / M k k)) (k + 1) n := tailR_congr (by omega) fun j q1 q2 => by rw [ev i hi j, Rat.div_def, Rat.div_def]; grind
    rw [e1, tailR_sub, tailR_mulR, tailR_head (f := M i) (k := k), tailR_head (f := M k) (k := k)]
    have e2 : M k k * (M i k / M k k) = M i k := by rw [Rat.mul_comm, div_mulR hne]
    rw [Rat.div_def, Rat.div_def] at *
    grind
  have hik : ∀ i, k + 1 ≤ i → i < n → 0 ≤ M i k := fun i h1 h2 => h.low i (by omega) h2 k (Nat.le_refl _) hk (by omega)
  have hkj : ∀ j, k + 1 ≤ j → j < n → 0 ≤ M k j := fun j h1 h2 => h.low k (Nat.le_refl _) hk j (by omega) h2 (by omega)
  have hsk : 0 ≤ -tailR (M k) k n := by have := h.sum k (Nat.le_refl _) hk; grind
  refine ⟨fun i h1 h2 j h3 h4 h5 => ?_, fun i h1 h2 => ?_, fun C hC => ?_⟩
  · rw [ev i h1 j]
    have q1 := h.low i (by omega) h2 j (by omega) h4 h5
    have q2 := quot_low (hkj j h3 h4) hp (hik i h1 h2)
    grind
  · rw [es i h1 h2]
    have q1 := h.sum i (by omega) h2
    have q2 := quot_low hsk hp (hik i h1 h2)
    rw [Rat.div_def] at *
    grind
  · have leave : ∀ i, k + 1 ≤ i → i < n → tailR (M i) k n < 0 → tailR (elmS k M i) (k + 1) n < 0 := fun i h1 h2 q => by
      rw [es i h1 h2]
      have q2 := quot_low hsk hp (hik i h1 h2)
      rw [Rat.div_def] at *
      grind
    have goes : ∀ i, k + 1 ≤ i → i < n → ∀ j, k + 1 ≤ j → j < n → 0 < M i j → 0 < elmS k M i j := fun i h1 h2 j h3 h4 q => by
      rw [ev i h1 j]
      have q2 := quot_low (hkj j h3 h4) hp (hik i h1 h2)
      grind
    obtain ⟨i0, c1, c2, c3⟩ := hC
    by_cases hin : ∃ i, k + 1 ≤ i ∧ i < n ∧ C i ∧ 0 < M i k
    · obtain ⟨i, h1, h2, h3, h4⟩ := hin
      obtain ⟨a, a1, a2, a3, a4⟩ := h.trap (fun j => j = k ∨ k + 1 ≤ j ∧ C j) ⟨k, Nat.le_refl _, hk, .inl rfl⟩
      have out : ∀ j, k ≤ j → ¬ (j = k ∨ k + 1 ≤ j ∧ C j) → k + 1 ≤ j ∧ ¬ C j := fun j q1 q2 => by
        have q3 : j ≠ k := fun e => q2 (.inl e)
        exact ⟨by omega, fun e => q2 (.inr ⟨by omega, e⟩)⟩
      rcases a3 with rfl | ⟨b1, b2⟩
      · refine ⟨i, h1, h2, h3, ?_⟩
        rcases a4 with a4 | ⟨j, j1, j2, j3, j4⟩
        · left
          rw [es i h1 h2]
          have q1 := h.sum i (by omega) h2
          have q2 := quot_pos (p := -tailR (M a) a n) (by grind) hp h4
          rw [Rat.div_def] at *
          grind
        · right
          obtain ⟨o1, o2⟩ := out j j1 j3
          refine ⟨j, o1, j2, o2, ?_⟩
          rw [ev i h1 j]
          have q1 : 0 ≤ M i j := h.low i (by omega) h2 j (by omega) j2 (fun e => o2 (e ▸ h3))
          have q2 := quot_pos j4 hp h4
          grind
      · refine ⟨a, b1, a2, b2, ?_⟩
        rcases a4 with a4 | ⟨j, j1, j2, j3, j4⟩
        · exact .inl (leave a b1 a2 a4)
        · obtain ⟨o1, o2⟩ := out j j1 j3
          exact .inr ⟨j, o1, j2, o2, goes a b1 a2 j o1 j2 j4⟩
    · obtain ⟨a, a1, a2, a3, a4⟩ := h.trap (fun j => k + 1 ≤ j ∧ C j) ⟨i0, by omega, c2, c1, c3⟩
      refine ⟨a, a3.1, a2, a3.2, ?_⟩
      rcases a4 with a4 | ⟨j, j1, j2, j3, j4⟩
      · exact .inl (leave a a3.1 a2 a4)
      · have q1 : j ≠ k := fun e => hin ⟨a, a3.1, a2, a3.2, e ▸ j4⟩
        exact .inr ⟨j, by omega, j2, fun e => j3 ⟨by omega, e⟩, goes a a3.1 a2 j (by omega) j2 j4⟩
theorem Wt.congr {n k : Nat} {M M' : Nat → Nat → Rat} (h : Wt n k M) (hk : k ≤ n) (e : ∀ i, k ≤ i → i < n → ∀ j, k ≤ j → j < n → M' i j = M i j) : Wt n k M' := by
  have es : ∀ i, k ≤ i → i < n → tailR (M' i) k n = tailR (M i) k n := fun i h1 h2 => tailR_congr hk fun j q1 q2 => e i h1 h2 j q1 q2
  refine ⟨fun i h1 h2 j h3 h4 h5 => by rw [e i h1 h2 j h3 h4]; exact h.low i h1 h2 j h3 h4 h5, fun i h1 h2 => by rw [es i h1 h2]; exact h.sum i h1 h2, fun C hC => ?_⟩
  obtain ⟨i, h1, h2, h3, h4⟩ := h.trap C hC
  refine ⟨i, h1, h2, h3, ?_⟩
  rcases h4 with h4 | ⟨j, q1, q2, q3, q4⟩
  · exact .inl (by rw [es i h1 h2]; exact h4)
  · exact .inr ⟨j, q1, q2, q3, by rw [e i h1 h2 j q1 q2]; exact q4⟩
/-- Equations of what is still: a row for each state but the last, of which each is what comes in less what goes out; the last row has numbers above 0. -/
structure Stl (n k : Nat) (M : Nat → Nat → Rat) : Prop where
  wt : Wt (n - 1) k fun i j => M j i
  col : ∀ j, k ≤ j → j < n - 1 → 0 ≤ M j (n - 1)
  last : ∀ i, k ≤ i → i < n → 0 < M (n - 1) i
theorem Stl.step {n k : Nat} {M : Nat → Nat → Rat} (h : Stl n k M) (hk : k < n - 1) : Stl n (k + 1) (elmS k M) := by
  have hp : M k k < 0 := h.wt.pivot hk
  have ev : ∀ i, k + 1 ≤ i → ∀ j, elmS k M i j = M i j - M k j / M k k * M i k := fun i hi j => by rw [elmS, if_neg (by omega)]
  have hjk : ∀ j, k + 1 ≤ j → j < n - 1 → 0 ≤ M j k := fun j h1 h2 => h.wt.low k (Nat.le_refl _) hk j (by omega) h2 (by omega)
  have hki : ∀ i, k + 1 ≤ i → i < n → 0 ≤ M k i := fun i h1 h2 => by
    by_cases e : i = n - 1
    · rw [e]; exact h.col k (Nat.le_refl _) hk
    · exact h.wt.low i (by omega) (by omega) k (Nat.le_refl _) hk (by omega)
  refine ⟨(h.wt.step hk).congr (by omega) fun i h1 h2 j h3 h4 => ?_, fun j h1 h2 => ?_, fun i h1 h2 => ?_⟩
  · rw [ev j h3 i, elmS, if_neg (by omega)]
    simp only [Rat.div_def]
    grind
  · rw [ev j h1]
    have q1 := h.col j (by omega) h2
    have q2 := quot_low (hki (n - 1) (by omega) (by omega)) hp (hjk j h1 h2)
    grind
  · rw [ev (n - 1) (by omega)]
    have q1 := h.last i (by omega) h2
    have q2 := quot_low (hki i h1 h2) hp (Rat.le_of_lt (h.last k (by omega) (by omega)))
    grind
theorem Stl.all {n : Nat} {M : Nat → Nat → Rat} (h : Stl n 0 M) : ∀ k, k ≤ n - 1 → Stl n k (elm M k)
  | 0, _ => h
  | k + 1, hk => (h.all k (by omega)).step (by omega)
/-- WHAT IS STILL IS SOLVED, without a look for what to divide by. -/
theorem Stl.solves {n : Nat} {M : Nat → Nat → Rat} (h : Stl n 0 M) (hn : 1 ≤ n) : Sol n M fun i => elm M n i n :=
  elm_solves fun j hj => by
    by_cases e : j = n - 1
    · have := (h.all (n - 1) (Nat.le_refl _)).last (n - 1) (Nat.le_refl _) (by omega)
      rw [e]
      grind
    · have : elm M j j j < 0 := (h.all j (by omega)).wt.pivot (by omega)
      grind
end Go.Proofs.YtbejijgelljeaaaGreatDoor

/- Chains, plainly: which states come to which; the equations of what is come to, and of what is still in a class, may be solved; what solves them is not below 0. -/
namespace Go.Proofs.YtbejijgelljeaaaGreatDoor
/-- Which states come to which, one state more each round that ways may lead through. -/
def wsh (R : Nat → Nat → Bool) : Nat → Nat → Nat → Bool
  | 0 => R
  | k + 1 => fun i j => wsh R k i j || wsh R k i k && wsh R k k j
theorem wsh_mono (R : Nat → Nat → Bool) : ∀ {k i j : Nat}, R i j = true → wsh R k i j = true
  | 0, _, _, h => h
  | k + 1, i, j, h => by
    show (wsh R k i j || wsh R k i k && wsh R k k j) = true
    rw [wsh_mono R h, Bool.true_or]
theorem wsh_via (R : Nat → Nat → Bool) : ∀ {k m i j : Nat}, m < k → wsh R k i m = true → wsh R k m j = true → wsh R k i j = true
  | 0, _, _, _, h, _, _ => absurd h (by omega)
  | k + 1, m, i, j, hm, h1, h2 => by
    have hk := fun {a b c : Nat} => wsh_via R (k := k) (m := a) (i := b) (j := c)
    rw [wsh] at h1 h2 ⊢
    simp only [Bool.or_eq_true, Bool.and_eq_true] at h1 h2 ⊢
    by_cases e : m = k
    · subst e
      have q1 : wsh R m i m = true := by rcases h1 with h | h; exact h; exact h.1
      have q2 : wsh R m m j = true := by rcases h2 with h | h; exact h; exact h.2
      exact .inr ⟨q1, q2⟩
    · have hlt : m < k := by omega
      rcases h1 with h1 | h1
      · rcases h2 with h2 | h2
        · exact .inl (hk hlt h1 h2)
        · exact .inr ⟨hk hlt h1 h2.1, h2.2⟩
      · rcases h2 with h2 | h2
        · exact .inr ⟨h1.1, hk hlt h1.2 h2⟩
        · exact .inr ⟨h1.1, h2.2⟩
/-- What is come to lies in each set that nothing leaves. -/
theorem wsh_shut (R : Nat → Nat → Bool) {S : Nat → Prop} {n : Nat} (hS : ∀ i j, i < n → j < n → S i → R i j = true → S j) : ∀ {k i j : Nat}, k ≤ n → i < n → j < n → S i → wsh R k i j = true → S j
  | 0, i, j, _, hi, hj, h, hw => hS i j hi hj h hw
  | k + 1, i, j, hk, hi, hj, h, hw => by
    rw [wsh] at hw
    simp only [Bool.or_eq_true, Bool.and_eq_true] at hw
    rcases hw with hw | hw
    · exact wsh_shut R hS (by omega) hi hj h hw
    · exact wsh_shut R hS (by omega) (by omega) hj (wsh_shut R hS (by omega) hi (by omega) h hw.1) hw.2
/-- It is as good in place: the rows and columns of the state that ways lead through stay. -/
theorem wsh_row (R : Nat → Nat → Bool) (k j : Nat) : wsh R (k + 1) k j = wsh R k k j := by
  show (wsh R k k j || wsh R k k k && wsh R k k j) = wsh R k k j
  cases wsh R k k j <;> simp
theorem wsh_col (R : Nat → Nat → Bool) (k i : Nat) : wsh R (k + 1) i k = wsh R k i k := by
  show (wsh R k i k || wsh R k i k && wsh R k k k) = wsh R k i k
  cases wsh R k i k <;> simp
/-- A chain: numbers not below 0, each row 1 together. -/
structure Chn (n : Nat) (P : Nat → Nat → Rat) : Prop where
  low : ∀ i j, i < n → j < n → 0 ≤ P i j
  one : ∀ i, i < n → sumR (P i) n = 1
def stepB (P : Nat → Nat → Rat) : Nat → Nat → Bool := fun i j => decide (i = j) || decide (0 < P i j)
/-- Comes to. -/
def cmsB (n : Nat) (P : Nat → Nat → Rat) : Nat → Nat → Bool := wsh (stepB P) n
theorem cms_self (n : Nat) (P : Nat → Nat → Rat) (i : Nat) : cmsB n P i i = true := wsh_mono _ (by simp [stepB])
theorem cms_step (n : Nat) (P : Nat → Nat → Rat) {i j : Nat} (h : 0 < P i j) : cmsB n P i j = true := wsh_mono _ (by simp [stepB, h])
theorem cms_trans {n : Nat} {P : Nat → Nat → Rat} {i m j : Nat} (hm : m < n) (h1 : cmsB n P i m = true) (h2 : cmsB n P m j = true) : cmsB n P i j = true := wsh_via _ hm h1 h2
theorem cms_shut {n : Nat} {P : Nat → Nat → Rat} {S : Nat → Prop} (hS : ∀ i j, i < n → j < n → S i → 0 < P i j → S j) {i j : Nat} (hi : i < n) (hj : j < n) (h : S i) (hc : cmsB n P i j = true) : S j := by
  refine wsh_shut (stepB P) (S := S) (n := n) (fun a b ha hb hsa hab => ?_) (Nat.le_refl _) hi hj h hc
  simp only [stepB, Bool.or_eq_true, decide_eq_true_eq] at hab
  rcases hab with rfl | hab
  · exact hsa
  · exact hS a b ha hb hsa hab
theorem sumR_out (f : Nat → Rat) {x : Nat} : ∀ {n : Nat}, x < n → sumR f n = f x + sumR (fun j => if j = x then 0 else f j) n
  | 0, h => absurd h (by omega)
  | n + 1, h => by
    rw [sumR, sumR]
    by_cases e : n = x
    · subst e
      rw [if_pos rfl, sumR_congr (f := fun j => if j = n then 0 else f j) (g := f) fun i hi => if_neg (by omega)]
      grind
    · have hx : x < n := by omega
      rw [if_neg e, sumR_out f hx]
      grind
/-- The sum over a list. -/
def lsm (f : Nat → Rat) : List Nat → Rat
  | [] => 0
  | x :: l => f x + lsm f l
theorem lsm_congr {f g : Nat → Rat} : ∀ {l : List Nat}, (∀ x ∈ l, f x = g x) → lsm f l = lsm g l
  | [], _ => rfl
  | x :: l, h => by rw [lsm, lsm, h x List.mem_cons_self, lsm_congr fun y hy => h y (List.mem_cons_of_mem _ hy)]
theorem lsm_le {n : Nat} : ∀ {l : List Nat} {f : Nat → Rat}, (∀ i, i < n → 0 ≤ f i) → l.Nodup → (∀ x ∈ l, x < n) → lsm f l ≤ sumR f n
  | [], f, hf, _, _ => sumR_low hf
  | x :: l, f, hf, hn, hl => by
    rw [lsm, sumR_out f (hl x List.mem_cons_self)]
    have hx : x ∉ l := (List.nodup_cons.1 hn).1
    have h1 : lsm f l = lsm (fun j => if j = x then 0 else f j) l := lsm_congr fun y hy => (if_neg (fun e : y = x => hx (e ▸ hy))).symm
    rw [h1]
    have h2 := lsm_le (l := l) (f := fun j => if j = x then 0 else f j) (fun i hi => by
      by_cases e : i = x
      · rw [if_pos e]; exact Rat.le_refl
      · rw [if_neg e]; exact hf i hi) (List.nodup_cons.1 hn).2 fun y hy => hl y (List.mem_cons_of_mem _ hy)
    grind
theorem lsm_all {n : Nat} {l : List Nat} {f : Nat → Rat} (hf : ∀ i, i < n → 0 ≤ f i) (hn : l.Nodup) (hl : ∀ x ∈ l, x < n) (hz : ∀ j, j < n → j ∉ l → f j = 0) : lsm f l = sumR f n := by
  induction l generalizing f with
  | nil => exact (sumR_zero fun i hi => hz i hi (by simp)).symm
  | cons x l ih =>
    have hx : x ∉ l := (List.nodup_cons.1 hn).1
    rw [lsm, sumR_out f (hl x List.mem_cons_self), lsm_congr (g := fun j => if j = x then 0 else f j) fun y hy => (if_neg (fun e : y = x => hx (e ▸ hy))).symm]
    congr 1
    refine ih (fun i hi => ?_) (List.nodup_cons.1 hn).2 (fun y hy => hl y (List.mem_cons_of_mem _ hy)) fun j hj hjl => ?_
    · by_cases e : i = x
      · rw [if_pos e]; exact Rat.le_refl
      · rw [if_neg e]; exact hf i hi
    · by_cases e : j = x
      · rw [if_pos e]
      · rw [if_neg e]
        exact hz j hj (by simp [e, hjl])
theorem lsm_at (f : Nat → Rat) : ∀ l : List Nat, sumR (fun k => f (l.getD k 0)) l.length = lsm f l := fun l => by
  have key : ∀ l : List Nat, ∀ m : List Nat, sumR (fun k => f ((m ++ l).getD k 0)) (m.length + l.length) = sumR (fun k => f (m.getD k 0)) m.length + lsm f l := fun l => by
    induction l with
    | nil =>
      intro m
      rw [lsm, Rat.add_zero, List.append_nil]
      rfl
    | cons x l ih =>
      intro m
      have h1 := ih (m ++ [x])
      rw [List.append_assoc, List.singleton_append, List.length_append, List.length_singleton, sumR] at h1
      rw [List.length_cons, show m.length + (l.length + 1) = m.length + 1 + l.length by omega, h1, lsm]
      have e1 : (m ++ [x]).getD m.length 0 = x := by simp
      rw [e1, sumR_congr (f := fun k => f ((m ++ [x]).getD k 0)) (g := fun k => f (m.getD k 0)) fun i hi => by simp [List.getD_eq_getElem?_getD, List.getElem?_append_left hi]]
      grind
  have h := key l []
  rw [List.nil_append, List.length_nil, Nat.zero_add, sumR, Rat.zero_add] at h
  exact h
theorem getD_mem {l : List Nat} {k : Nat} (h : k < l.length) : l.getD k 0 ∈ l := by
  rw [List.getD_eq_getElem?_getD, List.getElem?_eq_getElem h]
  exact List.getElem_mem h
theorem getD_of {l : List Nat} {x : Nat} (h : x ∈ l) : ∃ k, k < l.length ∧ l.getD k 0 = x := by
  obtain ⟨k, hk, e⟩ := List.getElem_of_mem h
  exact ⟨k, hk, by rw [List.getD_eq_getElem?_getD, List.getElem?_eq_getElem hk]; exact e⟩
theorem sumR_delta {n i : Nat} (hi : i < n) : sumR (fun j => if i = j then (1 : Rat) else 0) n = 1 := by
  have h := sumR_one (fun _ => 1) hi
  rw [sumR_congr (g := fun j => if i = j then (1 : Rat) else 0) fun j _ => Rat.mul_one _] at h
  exact h
/-- The equations of what is still in a class that nothing leaves. -/
theorem stl_class {n : Nat} {P M : Nat → Nat → Rat} {l : List Nat} (hc : Chn n P) (hn : l.Nodup) (hl : ∀ x ∈ l, x < n) (h1 : 1 ≤ l.length) (hshut : ∀ x ∈ l, ∀ y, y < n → 0 < P x y → y ∈ l) (hcom : ∀ x ∈ l, ∀ y ∈ l, cmsB n P x y = true)
    (hM : ∀ k, k < l.length - 1 → ∀ c, c < l.length → M k c = P (l.getD c 0) (l.getD k 0) - if k = c then 1 else 0) (hlast : ∀ c, c < l.length → M (l.length - 1) c = 1) : Stl l.length 0 M := by
  have hlt : ∀ k, k < l.length → l.getD k 0 < n := fun k hk => hl _ (getD_mem hk)
  have inj : ∀ i j, i < l.length → j < l.length → l.getD i 0 = l.getD j 0 → i = j := fun i j hi hj e => by
    rw [List.getD_eq_getElem?_getD, List.getD_eq_getElem?_getD, List.getElem?_eq_getElem hi, List.getElem?_eq_getElem hj] at e
    exact (List.getElem_inj hn).1 e
  have h0 : ∀ k, k < l.length → ∀ c, c < l.length → 0 ≤ P (l.getD k 0) (l.getD c 0) := fun k hk c hcl => hc.low _ _ (hlt k hk) (hlt c hcl)
  have tot : ∀ k, k < l.length → sumR (fun c => P (l.getD k 0) (l.getD c 0)) l.length = 1 := fun k hk => by
    rw [lsm_at (P (l.getD k 0)) l, lsm_all (fun j hj => hc.low _ j (hlt k hk) hj) hn hl fun j hj hjl => ?_]
    · exact hc.one _ (hlt k hk)
    · by_cases hp : 0 < P (l.getD k 0) j
      · exact absurd (hshut _ (getD_mem hk) j hj hp) hjl
      · have := hc.low _ j (hlt k hk) hj
        grind
  have hs : ∀ i, i < l.length - 1 → tailR (fun j => M j i) 0 (l.length - 1) = -P (l.getD i 0) (l.getD (l.length - 1) 0) := fun i hi => by
    have e : sumR (fun j => M j i) (l.length - 1) = sumR (fun c => P (l.getD i 0) (l.getD c 0) - if i = c then 1 else 0) (l.length - 1) := sumR_congr fun c hcl => by
      rw [hM c hcl i (by omega)]
      by_cases q : c = i
      · rw [if_pos q, if_pos q.symm]
      · rw [if_neg q, if_neg (fun e => q e.symm)]
    have t := tot i (by omega)
    have t2 : sumR (fun c => P (l.getD i 0) (l.getD c 0)) (l.length - 1 + 1) = 1 := by
      rw [show l.length - 1 + 1 = l.length by omega]
      exact t
    rw [sumR] at t2
    rw [tailR, e, sumR_sub, sumR_delta hi, sumR]
    grind
  refine ⟨⟨fun i _ h2 j _ h4 h5 => ?_, fun i _ h2 => ?_, fun C hC => ?_⟩, fun j _ h2 => ?_, fun i _ h2 => ?_⟩
  · rw [hM j h4 i (by omega), if_neg (fun e => h5 e.symm)]
    have := h0 i (by omega) j (by omega)
    grind
  · rw [hs i h2]
    have := h0 i (by omega) (l.length - 1) (by omega)
    grind
  · by_cases hex : ∃ i, 0 ≤ i ∧ i < l.length - 1 ∧ C i ∧ (tailR (fun j => M j i) 0 (l.length - 1) < 0 ∨ ∃ j, 0 ≤ j ∧ j < l.length - 1 ∧ ¬ C j ∧ 0 < M j i)
    · exact hex
    · exfalso
      obtain ⟨i0, _, c2, c3⟩ := hC
      have shut : ∀ x y, x < n → y < n → (∃ i, i < l.length - 1 ∧ C i ∧ l.getD i 0 = x) → 0 < P x y → ∃ i, i < l.length - 1 ∧ C i ∧ l.getD i 0 = y := by
        rintro x y hx hy ⟨i, a1, a2, rfl⟩ hp
        obtain ⟨j, b1, rfl⟩ := getD_of (hshut _ (getD_mem (by omega)) y hy hp)
        have hsum : ¬ tailR (fun j => M j i) 0 (l.length - 1) < 0 := fun h => hex ⟨i, Nat.zero_le _, a1, a2, .inl h⟩
        rw [hs i a1] at hsum
        by_cases hjl : j = l.length - 1
        · subst hjl
          exfalso
          grind
        · by_cases hCj : C j
          · exact ⟨j, by omega, hCj, rfl⟩
          · exfalso
            refine hex ⟨i, Nat.zero_le _, a1, a2, .inr ⟨j, Nat.zero_le _, by omega, hCj, ?_⟩⟩
            have hij : ¬ j = i := fun e => hCj (e ▸ a2)
            rw [hM j (by omega) i (by omega), if_neg hij]
            grind
      obtain ⟨k, k1, _, k3⟩ := cms_shut (S := fun x => ∃ i, i < l.length - 1 ∧ C i ∧ l.getD i 0 = x) shut (hlt i0 (by omega)) (hlt (l.length - 1) (by omega)) ⟨i0, c2, c3, rfl⟩ (hcom _ (getD_mem (by omega)) _ (getD_mem (by omega)))
      have := inj k (l.length - 1) (by omega) (by omega) k3
      omega
  · rw [hM j h2 (l.length - 1) (by omega), if_neg (by omega)]
    have := h0 (l.length - 1) (by omega) j (by omega)
    grind
  · rw [hlast i h2]
    decide
end Go.Proofs.YtbejijgelljeaaaGreatDoor

/- Powers of a chain, plainly: by fractions, and by whole numbers over one that all share. -/
namespace Go.Proofs.YtbejijgelljeaaaGreatDoor
/-- So many steps at once. -/
def powQ (n : Nat) (P : Nat → Nat → Rat) : Nat → Nat → Nat → Rat
  | 0, i, j => if i = j then 1 else 0
  | k + 1, i, j => sumR (fun t => powQ n P k i t * P t j) n
theorem pow_chn {n : Nat} {P : Nat → Nat → Rat} (h : Chn n P) : ∀ k, Chn n (powQ n P k)
  | 0 => ⟨fun i j _ _ => by show (0 : Rat) ≤ if i = j then 1 else 0; split <;> decide, fun i hi => sumR_delta hi⟩
  | k + 1 => by
    have ih := pow_chn h k
    refine ⟨fun i j hi hj => sumR_low fun t ht => Rat.mul_nonneg (ih.low i t hi ht) (h.low t j ht hj), fun i hi => ?_⟩
    show sumR (fun j => sumR (fun t => powQ n P k i t * P t j) n) n = 1
    rw [sumR_swap (fun j t => powQ n P k i t * P t j), ← ih.one i hi]
    refine sumR_congr fun t ht => ?_
    rw [sumR_mul, h.one t ht, Rat.mul_one]
/-- So many and so many more. -/
theorem pow_add (n : Nat) (P : Nat → Nat → Rat) (a : Nat) {i : Nat} : ∀ b j, j < n → powQ n P (a + b) i j = sumR (fun t => powQ n P a i t * powQ n P b t j) n
  | 0, j, hj => by
    show powQ n P a i j = sumR (fun t => powQ n P a i t * if t = j then 1 else 0) n
    rw [← sumR_one (powQ n P a i) hj]
    refine sumR_congr fun t _ => ?_
    by_cases e : j = t
    · subst e; simp
    · simp [e, Ne.symm e]
  | b + 1, j, hj => by
    show sumR (fun t => powQ n P (a + b) i t * P t j) n = sumR (fun t => powQ n P a i t * sumR (fun s => powQ n P b t s * P s j) n) n
    have e1 : sumR (fun t => powQ n P (a + b) i t * P t j) n = sumR (fun t => sumR (fun s => powQ n P a i s * powQ n P b s t * P t j) n) n := sumR_congr fun t ht => by
      rw [pow_add n P a b t ht, sumR_mulR]
    rw [e1, sumR_swap (fun t s => powQ n P a i s * powQ n P b s t * P t j)]
    refine sumR_congr fun s _ => ?_
    rw [← sumR_mul]
    exact sumR_congr fun t _ => Rat.mul_assoc _ _ _
/-- WHAT A STEP LEAVES, MANY LEAVE. -/
theorem pow_still {n : Nat} {P : Nat → Nat → Rat} {v : Nat → Rat} (h : ∀ j, j < n → sumR (fun i => v i * P i j) n = v j) : ∀ k j, j < n → sumR (fun i => v i * powQ n P k i j) n = v j
  | 0, j, hj => by
    show sumR (fun i => v i * if i = j then 1 else 0) n = v j
    rw [← sumR_one v hj]
    refine sumR_congr fun t _ => ?_
    by_cases e : j = t
    · subst e; simp
    · simp [e, Ne.symm e]
  | k + 1, j, hj => by
    show sumR (fun i => v i * sumR (fun t => powQ n P k i t * P t j) n) n = v j
    have e1 : sumR (fun i => v i * sumR (fun t => powQ n P k i t * P t j) n) n = sumR (fun i => sumR (fun t => v i * powQ n P k i t * P t j) n) n := sumR_congr fun i _ => by
      rw [← sumR_mul]
      exact sumR_congr fun t _ => (Rat.mul_assoc _ _ _).symm
    rw [e1, sumR_swap (fun i t => v i * powQ n P k i t * P t j), ← h j hj]
    refine sumR_congr fun t ht => ?_
    rw [sumR_mulR, pow_still h k t ht]
/-- Whole numbers. -/
def sumN (f : Nat → Nat) : Nat → Nat
  | 0 => 0
  | n + 1 => sumN f n + f n
theorem sumN_rat (f : Nat → Nat) : ∀ n, ((sumN f n : Nat) : Rat) = sumR (fun i => ((f i : Nat) : Rat)) n
  | 0 => rfl
  | n + 1 => by
    show (((sumN f n + f n : Nat)) : Rat) = sumR _ n + _
    rw [Rat.natCast_add, sumN_rat f n]
theorem sumN_part {f : Nat → Nat} : ∀ {n i : Nat}, i ≤ n → sumN f i ≤ sumN f n
  | 0, i, h => by obtain rfl := Nat.le_zero.1 h; exact Nat.le_refl _
  | n + 1, i, h => by
    rcases Nat.lt_or_ge i (n + 1) with h1 | h1
    · exact Nat.le_trans (sumN_part (Nat.lt_succ_iff.1 h1)) (Nat.le_add_right _ _)
    · obtain rfl : i = n + 1 := by omega
      exact Nat.le_refl _
def goN (n : Nat) (Cn : Nat → Nat → Nat) (r : Nat → Nat) (j : Nat) : Nat := sumN (fun t => r t * Cn t j) n
def rowN (n : Nat) (Cn : Nat → Nat → Nat) : Nat → Nat → Nat → Nat
  | 0, i, j => if j = i then 1 else 0
  | k + 1, i, j => goN n Cn (rowN n Cn k i) j
theorem row_pow {n D : Nat} {P : Nat → Nat → Rat} {Cn : Nat → Nat → Nat} (h : ∀ i j, i < n → j < n → ((Cn i j : Nat) : Rat) = P i j * (D : Rat)) {i : Nat} (hi : i < n) : ∀ k j, j < n → ((rowN n Cn k i j : Nat) : Rat) = powQ n P k i j * ((D ^ k : Nat) : Rat)
  | 0, j, _ => by
    show (((if j = i then 1 else 0 : Nat)) : Rat) = (if i = j then 1 else 0) * ((1 : Nat) : Rat)
    by_cases e : j = i
    · subst e; simp
    · simp [e, Ne.symm e]
  | k + 1, j, hj => by
    show ((sumN (fun t => rowN n Cn k i t * Cn t j) n : Nat) : Rat) = sumR (fun t => powQ n P k i t * P t j) n * ((D ^ (k + 1) : Nat) : Rat)
    rw [sumN_rat, ← sumR_mulR]
    refine sumR_congr fun t ht => ?_
    rw [Rat.natCast_mul, row_pow h hi k t ht, h t j ht hj, Nat.pow_succ, Rat.natCast_mul]
    grind
theorem row_is {n D : Nat} {P : Nat → Nat → Rat} {Cn : Nat → Nat → Nat} (hD : D ≠ 0) (h : ∀ i j, i < n → j < n → ((Cn i j : Nat) : Rat) = P i j * (D : Rat)) {i j : Nat} (hi : i < n) (hj : j < n) (k : Nat) : mkRat ((rowN n Cn k i j : Nat) : Int) (D ^ k) = powQ n P k i j := by
  have hd : ((D ^ k : Nat) : Rat) ≠ 0 := by
    have : D ^ k ≠ 0 := Nat.ne_of_gt (Nat.pow_pos (Nat.pos_of_ne_zero hD))
    exact fun e => this (by exact_mod_cast e)
  have h1 := row_pow h hi k j hj
  rw [Rat.mkRat_eq_div]
  rw [show (((rowN n Cn k i j : Nat) : Int) : Rat) = ((rowN n Cn k i j : Nat) : Rat) from rfl, h1, Rat.div_def, Rat.mul_assoc, Rat.mul_inv_cancel _ hd, Rat.mul_one]
/-- No number of a row is longer than the one that all share. -/
theorem row_le {n D : Nat} {P : Nat → Nat → Rat} {Cn : Nat → Nat → Nat} (hc : Chn n P) (h : ∀ i j, i < n → j < n → ((Cn i j : Nat) : Rat) = P i j * (D : Rat)) {i j : Nat} (hi : i < n) (hj : j < n) (k : Nat) : rowN n Cn k i j ≤ D ^ k := by
  have h1 := row_pow h hi k j hj
  have h2 : powQ n P k i j ≤ 1 := by
    rw [← (pow_chn hc k).one i hi]
    exact sumR_part (f := powQ n P k i) (fun t ht => (pow_chn hc k).low i t hi ht) j hj
  have h3 : ((rowN n Cn k i j : Nat) : Rat) ≤ ((D ^ k : Nat) : Rat) := by
    rw [h1]
    have h4 : (0 : Rat) ≤ ((D ^ k : Nat) : Rat) := Rat.natCast_nonneg
    have := Rat.mul_le_mul_of_nonneg_right h2 h4
    rwa [Rat.one_mul] at this
  exact_mod_cast h3
/-- What is lacking so that d is one of the numbers' common one. -/
def lcmS (o d : Nat) : Nat := o * (d / Nat.gcd o d)
theorem lcmS_left (o d : Nat) : o ∣ lcmS o d := ⟨_, rfl⟩
theorem lcmS_right (o d : Nat) : d ∣ lcmS o d := by
  have h1 : Nat.gcd o d ∣ d := Nat.gcd_dvd_right o d
  have h2 : Nat.gcd o d ∣ o := Nat.gcd_dvd_left o d
  obtain ⟨x, hx⟩ := h2
  refine ⟨x, ?_⟩
  show o * (d / Nat.gcd o d) = d * x
  obtain ⟨y, hy⟩ := h1
  by_cases e : Nat.gcd o d = 0
  · have h3 := Nat.gcd_eq_zero_iff.1 e
    rw [h3.1, h3.2]; simp
  · have e1 : d / Nat.gcd o d = y := Nat.div_eq_of_eq_mul_right (Nat.pos_of_ne_zero e) hy
    rw [e1]
    have h4 : o * y = Nat.gcd o d * x * y := by rw [← hx]
    rw [h4, Nat.mul_assoc, Nat.mul_comm x y, ← Nat.mul_assoc, ← hy]
theorem lcmS_pos {o d : Nat} (ho : 0 < o) (hd : 0 < d) : 0 < lcmS o d := Nat.mul_pos ho (Nat.div_pos (Nat.le_of_dvd hd (Nat.gcd_dvd_right o d)) (Nat.gcd_pos_of_pos_left _ ho))
end Go.Proofs.YtbejijgelljeaaaGreatDoor

/- Chains, plainly: what is ever come to, and what is still. -/
namespace Go.Proofs.YtbejijgelljeaaaGreatDoor
theorem if_le {q : Rat} {b : Prop} [Decidable b] (h : 0 ≤ q) : q * (if b then 1 else 0) ≤ q := by
  split
  · rw [Rat.mul_one]; exact Rat.le_refl
  · rw [Rat.mul_zero]; exact h
theorem if_less (q : Rat) {b : Prop} [Decidable b] : q * (if b then 1 else 0) = q - q * (if b then 0 else 1) := by
  split <;> grind
/-- WHAT IS STILL IN A CLASS IS ABOVE 0. -/
theorem still_pos {n : Nat} {Q : Nat → Nat → Rat} {x : Nat → Rat} (low : ∀ i j, i < n → j < n → 0 ≤ Q i j) (one : ∀ i, i < n → sumR (Q i) n = 1) (irr : ∀ C : Nat → Prop, (∃ i, i < n ∧ C i) → (∃ j, j < n ∧ ¬ C j) → ∃ i j, i < n ∧ j < n ∧ C i ∧ ¬ C j ∧ 0 < Q i j)
    (still : ∀ j, j < n → sumR (fun i => x i * Q i j) n = x j) (sum : sumR x n = 1) : ∀ i, i < n → 0 < x i := by
  intro i hi
  by_cases hall : ∃ j, j < n ∧ ¬ 0 < x j
  · exfalso
    by_cases hsome : ∃ i, i < n ∧ 0 < x i
    · obtain ⟨a, b, ha, hb, h1, h2, h3⟩ := irr (fun i => 0 < x i) hsome hall
      have e1 : sumR (fun j => x j * if 0 < x j then 1 else 0) n = sumR (fun i => x i * sumR (fun j => Q i j * if 0 < x j then 1 else 0) n) n := by
        rw [sumR_congr (g := fun j => sumR (fun i => x i * Q i j * if 0 < x j then 1 else 0) n) fun j hj => by rw [sumR_mulR, still j hj], sumR_swap]
        exact sumR_congr fun i _ => by rw [← sumR_mul]; exact sumR_congr fun j _ => by rw [Rat.mul_assoc]
      have hw : ∀ i, i < n → 0 ≤ sumR (fun j => Q i j * if 0 < x j then 1 else 0) n ∧ sumR (fun j => Q i j * if 0 < x j then 1 else 0) n ≤ 1 := fun i hi => by
        refine ⟨sumR_low fun j hj => Rat.mul_nonneg (low i j hi hj) (by split <;> decide), ?_⟩
        have h0 : sumR (fun j => Q i j * if 0 < x j then 1 else 0) n ≤ sumR (Q i) n := sumR_mono fun j hj => if_le (b := 0 < x j) (low i j hi hj)
        rw [one i hi] at h0
        exact h0
      have hwa : sumR (fun j => Q a j * if 0 < x j then 1 else 0) n < 1 := by
        have h4 : sumR (fun j => Q a j * if 0 < x j then 1 else 0) n = sumR (Q a) n - sumR (fun j => Q a j * if 0 < x j then 0 else 1) n := by
          rw [← sumR_sub]
          exact sumR_congr fun j _ => if_less (b := 0 < x j) _
        have h5 := sumR_part (f := fun j => Q a j * if 0 < x j then 0 else 1) (fun j hj => Rat.mul_nonneg (low a j ha hj) (by split <;> decide)) b hb
        rw [if_neg h2, Rat.mul_one] at h5
        rw [h4, one a ha]
        grind
      have e2 : sumR (fun i => x i * ((if 0 < x i then 1 else 0) - sumR (fun j => Q i j * if 0 < x j then 1 else 0) n)) n = 0 := by
        rw [sumR_congr (g := fun i => x i * (if 0 < x i then 1 else 0) - x i * sumR (fun j => Q i j * if 0 < x j then 1 else 0) n) fun i _ => by grind, sumR_sub, e1]
        grind
      have h6 := sumR_part (f := fun i => x i * ((if 0 < x i then 1 else 0) - sumR (fun j => Q i j * if 0 < x j then 1 else 0) n)) (fun i hi => by
        by_cases q : 0 < x i
        · rw [if_pos q]
          have := (hw i hi).2
          exact Rat.mul_nonneg (Rat.le_of_lt q) (by grind)
        · rw [if_neg q]
          have h7 := Rat.mul_nonneg (a := -x i) (by grind) (hw i hi).1
          grind) a ha
      rw [e2, if_pos h1] at h6
      have h8 : 0 < x a * (1 - sumR (fun j => Q a j * if 0 < x j then 1 else 0) n) := Rat.mul_pos h1 (by grind)
      grind
    · have h1 : sumR x n ≤ 0 := by
        have := sumR_low (f := fun i => -x i) (n := n) fun i hi => by
          have : ¬ 0 < x i := fun e => hsome ⟨i, hi, e⟩
          grind
        rw [sumR_congr (g := fun i => (-1) * x i) fun i _ => by grind, sumR_mul] at this
        grind
      rw [sum] at h1
      exact absurd h1 (by decide)
  · by_cases q : 0 < x i
    · exact q
    · exact absurd ⟨i, hi, q⟩ hall
end Go.Proofs.YtbejijgelljeaaaGreatDoor

/- Shares of dice, plainly: which share a die falls into, how many fall into each. -/
namespace Go.Proofs.YtbejijgelljeaaaGreatDoor
theorem fits_tim {m k : Nat} {p q : Rat} (hp : Fits m p) (hq : Fits k q) : Fits (m + k) (p * q) := by
  obtain ⟨A, D, h1, rfl, h3, h4⟩ := hp
  obtain ⟨A', D', h1', rfl, h3', h4'⟩ := hq
  refine ⟨A * A', D * D', Nat.mul_ne_zero h1 h1', by rw [Rat.mkRat_mul_mkRat], ?_, ?_⟩
  · rw [Nat.pow_add]
    exact Nat.mul_lt_mul'' h3 h3'
  · rw [Int.natAbs_mul, Nat.pow_add]
    exact Nat.mul_lt_mul'' h4 h4'
end Go.Proofs.YtbejijgelljeaaaGreatDoor
