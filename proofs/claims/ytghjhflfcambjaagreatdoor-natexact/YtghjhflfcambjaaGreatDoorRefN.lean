/- Plain facts on digits of base 256, lowest first, and on leading zeros. -/
import Derived.Test.YtghjhflfcambjaaGreatDoorFaceA
namespace Go.Proofs.YtghjhflfcambjaaGreatDoor

/-- What digits of base 256 stand for, the lowest first. -/
def nd : List Nat → Nat
  | [] => 0
  | x :: r => x + 256 * nd r
theorem nd_nil : nd [] = 0 := rfl
theorem nd_cons (x : Nat) (r : List Nat) : nd (x :: r) = x + 256 * nd r := rfl
theorem nd_zeros (n : Nat) : nd (List.replicate n 0) = 0 := by
  induction n with
  | zero => rfl
  | succ n ih => rw [List.replicate_succ, nd_cons, ih]
theorem nd_set (l : List Nat) : ∀ (j y : Nat) (h : j < l.length), nd (l.set j y) + l[j] * 256 ^ j = nd l + y * 256 ^ j := by
  induction l with
  | nil => intro j y h; exact absurd h (Nat.not_lt_zero _)
  | cons x r ih =>
    intro j y h
    cases j with
    | zero => simp only [List.set_cons_zero, nd_cons, List.getElem_cons_zero, Nat.pow_zero, Nat.mul_one]; omega
    | succ j =>
      have hj : j < r.length := by simpa using h
      have := ih j y hj
      simp only [List.set_cons_succ, nd_cons, List.getElem_cons_succ, Nat.pow_succ]
      have e1 : r[j] * (256 ^ j * 256) = 256 * (r[j] * 256 ^ j) := by rw [← Nat.mul_assoc, Nat.mul_comm]
      have e2 : y * (256 ^ j * 256) = 256 * (y * 256 ^ j) := by rw [← Nat.mul_assoc, Nat.mul_comm]
      rw [e1, e2]
      omega
theorem nd_append (a b : List Nat) : nd (a ++ b) = nd a + 256 ^ a.length * nd b := by
  induction a with
  | nil => simp [nd_nil]
  | cons x r ih => rw [List.cons_append, nd_cons, nd_cons, ih, List.length_cons, Nat.pow_succ, Nat.mul_add, Nat.mul_comm (256 ^ r.length) 256, Nat.mul_assoc, Nat.add_assoc]
theorem nd_snoc (a : List Nat) (x : Nat) : nd (a ++ [x]) = nd a + 256 ^ a.length * x := by rw [nd_append, nd_cons, nd_nil]; simp
/-- Every digit is below 256. -/
def Dig (l : List Nat) : Prop := ∀ x ∈ l, x < 256
theorem dig_zeros (n : Nat) : Dig (List.replicate n 0) := fun x hx => by rw [(List.mem_replicate.1 hx).2]; decide
theorem dig_set {l : List Nat} (h : Dig l) (j y : Nat) (hy : y < 256) : Dig (l.set j y) := fun x hx => by
  rcases List.mem_or_eq_of_mem_set hx with h1 | h1
  · exact h x h1
  · rw [h1]; exact hy
theorem nd_lt (l : List Nat) (h : Dig l) : nd l < 256 ^ l.length := by
  induction l with
  | nil => decide
  | cons x r ih =>
    have h1 := ih fun y hy => h y (List.mem_cons_of_mem _ hy)
    have h2 := h x List.mem_cons_self
    rw [nd_cons, List.length_cons, Nat.pow_succ]
    omega
/-- The bytes that pack writes: the digits, turned about. -/
def rb (l : List Nat) : List UInt8 := l.reverse.map UInt8.ofNat
theorem nb_rb (l : List Nat) (h : Dig l) : nb (rb l) = nd l := by
  induction l with
  | nil => rfl
  | cons x r ih =>
    have h1 := ih fun y hy => h y (List.mem_cons_of_mem _ hy)
    have h2 := h x List.mem_cons_self
    have : rb (x :: r) = rb r ++ [UInt8.ofNat x] := by simp [rb]
    rw [this, nb_snoc, h1, nd_cons]
    have : (UInt8.ofNat x).toNat = x := by simp; omega
    omega

/-- The digit at a place from the end. -/
theorem nb_digit (l : List UInt8) (i : Nat) (h : i < l.length) : nb l / 256 ^ i % 256 = (l[l.length - 1 - i]'(by omega)).toNat := by
  have e : l = l.take (l.length - 1 - i) ++ (l[l.length - 1 - i]'(by omega) :: l.drop (l.length - i)) := by
    have h1 := List.take_append_drop (l.length - 1 - i) l
    have h2 : l.drop (l.length - 1 - i) = l[l.length - 1 - i]'(by omega) :: l.drop (l.length - 1 - i + 1) := List.drop_eq_getElem_cons (by omega)
    rw [h2, show l.length - 1 - i + 1 = l.length - i by omega] at h1
    exact h1.symm
  have hl : (l.drop (l.length - i)).length = i := by rw [List.length_drop]; omega
  have hlt := nb_lt (l.drop (l.length - i))
  rw [hl] at hlt
  have hn : nb l = (nb (l.take (l.length - 1 - i)) * 256 + (l[l.length - 1 - i]'(by omega)).toNat) * 256 ^ i + nb (l.drop (l.length - i)) := by
    conv => lhs; rw [e]
    rw [nb_append, nb_cons, List.length_cons, hl, Nat.pow_succ, Nat.add_mul, Nat.mul_assoc, Nat.mul_comm 256 (256 ^ i), Nat.add_assoc]
  generalize (l[l.length - 1 - i]'(by omega)) = c at *
  generalize nb (l.take (l.length - 1 - i)) = p at *
  have hc := c.toNat_lt
  rw [hn, Nat.mul_comm, Nat.mul_add_div (Nat.pow_pos (by decide)), Nat.div_eq_of_lt hlt, Nat.add_zero]
  omega
theorem nb_digit0 (l : List UInt8) (i : Nat) (h : l.length ≤ i) : nb l / 256 ^ i % 256 = 0 := by
  rw [Nat.div_eq_of_lt (Nat.lt_of_lt_of_le (nb_lt l) (Nat.pow_le_pow_right (by decide) h))]

/-- Leading zeros away. -/
theorem drop_zeros (l : List UInt8) : ∀ k, k ≤ l.length → (l.take k).all (· == 0) = true → (∀ h : k < l.length, l[k] ≠ 0) → l.dropWhile (· == 0) = l.drop k := by
  induction l with
  | nil => intro k _ _ _; simp
  | cons x r ih =>
    intro k hk h0 h1
    cases k with
    | zero =>
      have : x ≠ 0 := h1 (by simp)
      rw [List.dropWhile_cons, if_neg (by simpa using this), List.drop_zero]
    | succ k =>
      simp only [List.take_succ_cons, List.all_cons, Bool.and_eq_true] at h0
      rw [List.dropWhile_cons, if_pos h0.1, List.drop_succ_cons]
      exact ih k (by simpa using hk) h0.2 (fun h => by have := h1 (by simpa using h); simpa using this)
theorem mod_step (n k : Nat) : n % 256 ^ (k + 1) = n % 256 ^ k + 256 ^ k * (n / 256 ^ k % 256) := by
  rw [Nat.pow_succ, Nat.mod_mul]
end Go.Proofs.YtghjhflfcambjaaGreatDoor
