/- Plain facts on reckoning part by part with a carry. -/
import Derived.Test.YtghjhflfcambjaaGreatDoorNum
namespace Go.Proofs.YtghjhflfcambjaaGreatDoor

/-- The number of the first k parts of a row of any numbers. -/
def nwF (f : Nat → Nat) : Nat → Nat
  | 0 => 0
  | k + 1 => nwF f k + W ^ k * f k
theorem nwF_add (f g : Nat → Nat) (k : Nat) : nwF (fun j => f j + g j) k = nwF f k + nwF g k := by
  induction k with
  | zero => rfl
  | succ k ih => simp only [nwF, ih, Nat.mul_add]; omega
theorem nwF_mul (c : Nat) (f : Nat → Nat) (k : Nat) : nwF (fun j => c * f j) k = c * nwF f k := by
  induction k with
  | zero => rfl
  | succ k ih => simp only [nwF, ih, Nat.mul_add]; congr 1; rw [← Nat.mul_assoc, Nat.mul_comm (W ^ k) c, Nat.mul_assoc]
theorem nwF_take (l : List Nat) (k : Nat) : nwF (fun j => l[j]?.getD 0) k = nw (l.take k) := by
  induction k with
  | zero => simp [nwF, nw_nil]
  | succ k ih =>
    rw [nwF, ih]
    by_cases h : k < l.length
    · rw [nw_take_succ l k h, List.getElem?_eq_getElem h]; rfl
    · rw [List.getElem?_eq_none (by omega), List.take_of_length_le (by omega : l.length ≤ k), List.take_of_length_le (by omega : l.length ≤ k + 1)]; simp
theorem nwF_list (l : List Nat) (k : Nat) (h : l.length ≤ k) : nwF (fun j => l[j]?.getD 0) k = nw l := by rw [nwF_take, List.take_of_length_le h]
theorem nwF_congr {f g : Nat → Nat} {k : Nat} (h : ∀ j, j < k → f j = g j) : nwF f k = nwF g k := by
  induction k with
  | zero => rfl
  | succ k ih => rw [nwF, nwF, ih (fun j hj => h j (by omega)), h k (by omega)]

/-- A row of numbers brought to parts: the parts, and what is carried on. -/
def acc (f : Nat → Nat) : Nat → List Nat × Nat
  | 0 => ([], 0)
  | k + 1 => ((acc f k).1 ++ [((acc f k).2 + f k) % W], ((acc f k).2 + f k) / W)
theorem acc_length (f : Nat → Nat) (k : Nat) : (acc f k).1.length = k := by
  induction k with
  | zero => rfl
  | succ k ih => simp [acc, ih]
theorem acc_small (f : Nat → Nat) (k : Nat) : Small (acc f k).1 := by
  induction k with
  | zero => intro x hx; simp [acc] at hx
  | succ k ih =>
    intro x hx
    rw [acc] at hx
    rcases List.mem_append.1 hx with hx | hx
    · exact ih x hx
    · simp at hx; subst hx; exact Nat.mod_lt _ W_pos
theorem acc_eq (f : Nat → Nat) (k : Nat) : nw (acc f k).1 + W ^ k * (acc f k).2 = nwF f k := by
  induction k with
  | zero => simp [acc, nwF, nw_nil]
  | succ k ih =>
    rw [acc, nwF, nw_snoc, acc_length, ← ih, Nat.pow_succ, Nat.mul_assoc]
    have e := Nat.mod_add_div ((acc f k).2 + f k) W
    have : W ^ k * (((acc f k).2 + f k) % W) + W ^ k * (W * (((acc f k).2 + f k) / W)) = W ^ k * (acc f k).2 + W ^ k * f k := by
      rw [← Nat.mul_add, e, Nat.mul_add]
    show nw (acc f k).1 + W ^ k * (((acc f k).2 + f k) % W) + W ^ k * (W * (((acc f k).2 + f k) / W)) = _
    omega
theorem acc_carry (f : Nat → Nat) (b : Nat) (k : Nat) (h : ∀ j, j < k → f j + b < (b + 1) * W) : (acc f k).2 ≤ b := by
  induction k with
  | zero => exact Nat.zero_le _
  | succ k ih =>
    have h1 := ih (fun j hj => h j (by omega))
    have h2 := h k (by omega)
    rw [acc]
    have : ((acc f k).2 + f k) / W < b + 1 := Nat.div_lt_of_lt_mul (by rw [Nat.mul_comm]; omega)
    omega
theorem seg_set (a q l : List Nat) (i k y : Nat) (ha : a.length = i) (hq : q.length = k) (hk : i + k < l.length) : (a ++ q ++ l.drop (i + k)).set (i + k) y = a ++ (q ++ [y]) ++ l.drop (i + (k + 1)) := by
  rw [List.set_append_right _ _ (by rw [List.length_append]; omega), List.length_append, ha, hq, Nat.sub_self, List.drop_eq_getElem_cons hk, List.set_cons_zero]
  simp [List.append_assoc, Nat.add_assoc]
theorem seg_get (a q l : List Nat) (i k : Nat) (ha : a.length = i) (hq : q.length = k) : (a ++ q ++ l.drop (i + k))[i + k]?.getD 0 = l[i + k]?.getD 0 := by
  rw [List.getElem?_append_right (by rw [List.length_append]; omega), List.length_append, ha, hq, Nat.sub_self, List.getElem?_drop, Nat.add_zero]
theorem getD_lt {l : List Nat} (h : Small l) (j : Nat) : l[j]?.getD 0 < W := by
  by_cases hj : j < l.length
  · rw [List.getElem?_eq_getElem hj]; exact h _ (List.getElem_mem hj)
  · rw [List.getElem?_eq_none (by omega)]; exact W_pos
theorem small_append {a b : List Nat} (ha : Small a) (hb : Small b) : Small (a ++ b) := fun x hx => (List.mem_append.1 hx).elim (ha x) (hb x)
theorem small_drop {l : List Nat} (h : Small l) (k : Nat) : Small (l.drop k) := fun x hx => h x (List.mem_of_mem_drop hx)
/-- A number's parts cut in two. -/
theorem nw_cut (l : List Nat) (k : Nat) : nw l = nw (l.take k) + W ^ (min k l.length) * nw (l.drop k) := by
  have := nw_append (l.take k) (l.drop k)
  rwa [List.take_append_drop, List.length_take] at this
theorem nw_cut_le (l : List Nat) (k : Nat) (h : k ≤ l.length) : nw l = nw (l.take k) + W ^ k * nw (l.drop k) := by
  have := nw_cut l k
  rwa [Nat.min_eq_left h] at this
theorem nw_zeros (n : Nat) : nw (List.replicate n 0) = 0 := by
  induction n with
  | zero => rfl
  | succ n ih => rw [List.replicate_succ, nw_cons, ih]; simp
theorem small_zeros (n : Nat) : Small (List.replicate n 0) := fun x hx => by rw [(List.mem_replicate.1 hx).2]; exact W_pos
/-- Parts of one number, of one length, are the same. -/
theorem nw_inj : ∀ {a b : List Nat}, a.length = b.length → Small a → Small b → nw a = nw b → a = b
  | [], [], _, _, _, _ => rfl
  | x :: a, y :: b, hl, ha, hb, h => by
    have hx := ha x List.mem_cons_self
    have hy := hb y List.mem_cons_self
    rw [nw_cons, nw_cons] at h
    have h1 : x = y := by
      have := congrArg (· % W) h
      simp only [Nat.add_mul_mod_self_left] at this
      rwa [Nat.mod_eq_of_lt hx, Nat.mod_eq_of_lt hy] at this
    subst h1
    have h2 : nw a = nw b := Nat.eq_of_mul_eq_mul_left W_pos (by omega)
    rw [nw_inj (by simpa using hl) (fun z hz => ha z (List.mem_cons_of_mem _ hz)) (fun z hz => hb z (List.mem_cons_of_mem _ hz)) h2]

end Go.Proofs.YtghjhflfcambjaaGreatDoor
