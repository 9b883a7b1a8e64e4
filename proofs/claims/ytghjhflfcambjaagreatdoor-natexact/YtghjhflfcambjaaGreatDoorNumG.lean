/- Plain facts on taking a multiple away part by part. -/
import Derived.Test.YtghjhflfcambjaaGreatDoorNumF
namespace Go.Proofs.YtghjhflfcambjaaGreatDoor

/-- Parts of xs less f times ys: the parts, what is carried on of the product, what is borrowed. -/
def sbm (xs ys : List Nat) (f : Nat) : Nat → List Nat × Nat × Nat
  | 0 => ([], 0, 0)
  | k + 1 => ((sbm xs ys f k).1 ++ [(xs[k]?.getD 0 + 2 * W - ((sbm xs ys f k).2.1 + ys[k]?.getD 0 * f) % W - (sbm xs ys f k).2.2) % W],
      ((sbm xs ys f k).2.1 + ys[k]?.getD 0 * f) / W, if xs[k]?.getD 0 < ((sbm xs ys f k).2.1 + ys[k]?.getD 0 * f) % W + (sbm xs ys f k).2.2 then 1 else 0)
theorem sbm_length (xs ys : List Nat) (f k : Nat) : (sbm xs ys f k).1.length = k := by
  induction k with
  | zero => rfl
  | succ k ih => simp [sbm, ih]
theorem sbm_small (xs ys : List Nat) (f k : Nat) : Small (sbm xs ys f k).1 := by
  induction k with
  | zero => intro x hx; simp [sbm] at hx
  | succ k ih =>
    intro x hx
    rw [sbm] at hx
    rcases List.mem_append.1 hx with hx | hx
    · exact ih x hx
    · simp only [List.mem_singleton] at hx; subst hx; exact Nat.mod_lt _ W_pos
theorem sbm_borrow (xs ys : List Nat) (f k : Nat) : (sbm xs ys f k).2.2 ≤ 1 := by
  cases k with
  | zero => exact Nat.zero_le _
  | succ k =>
    rw [sbm]
    show (if _ then 1 else 0) ≤ 1
    split <;> omega
theorem sbm_carry (xs ys : List Nat) (f : Nat) (hy : Small ys) (hf : f < W) (k : Nat) : (sbm xs ys f k).2.1 < W := by
  induction k with
  | zero => exact W_pos
  | succ k ih =>
    rw [sbm]
    refine Nat.div_lt_of_lt_mul ?_
    have h1 := getD_lt hy k
    have h2 : ys[k]?.getD 0 * f ≤ (W - 1) * (W - 1) := Nat.mul_le_mul (by omega) (by omega)
    have h3 : (W - 1) * (W - 1) + W ≤ W * W := by decide
    omega
/-- One step: what is written, carried and borrowed makes up what was there. -/
theorem sbm_step (x c t b : Nat) (hx : x < W) (hb : b ≤ 1) :
    (x + 2 * W - (c + t) % W - b) % W + t + b + c = x + W * ((c + t) / W + if x < (c + t) % W + b then 1 else 0) := by
  have e := Nat.mod_add_div (c + t) W
  have hlo := Nat.mod_lt (c + t) W_pos
  generalize (c + t) % W = lo at *
  generalize (c + t) / W = q at *
  rw [Nat.mul_add]
  by_cases h : x < lo + b
  · rw [if_pos h]
    have : (x + 2 * W - lo - b) % W = x + W - lo - b := by
      rw [show x + 2 * W - lo - b = (x + W - lo - b) + W by omega, Nat.add_mod_right]
      exact Nat.mod_eq_of_lt (by omega)
    omega
  · rw [if_neg h]
    have : (x + 2 * W - lo - b) % W = x - lo - b := by
      rw [show x + 2 * W - lo - b = (x - lo - b) + W + W by omega, Nat.add_mod_right, Nat.add_mod_right]
      exact Nat.mod_eq_of_lt (by omega)
    omega
theorem sbm_eq (xs ys : List Nat) (f : Nat) (hx : Small xs) (k : Nat) :
    nw (sbm xs ys f k).1 + f * nw (ys.take k) = nw (xs.take k) + W ^ k * ((sbm xs ys f k).2.1 + (sbm xs ys f k).2.2) := by
  rw [← nwF_take xs k, ← nwF_take ys k]
  induction k with
  | zero => simp [sbm, nwF, nw_nil]
  | succ k ih =>
    have hb := sbm_borrow xs ys f k
    have st := sbm_step (xs[k]?.getD 0) (sbm xs ys f k).2.1 (ys[k]?.getD 0 * f) (sbm xs ys f k).2.2 (getD_lt hx k) hb
    have e3 : f * (nwF (fun j => ys[j]?.getD 0) k + W ^ k * ys[k]?.getD 0) = f * nwF (fun j => ys[j]?.getD 0) k + W ^ k * (ys[k]?.getD 0 * f) := by
      rw [Nat.mul_add, Nat.mul_left_comm, Nat.mul_comm f (ys[k]?.getD 0)]
    rw [sbm, nwF, nwF, nw_snoc, sbm_length, e3]
    show _ = _ + W ^ (k + 1) * (_ + if _ then 1 else 0)
    rw [Nat.pow_succ, Nat.mul_assoc]
    generalize (xs[k]?.getD 0 + 2 * W - ((sbm xs ys f k).2.1 + ys[k]?.getD 0 * f) % W - (sbm xs ys f k).2.2) % W = d at *
    generalize (((sbm xs ys f k).2.1 + ys[k]?.getD 0 * f) / W + if xs[k]?.getD 0 < ((sbm xs ys f k).2.1 + ys[k]?.getD 0 * f) % W + (sbm xs ys f k).2.2 then 1 else 0) = z at *
    generalize (sbm xs ys f k).2.1 = c at *
    generalize (sbm xs ys f k).2.2 = b at *
    generalize ys[k]?.getD 0 * f = t at *
    have := congrArg (W ^ k * ·) st
    simp only [Nat.mul_add] at this ih ⊢
    omega

end Go.Proofs.YtghjhflfcambjaaGreatDoor
