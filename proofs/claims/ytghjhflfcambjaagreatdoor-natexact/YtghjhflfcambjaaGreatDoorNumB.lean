/- Plain facts on groups of nine digits. -/
import Derived.Test.YtghjhflfcambjaaGreatDoorNum
namespace Go.Proofs.YtghjhflfcambjaaGreatDoor

/-- 10^9. -/
def G : Nat := 1000000000
theorem G_eq : G = 1000000000 := rfl
theorem G_pos : 0 < G := by decide
/-- A number's groups of nine digits, the lowest first. -/
def grp (n : Nat) : List Nat := if _h : n = 0 then [] else (n % 1000000000) :: grp (n / 1000000000)
theorem grp_zero : grp 0 = [] := by rw [grp, dif_pos rfl]
theorem grp_pos (n : Nat) (h : n ≠ 0) : grp n = (n % G) :: grp (n / G) := by rw [grp, dif_neg h, G_eq]
theorem div_G_lt {n : Nat} (h : n ≠ 0) : n / G < n := Nat.div_lt_self (Nat.pos_of_ne_zero h) (by decide)
theorem grp_nil_iff (n : Nat) : grp n = [] ↔ n = 0 := by
  constructor
  · intro h
    by_cases e : n = 0
    · exact e
    · rw [grp_pos n e] at h; cases h
  · rintro rfl; exact grp_zero
theorem grp_lt (n : Nat) : ∀ x ∈ grp n, x < G := by
  induction n using Nat.strongRecOn with
  | ind n ih =>
    by_cases h : n = 0
    · subst h; simp [grp_zero]
    · rw [grp_pos n h]
      intro x hx
      rcases List.mem_cons.1 hx with rfl | hx
      · exact Nat.mod_lt _ G_pos
      · exact ih _ (div_G_lt h) x hx
theorem grp_length_le (k : Nat) : ∀ n, n < G ^ k → (grp n).length ≤ k := by
  induction k with
  | zero => intro n h; rw [Nat.pow_zero] at h; have : n = 0 := by omega
            subst this; simp [grp_zero]
  | succ k ih =>
    intro n h
    by_cases e : n = 0
    · subst e; simp [grp_zero]
    · rw [grp_pos n e, List.length_cons]
      have := ih (n / G) (Nat.div_lt_of_lt_mul (by rw [Nat.pow_succ] at h; rw [Nat.mul_comm]; exact h))
      omega
theorem W_le_GG : W ≤ G ^ 2 := by decide
theorem grp_words (n : Nat) : (grp n).length ≤ 2 * (words n).length := by
  refine grp_length_le _ _ ?_
  have h := nw_lt _ (words_small n)
  rw [nw_words] at h
  rw [Nat.pow_mul]
  exact Nat.lt_of_lt_of_le h (Nat.pow_le_pow_left W_le_GG _)

end Go.Proofs.YtghjhflfcambjaaGreatDoor
