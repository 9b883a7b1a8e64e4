/- Plain facts on shifting parts down. -/
import Derived.Test.YtghjhflfcambjaaGreatDoorNumF
namespace Go.Proofs.YtghjhflfcambjaaGreatDoor

/-- Parts shifted down by s bits. -/
def shd (s : Nat) : List Nat → List Nat
  | [] => []
  | x :: r => (x + W * r[0]?.getD 0) / 2 ^ s % W :: shd s r
theorem shd_length (s : Nat) (l : List Nat) : (shd s l).length = l.length := by
  induction l with
  | nil => rfl
  | cons x r ih => rw [shd, List.length_cons, ih, List.length_cons]
theorem shd_small (s : Nat) (l : List Nat) : Small (shd s l) := by
  induction l with
  | nil => intro x hx; simp [shd] at hx
  | cons x r ih =>
    intro y hy
    rw [shd] at hy
    rcases List.mem_cons.1 hy with rfl | hy
    · exact Nat.mod_lt _ W_pos
    · exact ih y hy
theorem nw_head (l : List Nat) (h : Small l) : nw l % W = l[0]?.getD 0 := by
  cases l with
  | nil => rfl
  | cons x r => rw [nw_cons, Nat.add_mul_mod_self_left]; exact Nat.mod_eq_of_lt (h x List.mem_cons_self)
theorem W_split {s : Nat} (hs : s ≤ 32) : W = 2 ^ s * 2 ^ (32 - s) := by rw [← Nat.pow_add, show s + (32 - s) = 32 by omega]; rfl
theorem shd_nw (s : Nat) (hs : s ≤ 32) (l : List Nat) (hl : Small l) : nw (shd s l) = nw l / 2 ^ s := by
  induction l with
  | nil => simp [shd, nw_nil]
  | cons x r ih =>
    have hr : Small r := fun y hy => hl y (List.mem_cons_of_mem _ hy)
    have hx := hl x List.mem_cons_self
    have hp : 0 < 2 ^ s := Nat.pow_pos (by decide)
    rw [shd, nw_cons, nw_cons, ih hr, ← nw_head r hr]
    generalize nw r = n
    have e1 := Nat.div_add_mod n (2 ^ s)
    have hb := Nat.mod_lt n hp
    generalize hq : n / 2 ^ s = a at *
    generalize hbb : n % 2 ^ s = b at *
    have hdig : (x + W * b) / 2 ^ s < W := by
      refine Nat.div_lt_of_lt_mul ?_
      have : W * (b + 1) ≤ W * 2 ^ s := Nat.mul_le_mul_left _ hb
      rw [Nat.mul_add, Nat.mul_comm W (2 ^ s)] at this
      omega
    have e2 : (x + W * n) / 2 ^ s = (x + W * b) / 2 ^ s + W * a := by
      rw [← e1, Nat.mul_add, ← Nat.add_assoc, Nat.add_right_comm, show W * (2 ^ s * a) = 2 ^ s * (W * a) by rw [Nat.mul_left_comm], Nat.add_mul_div_left _ _ hp]
    have e3 : (x + W * (n % W)) / 2 ^ s % W = (x + W * b) / 2 ^ s := by
      have hW := W_split hs
      have hmm : n % W % 2 ^ s = b := by rw [← hbb, hW, Nat.mod_mul_right_mod]
      have e4 := Nat.div_add_mod (n % W) (2 ^ s)
      rw [hmm] at e4
      generalize n % W / 2 ^ s = c at *
      rw [← e4, Nat.mul_add, ← Nat.add_assoc, Nat.add_right_comm, show W * (2 ^ s * c) = 2 ^ s * (W * c) by rw [Nat.mul_left_comm], Nat.add_mul_div_left _ _ hp, Nat.add_mul_mod_self_left]
      exact Nat.mod_eq_of_lt hdig
    rw [e2, e3]
theorem drop_zero_get (l : List Nat) (m : Nat) : (l.drop m)[0]?.getD 0 = l[m]?.getD 0 := by rw [List.getElem?_drop, Nat.add_zero]

end Go.Proofs.YtghjhflfcambjaaGreatDoor
