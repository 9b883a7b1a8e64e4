/- Plain facts on reading digits. -/
import Derived.Test.YtghjhflfcambjaaGreatDoorNum
namespace Go.Proofs.YtghjhflfcambjaaGreatDoor

/-- Times ten and c more, part by part: the parts, and what runs over. -/
def mad (c : Nat) : List Nat → List Nat × Nat
  | [] => ([], c)
  | x :: r => ((c + x * 10) % W :: (mad ((c + x * 10) / W) r).1, (mad ((c + x * 10) / W) r).2)
theorem mad_snoc (a : List Nat) (x : Nat) : ∀ c, mad c (a ++ [x]) = ((mad c a).1 ++ [((mad c a).2 + x * 10) % W], ((mad c a).2 + x * 10) / W) := by
  induction a with
  | nil => intro c; rfl
  | cons y a ih => intro c; rw [List.cons_append, mad, ih]; rfl
theorem mad_length (c : Nat) (l : List Nat) : (mad c l).1.length = l.length := by
  induction l generalizing c with
  | nil => rfl
  | cons x r ih => rw [mad, List.length_cons, ih, List.length_cons]
theorem mad_small (c : Nat) (l : List Nat) : Small (mad c l).1 := by
  induction l generalizing c with
  | nil => intro x hx; simp [mad] at hx
  | cons x r ih =>
    intro y hy
    rw [mad] at hy
    rcases List.mem_cons.1 hy with rfl | hy
    · exact Nat.mod_lt _ W_pos
    · exact ih _ y hy
theorem mad_eq (c : Nat) (l : List Nat) : nw (mad c l).1 + W ^ l.length * (mad c l).2 = nw l * 10 + c := by
  induction l generalizing c with
  | nil => simp [mad, nw_nil]
  | cons x r ih =>
    have e := ih ((c + x * 10) / W)
    have hd := Nat.mod_add_div (c + x * 10) W
    rw [mad, nw_cons, nw_cons, List.length_cons, Nat.pow_succ, Nat.mul_comm (W ^ r.length) W, Nat.mul_assoc, Nat.add_assoc, ← Nat.mul_add, e, Nat.mul_add]
    have : W * (nw r * 10) = W * nw r * 10 := by rw [Nat.mul_assoc]
    omega
theorem mad_carry (c : Nat) (l : List Nat) (hc : c ≤ 9) (hs : Small l) : (mad c l).2 ≤ 9 := by
  induction l generalizing c with
  | nil => exact hc
  | cons x r ih =>
    rw [mad]
    refine ih _ ?_ (fun y hy => hs y (List.mem_cons_of_mem _ hy))
    have hx := hs x List.mem_cons_self
    have : (c + x * 10) / W < 10 := Nat.div_lt_of_lt_mul (by omega)
    omega
theorem drop_set_append (q l : List Nat) (k y : Nat) (hq : q.length = k) (hk : k < l.length) : (q ++ l.drop k).set k y = q ++ [y] ++ l.drop (k + 1) := by
  rw [List.set_append_right _ _ (by omega), hq, Nat.sub_self, List.drop_eq_getElem_cons hk, List.set_cons_zero, List.append_assoc]
  rfl

/-- The number that digits stand for. -/
def dval (l : List UInt8) : Nat := l.foldl (fun n c => n * 10 + (c.toNat - 48)) 0
theorem dval_snoc (l : List UInt8) (c : UInt8) : dval (l ++ [c]) = dval l * 10 + (c.toNat - 48) := by simp [dval]
def isDig (c : UInt8) : Bool := decide (48 ≤ c.toNat ∧ c.toNat ≤ 57)
/-- Digits alone, and one at least. -/
def allDig (l : List UInt8) : Bool := !l.isEmpty && l.all isDig
/-- As nat.Parse takes it: digits, no nought ahead of others. -/
def wellDig (l : List UInt8) : Bool := allDig l && !(decide (1 < l.length) && l[0]?.getD 0 == 48)

end Go.Proofs.YtghjhflfcambjaaGreatDoor
