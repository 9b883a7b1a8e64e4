/- Plain facts on long multiplication. -/
import Derived.Test.YtghjhflfcambjaaGreatDoorNumF
namespace Go.Proofs.YtghjhflfcambjaaGreatDoor

/-- What stands at place j of a row of the product, not yet brought to parts. -/
def rowF (x : Nat) (ys p : List Nat) (i j : Nat) : Nat := x * ys[j]?.getD 0 + p[i + j]?.getD 0
theorem rowF_carry (x : Nat) (ys p : List Nat) (i : Nat) (hx : x < W) (hy : Small ys) (hp : Small p) (k : Nat) : (acc (rowF x ys p i) k).2 < W := by
  have h := acc_carry (rowF x ys p i) (W - 1) k fun j _ => by
    have h1 := getD_lt hy j
    have h2 := getD_lt hp (i + j)
    have h3 : x * ys[j]?.getD 0 ≤ (W - 1) * (W - 1) := Nat.mul_le_mul (by omega) (by omega)
    have h4 : (W - 1) * (W - 1) + W + W ≤ W * W + 1 := by decide
    unfold rowF
    rw [Nat.sub_add_cancel W_pos]
    omega
  have := W_pos
  omega
theorem rowF_nw (x : Nat) (ys p : List Nat) (i : Nat) : nwF (rowF x ys p i) ys.length = x * nw ys + nw ((p.drop i).take ys.length) := by
  rw [show rowF x ys p i = fun j => (fun j => x * (fun j => ys[j]?.getD 0) j) j + (fun j => p[i + j]?.getD 0) j from rfl, nwF_add, nwF_mul, nwF_list ys _ (Nat.le_refl _)]
  congr 1
  rw [← nwF_take]
  exact nwF_congr fun j _ => by rw [List.getElem?_drop]

/-- One row of the product more. -/
def mulRow (x : Nat) (ys p : List Nat) (i : Nat) : List Nat := p.take i ++ ((acc (rowF x ys p i) ys.length).1 ++ [(acc (rowF x ys p i) ys.length).2]) ++ p.drop (i + (ys.length + 1))
theorem nw_drop_zero (p : List Nat) (k : Nat) (h : ∀ j, k ≤ j → p[j]?.getD 0 = 0) : nw (p.drop k) = 0 := by
  have : p.drop k = List.replicate (p.drop k).length 0 := by
    apply List.ext_getElem
    · simp
    · intro j h1 h2
      have := h (k + j) (by omega)
      rw [List.length_drop] at h1
      rw [List.getElem?_eq_getElem (by omega)] at this
      simpa using this
  rw [this, nw_zeros]
theorem mulRow_spec (x : Nat) (ys p : List Nat) (i : Nat) (hx : x < W) (hy : Small ys) (hp : Small p) (hi : i + ys.length < p.length) (hz : ∀ j, i + ys.length ≤ j → p[j]?.getD 0 = 0) :
    (mulRow x ys p i).length = p.length ∧ Small (mulRow x ys p i) ∧ nw (mulRow x ys p i) = nw p + W ^ i * (x * nw ys) ∧ ∀ j, i + 1 + ys.length ≤ j → (mulRow x ys p i)[j]?.getD 0 = 0 := by
  have hl := acc_length (rowF x ys p i) ys.length
  have hti : (p.take i).length = i := by rw [List.length_take]; omega
  have hmid : (p.take i ++ ((acc (rowF x ys p i) ys.length).1 ++ [(acc (rowF x ys p i) ys.length).2])).length = i + (ys.length + 1) := by
    rw [List.length_append, List.length_append, hti, hl]; rfl
  refine ⟨?_, ?_, ?_, ?_⟩
  · rw [mulRow, List.length_append, hmid, List.length_drop]; omega
  · refine small_append (small_append (small_take hp i) (small_append (acc_small _ _) ?_)) (small_drop hp _)
    intro z hz'
    simp only [List.mem_singleton] at hz'
    subst hz'
    exact rowF_carry x ys p i hx hy hp _
  · have e1 := acc_eq (rowF x ys p i) ys.length
    rw [rowF_nw] at e1
    have e2 := nw_cut_le p i (by omega)
    have e3 := nw_cut_le (p.drop i) ys.length (by rw [List.length_drop]; omega)
    rw [List.drop_drop, nw_drop_zero p (i + ys.length) hz, Nat.mul_zero, Nat.add_zero] at e3
    have e4 := nw_drop_zero p (i + (ys.length + 1)) (fun j hj => hz j (by omega))
    rw [mulRow, nw_append, e4, Nat.mul_zero, Nat.add_zero, nw_append, hti, nw_snoc, hl, e1, e2, e3, Nat.mul_add]
    omega
  · intro j hj
    rw [mulRow, List.getElem?_append_right (by omega), hmid, List.getElem?_drop]
    exact hz _ (by omega)

end Go.Proofs.YtghjhflfcambjaaGreatDoor
