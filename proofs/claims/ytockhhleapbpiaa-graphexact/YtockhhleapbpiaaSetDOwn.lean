/- Sets as bits: together, in common, one without the other. (Plain.) -/
import Derived.Test.YtockhhleapbpiaaSliBToListA
namespace Go.Proofs.Ytockhhleapbpiaa
open Go.RowKit Go.Shelf

theorem msk_or (a b : List Nat) : mskN a ||| mskN b = mskN (a ++ b) := by
  apply Nat.eq_of_testBit_eq
  intro i
  rw [Nat.testBit_or, msk_bit, msk_bit, msk_bit]
  by_cases h : i ∈ a <;> by_cases h2 : i ∈ b <;> simp [h, h2]
theorem msk_and (a b : List Nat) : mskN a &&& mskN b = mskN (a.filter fun x => decide (x ∈ b)) := by
  apply Nat.eq_of_testBit_eq
  intro i
  rw [Nat.testBit_and, msk_bit, msk_bit, msk_bit]
  by_cases h : i ∈ a <;> by_cases h2 : i ∈ b <;> simp [h, h2]
theorem msk_andNot (a b : List Nat) (ha : ∀ u ∈ a, u < 8) (hb : ∀ u ∈ b, u < 8) : mskN a &&& (4294967295 - mskN b) = mskN (a.filter fun x => decide (¬ x ∈ b)) := by
  have h1 := msk_lt hb
  have e : 4294967295 - mskN b = 2 ^ 32 - (mskN b + 1) := by omega
  have hs' : mskN b < 2 ^ 32 := by omega
  apply Nat.eq_of_testBit_eq
  intro i
  rw [e, Nat.testBit_and, Nat.testBit_two_pow_sub_succ hs', msk_bit, msk_bit, msk_bit]
  by_cases h : i ∈ a
  · have h8 := ha i h
    have h32 : i < 32 := by omega
    by_cases h2 : i ∈ b <;> simp [h, h2, h32]
  · simp [h]
theorem bits_or (a b : List Nat) (ha : ∀ u ∈ a, u < 8) (hb : ∀ u ∈ b, u < 8) : bits BinOp.or IntKind.u32 (mskN a : Nat) (mskN b : Nat) = ((mskN (a ++ b) : Nat) : Int) := by
  have h1 := msk_lt ha
  have h2 := msk_lt hb
  rw [u32_or_nat _ _ (by omega) (by omega), msk_or]
theorem bits_and (a b : List Nat) (ha : ∀ u ∈ a, u < 8) (hb : ∀ u ∈ b, u < 8) : bits BinOp.and IntKind.u32 (mskN a : Nat) (mskN b : Nat) = ((mskN (a.filter fun x => decide (x ∈ b)) : Nat) : Int) := by
  have h1 := msk_lt ha
  have h2 := msk_lt hb
  rw [u32_and_nat _ _ (by omega) (by omega), msk_and]
theorem bits_andNot (a b : List Nat) (ha : ∀ u ∈ a, u < 8) (hb : ∀ u ∈ b, u < 8) : bits BinOp.andNot IntKind.u32 (mskN a : Nat) (mskN b : Nat) = ((mskN (a.filter fun x => decide (¬ x ∈ b)) : Nat) : Int) := by
  have h1 := msk_lt ha
  have h2 := msk_lt hb
  rw [u32_andNot_nat _ _ (by omega) (by omega), msk_andNot a b ha hb]
theorem fil_small {s : List Nat} (h : ∀ u ∈ s, u < 8) (p : Nat → Bool) : ∀ u ∈ s.filter p, u < 8 := fun u hu => h u (List.mem_filter.1 hu).1
theorem app_small {a b : List Nat} (ha : ∀ u ∈ a, u < 8) (hb : ∀ u ∈ b, u < 8) : ∀ u ∈ a ++ b, u < 8 := fun u hu => (List.mem_append.1 hu).elim (ha u) (hb u)
theorem getD_small {P : List (List Nat)} (hP : ∀ p ∈ P, ∀ u ∈ p, u < 8) (v : Nat) : ∀ u ∈ P.getD v [], u < 8 := by
  by_cases h : v < P.length
  · rw [List.getD_eq_getElem?_getD, List.getElem?_eq_getElem h]; exact hP _ (List.getElem_mem h)
  · rw [List.getD_eq_getElem?_getD, List.getElem?_eq_none (by omega)]; intro u hu; simp at hu
theorem mapU_get {P : List (List Nat)} {v : Nat} (h : v < P.length) : (P.map mskN)[v]'(by rw [List.length_map]; exact h) = mskN (P.getD v []) := by rw [List.getElem_map, List.getD_eq_getElem?_getD, List.getElem?_eq_getElem h]; rfl
/-- Of a node's neighbours: how many of the others one of them has not. -/
def lackE (B : List (List Nat)) (v u : Nat) : Nat := (memU (((B.getD v []).filter fun x => decide (¬ x ∈ B.getD u [])).filter fun x => decide (x ≠ u)) 8).length
/-- All that together. -/
def endsN (B : List (List Nat)) (v k : Nat) : Nat := ((memU (B.getD v []) k).map (lackE B v)).sum
theorem endsN_yes {B : List (List Nat)} {v k : Nat} (h : k ∈ B.getD v []) : endsN B v (k + 1) = endsN B v k + lackE B v k := by rw [endsN, memU_yes h, List.map_append, List.sum_append, endsN]; simp
theorem endsN_no {B : List (List Nat)} {v k : Nat} (h : ¬ k ∈ B.getD v []) : endsN B v (k + 1) = endsN B v k := by rw [endsN, memU_no h, endsN]
theorem lackE_le (B : List (List Nat)) (v u : Nat) : lackE B v u ≤ 8 := memU_len _ _
theorem endsN_le (B : List (List Nat)) (v : Nat) : ∀ k, endsN B v k ≤ 8 * k
  | 0 => by simp [endsN, memU]
  | k + 1 => by
    have h1 := endsN_le B v k
    have h2 := lackE_le B v k
    by_cases h : k ∈ B.getD v []
    · rw [endsN_yes h]; omega
    · rw [endsN_no h]; omega
/-- How many edges a node's neighbours lack. -/
def lackN (B : List (List Nat)) (v : Nat) : Nat := endsN B v 8 / 2
end Go.Proofs.Ytockhhleapbpiaa

