/- A hidden chain that is made of raw numbers stands for small numbers. -/
import Derived.Test.YtnnfmfdjgdgdhaaGreatDoorMadDToHidJ
namespace Go.Proofs.YtnnfmfdjgdgdhaaGreatDoor
open Go.RowKit Go.Shelf Go.Lib

theorem mem_le_sum : ∀ {l : List Nat} {a : Nat}, a ∈ l → a ≤ l.sum
  | b :: l, a, h => by
    rw [List.sum_cons]
    rcases List.mem_cons.1 h with rfl | h
    · omega
    · have := mem_le_sum h; omega
theorem raw_sm {Ls : List Nat} {k i : Nat} (h : Wts Ls k) (hk : k ≤ 4) (hs : 1 ≤ Ls.sum) (hi : i < (rawF Ls).length) : Sm 1 (frQ (rawF Ls)[i]) ∧ (rawF Ls)[i].2.1.size + (rawF Ls)[i].2.2.size ≤ 1500 := by
  have hi' : i < Ls.length := by rw [rawF_length] at hi; exact hi
  have e : (rawF Ls)[i] = qF ((Ls[i] : Rat) / (Ls.sum : Rat)) := by simp [rawF]
  have h6 := sum_le6 h.six
  have hl := h.len
  have hle : Ls[i] ≤ Ls.sum := mem_le_sum (List.getElem_mem hi')
  have hne : (Ls.sum : Rat) ≠ 0 := fun e => by
    have e' : Ls.sum = 0 := by exact_mod_cast e
    omega
  have hpos : (0 : Rat) < (Ls.sum : Rat) := Rat.lt_of_le_of_ne Rat.natCast_nonneg (Ne.symm hne)
  obtain ⟨D, hD⟩ := dvd24 Ls.sum hs (by omega)
  have hsm : Sm 1 ((Ls[i] : Rat) / (Ls.sum : Rat)) := by
    refine ⟨?_, ?_, Ls[i] * D, ?_⟩
    · rw [Rat.div_def]
      exact Rat.mul_nonneg Rat.natCast_nonneg (Rat.le_of_lt (Rat.inv_pos.2 hpos))
    · have h1 : (Ls[i] : Rat) ≤ (Ls.sum : Rat) := by exact_mod_cast hle
      have h2 : (Ls[i] : Rat) / (Ls.sum : Rat) ≤ 1 := by
        rw [Rat.div_def]
        have h3 := Rat.mul_le_mul_of_nonneg_right h1 (Rat.le_of_lt (Rat.inv_pos.2 hpos))
        rwa [Rat.mul_inv_cancel _ hne] at h3
      exact Rat.le_trans h2 (by decide)
    · rw [Nat.pow_one, hD, Rat.natCast_mul, Rat.natCast_mul, Rat.div_def, Rat.mul_assoc, ← Rat.mul_assoc (Ls.sum : Rat)⁻¹, Rat.inv_mul_cancel _ hne, Rat.one_mul]
  rw [e]
  refine ⟨by rw [frQ_qF]; exact hsm, ?_⟩
  show (nu ((Ls[i] : Rat) / (Ls.sum : Rat))).size + (de ((Ls[i] : Rat) / (Ls.sum : Rat))).size ≤ 1500
  rw [own_size]
  exact hsm.qw (by omega)
/-- The numbers of a hidden chain in memory. -/
def hcOf (n : Nat) (l : List Fr) (R1 R2 : List (List Fr)) (Q : List Nat) : HC where
  s := n
  L := Q.length
  st := fun i => frQ (celF l i)
  mv := fun i j => frQ (celF (R1[i]?.getD []) j)
  sh := fun t i => frQ (celF (R2[i]?.getD []) (Q[t]?.getD 0))
theorem Rws_of {n k : Nat} {P : List PR} (h : RwP n k P) (hk : k ≤ 4) : RwsOK n k (rOf P) ∧ ∀ i (hi : i < (rOf P).length) j (hj : j < (rOf P)[i].length), Sm 1 (frQ (rOf P)[i][j]) ∧ (rOf P)[i][j].2.1.size + (rOf P)[i][j].2.2.size ≤ 1500 := by
  have hl : (rOf P).length = P.length := by simp [rOf]
  have key : ∀ i (hi : i < (rOf P).length), ∃ Ls, (rOf P)[i] = rawF Ls ∧ Wts Ls k ∧ 1 ≤ Ls.sum := fun i hi => by
    have hi' : i < P.length := by omega
    obtain ⟨Ls, h1, h2, h3⟩ := h.2 P[i] (List.getElem_mem hi')
    exact ⟨Ls, by simp [rOf, h1], h2, h3⟩
  have size : ∀ i (hi : i < (rOf P).length) j (hj : j < (rOf P)[i].length), Sm 1 (frQ (rOf P)[i][j]) ∧ (rOf P)[i][j].2.1.size + (rOf P)[i][j].2.2.size ≤ 1500 := fun i hi j hj => by
    obtain ⟨Ls, e, h2, h3⟩ := key i hi
    have hj' : j < (rawF Ls).length := by rw [← e]; exact hj
    have := raw_sm h2 hk h3 hj'
    simp only [e]
    exact this
  refine ⟨⟨by rw [hl]; exact h.1, fun i hi => ?_, fun i hi => ?_, fun i hi => ?_⟩, size⟩
  · obtain ⟨Ls, e, h2, _⟩ := key i hi
    rw [e, rawF_length]
    exact h2.len
  · obtain ⟨Ls, e, h2, h3⟩ := key i hi
    rw [e]
    have hL : Lst k (fun j => frQ (celF (rawF Ls) j)) (rawF Ls) := ⟨by rw [rawF_length]; exact h2.len, fun j hj => by rw [celF_eq hj], fun j hj => (raw_sm h2 hk h3 hj).2⟩
    exact hL.fw hk
  · obtain ⟨Ls, e, _, h3⟩ := key i hi
    rw [e]
    exact rawF_row h3
theorem hidV_of {n m : Nat} {Ls : List Nat} {P1 P2 : List PR} {Q : List Nat} (hn1 : 1 ≤ n) (hn : n ≤ 4) (hm1 : 1 ≤ m) (hm : m ≤ 4) (hw : Wts Ls n) (hs : 1 ≤ Ls.sum) (h1 : RwP n n P1) (h2 : RwP n m P2) (hQ : Q.length ≤ 8) (hq : ∀ x ∈ Q, x < m) :
    HidV (hcOf n (rawF Ls) (rOf P1) (rOf P2) Q) m (rawF Ls) (rOf P1) (rOf P2) Q := by
  obtain ⟨r1, s1⟩ := Rws_of h1 hn
  obtain ⟨r2, s2⟩ := Rws_of h2 hm
  have hl : (rawF Ls).length = n := by rw [rawF_length]; exact hw.len
  have hL : Lst n (fun j => frQ (celF (rawF Ls) j)) (rawF Ls) := ⟨hl, fun j hj => by rw [celF_eq hj], fun j hj => (raw_sm hw hn hs hj).2⟩
  have e1 : ∀ i (hi : i < (rOf P1).length), (rOf P1)[i]?.getD [] = (rOf P1)[i] := fun i hi => by rw [List.getElem?_eq_getElem hi]; rfl
  have e2 : ∀ i (hi : i < (rOf P2).length), (rOf P2)[i]?.getD [] = (rOf P2)[i] := fun i hi => by rw [List.getElem?_eq_getElem hi]; rfl
  have eq : ∀ t (ht : t < Q.length), Q[t]?.getD 0 = Q[t] := fun t ht => by rw [List.getElem?_eq_getElem ht]; rfl
  refine ⟨⟨hn1, hn, hm1, hm, hl, hL.fw hn, rawF_row hs, r1, r2⟩, rfl, hq, hL, fun i hi => ?_, fun t ht i hi => ?_, ⟨hn, hQ, fun i hi => ?_, fun i hi j hj => ?_, fun t ht i hi => ?_⟩⟩
  · refine ⟨r1.each i hi, fun j hj => ?_, fun j hj => (s1 i hi j hj).2⟩
    show _ = frQ (celF ((rOf P1)[i]?.getD []) j)
    rw [e1 i hi, celF_eq hj]
  · have hx : Q[t] < (rOf P2)[i].length := by rw [r2.each i hi]; exact hq _ (List.getElem_mem ht)
    refine ⟨hx, ?_, (s2 i hi _ hx).2⟩
    show _ = frQ (celF ((rOf P2)[i]?.getD []) (Q[t]?.getD 0))
    rw [e2 i hi, eq t ht, celF_eq hx]
  · have hi' : i < (rawF Ls).length := by rw [hl]; exact hi
    show Sm 1 (frQ (celF (rawF Ls) i))
    rw [celF_eq hi']
    exact (raw_sm hw hn hs hi').1
  · have hi' : i < (rOf P1).length := by rw [r1.len]; exact hi
    have hj' : j < (rOf P1)[i].length := by rw [r1.each i hi']; exact hj
    show Sm 1 (frQ (celF ((rOf P1)[i]?.getD []) j))
    rw [e1 i hi', celF_eq hj']
    exact (s1 i hi' j hj').1
  · have hi' : i < (rOf P2).length := by rw [r2.len]; exact hi
    have ht' : t < Q.length := ht
    have hx : Q[t] < (rOf P2)[i].length := by rw [r2.each i hi']; exact hq _ (List.getElem_mem ht')
    show Sm 1 (frQ (celF ((rOf P2)[i]?.getD []) (Q[t]?.getD 0)))
    rw [e2 i hi', eq t ht', celF_eq hx]
    exact (s2 i hi' _ hx).1
end Go.Proofs.YtnnfmfdjgdgdhaaGreatDoor

