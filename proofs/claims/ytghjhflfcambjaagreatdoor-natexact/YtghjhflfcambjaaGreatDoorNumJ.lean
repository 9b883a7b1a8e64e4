/- Plain facts on long division. -/
import Derived.Test.YtghjhflfcambjaaGreatDoorNumF
namespace Go.Proofs.YtghjhflfcambjaaGreatDoor

theorem nw_set (l : List Nat) (i y : Nat) (hi : i < l.length) : nw (l.set i y) + W ^ i * l[i]?.getD 0 = nw l + W ^ i * y := by
  have e1 := nw_cut_le l i (by omega)
  have e2 := nw_cut_le (l.set i y) i (by rw [List.length_set]; omega)
  have e3 : (l.set i y).take i = l.take i := List.take_set_of_le (Nat.le_refl _)
  have e4 : (l.set i y).drop i = y :: l.drop (i + 1) := by
    rw [List.drop_set, if_neg (by omega), Nat.sub_self, List.drop_eq_getElem_cons hi, List.set_cons_zero]
  have e5 : l.drop i = l[i]?.getD 0 :: l.drop (i + 1) := by rw [List.drop_eq_getElem_cons hi, List.getElem?_eq_getElem hi]; rfl
  rw [e3, e4, nw_cons, Nat.mul_add] at e2
  rw [e5, nw_cons, Nat.mul_add] at e1
  omega

/-- What holds when the quotient's parts from j on are found. -/
structure DivInv (X Y L : Nat) (lf ql : List Nat) (j : Nat) : Prop where
  qlen : ql.length = L
  qs : Small ql
  ls : Small lf
  zero : ∀ t, t < j → ql[t]?.getD 0 = 0
  eq : nw ql * Y + nw lf = X
  lt : nw (lf.drop j) < Y

/-- What takeMost is handed: fewer than W times, and all that is left from there on. -/
theorem DivInv.seg {X Y L m i : Nat} {lf ql : List Nat} (h : DivInv X Y L lf ql (i + 1)) (hY : Y ≤ W ^ m) (hl : i + m + 1 ≤ lf.length) :
    nw ((lf.drop i).take (m + 1)) < W * Y ∧ nw (lf.drop i) = nw ((lf.drop i).take (m + 1)) ∧ nw (lf.drop (i + (m + 1))) = 0 := by
  have e5 : lf.drop i = lf[i]?.getD 0 :: lf.drop (i + 1) := by rw [List.drop_eq_getElem_cons (by omega), List.getElem?_eq_getElem (by omega)]; rfl
  have hd : nw (lf.drop i) < W * Y := by
    have h1 := h.lt
    have h2 := getD_lt h.ls i
    have h3 : W * (nw (lf.drop (i + 1)) + 1) ≤ W * Y := Nat.mul_le_mul_left _ h1
    rw [Nat.mul_add] at h3
    rw [e5, nw_cons]
    omega
  have hc := nw_cut_le (lf.drop i) (m + 1) (by rw [List.length_drop]; omega)
  rw [List.drop_drop] at hc
  have hz : nw (lf.drop (i + (m + 1))) = 0 := by
    rcases Nat.eq_zero_or_pos (nw (lf.drop (i + (m + 1)))) with e | e
    · exact e
    · have h4 : W ^ (m + 1) * 1 ≤ W ^ (m + 1) * nw (lf.drop (i + (m + 1))) := Nat.mul_le_mul_left _ e
      have h5 : W * Y ≤ W ^ (m + 1) := by rw [Nat.pow_succ, Nat.mul_comm]; exact Nat.mul_le_mul_right _ hY
      omega
  rw [hz, Nat.mul_zero, Nat.add_zero] at hc
  exact ⟨by omega, hc, hz⟩

theorem DivInv.step {X Y L m i : Nat} {lf ql seg : List Nat} (h : DivInv X Y L lf ql (i + 1)) (hY : Y ≤ W ^ m) (hl : i + m + 1 ≤ lf.length) (hi : i < L) (hY0 : 0 < Y)
    (hsl : seg.length = m + 1) (hss : Small seg) (hsn : nw seg = nw ((lf.drop i).take (m + 1)) % Y) :
    DivInv X Y L (lf.take i ++ seg ++ lf.drop (i + (m + 1))) (ql.set i (nw ((lf.drop i).take (m + 1)) / Y)) i := by
  obtain ⟨s1, s2, s3⟩ := h.seg hY hl
  have hti : (lf.take i).length = i := by rw [List.length_take]; omega
  generalize hS : nw ((lf.drop i).take (m + 1)) = S at *
  have hq : S / Y < W := Nat.div_lt_of_lt_mul (by rw [Nat.mul_comm]; exact s1)
  have hset := nw_set ql i (S / Y) (by rw [h.qlen]; exact hi)
  rw [h.zero i (by omega), Nat.mul_zero, Nat.add_zero] at hset
  have hdm := Nat.div_add_mod' S Y
  have hcut := nw_cut_le lf i (by omega)
  have hnl : nw (lf.take i ++ seg ++ lf.drop (i + (m + 1))) = nw (lf.take i) + W ^ i * (S % Y) := by
    rw [nw_append, s3, Nat.mul_zero, Nat.add_zero, nw_append, hti, hsn]
  refine ⟨by rw [List.length_set]; exact h.qlen, ?_, ?_, ?_, ?_, ?_⟩
  · intro x hx
    rcases List.mem_or_eq_of_mem_set hx with hx | rfl
    · exact h.qs x hx
    · exact hq
  · exact small_append (small_append (small_take h.ls i) hss) (small_drop h.ls _)
  · intro t ht
    rw [List.getElem?_set_ne (by omega)]
    exact h.zero t (by omega)
  · rw [hset, hnl, Nat.add_mul, ← h.eq, hcut, s2]
    have : W ^ i * S = W ^ i * (S / Y) * Y + W ^ i * (S % Y) := by rw [Nat.mul_assoc, ← Nat.mul_add, hdm]
    omega
  · rw [List.append_assoc, List.drop_append, hti, Nat.sub_self, List.drop_of_length_le (by omega), List.nil_append, List.drop_zero, nw_append, s3, Nat.mul_zero, Nat.add_zero, hsn]
    exact Nat.mod_lt _ hY0

theorem DivInv.start {X Y n m s : Nat} {lf xs : List Nat} (hm : 0 < m) (hmn : m ≤ n) (hs : Small lf) (hxn : xs.length = n) (hxs : Small xs) (hX : X = 2 ^ s * nw xs) (hlf : nw lf = X) (hll : lf.length = n + 1) (hY : 2 ^ s * W ^ (m - 1) ≤ Y) :
    DivInv X Y (n - m + 1) lf (List.replicate (n - m + 1) 0) (n - m + 1) := by
  refine ⟨by simp, small_zeros _, hs, fun t _ => by rw [List.getElem?_replicate]; split <;> rfl, by rw [nw_zeros, Nat.zero_mul, Nat.zero_add, hlf], ?_⟩
  have hc := nw_cut_le lf (n - m + 1) (by omega)
  have hlt : nw xs < W ^ n := by rw [← hxn]; exact nw_lt xs hxs
  have hp : 0 < 2 ^ s := Nat.pow_pos (by decide)
  have h1 : 2 ^ s * nw xs < 2 ^ s * W ^ n := Nat.mul_lt_mul_of_pos_left hlt hp
  have h2 : W ^ n = W ^ (n - m + 1) * W ^ (m - 1) := by rw [← Nat.pow_add]; congr 1; omega
  have h3 : W ^ (n - m + 1) * nw (lf.drop (n - m + 1)) < W ^ (n - m + 1) * (2 ^ s * W ^ (m - 1)) := by
    rw [Nat.mul_left_comm, ← h2]
    omega
  exact Nat.lt_of_lt_of_le (Nat.lt_of_mul_lt_mul_left h3) hY

theorem DivInv.stop {X Y L : Nat} {lf ql : List Nat} (h : DivInv X Y L lf ql 0) : nw ql = X / Y ∧ nw lf = X % Y := by
  have h1 := h.lt
  rw [List.drop_zero] at h1
  have h2 := h.eq
  have hY : 0 < Y := by omega
  constructor
  · rw [← h2, Nat.add_comm, Nat.add_mul_div_right _ _ hY, Nat.div_eq_of_lt h1, Nat.zero_add]
  · rw [← h2, Nat.add_comm, Nat.add_mul_mod_self_right, Nat.mod_eq_of_lt h1]

end Go.Proofs.YtghjhflfcambjaaGreatDoor
