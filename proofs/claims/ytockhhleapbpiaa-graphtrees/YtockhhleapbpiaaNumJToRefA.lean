/- Plain facts on long division. -/
import Derived.Test.YtockhhleapbpiaaCore1ToNumF
import Derived.Test.YtockhhleapbpiaaReckAToMostA
import Derived.Lib.BitFns
namespace Go.Proofs.Ytockhhleapbpiaa

theorem nw_set (l : List Nat) (i y : Nat) (hi : i < l.length) : nw (l.set i y) + W ^ i * l[i]?.getD 0 = nw l + W ^ i * y := by
  have e1 := nw_cut_le l i (by omega)
  have e2 := nw_cut_le (l.set i y) i (by rw [List.length_set]; omega)
  have e3 : (l.set i y).take i = l.take i := List.take_set_of_le (Nat.le_refl _)
  have e4 : (l.set i y).drop i = y :: l.drop (i + 1) := by
    rw [List.drop_set, if_neg (by omega), Nat.sub_self, List.drop_eq_getElem_cons hi, List.set_cons_zero]
  have e5 : l.drop i = l[i]?.getD 0 :: l.drop (i + 1) := by rw [List.drop_eq_getElem_cons hi, List.getElem?_eq_getElem hi]; rfl
  rw [e3, e4, nw_cons, Nat.mul_add] at e2
  rw [e5, nw_cons, Nat.mul_add] at e1
  omega

/-- What holds when the quotient's parts from j on are found. -/
structure DivInv (X Y L : Nat) (lf ql : List Nat) (j : Nat) : Prop where
  qlen : ql.length = L
  qs : Small ql
  ls : Small lf
  zero : ∀ t, t < j → ql[t]?.getD 0 = 0
  eq : nw ql * Y + nw lf = X
  lt : nw (lf.drop j) < Y

/-- What takeMost is handed: fewer than W times, and all that is left from there on. -/
theorem DivInv.seg {X Y L m i : Nat} {lf ql : List Nat} (h : DivInv X Y L lf ql (i + 1)) (hY : Y ≤ W ^ m) (hl : i + m + 1 ≤ lf.length) :
    nw ((lf.drop i).take (m + 1)) < W * Y ∧ nw (lf.drop i) = nw ((lf.drop i).take (m + 1)) ∧ nw (lf.drop (i + (m + 1))) = 0 := by
  have e5 : lf.drop i = lf[i]?.getD 0 :: lf.drop (i + 1) := by rw [List.drop_eq_getElem_cons (by omega), List.getElem?_eq_getElem (by omega)]; rfl
  have hd : nw (lf.drop i) < W * Y := by
    have h1 := h.lt
    have h2 := getD_lt h.ls i
    have h3 : W * (nw (lf.drop (i + 1)) + 1) ≤ W * Y := Nat.mul_le_mul_left _ h1
    rw [Nat.mul_add] at h3
    rw [e5, nw_cons]
    omega
  have hc := nw_cut_le (lf.drop i) (m + 1) (by rw [List.length_drop]; omega)
  rw [List.drop_drop] at hc
  have hz : nw (lf.drop (i + (m + 1))) = 0 := by
    rcases Nat.eq_zero_or_pos (nw (lf.drop (i + (m + 1)))) with e | e
    · exact e
    · have h4 : W ^ (m + 1) * 1 ≤ W ^ (m + 1) * nw (lf.drop (i + (m + 1))) := Nat.mul_le_mul_left _ e
      have h5 : W * Y ≤ W ^ (m + 1) := by rw [Nat.pow_succ, Nat.mul_comm]; exact Nat.mul_le_mul_right _ hY
      omega
  rw [hz, Nat.mul_zero, Nat.add_zero] at hc
  exact ⟨by omega, hc, hz⟩

theorem DivInv.step {X Y L m i : Nat} {lf ql seg : List Nat} (h : DivInv X Y L lf ql (i + 1)) (hY : Y ≤ W ^ m) (hl : i + m + 1 ≤ lf.length) (hi : i < L) (hY0 : 0 < Y)
    (hsl : seg.length = m + 1) (hss : Small seg) (hsn : nw seg = nw ((lf.drop i).take (m + 1)) % Y) :
    DivInv X Y L (lf.take i ++ seg ++ lf.drop (i + (m + 1))) (ql.set i (nw ((lf.drop i).take (m + 1)) / Y)) i := by
  obtain ⟨s1, s2, s3⟩ := h.seg hY hl
  have hti : (lf.take i).length = i := by rw [List.length_take]; omega
  generalize hS : nw ((lf.drop i).take (m + 1)) = S at *
  have hq : S / Y < W := Nat.div_lt_of_lt_mul (by rw [Nat.mul_comm]; exact s1)
  have hset := nw_set ql i (S / Y) (by rw [h.qlen]; exact hi)
  rw [h.zero i (by omega), Nat.mul_zero, Nat.add_zero] at hset
  have hdm := Nat.div_add_mod' S Y
  have hcut := nw_cut_le lf i (by omega)
  have hnl : nw (lf.take i ++ seg ++ lf.drop (i + (m + 1))) = nw (lf.take i) + W ^ i * (S % Y) := by
    rw [nw_append, s3, Nat.mul_zero, Nat.add_zero, nw_append, hti, hsn]
  refine ⟨by rw [List.length_set]; exact h.qlen, ?_, ?_, ?_, ?_, ?_⟩
  · intro x hx
    rcases List.mem_or_eq_of_mem_set hx with hx | rfl
    · exact h.qs x hx
    · exact hq
  · exact small_append (small_append (small_take h.ls i) hss) (small_drop h.ls _)
  · intro t ht
    rw [List.getElem?_set_ne (by omega)]
    exact h.zero t (by omega)
  · rw [hset, hnl, Nat.add_mul, ← h.eq, hcut, s2]
    have : W ^ i * S = W ^ i * (S / Y) * Y + W ^ i * (S % Y) := by rw [Nat.mul_assoc, ← Nat.mul_add, hdm]
    omega
  · rw [List.append_assoc, List.drop_append, hti, Nat.sub_self, List.drop_of_length_le (by omega), List.nil_append, List.drop_zero, nw_append, s3, Nat.mul_zero, Nat.add_zero, hsn]
    exact Nat.mod_lt _ hY0

theorem DivInv.start {X Y n m s : Nat} {lf xs : List Nat} (hm : 0 < m) (hmn : m ≤ n) (hs : Small lf) (hxn : xs.length = n) (hxs : Small xs) (hX : X = 2 ^ s * nw xs) (hlf : nw lf = X) (hll : lf.length = n + 1) (hY : 2 ^ s * W ^ (m - 1) ≤ Y) :
    DivInv X Y (n - m + 1) lf (List.replicate (n - m + 1) 0) (n - m + 1) := by
  refine ⟨by simp, small_zeros _, hs, fun t _ => by rw [List.getElem?_replicate]; split <;> rfl, by rw [nw_zeros, Nat.zero_mul, Nat.zero_add, hlf], ?_⟩
  have hc := nw_cut_le lf (n - m + 1) (by omega)
  have hlt : nw xs < W ^ n := by rw [← hxn]; exact nw_lt xs hxs
  have hp : 0 < 2 ^ s := Nat.pow_pos (by decide)
  have h1 : 2 ^ s * nw xs < 2 ^ s * W ^ n := Nat.mul_lt_mul_of_pos_left hlt hp
  have h2 : W ^ n = W ^ (n - m + 1) * W ^ (m - 1) := by rw [← Nat.pow_add]; congr 1; omega
  have h3 : W ^ (n - m + 1) * nw (lf.drop (n - m + 1)) < W ^ (n - m + 1) * (2 ^ s * W ^ (m - 1)) := by
    rw [Nat.mul_left_comm, ← h2]
    omega
  exact Nat.lt_of_lt_of_le (Nat.lt_of_mul_lt_mul_left h3) hY

theorem DivInv.stop {X Y L : Nat} {lf ql : List Nat} (h : DivInv X Y L lf ql 0) : nw ql = X / Y ∧ nw lf = X % Y := by
  have h1 := h.lt
  rw [List.drop_zero] at h1
  have h2 := h.eq
  have hY : 0 < Y := by omega
  constructor
  · rw [← h2, Nat.add_comm, Nat.add_mul_div_right _ _ hY, Nat.div_eq_of_lt h1, Nat.zero_add]
  · rw [← h2, Nat.add_comm, Nat.add_mul_mod_self_right, Nat.mod_eq_of_lt h1]

end Go.Proofs.Ytockhhleapbpiaa


/- divide of package nat: quotient and rest. -/
namespace Go.Proofs.Ytockhhleapbpiaa
open Go.RowKit

theorem bitLen_bounds (k : Nat) : ∀ x, x < 2 ^ k → k ≤ 32 → Lib.bitLen x ≤ k ∧ x < 2 ^ Lib.bitLen x := by
  induction k with
  | zero =>
    intro x h _
    have : x = 0 := by simpa using h
    subst this; exact ⟨Nat.le_refl _, by decide⟩
  | succ k ih =>
    intro x h hk
    by_cases h0 : x = 0
    · subst h0; exact ⟨Nat.zero_le _, by decide⟩
    · have hx64 : x < 2 ^ 64 := Nat.lt_of_lt_of_le h (Nat.pow_le_pow_right (by decide) (by omega))
      have e := Lib.bitLen_half x h0 hx64
      obtain ⟨i1, i2⟩ := ih (x / 2) (Nat.div_lt_of_lt_mul (by rw [Nat.pow_succ] at h; omega)) (by omega)
      rw [e]
      refine ⟨by omega, ?_⟩
      rw [Nat.add_comm, Nat.pow_succ]
      omega
theorem bitLen_pos (x : Nat) (h0 : x ≠ 0) (h : x < 4294967296) : 1 ≤ Lib.bitLen x := by
  have := Lib.bitLen_half x h0 (by omega)
  omega

/-- The shifted divisor has as many parts as the divisor. -/
theorem by_length (ys : List Nat) (s : Nat) (hs : Small ys) (hpos : 0 < ys.length) (hlast : ys[ys.length - 1]?.getD 0 ≠ 0) (hfit : 2 ^ s * (ys[ys.length - 1]?.getD 0 + 1) ≤ W) :
    (words (2 ^ s * nw ys)).length = ys.length ∧ 2 ^ s * W ^ (ys.length - 1) ≤ 2 ^ s * nw ys ∧ 2 ^ s * nw ys ≤ W ^ ys.length := by
  obtain ⟨d, hd⟩ : ∃ d, ys.length = d + 1 := ⟨ys.length - 1, by omega⟩
  rw [hd, Nat.add_sub_cancel] at hlast hfit ⊢
  have ey := nw_cut_le ys d (by omega)
  have hy2 : ys.drop d = [ys[d]?.getD 0] := by
    rw [List.drop_eq_getElem_cons (by omega), List.drop_of_length_le (by omega), List.getElem?_eq_getElem (by omega)]; rfl
  rw [hy2, nw_cons, nw_nil, Nat.mul_zero, Nat.add_zero] at ey
  have hlt := nw_lt (ys.take d) (small_take hs d)
  rw [List.length_take, Nat.min_eq_left (by omega)] at hlt
  generalize ys[d]?.getD 0 = y at *
  have hp : 0 < 2 ^ s := Nat.pow_pos (by decide)
  have h1 : W ^ d * 1 ≤ W ^ d * y := Nat.mul_le_mul_left _ (Nat.pos_of_ne_zero hlast)
  have hlow : W ^ d ≤ nw ys := by omega
  have hhigh : nw ys < W ^ d * (y + 1) := by rw [Nat.mul_add]; omega
  have h2 : 2 ^ s * nw ys < 2 ^ s * (W ^ d * (y + 1)) := Nat.mul_lt_mul_of_pos_left hhigh hp
  have h3 : 2 ^ s * (W ^ d * (y + 1)) ≤ W ^ d * W := by rw [Nat.mul_left_comm]; exact Nat.mul_le_mul_left _ hfit
  have h4 : 2 ^ s * nw ys < W ^ (d + 1) := by rw [Nat.pow_succ]; omega
  have h5 : W ^ d ≤ 2 ^ s * nw ys := Nat.le_trans hlow (Nat.le_mul_of_pos_left _ hp)
  refine ⟨?_, Nat.mul_le_mul_left _ hlow, by omega⟩
  have hw := nw_words (2 ^ s * nw ys)
  have hsm := words_small (2 ^ s * nw ys)
  have hub := nw_lt _ hsm
  rw [hw] at hub
  have hlb : (words (2 ^ s * nw ys)).length ≤ d + 1 := by
    obtain ⟨k, hk, e⟩ := words_prefix (words (2 ^ s * nw ys) ++ List.replicate 0 0) (by simpa using hsm)
    have hne : words (2 ^ s * nw ys) ≠ [] := fun e => by rw [words_nil_iff] at e; have : 0 < W ^ d := Nat.pow_pos W_pos; omega
    have hl := words_last _ hne
    rcases Nat.lt_or_ge (d + 1) (words (2 ^ s * nw ys)).length with c | c
    · exfalso
      generalize words (2 ^ s * nw ys) = l at *
      obtain ⟨z, hz⟩ : ∃ z, l.length = z + 1 := ⟨l.length - 1, by omega⟩
      have ec := nw_cut_le l z (by omega)
      rw [List.getLast_eq_getElem] at hl
      have hz2 : l.drop z = [l[z]'(by omega)] := by rw [List.drop_eq_getElem_cons (by omega), List.drop_of_length_le (by omega)]
      simp only [hz, Nat.add_sub_cancel] at hl
      rw [hz2, nw_cons, nw_nil, Nat.mul_zero, Nat.add_zero] at ec
      have h6 : W ^ z * 1 ≤ W ^ z * l[z]'(by omega) := Nat.mul_le_mul_left _ (Nat.pos_of_ne_zero hl)
      have h7 : W ^ (d + 1) ≤ W ^ z := Nat.pow_le_pow_right W_pos (by omega)
      omega
    · exact c
  rcases Nat.lt_or_ge (words (2 ^ s * nw ys)).length (d + 1) with c | c
  · have : W ^ (words (2 ^ s * nw ys)).length ≤ W ^ d := Nat.pow_le_pow_right W_pos (by omega)
    omega
  · omega

end Go.Proofs.Ytockhhleapbpiaa


/- divide of package nat, where the dividend has no fewer parts than the divisor. -/
namespace Go.Proofs.Ytockhhleapbpiaa
open Go.RowKit

theorem words_last_get (n : Nat) (h : 0 < (words n).length) : (words n)[(words n).length - 1]?.getD 0 ≠ 0 := by
  have hne : words n ≠ [] := List.length_pos_iff.1 h
  have := words_last n hne
  rw [List.getLast_eq_getElem] at this
  rwa [List.getElem?_eq_getElem (by omega)]

end Go.Proofs.Ytockhhleapbpiaa


/- divide, Div and Gcd of package nat. -/
namespace Go.Proofs.Ytockhhleapbpiaa
open Go.RowKit

theorem words_some {n : Nat} (h : n ≠ 0) : 0 < (words n).length := by
  rcases Nat.eq_zero_or_pos (words n).length with e | e
  · exact absurd ((words_nil_iff n).1 (List.eq_nil_of_length_eq_zero e)) h
  · exact e
theorem lt_of_words_lt {x y : Nat} (h : (words x).length < (words y).length) : x < y := by
  have hpos : 0 < (words y).length := by omega
  have hb := getD_lt (words_small y) ((words y).length - 1)
  have h1 := (by_length (words y) 0 (words_small y) hpos (words_last_get y hpos) (by rw [Nat.pow_zero, Nat.one_mul]; exact hb)).2.1
  rw [Nat.pow_zero, Nat.one_mul, Nat.one_mul, nw_words] at h1
  have h2 := nw_lt (words x) (words_small x)
  rw [nw_words] at h2
  have h3 : W ^ (words x).length ≤ W ^ ((words y).length - 1) := Nat.pow_le_pow_right W_pos (by omega)
  omega
theorem words_len_mono {x y : Nat} (h : x ≤ y) : (words x).length ≤ (words y).length := by
  rcases Nat.lt_or_ge (words y).length (words x).length with c | c
  · have := lt_of_words_lt c; omega
  · exact c
theorem lt_of_two {x : Nat} (h : (words x).length ≤ 2) : x < 18446744073709551616 := by
  have h2 := nw_lt (words x) (words_small x)
  rw [nw_words] at h2
  have h3 : W ^ (words x).length ≤ W ^ 2 := Nat.pow_le_pow_right W_pos h
  have h4 : W ^ 2 = 18446744073709551616 := by rw [W_eq]
  omega

end Go.Proofs.Ytockhhleapbpiaa


/- The face of package nat: what each call answers, told by the number that it makes. -/
namespace Go.Proofs.Ytockhhleapbpiaa
open Go.RowKit

theorem bn_fits (k : Nat) : ∀ n, n < 256 ^ k → (bn n).length ≤ k := by
  induction k with
  | zero =>
    intro n h
    have : n = 0 := by simpa using h
    subst this; simp [bn_zero]
  | succ k ih =>
    intro n h
    by_cases e : n = 0
    · subst e; simp [bn_zero]
    · rw [bn_pos n e, List.length_append, List.length_singleton]
      have := ih (n / 256) (Nat.div_lt_of_lt_mul (by rw [Nat.pow_succ] at h; omega))
      omega
theorem B_lt (n : Nat) : n < 256 ^ (B n).size := by
  have := nb_lt (bn n)
  rwa [nb_bn, ← B_size] at this
theorem sz_mono {m n : Nat} (h : m ≤ n) : (B m).size ≤ (B n).size := by
  rw [B_size m]
  exact bn_fits _ _ (Nat.lt_of_le_of_lt h (B_lt n))
theorem sz_mul (m n : Nat) : (B (m * n)).size ≤ (B m).size + (B n).size := by
  rw [B_size (m * n)]
  refine bn_fits _ _ ?_
  rw [Nat.pow_add]
  exact Nat.mul_lt_mul'' (B_lt m) (B_lt n)
theorem sz_add (m n : Nat) : (B (m + n)).size ≤ (B m).size + (B n).size + 1 := by
  rw [B_size (m + n)]
  refine bn_fits _ _ ?_
  have h1 := B_lt m
  have h2 := B_lt n
  have h3 : 256 ^ (B m).size ≤ 256 ^ ((B m).size + (B n).size) := Nat.pow_le_pow_right (by decide) (by omega)
  have h4 : 256 ^ (B n).size ≤ 256 ^ ((B m).size + (B n).size) := Nat.pow_le_pow_right (by decide) (by omega)
  rw [Nat.pow_succ]
  omega
theorem B_zero : B 0 = ⟨#[]⟩ := by rw [B, bn_zero]
theorem N_empty : N ⟨#[]⟩ = 0 := rfl
theorem B_inj {m n : Nat} (h : B m = B n) : m = n := by rw [← N_B m, h, N_B]
theorem B_some {n : Nat} (h : n ≠ 0) : B n ≠ ⟨#[]⟩ := fun e => h (by rw [← N_B n, e, N_empty])
theorem B_full {n : Nat} (h : n ≠ 0) : (B n).toList.isEmpty = false := by
  cases e : (B n).toList with
  | cons => rfl
  | nil =>
    rw [Lib.toList_data] at e
    have h2 : (B n).size = 0 := by rw [ByteArray.size, ← Array.length_toList, e]; rfl
    have h3 := B_lt n
    rw [h2] at h3
    omega
theorem bytes_len (s : ByteArray) : s.data.toList.length = s.size := by rw [Array.length_toList]; rfl
theorem B_one_size : (B 1).size ≤ 1 := by rw [B_size]; exact bn_fits 1 1 (by decide)

theorem under {P : Program} {f : FuncId} {args : Array Value} {w0 w : World} {X : Ending} (hB : Below w0.heap.size w0 w) (h : Calls P f args w fun e w' => e = X ∧ Below w.heap.size w w') : Calls P f args w fun e w' => e = X ∧ Below w0.heap.size w0 w' :=
  h.mono fun _ _ ⟨h1, h2⟩ => ⟨h1, hB.trans (h2.mono hB.size)⟩
theorem under_same {P : Program} {f : FuncId} {args : Array Value} {w0 w : World} {X : Ending} (hB : Below w0.heap.size w0 w) (h : Calls P f args w fun e w' => e = X ∧ w' = w) : Calls P f args w fun e w' => e = X ∧ Below w0.heap.size w0 w' :=
  h.mono fun _ _ ⟨h1, h2⟩ => ⟨h1, by rw [h2]; exact hB⟩

end Go.Proofs.Ytockhhleapbpiaa


/- Plain facts on digits of base 256, lowest first, and on leading zeros. -/
namespace Go.Proofs.Ytockhhleapbpiaa

/-- What digits of base 256 stand for, the lowest first. -/
def nd : List Nat → Nat
  | [] => 0
  | x :: r => x + 256 * nd r
theorem nd_nil : nd [] = 0 := rfl
theorem nd_cons (x : Nat) (r : List Nat) : nd (x :: r) = x + 256 * nd r := rfl
theorem nd_zeros (n : Nat) : nd (List.replicate n 0) = 0 := by
  induction n with
  | zero => rfl
  | succ n ih => rw [List.replicate_succ, nd_cons, ih]
theorem nd_set (l : List Nat) : ∀ (j y : Nat) (h : j < l.length), nd (l.set j y) + l[j] * 256 ^ j = nd l + y * 256 ^ j := by
  induction l with
  | nil => intro j y h; exact absurd h (Nat.not_lt_zero _)
  | cons x r ih =>
    intro j y h
    cases j with
    | zero => simp only [List.set_cons_zero, nd_cons, List.getElem_cons_zero, Nat.pow_zero, Nat.mul_one]; omega
    | succ j =>
      have hj : j < r.length := by simpa using h
      have := ih j y hj
      simp only [List.set_cons_succ, nd_cons, List.getElem_cons_succ, Nat.pow_succ]
      have e1 : r[j] * (256 ^ j * 256) = 256 * (r[j] * 256 ^ j) := by rw [← Nat.mul_assoc, Nat.mul_comm]
      have e2 : y * (256 ^ j * 256) = 256 * (y * 256 ^ j) := by rw [← Nat.mul_assoc, Nat.mul_comm]
      rw [e1, e2]
      omega
theorem nd_append (a b : List Nat) : nd (a ++ b) = nd a + 256 ^ a.length * nd b := by
  induction a with
  | nil => simp [nd_nil]
  | cons x r ih => rw [List.cons_append, nd_cons, nd_cons, ih, List.length_cons, Nat.pow_succ, Nat.mul_add, Nat.mul_comm (256 ^ r.length) 256, Nat.mul_assoc, Nat.add_assoc]
theorem nd_snoc (a : List Nat) (x : Nat) : nd (a ++ [x]) = nd a + 256 ^ a.length * x := by rw [nd_append, nd_cons, nd_nil]; simp
/-- Every digit is below 256. -/
def Dig (l : List Nat) : Prop := ∀ x ∈ l, x < 256
theorem dig_zeros (n : Nat) : Dig (List.replicate n 0) := fun x hx => by rw [(List.mem_replicate.1 hx).2]; decide
theorem dig_set {l : List Nat} (h : Dig l) (j y : Nat) (hy : y < 256) : Dig (l.set j y) := fun x hx => by
  rcases List.mem_or_eq_of_mem_set hx with h1 | h1
  · exact h x h1
  · rw [h1]; exact hy
theorem nd_lt (l : List Nat) (h : Dig l) : nd l < 256 ^ l.length := by
  induction l with
  | nil => decide
  | cons x r ih =>
    have h1 := ih fun y hy => h y (List.mem_cons_of_mem _ hy)
    have h2 := h x List.mem_cons_self
    rw [nd_cons, List.length_cons, Nat.pow_succ]
    omega
/-- The bytes that pack writes: the digits, turned about. -/
def rb (l : List Nat) : List UInt8 := l.reverse.map UInt8.ofNat
theorem nb_rb (l : List Nat) (h : Dig l) : nb (rb l) = nd l := by
  induction l with
  | nil => rfl
  | cons x r ih =>
    have h1 := ih fun y hy => h y (List.mem_cons_of_mem _ hy)
    have h2 := h x List.mem_cons_self
    have : rb (x :: r) = rb r ++ [UInt8.ofNat x] := by simp [rb]
    rw [this, nb_snoc, h1, nd_cons]
    have : (UInt8.ofNat x).toNat = x := by simp; omega
    omega

/-- The digit at a place from the end. -/
theorem nb_digit (l : List UInt8) (i : Nat) (h : i < l.length) : nb l / 256 ^ i % 256 = (l[l.length - 1 - i]'(by omega)).toNat := by
  have e : l = l.take (l.length - 1 - i) ++ (l[l.length - 1 - i]'(by omega) :: l.drop (l.length - i)) := by
    have h1 := List.take_append_drop (l.length - 1 - i) l
    have h2 : l.drop (l.length - 1 - i) = l[l.length - 1 - i]'(by omega) :: l.drop (l.length - 1 - i + 1) := List.drop_eq_getElem_cons (by omega)
    rw [h2, show l.length - 1 - i + 1 = l.length - i by omega] at h1
    exact h1.symm
  have hl : (l.drop (l.length - i)).length = i := by rw [List.length_drop]; omega
  have hlt := nb_lt (l.drop (l.length - i))
  rw [hl] at hlt
  have hn : nb l = (nb (l.take (l.length - 1 - i)) * 256 + (l[l.length - 1 - i]'(by omega)).toNat) * 256 ^ i + nb (l.drop (l.length - i)) := by
    conv => lhs; rw [e]
    rw [nb_append, nb_cons, List.length_cons, hl, Nat.pow_succ, Nat.add_mul, Nat.mul_assoc, Nat.mul_comm 256 (256 ^ i), Nat.add_assoc]
  generalize (l[l.length - 1 - i]'(by omega)) = c at *
  generalize nb (l.take (l.length - 1 - i)) = p at *
  have hc := c.toNat_lt
  rw [hn, Nat.mul_comm, Nat.mul_add_div (Nat.pow_pos (by decide)), Nat.div_eq_of_lt hlt, Nat.add_zero]
  omega
theorem nb_digit0 (l : List UInt8) (i : Nat) (h : l.length ≤ i) : nb l / 256 ^ i % 256 = 0 := by
  rw [Nat.div_eq_of_lt (Nat.lt_of_lt_of_le (nb_lt l) (Nat.pow_le_pow_right (by decide) h))]

/-- Leading zeros away. -/
theorem drop_zeros (l : List UInt8) : ∀ k, k ≤ l.length → (l.take k).all (· == 0) = true → (∀ h : k < l.length, l[k] ≠ 0) → l.dropWhile (· == 0) = l.drop k := by
  induction l with
  | nil => intro k _ _ _; simp
  | cons x r ih =>
    intro k hk h0 h1
    cases k with
    | zero =>
      have : x ≠ 0 := h1 (by simp)
      rw [List.dropWhile_cons, if_neg (by simpa using this), List.drop_zero]
    | succ k =>
      simp only [List.take_succ_cons, List.all_cons, Bool.and_eq_true] at h0
      rw [List.dropWhile_cons, if_pos h0.1, List.drop_succ_cons]
      exact ih k (by simpa using hk) h0.2 (fun h => by have := h1 (by simpa using h); simpa using this)
theorem mod_step (n k : Nat) : n % 256 ^ (k + 1) = n % 256 ^ k + 256 ^ k * (n / 256 ^ k % 256) := by
  rw [Nat.pow_succ, Nat.mod_mul]
end Go.Proofs.Ytockhhleapbpiaa


/- The document's answer: Trim, digit and the comparison. -/
namespace Go.Proofs.Ytockhhleapbpiaa
open Go.RowKit

theorem trim_at (s : ByteArray) (k : Nat) (hk : k ≤ s.size) (h0 : (s.data.toList.take k).all (· == 0) = true) (h1 : ∀ h : k < s.size, s[k].toNat ≠ 0) : s.extract k s.size = B (N s) := by
  have e : s.data.toList.dropWhile (· == 0) = s.data.toList.drop k := drop_zeros _ k (by simpa using hk) h0 (fun h hz => h1 (by simpa using h) (by
    have : s[k]'(by simpa using h) = s.data.toList[k] := rfl
    rw [this, hz]; rfl))
  apply ByteArray.ext
  apply Array.toList_inj.1
  rw [B, N, bn_nb, e]
  show (s.extract k s.size).data.toList = _
  rw [ByteArray.data_extract, Array.toList_extract]
  simp [List.take_of_length_le]

theorem wrap64_small (n : Nat) (h : n < 256) : wrap64 (n : Int) = (n : Int) := by
  rw [wrap64]
  omega

def iv (x : Nat) : Value := .int .i64 (x : Int)
/-- The block g holds these ints. -/
def RowI (w : World) (g : Nat) (l : List Nat) : Prop := w.heap[g]? = some (.cells (l.map iv).toArray 3 (0, 0))
theorem RowI.cell {w : World} {g : Nat} {l : List Nat} (h : RowI w g l) (j : Nat) (hj : j < l.length) : w.cell? ⟨g, j, none⟩ = some (.int .i64 (l[j] : Nat)) := by
  rw [cell_of_row w g j _ _ (0, 0) h]
  simp [iv, hj]
theorem RowI.fz {w : World} {g : Nat} {l : List Nat} (h : RowI w g l) (j : Nat) : w.frozen? ⟨g, j, none⟩ = false := frozen_of_row w g j _ _ h
theorem RowI.lt {w : World} {g : Nat} {l : List Nat} (h : RowI w g l) : g < w.heap.size := (Array.getElem?_eq_some_iff.1 h).1
theorem RowI.below {w w' : World} {g b : Nat} {l : List Nat} (h : RowI w g l) (hb : Below b w w') (hg : g < b) : RowI w' g l := (hb.block g hg).trans h
theorem RowI.set {w : World} {g : Nat} {l : List Nat} (h : RowI w g l) (j y : Nat) : RowI (w.setCell ⟨g, j, none⟩ (.int .i64 (y : Int))) g (l.set j y) := by
  have := heap_setCell_same w g j _ _ (.int .i64 (y : Int)) h
  rw [RowI, List.map_set]
  simpa [iv] using this
theorem RowI.drew {w : World} {g : Nat} {l : List Nat} (h : RowI w g l) : RowI w.drew g l := h

/-- What pack has written when k digits are read. -/
def packI (l : List Nat) (k : Nat) : List Int := List.replicate (l.length - k) 0 ++ ((l.take k).reverse.map Int.ofNat)
theorem packI_zero (l : List Nat) : packI l 0 = List.replicate l.length 0 := by simp [packI]
theorem packI_length (l : List Nat) (k : Nat) (hk : k ≤ l.length) : (packI l k).length = l.length := by simp [packI]; omega
theorem packI_set (l : List Nat) (k : Nat) (hk : k < l.length) : (packI l k).set (l.length - 1 - k) (l[k] : Int) = packI l (k + 1) := by
  have h1 : l.length - k = (l.length - 1 - k) + 1 := by omega
  have h2 : List.replicate (l.length - k) (0 : Int) = List.replicate (l.length - 1 - k) 0 ++ [0] := by rw [h1, List.replicate_succ']
  have h3 : l.length - (k + 1) = l.length - 1 - k := by omega
  rw [packI, packI, h2, List.append_assoc, List.set_append_right _ _ (by simp), h3]
  rw [List.length_replicate, Nat.sub_self, List.cons_append, List.nil_append, List.set_cons_zero, List.take_succ_eq_append_getElem hk, List.reverse_append, List.reverse_singleton, List.map_append]
  rfl
theorem packI_all (l : List Nat) : packI l l.length = l.reverse.map Int.ofNat := by simp [packI]
theorem N_pack (l : List Nat) (h : Dig l) : N (strOfNums (l.reverse.map Int.ofNat)) = nd l := by
  rw [N, strOfNums_data, ← nb_rb l h, rb]
  congr 1
  simp [Function.comp_def]
theorem made_ints (n : Nat) : (madeCells (Value.int .i64 0).cells (n * 1)).toList = (List.replicate n (0 : Nat)).map iv := by
  rw [show (Value.int .i64 0).cells = #[Value.int .i64 0] from rfl, toList_madeCells_one, Nat.mul_one, List.map_replicate]; rfl
theorem Try.infoInt : (Try.prog.info? 3).map (fun i => (i.zero, i.size, i.bytes)) = some (some (.int .i64 0), 1, 8) := by kernel_rfl

end Go.Proofs.Ytockhhleapbpiaa

