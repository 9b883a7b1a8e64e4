/- The document's answer: NatAdd. -/
import Derived.Test.YtockhhleapbpiaaNumJToRefA
import Derived.BigQuiet
import Derived.Deep.RegionHeld3
import Derived.Deep.CutRange
import Derived.Laws.Rows
import Derived.Laws.ResultCell
namespace Go.Proofs.Ytockhhleapbpiaa
open Go.RowKit

theorem carry_step (v P : Nat) : v % 256 * P + v / 256 * (P * 256) = v * P := by
  have h : v = v / 256 * 256 + v % 256 := by omega
  conv => rhs; rw [h, Nat.add_mul, Nat.mul_assoc, Nat.mul_comm 256 P]
  omega
theorem add_step {A D k c : Nat} {p : List Nat} (hk : k < p.length) (h0 : p[k]?.getD 0 = 0) (h : nd p + c * 256 ^ k = A % 256 ^ k + D % 256 ^ k) :
    nd (p.set k ((c + A / 256 ^ k % 256 + D / 256 ^ k % 256) % 256)) + (c + A / 256 ^ k % 256 + D / 256 ^ k % 256) / 256 * 256 ^ (k + 1) = A % 256 ^ (k + 1) + D % 256 ^ (k + 1) := by
  have s := nd_set p k ((c + A / 256 ^ k % 256 + D / 256 ^ k % 256) % 256) hk
  have h0' : p[k] = 0 := by rwa [List.getElem?_eq_getElem hk] at h0
  rw [h0', Nat.zero_mul, Nat.add_zero] at s
  rw [s, mod_step, mod_step D, Nat.pow_succ]
  have := carry_step (c + A / 256 ^ k % 256 + D / 256 ^ k % 256) (256 ^ k)
  have e : (c + A / 256 ^ k % 256 + D / 256 ^ k % 256) * 256 ^ k = c * 256 ^ k + 256 ^ k * (A / 256 ^ k % 256) + 256 ^ k * (D / 256 ^ k % 256) := by
    rw [Nat.add_mul, Nat.add_mul, Nat.mul_comm (A / 256 ^ k % 256), Nat.mul_comm (D / 256 ^ k % 256)]
  omega
theorem set_getD {p : List Nat} {k y : Nat} (h : ∀ j, k ≤ j → p[j]?.getD 0 = 0) : ∀ j, k + 1 ≤ j → (p.set k y)[j]?.getD 0 = 0 := fun j hj => by
  rw [List.getElem?_set_ne (by omega)]
  exact h j (by omega)
theorem add_end {A D n c : Nat} {p : List Nat} (hA : A < 256 ^ n) (hD : D < 256 ^ n) (h : nd p + c * 256 ^ (n + 1) = A % 256 ^ (n + 1) + D % 256 ^ (n + 1)) : nd p = A + D := by
  have hp : 256 ^ (n + 1) = 256 * 256 ^ n := by rw [Nat.pow_succ, Nat.mul_comm]
  rw [Nat.mod_eq_of_lt (by omega), Nat.mod_eq_of_lt (by omega)] at h
  have hc : c = 0 := by
    rcases Nat.eq_zero_or_pos c with h0 | h0
    · exact h0
    · have : 1 * 256 ^ (n + 1) ≤ c * 256 ^ (n + 1) := Nat.mul_le_mul_right _ h0
      omega
  rw [hc] at h
  omega
theorem N_lt (s : ByteArray) : N s < 256 ^ s.size := by
  have := nb_lt s.data.toList
  rwa [bytes_len] at this

theorem below_dr {b : Nat} {v u : World} (h : Below b v u) (k : Nat) : Below b v (u.drewN k) := ⟨h.os, h.tape, h.output, h.size, h.block⟩
theorem lt_of_digit (a b : ByteArray) (k : Nat) (ha : k < a.size) (hb : k < b.size) (hl : a.size = b.size) (hp : a.data.toList.take k = b.data.toList.take k) (h : a[k].toNat < b[k].toNat) : N a < N b := by
  have ea : a.data.toList = a.data.toList.take k ++ (a[k] :: a.data.toList.drop (k + 1)) := by
    have hd : a.data.toList.drop k = a[k] :: a.data.toList.drop (k + 1) := List.drop_eq_getElem_cons (l := a.data.toList) (i := k) (by simpa using ha)
    rw [← hd, List.take_append_drop]
  have eb : b.data.toList = b.data.toList.take k ++ (b[k] :: b.data.toList.drop (k + 1)) := by
    have hd : b.data.toList.drop k = b[k] :: b.data.toList.drop (k + 1) := List.drop_eq_getElem_cons (l := b.data.toList) (i := k) (by simpa using hb)
    rw [← hd, List.take_append_drop]
  rw [N, N, ea, eb, hp, nb_append, nb_append, nb_cons, nb_cons]
  have l1 : (a.data.toList.drop (k + 1)).length = a.size - (k + 1) := by rw [List.length_drop, bytes_len]
  have l2 : (b.data.toList.drop (k + 1)).length = a.size - (k + 1) := by rw [List.length_drop, bytes_len, hl]
  have b1 := nb_lt (a.data.toList.drop (k + 1))
  rw [l1] at b1
  rw [List.length_cons, List.length_cons, l1, l2]
  have hm : (a[k].toNat + 1) * 256 ^ (a.size - (k + 1)) ≤ b[k].toNat * 256 ^ (a.size - (k + 1)) := Nat.mul_le_mul_right _ h
  rw [Nat.add_mul, Nat.one_mul] at hm
  omega
theorem lt_of_size {m n : Nat} (h : (B m).size < (B n).size) : m < n := by
  rcases Nat.lt_or_ge m n with h1 | h1
  · exact h1
  · have := sz_mono h1; omega
theorem cmpI_lt {m n : Nat} (h : m < n) : cmpI m n = -1 := if_pos h
theorem cmpI_gt {m n : Nat} (h : n < m) : cmpI m n = 1 := by rw [cmpI, if_neg (by omega), if_neg (by omega)]
theorem cmpI_eq {m n : Nat} (h : m = n) : cmpI m n = 0 := by rw [cmpI, if_neg (by omega), if_pos h]
theorem eq_of_all {m n : Nat} (hl : (B m).size = (B n).size) (hp : (B m).data.toList.take (B m).size = (B n).data.toList.take (B m).size) : m = n := by
  rw [List.take_of_length_le (by rw [bytes_len]; exact Nat.le_refl _), List.take_of_length_le (by rw [bytes_len, hl]; exact Nat.le_refl _)] at hp
  exact B_inj (ByteArray.ext (Array.toList_inj.1 hp))

end Go.Proofs.Ytockhhleapbpiaa


/- The document's answer: NatSub. -/
namespace Go.Proofs.Ytockhhleapbpiaa
open Go.RowKit

theorem sub_step {A D k c y : Nat} {p : List Nat} (hk : k < p.length) (h0 : p[k]?.getD 0 = 0) (h : nd p + D % 256 ^ k = A % 256 ^ k + c * 256 ^ k) (c' : Nat) (hy : A / 256 ^ k % 256 + c' * 256 = y + D / 256 ^ k % 256 + c) :
    nd (p.set k y) + D % 256 ^ (k + 1) = A % 256 ^ (k + 1) + c' * 256 ^ (k + 1) := by
  have s := nd_set p k y hk
  have h0' : p[k] = 0 := by rwa [List.getElem?_eq_getElem hk] at h0
  rw [h0', Nat.zero_mul, Nat.add_zero] at s
  rw [s, mod_step, mod_step A, Nat.pow_succ]
  have e := congrArg (fun z => z * 256 ^ k) hy
  simp only [Nat.add_mul] at e
  have e1 : c' * 256 * 256 ^ k = c' * (256 ^ k * 256) := by rw [Nat.mul_assoc, Nat.mul_comm 256]
  rw [e1] at e
  rw [Nat.mul_comm (256 ^ k) (D / 256 ^ k % 256), Nat.mul_comm (256 ^ k) (A / 256 ^ k % 256)]
  omega
theorem cmpI_ge {m n : Nat} (h : n ≤ m) : 0 ≤ cmpI m n := by
  rw [cmpI, if_neg (by omega)]
  split <;> decide
theorem sub_end {A D n c : Nat} {p : List Nat} (hA : A < 256 ^ n) (hD : D ≤ A) (hp : nd p < 256 ^ n) (h : nd p + D % 256 ^ n = A % 256 ^ n + c * 256 ^ n) : nd p = A - D := by
  rw [Nat.mod_eq_of_lt hA, Nat.mod_eq_of_lt (by omega)] at h
  have hc : c = 0 := by
    rcases Nat.eq_zero_or_pos c with h0 | h0
    · exact h0
    · have : 1 * 256 ^ n ≤ c * 256 ^ n := Nat.mul_le_mul_right _ h0
      omega
  rw [hc] at h
  omega

end Go.Proofs.Ytockhhleapbpiaa


/- The document's answer: short and NatInt. -/
namespace Go.Proofs.Ytockhhleapbpiaa
open Go.RowKit

theorem nb_take_le (l : List UInt8) (k : Nat) : nb (l.take k) ≤ nb l := by
  conv => rhs; rw [← List.take_append_drop k l, nb_append]
  have : nb (l.take k) * 1 ≤ nb (l.take k) * 256 ^ (l.drop k).length := Nat.mul_le_mul_left _ (Nat.pow_pos (by decide))
  omega
theorem nb_take_succ (s : ByteArray) (k : Nat) (h : k < s.size) : nb (s.data.toList.take (k + 1)) = nb (s.data.toList.take k) * 256 + s[k].toNat := by
  rw [take_snoc s k h, nb_snoc]
theorem nb_take_all (s : ByteArray) : nb (s.data.toList.take s.size) = N s := by
  rw [List.take_of_length_le (by rw [bytes_len]; exact Nat.le_refl _), N]

theorem N_first (s : ByteArray) (h : s.size = 8) : s[0].toNat * 72057594037927936 ≤ N s ∧ N s < (s[0].toNat + 1) * 72057594037927936 := by
  have e : s.data.toList = s[0] :: s.data.toList.drop 1 := List.drop_eq_getElem_cons (l := s.data.toList) (i := 0) (by rw [bytes_len]; omega)
  have hl : (s.data.toList.drop 1).length = 7 := by rw [List.length_drop, bytes_len]; omega
  have hb := nb_lt (s.data.toList.drop 1)
  rw [hl] at hb
  rw [N, e, nb_cons, hl]
  have : (256 : Nat) ^ 7 = 72057594037927936 := by decide
  rw [this] at hb ⊢
  omega
theorem big_of (m : Nat) (h : 8 < (B m).size) : 18446744073709551616 ≤ m := by
  rcases Nat.lt_or_ge m 18446744073709551616 with h1 | h1
  · have := bn_fits 8 m h1
    rw [← B_size] at this
    omega
  · exact h1
theorem small_of (m : Nat) (h : (B m).size ≤ 7) : m < 72057594037927936 := Nat.lt_of_lt_of_le (B_lt m) (Nat.pow_le_pow_right (by decide) h)

end Go.Proofs.Ytockhhleapbpiaa


/- The document's answer: NatMul. -/
namespace Go.Proofs.Ytockhhleapbpiaa
open Go.RowKit

theorem mul_step {M D k m c x y : Nat} {p : List Nat} (hk : k + m < p.length) (h : nd p + c * 256 ^ (k + m) = M + x * 256 ^ k * (D % 256 ^ m)) (hy : D / 256 ^ m % 256 = y) :
    nd (p.set (k + m) ((c + p[k + m] + x * y) % 256)) + (c + p[k + m] + x * y) / 256 * 256 ^ (k + (m + 1)) = M + x * 256 ^ k * (D % 256 ^ (m + 1)) := by
  have s := nd_set p (k + m) ((c + p[k + m] + x * y) % 256) hk
  have t := carry_step (c + p[k + m] + x * y) (256 ^ (k + m))
  have e : (c + p[k + m] + x * y) * 256 ^ (k + m) = c * 256 ^ (k + m) + p[k + m] * 256 ^ (k + m) + x * y * 256 ^ (k + m) := by rw [Nat.add_mul, Nat.add_mul]
  have f : x * 256 ^ k * (D % 256 ^ (m + 1)) = x * 256 ^ k * (D % 256 ^ m) + x * y * 256 ^ (k + m) := by
    rw [mod_step, hy, Nat.mul_add, Nat.pow_add]
    congr 1
    rw [Nat.mul_assoc, Nat.mul_assoc, Nat.mul_comm y, Nat.mul_assoc]
  rw [f, show k + (m + 1) = k + m + 1 by omega, Nat.pow_succ]
  omega
theorem nd_ge (l : List Nat) : ∀ (j : Nat) (h : j < l.length), l[j] * 256 ^ j ≤ nd l := by
  induction l with
  | nil => intro j h; exact absurd h (Nat.not_lt_zero _)
  | cons x r ih =>
    intro j h
    cases j with
    | zero => simp only [List.getElem_cons_zero, Nat.pow_zero, Nat.mul_one, nd_cons]; omega
    | succ j =>
      have hj : j < r.length := by simpa using h
      have := ih j hj
      rw [List.getElem_cons_succ, nd_cons, Nat.pow_succ, ← Nat.mul_assoc]
      omega
theorem mul_row {A D k lb c x : Nat} {p : List Nat} (hk : k + lb < p.length) (hD : D < 256 ^ lb) (hx : A / 256 ^ k % 256 = x) (h : nd p + c * 256 ^ (k + lb) = A % 256 ^ k * D + x * 256 ^ k * (D % 256 ^ lb)) :
    nd (p.set (k + lb) (p[k + lb] + c)) = A % 256 ^ (k + 1) * D ∧ p[k + lb] + c < 256 := by
  have s := nd_set p (k + lb) (p[k + lb] + c) hk
  rw [Nat.mod_eq_of_lt hD] at h
  have f : A % 256 ^ (k + 1) * D = A % 256 ^ k * D + x * 256 ^ k * D := by rw [mod_step, hx, Nat.add_mul, Nat.mul_comm (256 ^ k) x]
  have e : (p[k + lb] + c) * 256 ^ (k + lb) = p[k + lb] * 256 ^ (k + lb) + c * 256 ^ (k + lb) := Nat.add_mul _ _ _
  have hn : nd (p.set (k + lb) (p[k + lb] + c)) = A % 256 ^ (k + 1) * D := by rw [f]; omega
  refine ⟨hn, ?_⟩
  have g := nd_ge (p.set (k + lb) (p[k + lb] + c)) (k + lb) (by rw [List.length_set]; exact hk)
  rw [hn, List.getElem_set_self] at g
  have hb : A % 256 ^ (k + 1) * D < 256 ^ (k + 1) * 256 ^ lb := Nat.mul_lt_mul'' (Nat.mod_lt _ (Nat.pow_pos (by decide))) hD
  rcases Nat.lt_or_ge (p[k + lb] + c) 256 with h1 | h1
  · exact h1
  · have h2 : 256 * 256 ^ (k + lb) ≤ (p[k + lb] + c) * 256 ^ (k + lb) := Nat.mul_le_mul_right _ h1
    have h3 : 256 ^ (k + 1) * 256 ^ lb = 256 * 256 ^ (k + lb) := by rw [← Nat.pow_add, ← Nat.pow_succ', show k + 1 + lb = k + lb + 1 by omega]
    omega

end Go.Proofs.Ytockhhleapbpiaa


/- The document's answer: NatDiv. -/
namespace Go.Proofs.Ytockhhleapbpiaa
open Go.RowKit

def bv (d : Nat) : Value := .int .u8 (d : Int)
def qn (l : List Nat) : Nat := l.foldl (fun n d => n * 256 + d) 0
theorem qn_snoc (l : List Nat) (d : Nat) : qn (l ++ [d]) = qn l * 256 + d := by simp [qn]
theorem dig_snoc {l : List Nat} (h : Dig l) {d : Nat} (hd : d < 256) : Dig (l ++ [d]) := fun x hx => by
  rcases List.mem_append.1 hx with h1 | h1
  · exact h x h1
  · simp at h1; omega
theorem N_qn (l : List Nat) : Dig l → N (strOfNums (l.map Int.ofNat)) = qn l := by
  induction l using snoc_ind with
  | h0 => intro _; rfl
  | h1 l d ih =>
    intro h
    have h1 := ih fun x hx => h x (List.mem_append_left _ hx)
    have h2 := h d (List.mem_append_right _ (List.mem_singleton.2 rfl))
    rw [N, strOfNums_data] at h1 ⊢
    rw [List.map_append, List.map_append, List.map_cons, List.map_nil, List.map_cons, List.map_nil, nb_snoc, h1, qn_snoc]
    have : (UInt8.ofNat (Int.ofNat d).toNat).toNat = d := by simp; omega
    rw [this]
theorem div_next {P D c : Nat} (hD : 0 < D) : (P * 256 + c) / D = P / D * 256 + (P % D * 256 + c) / D ∧ (P * 256 + c) % D = (P % D * 256 + c) % D := by
  have e : P * 256 + c = P % D * 256 + c + P / D * 256 * D := by
    have := Nat.div_add_mod P D
    have f : P / D * 256 * D = D * (P / D) * 256 := by rw [Nat.mul_right_comm, Nat.mul_comm (P / D) D]
    omega
  rw [e, Nat.add_mul_div_right _ _ hD, Nat.add_mul_mod_self_right]
  exact ⟨Nat.add_comm _ _, rfl⟩
theorem N_one (s x : ByteArray) (k : Nat) (h : k < x.size) : N (s ++ x.extract k (k + 1)) = N s * 256 + x[k].toNat := by
  have e : (x.extract k (k + 1)).data.toList = [x[k]] := by
    rw [ByteArray.data_extract, Array.toList_extract, List.extract_eq_take_drop, show k + 1 - k = 1 by omega, List.drop_eq_getElem_cons (by rw [bytes_len]; exact h)]
    rfl
  rw [N, ByteArray.data_append, Array.toList_append, e, nb_snoc]
  rfl
theorem one_size (x : ByteArray) (k : Nat) (h : k < x.size) : (x.extract k (k + 1)).size = 1 := by
  rw [ByteArray.size_extract]; omega

end Go.Proofs.Ytockhhleapbpiaa


/- The document's answer: NatDiv, byte by byte. -/
namespace Go.Proofs.Ytockhhleapbpiaa
open Go.RowKit

theorem div_fits {D R : Nat} {y : ByteArray} (hy : N y = D) (hR : R < 256 * D) (hs : y.size ≤ 500000) (d : Nat) : (B (R - d * D)).size ≤ 1000000 := by
  have h1 := sz_mono (Nat.le_trans (Nat.sub_le R (d * D)) (Nat.le_of_lt hR))
  have h2 := sz_mul 256 D
  have h3 := B_size_le y
  rw [hy] at h3
  have h4 : (B 256).size ≤ 2 := by rw [B_size]; exact bn_fits 2 256 (by decide)
  omega
theorem div_done {R D d : Nat} (hD : 0 < D) (h1 : d * D ≤ R) (h2 : ¬ D ≤ R - d * D) : R / D = d ∧ R % D = R - d * D := by
  have e : R = (R - d * D) + d * D := by omega
  constructor
  · rw [e, Nat.add_mul_div_right _ _ hD, Nat.div_eq_of_lt (by omega)]; omega
  · conv => lhs; rw [e]
    rw [Nat.add_mul_mod_self_right, Nat.mod_eq_of_lt (by omega)]

end Go.Proofs.Ytockhhleapbpiaa


/- Plain facts on rational numbers: how fractions of natural numbers stand for them, and how long they are. -/
namespace Go.Proofs.Ytockhhleapbpiaa

/-- A number with its sign. -/
def sg (neg : Bool) (n : Nat) : Int := if neg then -(n : Int) else (n : Int)
theorem sg_natAbs (neg : Bool) (n : Nat) : (sg neg n).natAbs = n := by cases neg <;> simp [sg]
theorem sg_zero (neg : Bool) : sg neg 0 = 0 := by cases neg <;> rfl
theorem sg_not (neg : Bool) (n : Nat) : sg (!neg) n = -sg neg n := by cases neg <;> simp [sg]
theorem sg_mul (a b : Bool) (m n : Nat) : sg (a != b) (m * n) = sg a m * sg b n := by cases a <;> cases b <;> simp [sg, Int.neg_mul, Int.mul_neg]
theorem sg_mul_nat (a : Bool) (m n : Nat) : sg a m * (n : Int) = sg a (m * n) := by cases a <;> simp [sg, Int.neg_mul]
theorem sg_eq_zero {neg : Bool} {n : Nat} : sg neg n = 0 ↔ n = 0 := by cases neg <;> simp [sg]
theorem sg_div (neg : Bool) (n g : Nat) (h : g ∣ n) : sg neg n / (g : Int) = sg neg (n / g) := by
  cases neg
  · simp [sg]
  · simp only [sg, if_true]
    rw [Int.neg_ediv_of_dvd (Int.natCast_dvd_natCast.2 h)]
    simp

theorem mk_norm {n : Int} {d : Nat} (hd : d ≠ 0) : mkRat n d = Rat.normalize n d hd := by rw [mkRat, dif_neg hd]
theorem mk_num {n : Int} {d : Nat} (hd : d ≠ 0) : (mkRat n d).num = n / (Nat.gcd n.natAbs d : Int) := by rw [mk_norm hd, Rat.normalize_eq]
theorem mk_den {n : Int} {d : Nat} (hd : d ≠ 0) : (mkRat n d).den = d / Nat.gcd n.natAbs d := by rw [mk_norm hd, Rat.normalize_eq]

/-- What Make makes of a number that is not 0. -/
theorem mk_parts (neg : Bool) (a d : Nat) (ha : a ≠ 0) (hd : d ≠ 0) : decide ((mkRat (sg neg a) d).num < 0) = neg ∧ (mkRat (sg neg a) d).num.natAbs = a / Nat.gcd a d ∧ (mkRat (sg neg a) d).den = d / Nat.gcd a d := by
  have hg : Nat.gcd a d ∣ a := Nat.gcd_dvd_left _ _
  have hgp : 0 < Nat.gcd a d := Nat.gcd_pos_of_pos_left _ (Nat.pos_of_ne_zero ha)
  rw [mk_num hd, mk_den hd, sg_natAbs, sg_div neg a _ hg, sg_natAbs]
  refine ⟨?_, rfl, rfl⟩
  have hq : 0 < a / Nat.gcd a d := Nat.div_pos (Nat.le_of_dvd (Nat.pos_of_ne_zero ha) hg) hgp
  cases neg
  · simp only [sg]; simp; omega
  · simp only [sg]; simp; omega

/-- The fraction of three fields, as a rational number: 0 where the denominator is 0. -/
def val (neg : Bool) (num den : ByteArray) : Rat := mkRat (sg neg (N num)) (N den)
theorem val_num0 {neg : Bool} {num den : ByteArray} (h : N num = 0) : val neg num den = 0 := by rw [val, h, sg_zero, Rat.zero_mkRat]
theorem val_den0 {neg : Bool} {num den : ByteArray} (h : N den = 0) : val neg num den = 0 := by rw [val, h, Rat.mkRat_zero]
theorem val_zero_iff {neg : Bool} {num den : ByteArray} : val neg num den = 0 ↔ N num = 0 ∨ N den = 0 := by
  constructor
  · intro h
    by_cases hd : N den = 0
    · exact .inr hd
    · rw [val, Rat.mkRat_eq_zero hd, sg_eq_zero] at h; exact .inl h
  · rintro (h | h)
    · exact val_num0 h
    · exact val_den0 h
theorem val_not (neg : Bool) (num den : ByteArray) : val (!neg) num den = -val neg num den := by rw [val, val, sg_not, Rat.neg_mkRat]
theorem val_mul (a b : Bool) (x y u v : ByteArray) : mkRat (sg (a != b) (N x * N u)) (N y * N v) = val a x y * val b u v := by rw [val, val, Rat.mkRat_mul_mkRat, sg_mul]
theorem val_add (a b : Bool) (x y u v : ByteArray) (hy : N y ≠ 0) (hv : N v ≠ 0) : mkRat (sg a (N x * N v) + sg b (N u * N y)) (N y * N v) = val a x y + val b u v := by
  rw [val, val, Rat.mkRat_add_mkRat _ _ hy hv, sg_mul_nat, sg_mul_nat]
theorem val_inv (neg : Bool) (x y : ByteArray) (hx : N x ≠ 0) (hy : N y ≠ 0) : val neg y x = (val neg x y)⁻¹ := by
  have h : val neg x y * val neg y x = 1 := by
    rw [← val_mul]
    have : sg (neg != neg) (N x * N y) = ((N x * N y : Nat) : Int) * 1 := by cases neg <;> simp [sg]
    rw [this, Nat.mul_comm (N y) (N x), ← Nat.mul_one (N x * N y), Int.natCast_mul (N x * N y) 1, Int.natCast_one, Int.mul_one, Rat.mkRat_mul_left (Nat.mul_ne_zero hx hy)]
    rfl
  grind

/-- A rational number's fields, as package frac writes them. -/
def C (q : Rat) : Value := .agg #[.bool (decide (q.num < 0)), .string (B q.num.natAbs), .string (B q.den)]
theorem C_zero : C 0 = .agg #[.bool false, .string ⟨#[]⟩, .string (B 1)] := by
  show Value.agg #[_, .string (B 0), .string (B 1)] = _
  rw [B_zero]
  rfl
theorem val_C (q : Rat) : val (decide (q.num < 0)) (B q.num.natAbs) (B q.den) = q := by
  rw [val, N_B, N_B]
  have : sg (decide (q.num < 0)) q.num.natAbs = q.num := by
    by_cases h : q.num < 0
    · simp [sg, h]; omega
    · simp [sg, h]; omega
  rw [this, Rat.mkRat_self]
theorem C_make (neg : Bool) (a d : Nat) (ha : a ≠ 0) (hd : d ≠ 0) : C (mkRat (sg neg a) d) = .agg #[.bool neg, .string (B (a / Nat.gcd a d)), .string (B (d / Nat.gcd a d))] := by
  obtain ⟨h1, h2, h3⟩ := mk_parts neg a d ha hd
  rw [C, h1, h2, h3]
theorem C_inj {p q : Rat} (h : C p = C q) : p = q := by
  have h1 := val_C p
  have h2 := val_C q
  simp only [C, Value.agg.injEq, Array.mk.injEq, List.cons.injEq, Value.bool.injEq, Value.string.injEq] at h
  rw [h.1, h.2.1, h.2.2.1] at h1
  exact h1.symm.trans h2

/-- How many bytes a rational number's fields have. -/
def qw (q : Rat) : Nat := (B q.num.natAbs).size + (B q.den).size
theorem qw_norm {n : Int} {d : Nat} (hd : d ≠ 0) : qw (Rat.normalize n d hd) ≤ (B n.natAbs).size + (B d).size := by
  rw [Rat.normalize_eq]
  have h1 : (n / (Nat.gcd n.natAbs d : Int)).natAbs ≤ n.natAbs := by
    have hg : ((Nat.gcd n.natAbs d : Nat) : Int) ∣ n := by have h := Int.natCast_dvd_natCast.2 (Nat.gcd_dvd_left n.natAbs d); rwa [Int.dvd_natAbs] at h
    rw [Int.natAbs_ediv_of_dvd hg]
    exact Nat.div_le_self _ _
  have s1 := sz_mono h1
  have s2 := sz_mono (Nat.div_le_self d (Nat.gcd n.natAbs d))
  simp only [qw]
  omega
theorem qw_zero : qw 0 ≤ 1 := by
  show (B 0).size + (B 1).size ≤ 1
  rw [B_zero]
  have := B_one_size
  have : (⟨#[]⟩ : ByteArray).size = 0 := rfl
  omega
theorem qw_val (neg : Bool) (num den : ByteArray) : qw (val neg num den) ≤ num.size + den.size + 1 := by
  by_cases hd : N den = 0
  · rw [val_den0 hd]; have := qw_zero; omega
  · rw [val, mk_norm hd]
    have := qw_norm (n := sg neg (N num)) hd
    rw [sg_natAbs] at this
    have := B_size_le num
    have := B_size_le den
    omega
theorem qw_mul (p q : Rat) : qw (p * q) ≤ qw p + qw q := by
  rw [Rat.mul_def]
  refine Nat.le_trans (qw_norm _) ?_
  rw [Int.natAbs_mul]
  have := sz_mul p.num.natAbs q.num.natAbs
  have := sz_mul p.den q.den
  simp only [qw]
  omega
theorem qw_add (p q : Rat) : qw (p + q) ≤ 2 * (qw p + qw q) + 1 := by
  rw [Rat.add_def]
  refine Nat.le_trans (qw_norm _) ?_
  have h : (p.num * (q.den : Int) + q.num * (p.den : Int)).natAbs ≤ p.num.natAbs * q.den + q.num.natAbs * p.den := by
    refine Nat.le_trans (Int.natAbs_add_le _ _) ?_
    rw [Int.natAbs_mul, Int.natAbs_mul]
    exact Nat.le_refl _
  have h0 := sz_mono h
  have h1 := sz_add (p.num.natAbs * q.den) (q.num.natAbs * p.den)
  have h2 := sz_mul p.num.natAbs q.den
  have h3 := sz_mul q.num.natAbs p.den
  have h4 := sz_mul p.den q.den
  simp only [qw]
  omega
theorem qw_neg (q : Rat) : qw (-q) = qw q := by simp [qw, Rat.neg_num, Rat.neg_den]
theorem qw_sub (p q : Rat) : qw (p - q) ≤ 2 * (qw p + qw q) + 1 := by
  rw [Rat.sub_eq_add_neg]
  have := qw_add p (-q)
  rwa [qw_neg] at this

/-- -1, 0 or 1: less, the same, greater. -/
def cmpQ (p q : Rat) : Int := if p < q then -1 else if p = q then 0 else 1
theorem mk_sign (neg : Bool) (n d : Nat) (hd : d ≠ 0) (hn : n ≠ 0) : (neg = true → mkRat (sg neg n) d < 0) ∧ (neg = false → 0 < mkRat (sg neg n) d) := by
  have hp : ∀ m : Nat, m ≠ 0 → 0 < mkRat (m : Int) d := fun m hm => by
    have h1 : 0 ≤ mkRat (m : Int) d := by
      rw [← Rat.num_nonneg, mk_num hd]
      exact Int.ediv_nonneg (by omega) (by omega)
    have h2 : mkRat (m : Int) d ≠ 0 := by rw [Ne, Rat.mkRat_eq_zero hd]; omega
    grind
  constructor
  · rintro rfl
    have h := hp n hn
    have e : mkRat (sg true n) d = -mkRat (n : Int) d := by rw [Rat.neg_mkRat]; rfl
    rw [e]
    grind
  · rintro rfl
    exact hp n hn
end Go.Proofs.Ytockhhleapbpiaa


/- Small functions of package frac. -/
namespace Go.Proofs.Ytockhhleapbpiaa
open Go.RowKit

theorem below_put {B : Nat} {a w : World} (h : Below B a w) {g : Nat} (hg : B ≤ g) (u v x : Value) : Below B a (((w.setCell ⟨g, 0, none⟩ u).setCell ⟨g, 1, none⟩ v).setCell ⟨g, 2, none⟩ x) :=
  ((h.setCell hg u).setCell hg v).setCell hg x
end Go.Proofs.Ytockhhleapbpiaa


/- together of package frac: the sum of two fractions, before it is cut. -/
namespace Go.Proofs.Ytockhhleapbpiaa
open Go.RowKit

theorem sg_add (a : Bool) (m n : Nat) : sg a (m + n) = sg a m + sg a n := by cases a <;> simp [sg, Int.neg_add]
theorem sg_sub {a b : Bool} (h : ¬ a = b) {m n k : Nat} (e : m = n + k) : sg a k = sg a m + sg b n := by
  cases a <;> cases b <;> simp [sg] at h ⊢ <;> omega
theorem sg_sub' {a b : Bool} (h : ¬ a = b) {m n k : Nat} (e : n = m + k) : sg b k = sg a m + sg b n := by
  cases a <;> cases b <;> simp [sg] at h ⊢ <;> omega

end Go.Proofs.Ytockhhleapbpiaa


/- Package frac's sums, differences, products and quotients. -/
namespace Go.Proofs.Ytockhhleapbpiaa
open Go.RowKit

/-- The fields of a rational number, as package frac writes them. -/
def sgn (q : Rat) : Bool := decide (q.num < 0)
def nu (q : Rat) : ByteArray := B q.num.natAbs
def de (q : Rat) : ByteArray := B q.den
theorem C_eq (q : Rat) : C q = .agg #[.bool (sgn q), .string (nu q), .string (de q)] := rfl
theorem val_own (q : Rat) : val (sgn q) (nu q) (de q) = q := val_C q
theorem own_size (q : Rat) : (nu q).size + (de q).size = qw q := rfl

end Go.Proofs.Ytockhhleapbpiaa


/- Package frac's differences, products, quotients and comparisons. -/
namespace Go.Proofs.Ytockhhleapbpiaa
open Go.RowKit

end Go.Proofs.Ytockhhleapbpiaa


/- Package frac's differences, comparisons and quotients. -/
namespace Go.Proofs.Ytockhhleapbpiaa
open Go.RowKit

theorem cmp_of {p q : Rat} {n : Bool} {x d : Nat} (hd : d ≠ 0) (h : mkRat (sg n x) d = p - q) : cmpQ p q = if x = 0 then 0 else if n = true then -1 else 1 := by
  by_cases hx : x = 0
  · rw [if_pos hx]
    rw [hx, sg_zero, Rat.zero_mkRat] at h
    have : p = q := by grind
    subst this
    rw [cmpQ, if_neg (by grind), if_pos rfl]
  · rw [if_neg hx]
    obtain ⟨h1, h2⟩ := mk_sign n x d hd hx
    cases n
    · have := h2 rfl
      rw [h] at this
      rw [if_neg (by decide), cmpQ, if_neg (by grind), if_neg (by grind)]
    · have := h1 rfl
      rw [h] at this
      rw [if_pos rfl, cmpQ, if_pos (by grind)]

end Go.Proofs.Ytockhhleapbpiaa


/- Package frac's quotients and whole numbers. -/
namespace Go.Proofs.Ytockhhleapbpiaa
open Go.RowKit

end Go.Proofs.Ytockhhleapbpiaa


/- Three fractions in a row: how many bytes they have, and their sum. -/
namespace Go.Proofs.Ytockhhleapbpiaa
open Go.RowKit

theorem below_drewN {B : Nat} {a b : World} (h : Below B a b) (k : Nat) : Below B a (b.drewN k) := ⟨h.os, h.tape, h.output, h.size, h.block⟩

end Go.Proofs.Ytockhhleapbpiaa


/- The calls of package frac, stated by the rational numbers that their arguments stand for; five fractions held in memory. -/
namespace Go.Proofs.Ytockhhleapbpiaa
open Go.RowKit

end Go.Proofs.Ytockhhleapbpiaa


/- The document's answer: fractions made, in lowest terms. -/
namespace Go.Proofs.Ytockhhleapbpiaa
open Go.RowKit

theorem B_one : B 1 = ⟨#[1]⟩ := by
  rw [B, bn_pos 1 (by decide), show 1 / 256 = 0 from rfl, bn_zero]
  rfl
theorem ne_one {n : Nat} (h : ¬ n = 1) : ((B n).toList == [1]) = false := beq_eq_false_iff_ne.2 fun e => h (B_inj (by
  rw [B_one]
  rw [Lib.toList_data] at e
  exact ByteArray.ext (Array.toList_inj.1 e)))

end Go.Proofs.Ytockhhleapbpiaa

