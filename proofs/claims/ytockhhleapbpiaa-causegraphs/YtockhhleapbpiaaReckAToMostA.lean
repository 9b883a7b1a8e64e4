/- putBack of package nat: the sum, in the place of its first argument; does it run over its end? -/
import Derived.Test.YtockhhleapbpiaaCore1ToNumF
import Derived.Lib.ItoaMem
import Derived.Deep.QuietTactic
import Derived.BigQuiet
namespace Go.Proofs.Ytockhhleapbpiaa
open Go.RowKit

/-- What stands at place j of a sum that is not yet brought to parts. -/
def sumF (xs ys : List Nat) (j : Nat) : Nat := xs[j]?.getD 0 + ys[j]?.getD 0
theorem sumF_nw (xs ys : List Nat) (k : Nat) : nwF (sumF xs ys) k = nw (xs.take k) + nw (ys.take k) := by
  rw [show sumF xs ys = fun j => (fun j => xs[j]?.getD 0) j + (fun j => ys[j]?.getD 0) j from rfl, nwF_add, nwF_take, nwF_take]
theorem sumF_carry (xs ys : List Nat) (hx : Small xs) (hy : Small ys) (k : Nat) : (acc (sumF xs ys) k).2 ≤ 1 := by
  refine acc_carry _ 1 k fun j _ => ?_
  have h1 := getD_lt hx j
  have h2 := getD_lt hy j
  unfold sumF
  omega

end Go.Proofs.Ytockhhleapbpiaa


/- spread of package nat once more: besides, the slice is not nil. -/
namespace Go.Proofs.Ytockhhleapbpiaa
open Go.RowKit Go.Shelf

attribute [local go_sem] Oper.semAt_some

end Go.Proofs.Ytockhhleapbpiaa


/- plus of package nat, and nat.Add. -/
namespace Go.Proofs.Ytockhhleapbpiaa
open Go.RowKit

theorem made_u32 (n : Nat) : (madeCells (Value.int .u32 0).cells (n * 1)).toList = (List.replicate n 0).map u32 := by
  rw [show (Value.int .u32 0).cells = #[Value.int .u32 0] from rfl, toList_madeCells_one, Nat.mul_one, List.map_replicate]; rfl
theorem splice_front (l : List Nat) : splice ((List.replicate (l.length + 1) 0).map u32) 0 (l.map u32) = (l ++ [0]).map u32 := by
  rw [splice_map, splice, List.take_zero, List.nil_append, Nat.zero_add, List.drop_replicate]; simp
theorem ones_u32 (l : List Nat) : ∀ v ∈ l.map u32, v.oneCell' = true := by
  intro v hv
  obtain ⟨x, _, rfl⟩ := List.mem_map.1 hv
  rfl

theorem sum_fits {xs ys : List Nat} (hx : Small xs) (hy : Small ys) (h : ys.length ≤ xs.length) : nw xs + nw ys < W ^ (xs.length + 1) := by
  have h1 := nw_lt xs hx
  have h2 := nw_lt ys hy
  have h3 : W ^ ys.length ≤ W ^ xs.length := Nat.pow_le_pow_right W_pos h
  have h4 : W ^ (xs.length + 1) = W ^ xs.length * W := Nat.pow_succ ..
  have h5 : W ^ xs.length * 2 ≤ W ^ xs.length * W := Nat.mul_le_mul_left _ (by decide)
  omega

theorem words_len_le (s : ByteArray) (k : Nat) (h : s.size ≤ 4 * k) : (words (N s)).length ≤ k := by
  rw [words_length, ← B_size]
  have := B_size_le s
  omega

end Go.Proofs.Ytockhhleapbpiaa


/- allDigits and appendDigit of package nat. -/
namespace Go.Proofs.Ytockhhleapbpiaa
open Go.RowKit

theorem toList_data (s : ByteArray) : s.toList = s.data.toList := by
  obtain ⟨⟨l⟩⟩ := s
  simp
theorem allDig_false (s : ByteArray) (k : Nat) (h : k < s.size) (hd : isDig s[k] = false) : allDig s.data.toList = false := by
  have hm : s[k] ∈ s.data.toList := by
    have : s.data.toList[k]'(by simpa using h) = s[k] := rfl
    rw [← this]; exact List.getElem_mem _
  have : s.data.toList.all isDig = false := by
    rw [List.all_eq_false]; exact ⟨_, hm, by simp [hd]⟩
  simp [allDig, this]

theorem ret_bool {a b : Bool} (h : a = b) : Ending.returned (.bool a) = .returned (.bool b) := by rw [h]

end Go.Proofs.Ytockhhleapbpiaa


/- cmp.Compare at api.Nat, and nat.Cmp. -/
namespace Go.Proofs.Ytockhhleapbpiaa
open Go.RowKit

/-- How two numbers compare. -/
def cmpI (m n : Nat) : Int := if m < n then -1 else if m = n then 0 else 1

theorem less_nb : ∀ (l m : List UInt8), l.length = m.length → Op.bytesLess l m = decide (nb l < nb m)
  | [], [], _ => rfl
  | x :: l, y :: m, h => by
    have hl : l.length = m.length := by simpa using h
    have ih := less_nb l m hl
    have h1 := nb_lt l
    have h2 := nb_lt m
    rw [nb_cons, nb_cons, ← hl]
    rw [← hl] at h2
    rw [Op.bytesLess]
    rcases Nat.lt_trichotomy x.toNat y.toNat with e | e | e
    · have hxy : (decide (x < y)) = true := by simpa [UInt8.lt_iff_toNat_lt] using e
      have : (x.toNat + 1) * 256 ^ l.length ≤ y.toNat * 256 ^ l.length := Nat.mul_le_mul_right _ e
      rw [Nat.add_mul] at this
      rw [hxy, Bool.true_or]
      symm; rw [decide_eq_true_eq]; omega
    · have hxy : x = y := UInt8.toNat_inj.1 e
      subst hxy
      have h3 : (decide (x < x)) = false := by simp
      rw [h3, Bool.false_or, beq_self_eq_true, Bool.true_and, ih]
      congr 1
      apply propext
      omega
    · have h3 : (decide (x < y)) = false := by simp [UInt8.lt_iff_toNat_lt]; omega
      have h4 : (x == y) = false := by rw [beq_eq_false_iff_ne]; rintro rfl; omega
      have : (y.toNat + 1) * 256 ^ l.length ≤ x.toNat * 256 ^ l.length := Nat.mul_le_mul_right _ e
      rw [Nat.add_mul] at this
      rw [h3, h4, Bool.false_or, Bool.false_and]
      symm; rw [decide_eq_false_iff_not]; omega
theorem nb_inj : ∀ (l m : List UInt8), l.length = m.length → nb l = nb m → l = m
  | [], [], _, _ => rfl
  | x :: l, y :: m, h, e => by
    have hl : l.length = m.length := by simpa using h
    have h1 := nb_lt l
    have h2 := nb_lt m
    rw [nb_cons, nb_cons, ← hl] at e
    rw [← hl] at h2
    have hp : 0 < 256 ^ l.length := Nat.pow_pos (by decide)
    have hx : x.toNat = y.toNat := by
      rcases Nat.lt_trichotomy x.toNat y.toNat with c | c | c
      · have : (x.toNat + 1) * 256 ^ l.length ≤ y.toNat * 256 ^ l.length := Nat.mul_le_mul_right _ c
        rw [Nat.add_mul] at this
        omega
      · exact c
      · have : (y.toNat + 1) * 256 ^ l.length ≤ x.toNat * 256 ^ l.length := Nat.mul_le_mul_right _ c
        rw [Nat.add_mul] at this
        omega
    rw [hx] at e
    rw [UInt8.toNat_inj.1 hx, nb_inj l m hl (by omega)]

end Go.Proofs.Ytockhhleapbpiaa


/- Plain facts on taking a multiple away part by part. -/
namespace Go.Proofs.Ytockhhleapbpiaa

/-- Parts of xs less f times ys: the parts, what is carried on of the product, what is borrowed. -/
def sbm (xs ys : List Nat) (f : Nat) : Nat → List Nat × Nat × Nat
  | 0 => ([], 0, 0)
  | k + 1 => ((sbm xs ys f k).1 ++ [(xs[k]?.getD 0 + 2 * W - ((sbm xs ys f k).2.1 + ys[k]?.getD 0 * f) % W - (sbm xs ys f k).2.2) % W],
      ((sbm xs ys f k).2.1 + ys[k]?.getD 0 * f) / W, if xs[k]?.getD 0 < ((sbm xs ys f k).2.1 + ys[k]?.getD 0 * f) % W + (sbm xs ys f k).2.2 then 1 else 0)
theorem sbm_length (xs ys : List Nat) (f k : Nat) : (sbm xs ys f k).1.length = k := by
  induction k with
  | zero => rfl
  | succ k ih => simp [sbm, ih]
theorem sbm_small (xs ys : List Nat) (f k : Nat) : Small (sbm xs ys f k).1 := by
  induction k with
  | zero => intro x hx; simp [sbm] at hx
  | succ k ih =>
    intro x hx
    rw [sbm] at hx
    rcases List.mem_append.1 hx with hx | hx
    · exact ih x hx
    · simp only [List.mem_singleton] at hx; subst hx; exact Nat.mod_lt _ W_pos
theorem sbm_borrow (xs ys : List Nat) (f k : Nat) : (sbm xs ys f k).2.2 ≤ 1 := by
  cases k with
  | zero => exact Nat.zero_le _
  | succ k =>
    rw [sbm]
    show (if _ then 1 else 0) ≤ 1
    split <;> omega
theorem sbm_carry (xs ys : List Nat) (f : Nat) (hy : Small ys) (hf : f < W) (k : Nat) : (sbm xs ys f k).2.1 < W := by
  induction k with
  | zero => exact W_pos
  | succ k ih =>
    rw [sbm]
    refine Nat.div_lt_of_lt_mul ?_
    have h1 := getD_lt hy k
    have h2 : ys[k]?.getD 0 * f ≤ (W - 1) * (W - 1) := Nat.mul_le_mul (by omega) (by omega)
    have h3 : (W - 1) * (W - 1) + W ≤ W * W := by decide
    omega
/-- One step: what is written, carried and borrowed makes up what was there. -/
theorem sbm_step (x c t b : Nat) (hx : x < W) (hb : b ≤ 1) :
    (x + 2 * W - (c + t) % W - b) % W + t + b + c = x + W * ((c + t) / W + if x < (c + t) % W + b then 1 else 0) := by
  have e := Nat.mod_add_div (c + t) W
  have hlo := Nat.mod_lt (c + t) W_pos
  generalize (c + t) % W = lo at *
  generalize (c + t) / W = q at *
  rw [Nat.mul_add]
  by_cases h : x < lo + b
  · rw [if_pos h]
    have : (x + 2 * W - lo - b) % W = x + W - lo - b := by
      rw [show x + 2 * W - lo - b = (x + W - lo - b) + W by omega, Nat.add_mod_right]
      exact Nat.mod_eq_of_lt (by omega)
    omega
  · rw [if_neg h]
    have : (x + 2 * W - lo - b) % W = x - lo - b := by
      rw [show x + 2 * W - lo - b = (x - lo - b) + W + W by omega, Nat.add_mod_right, Nat.add_mod_right]
      exact Nat.mod_eq_of_lt (by omega)
    omega
theorem sbm_eq (xs ys : List Nat) (f : Nat) (hx : Small xs) (k : Nat) :
    nw (sbm xs ys f k).1 + f * nw (ys.take k) = nw (xs.take k) + W ^ k * ((sbm xs ys f k).2.1 + (sbm xs ys f k).2.2) := by
  rw [← nwF_take xs k, ← nwF_take ys k]
  induction k with
  | zero => simp [sbm, nwF, nw_nil]
  | succ k ih =>
    have hb := sbm_borrow xs ys f k
    have st := sbm_step (xs[k]?.getD 0) (sbm xs ys f k).2.1 (ys[k]?.getD 0 * f) (sbm xs ys f k).2.2 (getD_lt hx k) hb
    have e3 : f * (nwF (fun j => ys[j]?.getD 0) k + W ^ k * ys[k]?.getD 0) = f * nwF (fun j => ys[j]?.getD 0) k + W ^ k * (ys[k]?.getD 0 * f) := by
      rw [Nat.mul_add, Nat.mul_left_comm, Nat.mul_comm f (ys[k]?.getD 0)]
    rw [sbm, nwF, nwF, nw_snoc, sbm_length, e3]
    show _ = _ + W ^ (k + 1) * (_ + if _ then 1 else 0)
    rw [Nat.pow_succ, Nat.mul_assoc]
    generalize (xs[k]?.getD 0 + 2 * W - ((sbm xs ys f k).2.1 + ys[k]?.getD 0 * f) % W - (sbm xs ys f k).2.2) % W = d at *
    generalize (((sbm xs ys f k).2.1 + ys[k]?.getD 0 * f) / W + if xs[k]?.getD 0 < ((sbm xs ys f k).2.1 + ys[k]?.getD 0 * f) % W + (sbm xs ys f k).2.2 then 1 else 0) = z at *
    generalize (sbm xs ys f k).2.1 = c at *
    generalize (sbm xs ys f k).2.2 = b at *
    generalize ys[k]?.getD 0 * f = t at *
    have := congrArg (W ^ k * ·) st
    simp only [Nat.mul_add] at this ih ⊢
    omega

end Go.Proofs.Ytockhhleapbpiaa


/- takeTimes of package nat: a multiple taken away, in the place of its first argument; does it fall below 0? -/
namespace Go.Proofs.Ytockhhleapbpiaa
open Go.RowKit

theorem and_mask (t : Nat) (ht : t < 18446744073709551616) : bits .and .u64 (t : Int) 4294967295 = ((t % 4294967296 : Nat) : Int) := by
  have e : (4294967295 : Int) = ((4294967295 : Nat) : Int) := rfl
  rw [e, u64_and_nat t 4294967295 ht (by omega)]
  congr 1
  exact Nat.and_two_pow_sub_one_eq_mod t 32

theorem sub_word (x lo b : Nat) (hx : x < 4294967296) (hlo : lo < 4294967296) (hb : b ≤ 1) :
    IntKind.u64.wrap (IntKind.u64.wrap ((x : Int) - (lo : Int)) - (b : Int)) / 9223372036854775808 = ((if x < lo + b then 1 else 0 : Nat) : Int) ∧
    IntKind.u64.wrap (IntKind.u64.wrap ((x : Int) - (lo : Int)) - (b : Int)) % 4294967296 = (((x + 2 * W - lo - b) % W : Nat) : Int) := by
  rw [IntKind.wrap_u64, IntKind.wrap_u64, W_eq]
  by_cases h : x < lo + b
  · rw [if_pos h]
    have e : (((x : Int) - (lo : Int)) % 18446744073709551616 - (b : Int)) % 18446744073709551616 = (x : Int) - (lo : Int) - (b : Int) + 18446744073709551616 := by omega
    rw [e]
    omega
  · rw [if_neg h]
    have e : (((x : Int) - (lo : Int)) % 18446744073709551616 - (b : Int)) % 18446744073709551616 = (x : Int) - (lo : Int) - (b : Int) := by omega
    rw [e]
    omega

end Go.Proofs.Ytockhhleapbpiaa


/- nat.Sub. -/
namespace Go.Proofs.Ytockhhleapbpiaa
open Go.RowKit

theorem words_mono {m n : Nat} (h : m ≤ n) : (words m).length ≤ (words n).length := by
  rw [words_length, words_length]
  have := bn_length_mono h
  omega

end Go.Proofs.Ytockhhleapbpiaa


/- Plain facts on long multiplication. -/
namespace Go.Proofs.Ytockhhleapbpiaa

/-- What stands at place j of a row of the product, not yet brought to parts. -/
def rowF (x : Nat) (ys p : List Nat) (i j : Nat) : Nat := x * ys[j]?.getD 0 + p[i + j]?.getD 0
theorem rowF_carry (x : Nat) (ys p : List Nat) (i : Nat) (hx : x < W) (hy : Small ys) (hp : Small p) (k : Nat) : (acc (rowF x ys p i) k).2 < W := by
  have h := acc_carry (rowF x ys p i) (W - 1) k fun j _ => by
    have h1 := getD_lt hy j
    have h2 := getD_lt hp (i + j)
    have h3 : x * ys[j]?.getD 0 ≤ (W - 1) * (W - 1) := Nat.mul_le_mul (by omega) (by omega)
    have h4 : (W - 1) * (W - 1) + W + W ≤ W * W + 1 := by decide
    unfold rowF
    rw [Nat.sub_add_cancel W_pos]
    omega
  have := W_pos
  omega
theorem rowF_nw (x : Nat) (ys p : List Nat) (i : Nat) : nwF (rowF x ys p i) ys.length = x * nw ys + nw ((p.drop i).take ys.length) := by
  rw [show rowF x ys p i = fun j => (fun j => x * (fun j => ys[j]?.getD 0) j) j + (fun j => p[i + j]?.getD 0) j from rfl, nwF_add, nwF_mul, nwF_list ys _ (Nat.le_refl _)]
  congr 1
  rw [← nwF_take]
  exact nwF_congr fun j _ => by rw [List.getElem?_drop]

/-- One row of the product more. -/
def mulRow (x : Nat) (ys p : List Nat) (i : Nat) : List Nat := p.take i ++ ((acc (rowF x ys p i) ys.length).1 ++ [(acc (rowF x ys p i) ys.length).2]) ++ p.drop (i + (ys.length + 1))
theorem nw_drop_zero (p : List Nat) (k : Nat) (h : ∀ j, k ≤ j → p[j]?.getD 0 = 0) : nw (p.drop k) = 0 := by
  have : p.drop k = List.replicate (p.drop k).length 0 := by
    apply List.ext_getElem
    · simp
    · intro j h1 h2
      have := h (k + j) (by omega)
      rw [List.length_drop] at h1
      rw [List.getElem?_eq_getElem (by omega)] at this
      simpa using this
  rw [this, nw_zeros]
theorem mulRow_spec (x : Nat) (ys p : List Nat) (i : Nat) (hx : x < W) (hy : Small ys) (hp : Small p) (hi : i + ys.length < p.length) (hz : ∀ j, i + ys.length ≤ j → p[j]?.getD 0 = 0) :
    (mulRow x ys p i).length = p.length ∧ Small (mulRow x ys p i) ∧ nw (mulRow x ys p i) = nw p + W ^ i * (x * nw ys) ∧ ∀ j, i + 1 + ys.length ≤ j → (mulRow x ys p i)[j]?.getD 0 = 0 := by
  have hl := acc_length (rowF x ys p i) ys.length
  have hti : (p.take i).length = i := by rw [List.length_take]; omega
  have hmid : (p.take i ++ ((acc (rowF x ys p i) ys.length).1 ++ [(acc (rowF x ys p i) ys.length).2])).length = i + (ys.length + 1) := by
    rw [List.length_append, List.length_append, hti, hl]; rfl
  refine ⟨?_, ?_, ?_, ?_⟩
  · rw [mulRow, List.length_append, hmid, List.length_drop]; omega
  · refine small_append (small_append (small_take hp i) (small_append (acc_small _ _) ?_)) (small_drop hp _)
    intro z hz'
    simp only [List.mem_singleton] at hz'
    subst hz'
    exact rowF_carry x ys p i hx hy hp _
  · have e1 := acc_eq (rowF x ys p i) ys.length
    rw [rowF_nw] at e1
    have e2 := nw_cut_le p i (by omega)
    have e3 := nw_cut_le (p.drop i) ys.length (by rw [List.length_drop]; omega)
    rw [List.drop_drop, nw_drop_zero p (i + ys.length) hz, Nat.mul_zero, Nat.add_zero] at e3
    have e4 := nw_drop_zero p (i + (ys.length + 1)) (fun j hj => hz j (by omega))
    rw [mulRow, nw_append, e4, Nat.mul_zero, Nat.add_zero, nw_append, hti, nw_snoc, hl, e1, e2, e3, Nat.mul_add]
    omega
  · intro j hj
    rw [mulRow, List.getElem?_append_right (by omega), hmid, List.getElem?_drop]
    exact hz _ (by omega)

end Go.Proofs.Ytockhhleapbpiaa


/- times of package nat, and nat.Mul. -/
namespace Go.Proofs.Ytockhhleapbpiaa
open Go.RowKit

end Go.Proofs.Ytockhhleapbpiaa


/- nat.Of, wordOf and gcdOfWords of package nat. -/
namespace Go.Proofs.Ytockhhleapbpiaa
open Go.RowKit

theorem below_drewN' {B : Nat} {a w : World} (h : Below B a w) (k : Nat) : Below B a (w.drewN k) := ⟨h.os, h.tape, h.output, h.size, h.block⟩

theorem or_high (a b : Nat) (ha : a < 4294967296) (hb : b < 4294967296) : bits .or .u64 (a : Int) ((b : Int) * 4294967296) = ((a + b * 4294967296 : Nat) : Int) := by
  have e1 : (b : Int) * 4294967296 = ((b * 4294967296 : Nat) : Int) := by omega
  rw [e1, u64_or_nat _ _ (by omega) (by omega)]
  congr 1
  have := nat_join 32 (b * 4294967296) a (by omega) (by omega)
  have e2 : a ||| b * 4294967296 = b * 4294967296 ||| a := Nat.or_comm _ _
  omega
theorem or_zero (a : Nat) (ha : a < 4294967296) : bits .or .u64 0 (a : Int) = (a : Int) := by
  have := u64_or_nat 0 a (by omega) (by omega)
  rw [show ((0 : Nat) : Int) = 0 from rfl] at this
  rw [this, Nat.zero_or]

end Go.Proofs.Ytockhhleapbpiaa


/- shiftUp and shiftDown of package nat. -/
namespace Go.Proofs.Ytockhhleapbpiaa
open Go.RowKit

/-- What stands at place j of a shifted number, not yet brought to parts. -/
def shF (xs : List Nat) (s j : Nat) : Nat := 2 ^ s * xs[j]?.getD 0
theorem shF_nw (xs : List Nat) (s : Nat) : nwF (shF xs s) xs.length = 2 ^ s * nw xs := by
  rw [show shF xs s = fun j => 2 ^ s * (fun j => xs[j]?.getD 0) j from rfl, nwF_mul, nwF_list xs _ (Nat.le_refl _)]
theorem shF_carry (xs : List Nat) (hx : Small xs) (s k : Nat) : (acc (shF xs s) k).2 < 2 ^ s := by
  have hp : 0 < 2 ^ s := Nat.pow_pos (by decide)
  have h := acc_carry (shF xs s) (2 ^ s - 1) k fun j _ => by
    have h1 := getD_lt hx j
    have h2 : 2 ^ s * (xs[j]?.getD 0 + 1) ≤ 2 ^ s * W := Nat.mul_le_mul_left _ h1
    rw [Nat.mul_add] at h2
    unfold shF
    rw [Nat.sub_add_cancel hp]
    omega
  omega
theorem pow_lt_W {s : Nat} (hs : s < 32) : 2 ^ s ≤ 2147483648 := by
  have : 2 ^ s ≤ 2 ^ 31 := Nat.pow_le_pow_right (by decide) (by omega)
  simpa using this
theorem shl_or (c x s : Nat) (hs : s < 32) (hc : c < 2 ^ s) (hx : x < 4294967296) : bits .or .u64 (c : Int) (IntKind.u64.wrap ((x : Int) * 2 ^ s)) = ((c + 2 ^ s * x : Nat) : Int) := by
  have hp := pow_lt_W hs
  have hm : x * 2 ^ s ≤ 4294967295 * 2147483648 := Nat.mul_le_mul (by omega) hp
  have e1 : IntKind.u64.wrap ((x : Int) * 2 ^ s) = ((x * 2 ^ s : Nat) : Int) := by
    rw [IntKind.wrap_u64, show ((x : Int) * 2 ^ s) = ((x * 2 ^ s : Nat) : Int) by simp]
    omega
  rw [e1, u64_or_nat _ _ (by omega) (by omega), Nat.or_comm, nat_join s _ _ (Nat.mul_mod_left _ _) hc]
  congr 1
  rw [Nat.mul_comm]; omega

end Go.Proofs.Ytockhhleapbpiaa


/- Plain facts on shifting parts down. -/
namespace Go.Proofs.Ytockhhleapbpiaa

/-- Parts shifted down by s bits. -/
def shd (s : Nat) : List Nat → List Nat
  | [] => []
  | x :: r => (x + W * r[0]?.getD 0) / 2 ^ s % W :: shd s r
theorem shd_length (s : Nat) (l : List Nat) : (shd s l).length = l.length := by
  induction l with
  | nil => rfl
  | cons x r ih => rw [shd, List.length_cons, ih, List.length_cons]
theorem shd_small (s : Nat) (l : List Nat) : Small (shd s l) := by
  induction l with
  | nil => intro x hx; simp [shd] at hx
  | cons x r ih =>
    intro y hy
    rw [shd] at hy
    rcases List.mem_cons.1 hy with rfl | hy
    · exact Nat.mod_lt _ W_pos
    · exact ih y hy
theorem nw_head (l : List Nat) (h : Small l) : nw l % W = l[0]?.getD 0 := by
  cases l with
  | nil => rfl
  | cons x r => rw [nw_cons, Nat.add_mul_mod_self_left]; exact Nat.mod_eq_of_lt (h x List.mem_cons_self)
theorem W_split {s : Nat} (hs : s ≤ 32) : W = 2 ^ s * 2 ^ (32 - s) := by rw [← Nat.pow_add, show s + (32 - s) = 32 by omega]; rfl
theorem shd_nw (s : Nat) (hs : s ≤ 32) (l : List Nat) (hl : Small l) : nw (shd s l) = nw l / 2 ^ s := by
  induction l with
  | nil => simp [shd, nw_nil]
  | cons x r ih =>
    have hr : Small r := fun y hy => hl y (List.mem_cons_of_mem _ hy)
    have hx := hl x List.mem_cons_self
    have hp : 0 < 2 ^ s := Nat.pow_pos (by decide)
    rw [shd, nw_cons, nw_cons, ih hr, ← nw_head r hr]
    generalize nw r = n
    have e1 := Nat.div_add_mod n (2 ^ s)
    have hb := Nat.mod_lt n hp
    generalize hq : n / 2 ^ s = a at *
    generalize hbb : n % 2 ^ s = b at *
    have hdig : (x + W * b) / 2 ^ s < W := by
      refine Nat.div_lt_of_lt_mul ?_
      have : W * (b + 1) ≤ W * 2 ^ s := Nat.mul_le_mul_left _ hb
      rw [Nat.mul_add, Nat.mul_comm W (2 ^ s)] at this
      omega
    have e2 : (x + W * n) / 2 ^ s = (x + W * b) / 2 ^ s + W * a := by
      rw [← e1, Nat.mul_add, ← Nat.add_assoc, Nat.add_right_comm, show W * (2 ^ s * a) = 2 ^ s * (W * a) by rw [Nat.mul_left_comm], Nat.add_mul_div_left _ _ hp]
    have e3 : (x + W * (n % W)) / 2 ^ s % W = (x + W * b) / 2 ^ s := by
      have hW := W_split hs
      have hmm : n % W % 2 ^ s = b := by rw [← hbb, hW, Nat.mod_mul_right_mod]
      have e4 := Nat.div_add_mod (n % W) (2 ^ s)
      rw [hmm] at e4
      generalize n % W / 2 ^ s = c at *
      rw [← e4, Nat.mul_add, ← Nat.add_assoc, Nat.add_right_comm, show W * (2 ^ s * c) = 2 ^ s * (W * c) by rw [Nat.mul_left_comm], Nat.add_mul_div_left _ _ hp, Nat.add_mul_mod_self_left]
      exact Nat.mod_eq_of_lt hdig
    rw [e2, e3]
theorem drop_zero_get (l : List Nat) (m : Nat) : (l.drop m)[0]?.getD 0 = l[m]?.getD 0 := by rw [List.getElem?_drop, Nat.add_zero]

end Go.Proofs.Ytockhhleapbpiaa


/- shiftDown of package nat. -/
namespace Go.Proofs.Ytockhhleapbpiaa
open Go.RowKit

theorem shl_full (a x : Nat) (hx : x < 4294967296) : bits .or .u64 (IntKind.u64.wrap ((a : Int) * 4294967296)) (x : Int) = ((a % 4294967296 * 4294967296 + x : Nat) : Int) := by
  have e : IntKind.u64.wrap ((a : Int) * 4294967296) = ((a % 4294967296 : Nat) : Int) * 4294967296 := by rw [IntKind.wrap_u64]; omega
  rw [e]
  exact or_u64 (a % 4294967296) x (by omega) hx

end Go.Proofs.Ytockhhleapbpiaa


/- takeMost of package nat: as often as it goes: the quotient; what is left stands in its place. -/
namespace Go.Proofs.Ytockhhleapbpiaa
open Go.RowKit

/-- The guess is never too small. -/
theorem guess_ge (xs ys : List Nat) (hl : xs.length = ys.length + 1) (hx : Small xs) (hpos : 0 < ys.length) (hlast : ys[ys.length - 1]?.getD 0 ≠ 0) (hlt : nw xs < W * nw ys) :
    nw xs / nw ys ≤ min ((xs[ys.length]?.getD 0 * W + xs[ys.length - 1]?.getD 0) / ys[ys.length - 1]?.getD 0) (W - 1) := by
  obtain ⟨d, hd⟩ : ∃ d, ys.length = d + 1 := ⟨ys.length - 1, by omega⟩
  rw [hd, Nat.add_sub_cancel] at hlast ⊢
  have hny : 0 < nw ys := by
    have := nw_cut_le ys d (by omega)
    have h2 : ys.drop d = [ys[d]?.getD 0] := by
      rw [List.drop_eq_getElem_cons (by omega), List.drop_of_length_le (by omega), List.getElem?_eq_getElem (by omega)]; rfl
    rw [h2, nw_cons, nw_nil, Nat.mul_zero, Nat.add_zero] at this
    have : 0 < W ^ d * ys[d]?.getD 0 := Nat.mul_pos (Nat.pow_pos W_pos) (Nat.pos_of_ne_zero hlast)
    omega
  have hq : nw xs / nw ys < W := Nat.div_lt_of_lt_mul (by rw [Nat.mul_comm]; exact hlt)
  have hle := Nat.div_mul_le_self (nw xs) (nw ys)
  generalize nw xs / nw ys = q at *
  refine Nat.le_min.2 ⟨?_, by omega⟩
  rw [Nat.le_div_iff_mul_le (Nat.pos_of_ne_zero hlast)]
  have ey := nw_cut_le ys d (by omega)
  have hy2 : ys.drop d = [ys[d]?.getD 0] := by
    rw [List.drop_eq_getElem_cons (by omega), List.drop_of_length_le (by omega), List.getElem?_eq_getElem (by omega)]; rfl
  rw [hy2, nw_cons, nw_nil, Nat.mul_zero, Nat.add_zero] at ey
  have ex := nw_cut_le xs d (by omega)
  have hx2 : xs.drop d = [xs[d]?.getD 0, xs[d + 1]?.getD 0] := by
    rw [List.drop_eq_getElem_cons (by omega), List.drop_eq_getElem_cons (by omega), List.drop_of_length_le (by omega), List.getElem?_eq_getElem (by omega), List.getElem?_eq_getElem (by omega)]; rfl
  have hxlt := nw_lt (xs.take d) (small_take hx d)
  rw [List.length_take, Nat.min_eq_left (by omega)] at hxlt
  rw [hx2, nw_cons, nw_cons, nw_nil, Nat.mul_zero, Nat.add_zero] at ex
  generalize ys[d]?.getD 0 = y at *
  generalize xs[d]?.getD 0 = x0 at *
  generalize xs[d + 1]?.getD 0 = x1 at *
  have h1 : q * (W ^ d * y) ≤ q * nw ys := Nat.mul_le_mul_left _ (by omega)
  have h2 : W ^ d * (q * y) < W ^ d * (x1 * W + x0 + 1) := by
    rw [Nat.mul_left_comm] at h1
    rw [Nat.mul_add, Nat.mul_one, Nat.add_comm (x1 * W) x0, Nat.mul_comm x1 W]
    omega
  have := Nat.lt_of_mul_lt_mul_left h2
  omega

end Go.Proofs.Ytockhhleapbpiaa

