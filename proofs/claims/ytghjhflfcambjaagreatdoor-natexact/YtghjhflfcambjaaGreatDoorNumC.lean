/- Plain facts on decimal numerals in groups of nine digits. -/
import Derived.Test.YtghjhflfcambjaaGreatDoorNumB
import Derived.Lib.ItoaNum
namespace Go.Proofs.YtghjhflfcambjaaGreatDoor
open Go

/-- So many digits of a number, noughts ahead and all. -/
def digs : Nat → Nat → List UInt8
  | 0, _ => []
  | j + 1, r => digs j (r / 10) ++ [UInt8.ofNat (48 + r % 10)]
theorem dec_small {u : Nat} (h : u < 10) : Lib.decDigits u = [UInt8.ofNat (48 + u)] := by rw [Lib.decDigits, dif_pos h]
theorem dec_big {u : Nat} (h : ¬ u < 10) : Lib.decDigits u = Lib.decDigits (u / 10) ++ [UInt8.ofNat (48 + u % 10)] := by rw [Lib.decDigits, dif_neg h]
theorem dec_step (q d : Nat) (hq : q ≠ 0) (hd : d < 10) : Lib.decDigits (q * 10 + d) = Lib.decDigits q ++ [UInt8.ofNat (48 + d)] := by
  rw [dec_big (by omega), show (q * 10 + d) / 10 = q by omega, show (q * 10 + d) % 10 = d by omega]
theorem dec_join (j : Nat) : ∀ (q r : Nat), q ≠ 0 → r < 10 ^ j → Lib.decDigits (q * 10 ^ j + r) = Lib.decDigits q ++ digs j r := by
  induction j with
  | zero => intro q r _ hr; rw [Nat.pow_zero] at hr; have : r = 0 := by omega
            subst this; simp [digs]
  | succ j ih =>
    intro q r hq hr
    have hr' : r / 10 < 10 ^ j := Nat.div_lt_of_lt_mul (by rw [Nat.pow_succ] at hr; omega)
    have hne : q * 10 ^ j + r / 10 ≠ 0 := by
      have : 0 < q * 10 ^ j := Nat.mul_pos (Nat.pos_of_ne_zero hq) (Nat.pow_pos (by decide))
      omega
    have e : q * 10 ^ (j + 1) + r = (q * 10 ^ j + r / 10) * 10 + r % 10 := by
      rw [Nat.pow_succ, Nat.add_mul, Nat.mul_assoc]; omega
    rw [e, dec_step _ _ hne (Nat.mod_lt _ (by decide)), ih q (r / 10) hq hr', digs, List.append_assoc]
theorem digs_zero (j : Nat) : digs j 0 = List.replicate j 48 := by
  induction j with
  | zero => rfl
  | succ j ih => rw [digs, Nat.zero_div, ih, List.replicate_succ']; rfl
theorem digs_pad (j : Nat) : ∀ r, r < 10 ^ (j + 1) → digs (j + 1) r = List.replicate (j + 1 - (Lib.decDigits r).length) 48 ++ Lib.decDigits r := by
  induction j with
  | zero => intro r hr; rw [dec_small (by simpa using hr)]; simp [digs, Nat.mod_eq_of_lt (show r < 10 by simpa using hr)]
  | succ j ih =>
    intro r hr
    by_cases h : r < 10
    · rw [dec_small h, digs, Nat.div_eq_of_lt h, digs_zero, Nat.mod_eq_of_lt h]; simp
    · rw [dec_big h, digs, ih (r / 10) (Nat.div_lt_of_lt_mul (by rw [Nat.pow_succ] at hr; omega)), List.append_assoc, List.length_append, List.length_singleton]
      congr 2
      omega

/-- The i-th group. -/
theorem grp_get (i : Nat) : ∀ n, i < (grp n).length → (grp n)[i]? = some (n / G ^ i % G) := by
  induction i with
  | zero =>
    intro n h
    have hn : n ≠ 0 := by rintro rfl; rw [grp_zero] at h; simp at h
    rw [grp_pos n hn, Nat.pow_zero, Nat.div_one]; rfl
  | succ i ih =>
    intro n h
    have hn : n ≠ 0 := by rintro rfl; rw [grp_zero] at h; simp at h
    rw [grp_pos n hn, List.length_cons] at h
    rw [grp_pos n hn, List.getElem?_cons_succ, ih _ (Nat.lt_of_succ_lt_succ h), Nat.div_div_eq_div_mul, Nat.pow_succ, Nat.mul_comm G]
theorem grp_lt_pow (n : Nat) : n < G ^ (grp n).length := by
  induction n using Nat.strongRecOn with
  | ind n ih =>
    by_cases h : n = 0
    · subst h; rw [grp_zero]; simp
    · rw [grp_pos n h, List.length_cons, Nat.pow_succ]
      have := ih _ (div_G_lt h)
      exact (Nat.div_lt_iff_lt_mul G_pos).1 this
theorem grp_top (n : Nat) (h : n ≠ 0) : n / G ^ ((grp n).length - 1) ≠ 0 := by
  induction n using Nat.strongRecOn with
  | ind n ih =>
    rw [grp_pos n h, List.length_cons, Nat.add_sub_cancel]
    by_cases h2 : n / G = 0
    · rw [h2, grp_zero]; simpa using h
    · have hp : 0 < (grp (n / G)).length := List.length_pos_iff.2 (fun e => h2 ((grp_nil_iff _).1 e))
      have := ih _ (div_G_lt h) h2
      rwa [Nat.div_div_eq_div_mul, Nat.mul_comm, ← Nat.pow_succ, Nat.succ_eq_add_one, Nat.sub_add_cancel hp] at this

/-- What Text has written when it has gone through k groups from the highest down. -/
def txt (n k : Nat) : List UInt8 := if k = 0 then [] else Lib.decDigits (n / G ^ ((grp n).length - k))
theorem txt_zero (n : Nat) : txt n 0 = [] := rfl
theorem txt_all (n : Nat) (h : n ≠ 0) : txt n (grp n).length = Lib.decDigits n := by
  have hp : 0 < (grp n).length := List.length_pos_iff.2 (fun e => h ((grp_nil_iff _).1 e))
  rw [txt, if_neg (by omega), Nat.sub_self, Nat.pow_zero, Nat.div_one]
theorem G_pow9 : G = 10 ^ 9 := rfl
theorem txt_succ (n k : Nat) (hk : k < (grp n).length) : txt n (k + 1) = txt n k ++ (if k = 0 then Lib.decDigits ((grp n)[(grp n).length - 1 - k]?.getD 0) else List.replicate (9 - (Lib.decDigits ((grp n)[(grp n).length - 1 - k]?.getD 0)).length) 48 ++ Lib.decDigits ((grp n)[(grp n).length - 1 - k]?.getD 0)) := by
  have hn : n ≠ 0 := by rintro rfl; rw [grp_zero] at hk; simp at hk
  rw [grp_get _ n (by omega), Option.getD_some]
  by_cases h0 : k = 0
  · subst h0
    rw [txt, if_neg (by omega), txt_zero, if_pos rfl, List.nil_append, Nat.sub_zero]
    congr 1
    have hlt := grp_lt_pow n
    rw [Nat.zero_add]
    refine (Nat.mod_eq_of_lt (Nat.div_lt_of_lt_mul ?_)).symm
    rw [← Nat.pow_succ, Nat.succ_eq_add_one, Nat.sub_add_cancel (by omega)]
    exact hlt
  · rw [txt, if_neg (by omega), txt, if_neg h0, if_neg h0]
    obtain ⟨e, he⟩ : ∃ e, e + 1 = (grp n).length - k := ⟨(grp n).length - k - 1, by omega⟩
    have e1 : (grp n).length - (k + 1) = e := by omega
    have e2 : (grp n).length - 1 - k = e := by omega
    rw [e1, e2, ← he]
    have hq : n / G ^ (e + 1) ≠ 0 := by
      intro hz
      have ht := grp_top n hn
      apply ht
      have hle : e + 1 ≤ (grp n).length - 1 := by omega
      obtain ⟨d, hd⟩ : ∃ d, (grp n).length - 1 = (e + 1) + d := ⟨(grp n).length - 1 - (e + 1), by omega⟩
      rw [hd, Nat.pow_add, ← Nat.div_div_eq_div_mul, hz, Nat.zero_div]
    have hs : n / G ^ e = n / G ^ (e + 1) * 10 ^ 9 + n / G ^ e % G := by
      rw [Nat.pow_succ, ← Nat.div_div_eq_div_mul, ← G_pow9]
      exact (Nat.div_add_mod' _ _).symm
    have hr : n / G ^ e % G < 10 ^ (8 + 1) := Nat.mod_lt _ G_pos
    rw [← digs_pad 8 _ hr]
    generalize n / G ^ e % G = r at *
    rw [hs]
    exact dec_join 9 _ r hq hr
theorem txt_len (n k : Nat) (hk : k ≤ (grp n).length) : (txt n k).length ≤ 9 * k := by
  induction k with
  | zero => simp [txt_zero]
  | succ k ih =>
    have hk' : k < (grp n).length := hk
    have ihk := ih (by omega)
    have hx : (grp n)[(grp n).length - 1 - k]?.getD 0 < 10 ^ 9 := by
      rw [grp_get _ n (by omega)]; exact Nat.mod_lt _ G_pos
    generalize hy : (grp n)[(grp n).length - 1 - k]?.getD 0 = y at *
    have hyl : (Lib.decDigits y).length ≤ 9 := by
      have h1 := digs_pad 8 y hx
      have h2 : (digs 9 y).length = 9 := rfl
      rw [h1, List.length_append] at h2
      omega
    rw [txt_succ n k hk', hy, List.length_append]
    split
    · omega
    · rw [List.length_append, List.length_replicate]; omega

end Go.Proofs.YtghjhflfcambjaaGreatDoor
