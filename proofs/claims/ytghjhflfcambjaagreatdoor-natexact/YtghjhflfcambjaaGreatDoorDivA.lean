/- divide of package nat: quotient and rest. -/
import Derived.Test.YtghjhflfcambjaaGreatDoorMostA
import Derived.Test.YtghjhflfcambjaaGreatDoorNumJ
import Derived.Lib.BitFns
namespace Go.Proofs.YtghjhflfcambjaaGreatDoor
open Go.RowKit

theorem bitLen_bounds (k : Nat) : ∀ x, x < 2 ^ k → k ≤ 32 → Lib.bitLen x ≤ k ∧ x < 2 ^ Lib.bitLen x := by
  induction k with
  | zero => intro x h _; have : x = 0 := by simpa using h
            subst this; exact ⟨Nat.le_refl _, by decide⟩
  | succ k ih =>
    intro x h hk
    by_cases h0 : x = 0
    · subst h0; exact ⟨Nat.zero_le _, by decide⟩
    · have hx64 : x < 2 ^ 64 := Nat.lt_of_lt_of_le h (Nat.pow_le_pow_right (by decide) (by omega))
      have e := Lib.bitLen_half x h0 hx64
      obtain ⟨i1, i2⟩ := ih (x / 2) (Nat.div_lt_of_lt_mul (by rw [Nat.pow_succ] at h; omega)) (by omega)
      rw [e]
      refine ⟨by omega, ?_⟩
      rw [Nat.add_comm, Nat.pow_succ]
      omega
theorem bitLen_pos (x : Nat) (h0 : x ≠ 0) (h : x < 4294967296) : 1 ≤ Lib.bitLen x := by
  have := Lib.bitLen_half x h0 (by omega)
  omega

/-- The shifted divisor has as many parts as the divisor. -/
theorem by_length (ys : List Nat) (s : Nat) (hs : Small ys) (hpos : 0 < ys.length) (hlast : ys[ys.length - 1]?.getD 0 ≠ 0) (hfit : 2 ^ s * (ys[ys.length - 1]?.getD 0 + 1) ≤ W) :
    (words (2 ^ s * nw ys)).length = ys.length ∧ 2 ^ s * W ^ (ys.length - 1) ≤ 2 ^ s * nw ys ∧ 2 ^ s * nw ys ≤ W ^ ys.length := by
  obtain ⟨d, hd⟩ : ∃ d, ys.length = d + 1 := ⟨ys.length - 1, by omega⟩
  rw [hd, Nat.add_sub_cancel] at hlast hfit ⊢
  have ey := nw_cut_le ys d (by omega)
  have hy2 : ys.drop d = [ys[d]?.getD 0] := by
    rw [List.drop_eq_getElem_cons (by omega), List.drop_of_length_le (by omega), List.getElem?_eq_getElem (by omega)]; rfl
  rw [hy2, nw_cons, nw_nil, Nat.mul_zero, Nat.add_zero] at ey
  have hlt := nw_lt (ys.take d) (small_take hs d)
  rw [List.length_take, Nat.min_eq_left (by omega)] at hlt
  generalize ys[d]?.getD 0 = y at *
  have hp : 0 < 2 ^ s := Nat.pow_pos (by decide)
  have h1 : W ^ d * 1 ≤ W ^ d * y := Nat.mul_le_mul_left _ (Nat.pos_of_ne_zero hlast)
  have hlow : W ^ d ≤ nw ys := by omega
  have hhigh : nw ys < W ^ d * (y + 1) := by rw [Nat.mul_add]; omega
  have h2 : 2 ^ s * nw ys < 2 ^ s * (W ^ d * (y + 1)) := Nat.mul_lt_mul_of_pos_left hhigh hp
  have h3 : 2 ^ s * (W ^ d * (y + 1)) ≤ W ^ d * W := by rw [Nat.mul_left_comm]; exact Nat.mul_le_mul_left _ hfit
  have h4 : 2 ^ s * nw ys < W ^ (d + 1) := by rw [Nat.pow_succ]; omega
  have h5 : W ^ d ≤ 2 ^ s * nw ys := Nat.le_trans hlow (Nat.le_mul_of_pos_left _ hp)
  refine ⟨?_, Nat.mul_le_mul_left _ hlow, by omega⟩
  have hw := nw_words (2 ^ s * nw ys)
  have hsm := words_small (2 ^ s * nw ys)
  have hub := nw_lt _ hsm
  rw [hw] at hub
  have hlb : (words (2 ^ s * nw ys)).length ≤ d + 1 := by
    obtain ⟨k, hk, e⟩ := words_prefix (words (2 ^ s * nw ys) ++ List.replicate 0 0) (by simpa using hsm)
    have hne : words (2 ^ s * nw ys) ≠ [] := fun e => by rw [words_nil_iff] at e; have : 0 < W ^ d := Nat.pow_pos W_pos; omega
    have hl := words_last _ hne
    rcases Nat.lt_or_ge (d + 1) (words (2 ^ s * nw ys)).length with c | c
    · exfalso
      generalize words (2 ^ s * nw ys) = l at *
      obtain ⟨z, hz⟩ : ∃ z, l.length = z + 1 := ⟨l.length - 1, by omega⟩
      have ec := nw_cut_le l z (by omega)
      rw [List.getLast_eq_getElem] at hl
      have hz2 : l.drop z = [l[z]'(by omega)] := by rw [List.drop_eq_getElem_cons (by omega), List.drop_of_length_le (by omega)]
      simp only [hz, Nat.add_sub_cancel] at hl
      rw [hz2, nw_cons, nw_nil, Nat.mul_zero, Nat.add_zero] at ec
      have h6 : W ^ z * 1 ≤ W ^ z * l[z]'(by omega) := Nat.mul_le_mul_left _ (Nat.pos_of_ne_zero hl)
      have h7 : W ^ (d + 1) ≤ W ^ z := Nat.pow_le_pow_right W_pos (by omega)
      omega
    · exact c
  rcases Nat.lt_or_ge (words (2 ^ s * nw ys)).length (d + 1) with c | c
  · have : W ^ (words (2 ^ s * nw ys)).length ≤ W ^ d := Nat.pow_le_pow_right W_pos (by omega)
    omega
  · omega

set_option maxHeartbeats 1000000 in
theorem divide_small (vx : Option Addr) (n capx : Nat) (vy : Option Addr) (m capy : Nat) (w : World) (h : n < m) :
    Calls Tryz.prog 43 #[.slice vx n capx, .slice vy m capy] w fun e w' => e = .returned (.tuple #[.slice none 0 0, .slice vx n capx]) ∧ w' = w := by
  go_enter Tryz.func43, Tryz.ntmps43
  go_wp2
  go_ret2
  exact ⟨rfl, rfl⟩
end Go.Proofs.YtghjhflfcambjaaGreatDoor
