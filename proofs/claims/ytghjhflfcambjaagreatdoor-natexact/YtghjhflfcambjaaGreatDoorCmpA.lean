/- cmp.Compare at api.Nat, and nat.Cmp. -/
import Derived.Test.YtghjhflfcambjaaGreatDoorReckB
import Derived.Test.YtghjhflfcambjaaGreatDoorParseA
namespace Go.Proofs.YtghjhflfcambjaaGreatDoor
open Go.RowKit

/-- How two numbers compare. -/
def cmpI (m n : Nat) : Int := if m < n then -1 else if m = n then 0 else 1

theorem less_nb : ∀ (l m : List UInt8), l.length = m.length → Op.bytesLess l m = decide (nb l < nb m)
  | [], [], _ => rfl
  | x :: l, y :: m, h => by
    have hl : l.length = m.length := by simpa using h
    have ih := less_nb l m hl
    have h1 := nb_lt l
    have h2 := nb_lt m
    rw [nb_cons, nb_cons, ← hl]
    rw [← hl] at h2
    rw [Op.bytesLess]
    rcases Nat.lt_trichotomy x.toNat y.toNat with e | e | e
    · have hxy : (decide (x < y)) = true := by simpa [UInt8.lt_iff_toNat_lt] using e
      have : (x.toNat + 1) * 256 ^ l.length ≤ y.toNat * 256 ^ l.length := Nat.mul_le_mul_right _ e
      rw [Nat.add_mul] at this
      rw [hxy, Bool.true_or]
      symm; rw [decide_eq_true_eq]; omega
    · have hxy : x = y := UInt8.toNat_inj.1 e
      subst hxy
      have h3 : (decide (x < x)) = false := by simp
      rw [h3, Bool.false_or, beq_self_eq_true, Bool.true_and, ih]
      congr 1
      apply propext
      omega
    · have h3 : (decide (x < y)) = false := by simp [UInt8.lt_iff_toNat_lt]; omega
      have h4 : (x == y) = false := by rw [beq_eq_false_iff_ne]; rintro rfl; omega
      have : (y.toNat + 1) * 256 ^ l.length ≤ x.toNat * 256 ^ l.length := Nat.mul_le_mul_right _ e
      rw [Nat.add_mul] at this
      rw [h3, h4, Bool.false_or, Bool.false_and]
      symm; rw [decide_eq_false_iff_not]; omega
theorem nb_inj : ∀ (l m : List UInt8), l.length = m.length → nb l = nb m → l = m
  | [], [], _, _ => rfl
  | x :: l, y :: m, h, e => by
    have hl : l.length = m.length := by simpa using h
    have h1 := nb_lt l
    have h2 := nb_lt m
    rw [nb_cons, nb_cons, ← hl] at e
    rw [← hl] at h2
    have hp : 0 < 256 ^ l.length := Nat.pow_pos (by decide)
    have hx : x.toNat = y.toNat := by
      rcases Nat.lt_trichotomy x.toNat y.toNat with c | c | c
      · have : (x.toNat + 1) * 256 ^ l.length ≤ y.toNat * 256 ^ l.length := Nat.mul_le_mul_right _ c
        rw [Nat.add_mul] at this
        omega
      · exact c
      · have : (y.toNat + 1) * 256 ^ l.length ≤ x.toNat * 256 ^ l.length := Nat.mul_le_mul_right _ c
        rw [Nat.add_mul] at this
        omega
    rw [hx] at e
    rw [UInt8.toNat_inj.1 hx, nb_inj l m hl (by omega)]

set_option maxHeartbeats 1000000 in
theorem CompareNat_any (a b : ByteArray) (w : World) (h : a.size = b.size) :
    Calls Tryz.prog 36 #[.string a, .string b] w fun e w' => e = .returned (.int .i64 (cmpI (N a) (N b))) ∧ w' = w := by
  have hlt := less_nb a.data.toList b.data.toList (by rw [Array.length_toList, Array.length_toList]; exact h)
  rcases Nat.lt_trichotomy (N a) (N b) with h1 | h1 | h1
  · have hL : Op.bytesLess a.toList b.toList = true := by rw [toList_data, toList_data, hlt]; simpa [N] using h1
    have HR : Hid (cmpI (N a) (N b) = -1) := by show _ = _; rw [cmpI, if_pos h1]
    clear hlt h1
    go_enter Tryz.func36, Tryz.ntmps36
    go_wp2
    go_ret
    exact ⟨ret_int HR.out.symm, rfl⟩
  · have hL : Op.bytesLess a.toList b.toList = false := by rw [toList_data, toList_data, hlt]; simp only [N] at h1; rw [decide_eq_false_iff_not]; omega
    have hE : (a.toList == b.toList) = true := by
      rw [toList_data, toList_data, nb_inj a.data.toList b.data.toList (by rw [Array.length_toList, Array.length_toList]; exact h) h1]
      simp
    have HR : Hid (cmpI (N a) (N b) = 0) := by show _ = _; rw [cmpI, if_neg (by omega), if_pos h1]
    clear hlt h1
    go_enter Tryz.func36, Tryz.ntmps36
    go_wp2
    go_ret
    exact ⟨ret_int HR.out.symm, rfl⟩
  · have hL : Op.bytesLess a.toList b.toList = false := by rw [toList_data, toList_data, hlt]; simp only [N] at h1; rw [decide_eq_false_iff_not]; omega
    have hE : (a.toList == b.toList) = false := by
      rw [toList_data, toList_data, beq_eq_false_iff_ne]
      intro e
      rw [N, N, e] at h1
      omega
    have HR : Hid (cmpI (N a) (N b) = 1) := by show _ = _; rw [cmpI, if_neg (by omega), if_neg (by omega)]
    clear hlt h1
    go_enter Tryz.func36, Tryz.ntmps36
    go_wp2
    go_ret
    exact ⟨ret_int HR.out.symm, rfl⟩

set_option maxHeartbeats 1000000 in
theorem Cmp_any (a b : ByteArray) (w : World) :
    Calls Tryz.prog 11 #[.string a, .string b] w fun e w' => e = .returned (.int .i64 (cmpI (N a) (N b))) ∧ w' = w := by
  by_cases h : (B (N a)).size = (B (N b)).size
  · have hc := fun V => CompareNat_any (B (N a)) (B (N b)) V h
    simp only [N_B] at hc
    have HC := hide hc
    have hne : (((B (N a)).size : Int) != ((B (N b)).size : Int)) = false := by rw [h]; simp
    clear hc h
    go_enter Tryz.func11, Tryz.ntmps11
    go_wp2_with fail
    refine (bare_any _ _).mono ?_
    rintro e w1 ⟨rfl, hw⟩
    subst hw
    go_wp2_with fail
    refine (bare_any _ _).mono ?_
    rintro e w2 ⟨rfl, hw⟩
    subst hw
    go_wp2_with fail
    refine (HC.out _).mono ?_
    rintro e w3 ⟨rfl, hw⟩
    subst hw
    go_wp2
    go_ret
    exact ⟨rfl, rfl⟩
  · have hne : (((B (N a)).size : Int) != ((B (N b)).size : Int)) = true := by rw [bne_iff_ne]; omega
    have HR : Hid (Lib.compareInt (((B (N a)).size : Nat) : Int) (((B (N b)).size : Nat) : Int) = cmpI (N a) (N b)) := by
      show _ = _
      rw [B_size, B_size] at h ⊢
      unfold Lib.compareInt cmpI
      rcases Nat.lt_or_ge (N a) (N b) with c | c
      · have := bn_length_mono (Nat.le_of_lt c)
        rw [if_pos (by omega), if_pos c]
      · have := bn_length_mono c
        rw [if_neg (by omega), if_pos (by omega), if_neg (by omega), if_neg (by intro e; rw [e] at h; exact h rfl)]
    clear h
    go_enter Tryz.func11, Tryz.ntmps11
    go_wp2_with fail
    refine (bare_any _ _).mono ?_
    rintro e w1 ⟨rfl, hw⟩
    subst hw
    go_wp2_with fail
    refine (bare_any _ _).mono ?_
    rintro e w2 ⟨rfl, hw⟩
    subst hw
    go_wp2_with fail
    refine (Tryz.cmp_Compare_int _ _ _).mono ?_
    rintro e w3 ⟨rfl, hw⟩
    subst hw
    go_wp2
    go_ret
    exact ⟨ret_int HR.out, rfl⟩
end Go.Proofs.YtghjhflfcambjaaGreatDoor
