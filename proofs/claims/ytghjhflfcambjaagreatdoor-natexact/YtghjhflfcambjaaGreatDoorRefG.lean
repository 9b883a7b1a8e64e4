/- The document's answer: short and NatInt. -/
import Derived.Test.YtghjhflfcambjaaGreatDoorRefE
namespace Go.Proofs.YtghjhflfcambjaaGreatDoor
open Go.RowKit

theorem nb_take_le (l : List UInt8) (k : Nat) : nb (l.take k) ≤ nb l := by
  conv => rhs; rw [← List.take_append_drop k l, nb_append]
  have : nb (l.take k) * 1 ≤ nb (l.take k) * 256 ^ (l.drop k).length := Nat.mul_le_mul_left _ (Nat.pow_pos (by decide))
  omega
theorem nb_take_succ (s : ByteArray) (k : Nat) (h : k < s.size) : nb (s.data.toList.take (k + 1)) = nb (s.data.toList.take k) * 256 + s[k].toNat := by
  rw [take_snoc s k h, nb_snoc]
theorem nb_take_all (s : ByteArray) : nb (s.data.toList.take s.size) = N s := by
  rw [List.take_of_length_le (by rw [bytes_len]; exact Nat.le_refl _), N]

set_option maxRecDepth 100000 in
set_option maxHeartbeats 1000000 in
theorem short_yes (s : ByteArray) (w : World) (hs : s.size ≤ 7) :
    Calls Tryz.prog 42 #[.string s] w fun e w' => e = .returned (.tuple #[.int .i64 (N s : Nat), .bool true]) ∧ w' = w := by
  have hN : N s < 72057594037927936 := Nat.lt_of_lt_of_le (N_lt s) (Nat.pow_le_pow_right (by decide) hs)
  have HA := hide (nb_take_all s)
  go_enter Tryz.func42, Tryz.ntmps42
  go_wp2
  go_loop [4, 5] (fun v i => ∃ k : Nat, k ≤ s.size ∧ i = .int .i64 k ∧ v = .int .i64 (nb (s.data.toList.take k) : Nat)) (fun _ i => s.size - (intOf i).toNat)
  case atStart => exact ⟨0, Nat.zero_le _, rfl, rfl⟩
  case round =>
    obtain ⟨k, hk, rfl, rfl⟩ := hrel
    by_cases hlt : k < s.size
    · have hwr := wrap64_small _ s[k].toNat_lt
      have hst := nb_take_succ s k hlt
      have hle := nb_take_le s.data.toList (k + 1)
      rw [hst] at hle
      have hle' : nb (s.data.toList.take k) * 256 + s[k].toNat < 72057594037927936 := Nat.lt_of_le_of_lt hle hN
      have HST := hide hst
      clear hst hle hN
      generalize nb (s.data.toList.take k) = m at *
      go_wp2
      go_round
      case rel => exact ⟨k + 1, by omega, by go_num, by rw [HST.out]; exact int_eq (by omega)⟩
      case measure => simp [intOf]; omega
    · obtain rfl : k = s.size := by omega
      rw [HA.out]
      go_wp2
      go_ret2
      exact ⟨rfl, rfl⟩

set_option maxRecDepth 100000 in
set_option maxHeartbeats 1000000 in
theorem short_no (s : ByteArray) (w : World) (h1 : 7 < s.size) (hs : s.size ≤ 1000000) :
    Calls Tryz.prog 42 #[.string s] w fun e w' => e = .returned (.tuple #[.int .i64 0, .bool false]) ∧ w' = w := by
  go_enter Tryz.func42, Tryz.ntmps42
  go_wp2
  go_ret2
  exact ⟨rfl, rfl⟩

theorem N_first (s : ByteArray) (h : s.size = 8) : s[0].toNat * 72057594037927936 ≤ N s ∧ N s < (s[0].toNat + 1) * 72057594037927936 := by
  have e : s.data.toList = s[0] :: s.data.toList.drop 1 := List.drop_eq_getElem_cons (l := s.data.toList) (i := 0) (by rw [bytes_len]; omega)
  have hl : (s.data.toList.drop 1).length = 7 := by rw [List.length_drop, bytes_len]; omega
  have hb := nb_lt (s.data.toList.drop 1)
  rw [hl] at hb
  rw [N, e, nb_cons, hl]
  have : (256 : Nat) ^ 7 = 72057594037927936 := by decide
  rw [this] at hb ⊢
  omega
theorem big_of (m : Nat) (h : 8 < (B m).size) : 18446744073709551616 ≤ m := by
  rcases Nat.lt_or_ge m 18446744073709551616 with h1 | h1
  · have := bn_fits 8 m h1
    rw [← B_size] at this
    omega
  · exact h1
theorem small_of (m : Nat) (h : (B m).size ≤ 7) : m < 72057594037927936 := Nat.lt_of_lt_of_le (B_lt m) (Nat.pow_le_pow_right (by decide) h)

set_option maxRecDepth 100000 in
set_option maxHeartbeats 1000000 in
theorem rInt_no (s : ByteArray) (w : World) (hs : s.size ≤ 1000000) (h : 9223372036854775807 < N s) :
    Calls Tryz.prog 6 #[.string s] w fun e w' => e = .returned (.tuple #[.int .i64 0, .bool false]) ∧ w' = w := by
  have HT := hide (rTrim_any s w (by omega))
  have sb := Nat.le_trans (B_size_le s) hs
  have h7 : ¬ (B (N s)).size ≤ 7 := fun h7 => by have := small_of _ h7; omega
  have h8 := N_first (B (N s))
  rw [N_B] at h8
  generalize B (N s) = x at *
  go_enter Tryz.func6, Tryz.ntmps6
  go_wp2_with fail
  refine (HT.out).mono ?_
  rintro e w1 ⟨rfl, hw⟩
  subst hw
  clear HT
  by_cases h9 : x.size = 8
  · have hf := h8 h9
    have hx0 : 127 < x[0].toNat := by omega
    clear h8 hf h
    go_wp2
    go_ret2
    exact ⟨rfl, rfl⟩
  · have h10 : 8 < x.size := by omega
    clear h8 h
    go_wp2
    go_ret2
    exact ⟨rfl, rfl⟩

set_option maxRecDepth 100000 in
set_option maxHeartbeats 1000000 in
theorem rInt_yes (s : ByteArray) (w : World) (hs : s.size ≤ 1000000) (h : N s ≤ 9223372036854775807) :
    Calls Tryz.prog 6 #[.string s] w fun e w' => e = .returned (.tuple #[.int .i64 (N s : Nat), .bool true]) ∧ w' = w := by
  have HT := hide (rTrim_any s w (by omega))
  have h8' : ¬ 8 < (B (N s)).size := fun h9 => by have := big_of _ h9; omega
  have h8 := N_first (B (N s))
  have HA := nb_take_all (B (N s))
  have HL := nb_take_le (B (N s)).data.toList
  rw [N_B] at h8 HA
  rw [show nb (B (N s)).data.toList = N s from N_B (N s)] at HL
  generalize B (N s) = x at *
  have hx0 : ∀ h : x.size = 8, ¬ 127 < x[0].toNat := fun h9 => by have := h8 h9; omega
  have HA' := hide HA
  have HL' := hide HL
  clear HA HL h8
  go_enter Tryz.func6, Tryz.ntmps6
  go_wp2_with fail
  refine (HT.out).mono ?_
  rintro e w1 ⟨rfl, hw⟩
  subst hw
  clear HT
  by_cases h9 : x.size = 8
  all_goals
    first
      | (have hx1 := hx0 h9; clear hx0)
      | clear hx0
    go_wp2
    go_loop [4, 5] (fun v i => ∃ k : Nat, k ≤ x.size ∧ i = .int .i64 k ∧ v = .int .i64 (nb (x.data.toList.take k) : Nat)) (fun _ i => x.size - (intOf i).toNat)
    case atStart => exact ⟨0, Nat.zero_le _, rfl, rfl⟩
    case round =>
      obtain ⟨k, hk, rfl, rfl⟩ := hrel
      by_cases hlt : k < x.size
      · have hwr := wrap64_small _ x[k].toNat_lt
        have hst := nb_take_succ x k hlt
        have hle := HL'.out (k + 1)
        rw [hst] at hle
        have HST := hide hst
        clear hst
        generalize nb (x.data.toList.take k) = m at *
        have hm2 : (m : Int) * 256 + (x[k].toNat : Int) ≤ 9223372036854775807 := by omega
        go_wp2
        go_round
        case rel => exact ⟨k + 1, by omega, by go_num, by rw [HST.out]; exact int_eq (by omega)⟩
        case measure => simp [intOf]; omega
      · obtain rfl : k = x.size := by omega
        rw [HA'.out]
        go_wp2
        go_ret2
        exact ⟨rfl, rfl⟩
end Go.Proofs.YtghjhflfcambjaaGreatDoor
