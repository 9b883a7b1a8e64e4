/- The document's answer: Trim, digit and the comparison. -/
import Derived.Test.YtghjhflfcambjaaGreatDoorRefN
namespace Go.Proofs.YtghjhflfcambjaaGreatDoor
open Go.RowKit

theorem trim_at (s : ByteArray) (k : Nat) (hk : k ≤ s.size) (h0 : (s.data.toList.take k).all (· == 0) = true) (h1 : ∀ h : k < s.size, s[k].toNat ≠ 0) : s.extract k s.size = B (N s) := by
  have e : s.data.toList.dropWhile (· == 0) = s.data.toList.drop k := drop_zeros _ k (by simpa using hk) h0 (fun h hz => h1 (by simpa using h) (by
    have : s[k]'(by simpa using h) = s.data.toList[k] := rfl
    rw [this, hz]; rfl))
  apply ByteArray.ext
  apply Array.toList_inj.1
  rw [B, N, bn_nb, e]
  show (s.extract k s.size).data.toList = _
  rw [ByteArray.data_extract, Array.toList_extract]
  simp [List.take_of_length_le]

set_option maxRecDepth 100000 in
set_option maxHeartbeats 1000000 in
theorem rTrim_any (s : ByteArray) (w : World) (hs : s.size ≤ 140737488355328) :
    Calls Tryz.prog 8 #[.string s] w fun e w' => e = .returned (.string (B (N s))) ∧ w' = w := by
  go_enter Tryz.func8, Tryz.ntmps8
  go_wp2
  go_loop [3] (fun i => ∃ k : Nat, k ≤ s.size ∧ i = .int .i64 k ∧ (s.data.toList.take k).all (· == 0) = true) (fun i => s.size - (intOf i).toNat)
  case atStart => exact ⟨0, Nat.zero_le _, rfl, rfl⟩
  case round =>
    obtain ⟨k, hk, rfl, hall⟩ := hrel
    have HA : Hid ((s.data.toList.take k).all (· == 0) = true) := hall
    clear hall
    by_cases hlt : k < s.size
    · by_cases hc : s[k].toNat = 0
      · have HS : Hid ((s.data.toList.take (k + 1)).all (· == 0) = true) := by
          show _ = _
          rw [take_snoc s k hlt, List.all_append, HA.out]
          have : s[k] = 0 := UInt8.toNat_inj.1 hc
          simp [this]
        go_wp2
        go_round
        case rel => exact ⟨k + 1, by omega, by go_num, HS.out⟩
        case measure => simp [intOf]; omega
      · have HE := hide (trim_at s k hk HA.out fun _ => hc)
        go_wp2
        go_ret
        exact ⟨by rw [← HE.out]; rfl, rfl⟩
    · have HE := hide (trim_at s k hk HA.out fun h => absurd h hlt)
      go_wp2
      go_ret
      exact ⟨by rw [← HE.out]; rfl, rfl⟩

theorem wrap64_small (n : Nat) (h : n < 256) : wrap64 (n : Int) = (n : Int) := by
  rw [wrap64]
  omega

set_option maxRecDepth 100000 in
set_option maxHeartbeats 1000000 in
theorem digit_any (s : ByteArray) (i : Nat) (w : World) (hs : s.size ≤ 140737488355328) (hi : i ≤ 9223372036854775807) :
    Calls Tryz.prog 39 #[.string s, .int .i64 (i : Int)] w fun e w' => e = .returned (.int .i64 ((N s / 256 ^ i % 256 : Nat) : Int)) ∧ w' = w := by
  go_enter Tryz.func39, Tryz.ntmps39
  by_cases hlt : i < s.size
  · have HD : Hid (N s / 256 ^ i % 256 = (s[s.size - 1 - i]'(by omega)).toNat) := by
      show _ = _
      rw [N, nb_digit _ i (by simpa using hlt)]
      simp
      rfl
    have hx : 0 ≤ (s.size : Int) - 1 - i := by omega
    have hw := wrap64_small _ (s[s.size - 1 - i]'(by omega)).toNat_lt
    have HW := hide hw
    clear hw
    go_wp2
    go_ret
    exact ⟨by rw [HD.out]; exact congrArg (fun z => Ending.returned (Value.int .i64 z)) HW.out, rfl⟩
  · have HD : Hid (N s / 256 ^ i % 256 = 0) := nb_digit0 _ i (by simp; omega)
    go_wp2
    go_ret
    exact ⟨by rw [HD.out]; rfl, rfl⟩
end Go.Proofs.YtghjhflfcambjaaGreatDoor
