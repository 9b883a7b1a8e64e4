/- The document's answer: Gcd. -/
import Derived.Test.YtghjhflfcambjaaGreatDoorRefJ
namespace Go.Proofs.YtghjhflfcambjaaGreatDoor
open Go.RowKit

theorem rDiv_B (m n : Nat) (w : World) (hm : (B m).size ≤ 500000) (hn : (B n).size ≤ 500000) (h : n ≠ 0) :
    Calls Tryz.prog 24 #[.string (B m), .string (B n)] w fun e w' => e = .returned (.tuple #[.string (B (m / n)), .string (B (m % n)), .bool true]) ∧ Below w.heap.size w w' := by
  have := rDiv_any (B m) (B n) w hm hn (by rw [N_B]; exact h)
  rwa [N_B, N_B] at this

set_option maxRecDepth 100000 in
set_option maxHeartbeats 1000000 in
theorem rGcd_any (a b : ByteArray) (w : World) (ha : a.size ≤ 500000) (hb : b.size ≤ 500000) :
    Calls Tryz.prog 18 #[.string a, .string b] w fun e w' => e = .returned (.string (B (Nat.gcd (N a) (N b)))) ∧ Below w.heap.size w w' := by
  have HTA := hide (rTrim_any a w (by omega))
  have HTB := hide (rTrim_any b w (by omega))
  have sa := Nat.le_trans (B_size_le a) ha
  have sb := Nat.le_trans (B_size_le b) hb
  generalize hA' : N a = A at *
  generalize hD' : N b = D at *
  clear hA' hD' ha hb
  go_enter Tryz.func18, Tryz.ntmps18
  go_wp2_with fail
  refine (HTA.out).mono ?_
  rintro e w1 ⟨rfl, hw⟩
  subst hw
  go_wp2_with fail
  refine (HTB.out).mono ?_
  rintro e w1 ⟨rfl, hw⟩
  subst hw
  clear HTA HTB
  go_wp2
  go_loopg [0, 1] D (fun r vx vy wr => ∃ m : Nat, vx = .string (B m) ∧ vy = .string (B r) ∧ (B m).size ≤ 500000 ∧ (B r).size ≤ 500000 ∧ Hid (Nat.gcd m r = Nat.gcd A D) ∧ Below w1.heap.size w1 wr)
  case atStart => exact ⟨A, rfl, rfl, sa, sb, rfl, Below.refl _ _⟩
  case round =>
    obtain ⟨m, rfl, rfl, hm, hr, HG, hBr⟩ := hrel
    by_cases h0 : gk = 0
    · subst h0
      rw [B_zero]
      have HE : Hid (m = Nat.gcd A D) := by show _ = _; rw [← HG.out, Nat.gcd_zero_right]
      go_wp2
      go_ret
      exact ⟨by rw [← HE.out]; rfl, hBr⟩
    · have hne := B_full h0
      have HD := hide (fun V => rDiv_B m gk V hm hr h0)
      have hmod := Nat.mod_lt m (Nat.pos_of_ne_zero h0)
      have hsz := Nat.le_trans (sz_mono (Nat.le_of_lt hmod)) hr
      have HG2 : Hid (Nat.gcd gk (m % gk) = Nat.gcd A D) := by show _ = _; rw [← HG.out, Nat.gcd_comm m gk, Nat.gcd_rec gk m, Nat.gcd_comm]
      go_wp2_with fail
      refine (HD.out _).mono ?_
      rintro e w2 ⟨rfl, hb2⟩
      go_wp2
      go_roundg (m % gk)
      case measure => exact hmod
      case rel => exact ⟨gk, rfl, rfl, hr, hsz, HG2.out, hBr.trans (hb2.mono hBr.size)⟩
end Go.Proofs.YtghjhflfcambjaaGreatDoor
