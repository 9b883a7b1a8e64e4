/- The law NatRing answers true: numbers are reckoned with as numbers are. -/
import Derived.Test.YtghjhflfcambjaaDoorFaceA
namespace Go.Proofs.YtghjhflfcambjaaDoor
open Go.RowKit

set_option maxRecDepth 100000 in
set_option maxHeartbeats 2000000 in
theorem natRing_big (a b c : ByteArray) (w : World) (ha : a.size ≤ 140737488355328) (hb : b.size ≤ 140737488355328) (hc : c.size ≤ 140737488355328) (hbig : 300 < a.size + b.size + c.size) :
    Calls Tryd.prog 3 #[.string a, .string b, .string c] w fun e w' => e = .returned (.bool true) ∧ Below w.heap.size w w' := by
  go_enter Tryd.func3, Tryd.ntmps3
  go_wp2
  go_ret
  exact ⟨rfl, Below.refl _ _⟩

set_option maxRecDepth 100000 in
set_option maxHeartbeats 4000000 in
theorem natRing_walk (a b c : ByteArray) (w : World) (hsm : ¬ 300 < a.size + b.size + c.size) :
    Calls Tryd.prog 3 #[.string a, .string b, .string c] w fun e w' => e = .returned (.bool true) ∧ Below w.heap.size w w' := by
  have sa := B_size_le a
  have sb := B_size_le b
  have sc := B_size_le c
  have s1 := sz_add (N a) (N b)
  have s2 := sz_add (N b) (N c)
  have s3 := sz_mul (N a) (N b)
  have s4 := sz_mul (N b) (N c)
  have s5 := sz_mul (N a) (N c)
  have s6 := B_one_size
  have s7 := sz_mono (Nat.div_le_self (N a) (N b))
  have s8 := sz_mono (Nat.mod_le (N a) (N b))
  have s9 := sz_mul (N a / N b) (N b)
  have se : (⟨#[]⟩ : ByteArray).size = 0 := rfl
  have SE := hide se
  clear se
  have hB := Below.refl w.heap.size w
  go_enter Tryd.func3, Tryd.ntmps3
  go_wp2_with fail
  refine (Add_to (N a + N b) hB rfl (by omega) (by omega)).mono ?_
  rintro e w1 ⟨rfl, hB⟩
  go_wp2_with fail
  refine (Add_to (N a + N b) hB (Nat.add_comm _ _) (by omega) (by omega)).mono ?_
  rintro e w1 ⟨rfl, hB⟩
  go_wp2_with fail
  refine (Mul_to (N a * N b) hB rfl (by omega) (by omega)).mono ?_
  rintro e w1 ⟨rfl, hB⟩
  go_wp2_with fail
  refine (Mul_to (N a * N b) hB (Nat.mul_comm _ _) (by omega) (by omega)).mono ?_
  rintro e w1 ⟨rfl, hB⟩
  go_wp2_with fail
  refine (Add_to (N a + N b + N c) hB (by rw [N_B]) (by omega) (by omega)).mono ?_
  rintro e w1 ⟨rfl, hB⟩
  go_wp2_with fail
  refine (Add_to (N b + N c) hB rfl (by omega) (by omega)).mono ?_
  rintro e w1 ⟨rfl, hB⟩
  go_wp2_with fail
  refine (Add_to (N a + N b + N c) hB (by rw [N_B, Nat.add_assoc]) (by omega) (by omega)).mono ?_
  rintro e w1 ⟨rfl, hB⟩
  go_wp2_with fail
  refine (Mul_to (N a * N b) hB rfl (by omega) (by omega)).mono ?_
  rintro e w1 ⟨rfl, hB⟩
  go_wp2_with fail
  refine (Mul_to (N a * N b * N c) hB (by rw [N_B]) (by omega) (by omega)).mono ?_
  rintro e w1 ⟨rfl, hB⟩
  go_wp2_with fail
  refine (Mul_to (N b * N c) hB rfl (by omega) (by omega)).mono ?_
  rintro e w1 ⟨rfl, hB⟩
  go_wp2_with fail
  refine (Mul_to (N a * N b * N c) hB (by rw [N_B, Nat.mul_assoc]) (by omega) (by omega)).mono ?_
  rintro e w1 ⟨rfl, hB⟩
  go_wp2_with fail
  refine (Mul_to ((N a + N b) * N c) hB (by rw [N_B]) (by omega) (by omega)).mono ?_
  rintro e w1 ⟨rfl, hB⟩
  go_wp2_with fail
  refine (Mul_to (N a * N c) hB rfl (by omega) (by omega)).mono ?_
  rintro e w1 ⟨rfl, hB⟩
  go_wp2_with fail
  refine (Mul_to (N b * N c) hB rfl (by omega) (by omega)).mono ?_
  rintro e w1 ⟨rfl, hB⟩
  go_wp2_with fail
  refine (Add_to ((N a + N b) * N c) hB (by rw [N_B, N_B, Nat.add_mul]) (by omega) (by omega)).mono ?_
  rintro e w1 ⟨rfl, hB⟩
  go_wp2_with fail
  refine (Of_to 1 hB rfl (by omega)).mono ?_
  rintro e w1 ⟨rfl, hB⟩
  go_wp2_with fail
  refine (Mul_to (N a) hB (by rw [N_B, Nat.mul_one]) (by omega) (by omega)).mono ?_
  rintro e w1 ⟨rfl, hB⟩
  go_wp2_with fail
  refine (Trim_to (N a) hB rfl (by omega)).mono ?_
  rintro e w1 ⟨rfl, hB⟩
  go_wp2_with fail
  refine (Add_to (N a) hB (by rw [N_empty, Nat.add_zero]) (by omega) (by rw [SE.out]; omega)).mono ?_
  rintro e w1 ⟨rfl, hB⟩
  go_wp2_with fail
  refine (Trim_to (N a) hB rfl (by omega)).mono ?_
  rintro e w1 ⟨rfl, hB⟩
  go_wp2_with fail
  refine (Sub_to (N a) hB (by rw [N_B, Nat.add_comm]) (by omega) (by omega)).mono ?_
  rintro e w1 ⟨rfl, hB⟩
  go_wp2_with fail
  refine (Trim_to (N a) hB rfl (by omega)).mono ?_
  rintro e w1 ⟨rfl, hB⟩
  go_wp2_with fail
  refine (Gcd_to (Nat.gcd (N a) (N b)) hB rfl (by omega) (by omega)).mono ?_
  rintro e w1 ⟨rfl, hB⟩
  by_cases hb0 : N b = 0
  · go_wp2_with fail
    refine (Div_not hB hb0 (by omega)).mono ?_
    rintro e w1 ⟨rfl, hB⟩
    go_wp2_with fail
    refine (Trim_to 0 hB hb0 (by omega)).mono ?_
    rintro e w1 ⟨rfl, hB⟩
    rw [B_zero]
    go_wp2_with fail
    refine (Trim_to (Nat.gcd (N a) (N b)) hB (by rw [hb0, Nat.gcd_zero_right]) (by omega)).mono ?_
    rintro e w1 ⟨rfl, hB⟩
    go_wp2
    go_ret
    exact ⟨by simp, hB⟩
  · have hbp := Nat.pos_of_ne_zero hb0
    have sg := sz_mono (Nat.gcd_le_right (N a) hbp)
    have hgp : Nat.gcd (N a) (N b) ≠ 0 := fun h => hb0 (Nat.gcd_eq_zero_iff.1 h).2
    have hbs := B_full hb0
    go_wp2_with fail
    refine (Div_to (N a / N b) (N a % N b) hB rfl rfl hb0 (by omega) (by omega)).mono ?_
    rintro e w1 ⟨rfl, hB⟩
    go_wp2_with fail
    refine (Trim_to (N b) hB rfl (by omega)).mono ?_
    rintro e w1 ⟨rfl, hB⟩
    go_wp2_with fail
    refine (Div_to (N a / Nat.gcd (N a) (N b)) 0 hB (by rw [N_B]) (by rw [N_B]; exact Nat.mod_eq_zero_of_dvd (Nat.gcd_dvd_left _ _)) (by rw [N_B]; exact hgp) (by omega) (by omega)).mono ?_
    rintro e w1 ⟨rfl, hB⟩
    go_wp2_with fail
    refine (Div_to (N b / Nat.gcd (N a) (N b)) 0 hB (by rw [N_B]) (by rw [N_B]; exact Nat.mod_eq_zero_of_dvd (Nat.gcd_dvd_right _ _)) (by rw [N_B]; exact hgp) (by omega) (by omega)).mono ?_
    rintro e w1 ⟨rfl, hB⟩
    rw [B_zero]
    go_wp2_with fail
    refine (Mul_to (N a / N b * N b) hB (by rw [N_B]) (by omega) (by omega)).mono ?_
    rintro e w1 ⟨rfl, hB⟩
    go_wp2_with fail
    refine (Add_to (N a) hB (by rw [N_B, N_B]; exact Nat.div_add_mod' _ _) (by omega) (by omega)).mono ?_
    rintro e w1 ⟨rfl, hB⟩
    go_wp2_with fail
    refine (Trim_to (N a) hB rfl (by omega)).mono ?_
    rintro e w1 ⟨rfl, hB⟩
    go_wp2_with fail
    refine (Cmp_to (-1) hB (by rw [N_B, cmpI, if_pos (Nat.mod_lt _ hbp)])).mono ?_
    rintro e w1 ⟨rfl, hB⟩
    go_wp2_with fail
    refine (Mul_to (N a * N c) hB rfl (by omega) (by omega)).mono ?_
    rintro e w1 ⟨rfl, hB⟩
    go_wp2_with fail
    refine (Mul_to (N b * N c) hB rfl (by omega) (by omega)).mono ?_
    rintro e w1 ⟨rfl, hB⟩
    go_wp2_with fail
    refine (Gcd_to (Nat.gcd (N a) (N b) * N c) hB (by rw [N_B, N_B, Nat.gcd_mul_right]) (by omega) (by omega)).mono ?_
    rintro e w1 ⟨rfl, hB⟩
    go_wp2_with fail
    refine (Mul_to (Nat.gcd (N a) (N b) * N c) hB (by rw [N_B]) (by omega) (by omega)).mono ?_
    rintro e w1 ⟨rfl, hB⟩
    go_wp2
    go_ret
    exact ⟨by simp, hB⟩
end Go.Proofs.YtghjhflfcambjaaDoor
