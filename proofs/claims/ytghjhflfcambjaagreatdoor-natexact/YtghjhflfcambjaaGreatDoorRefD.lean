/- The document's answer: NatCmp. -/
import Derived.Test.YtghjhflfcambjaaGreatDoorRefC
import Derived.BigQuiet
namespace Go.Proofs.YtghjhflfcambjaaGreatDoor
open Go.RowKit

theorem below_dr {b : Nat} {v u : World} (h : Below b v u) (k : Nat) : Below b v (u.drewN k) := ⟨h.os, h.tape, h.output, h.size, h.block⟩
theorem lt_of_digit (a b : ByteArray) (k : Nat) (ha : k < a.size) (hb : k < b.size) (hl : a.size = b.size) (hp : a.data.toList.take k = b.data.toList.take k) (h : a[k].toNat < b[k].toNat) : N a < N b := by
  have ea : a.data.toList = a.data.toList.take k ++ (a[k] :: a.data.toList.drop (k + 1)) := by
    have hd : a.data.toList.drop k = a[k] :: a.data.toList.drop (k + 1) := List.drop_eq_getElem_cons (l := a.data.toList) (i := k) (by simpa using ha)
    rw [← hd, List.take_append_drop]
  have eb : b.data.toList = b.data.toList.take k ++ (b[k] :: b.data.toList.drop (k + 1)) := by
    have hd : b.data.toList.drop k = b[k] :: b.data.toList.drop (k + 1) := List.drop_eq_getElem_cons (l := b.data.toList) (i := k) (by simpa using hb)
    rw [← hd, List.take_append_drop]
  rw [N, N, ea, eb, hp, nb_append, nb_append, nb_cons, nb_cons]
  have l1 : (a.data.toList.drop (k + 1)).length = a.size - (k + 1) := by rw [List.length_drop, bytes_len]
  have l2 : (b.data.toList.drop (k + 1)).length = a.size - (k + 1) := by rw [List.length_drop, bytes_len, hl]
  have b1 := nb_lt (a.data.toList.drop (k + 1))
  rw [l1] at b1
  rw [List.length_cons, List.length_cons, l1, l2]
  have hm : (a[k].toNat + 1) * 256 ^ (a.size - (k + 1)) ≤ b[k].toNat * 256 ^ (a.size - (k + 1)) := Nat.mul_le_mul_right _ h
  rw [Nat.add_mul, Nat.one_mul] at hm
  omega
theorem lt_of_size {m n : Nat} (h : (B m).size < (B n).size) : m < n := by
  rcases Nat.lt_or_ge m n with h1 | h1
  · exact h1
  · have := sz_mono h1; omega
theorem cmpI_lt {m n : Nat} (h : m < n) : cmpI m n = -1 := if_pos h
theorem cmpI_gt {m n : Nat} (h : n < m) : cmpI m n = 1 := by rw [cmpI, if_neg (by omega), if_neg (by omega)]
theorem cmpI_eq {m n : Nat} (h : m = n) : cmpI m n = 0 := by rw [cmpI, if_neg (by omega), if_pos h]
theorem eq_of_all {m n : Nat} (hl : (B m).size = (B n).size) (hp : (B m).data.toList.take (B m).size = (B n).data.toList.take (B m).size) : m = n := by
  rw [List.take_of_length_le (by rw [bytes_len]; exact Nat.le_refl _), List.take_of_length_le (by rw [bytes_len, hl]; exact Nat.le_refl _)] at hp
  exact B_inj (ByteArray.ext (Array.toList_inj.1 hp))

set_option maxRecDepth 100000 in
set_option maxHeartbeats 2000000 in
theorem rCmp_any (a b : ByteArray) (w : World) (ha : a.size ≤ 1000000) (hb : b.size ≤ 1000000) :
    Calls Tryz.prog 12 #[.string a, .string b] w fun e w' => e = .returned (.int .i64 (cmpI (N a) (N b))) ∧ Below w.heap.size w w' := by
  have HTA := hide (rTrim_any a w (by omega))
  have HTB := hide (rTrim_any b w (by omega))
  have sa := Nat.le_trans (B_size_le a) ha
  have sb := Nat.le_trans (B_size_le b) hb
  have HL1 := hide (fun h => cmpI_lt (lt_of_size (m := N a) (n := N b) h))
  have HL2 := hide (fun h => cmpI_gt (lt_of_size (m := N b) (n := N a) h))
  have HL3 := hide (fun hl hp => cmpI_eq (eq_of_all (m := N a) (n := N b) hl hp))
  have HL4 := hide (fun k h1 h2 hl hp h => cmpI_lt (m := N a) (n := N b) (by have := lt_of_digit (B (N a)) (B (N b)) k h1 h2 hl hp h; rwa [N_B, N_B] at this))
  have HL5 := hide (fun k h1 h2 hl hp h => cmpI_gt (m := N a) (n := N b) (by have := lt_of_digit (B (N b)) (B (N a)) k h1 h2 hl hp h; rwa [N_B, N_B] at this))
  generalize cmpI (N a) (N b) = r at *
  generalize B (N a) = x at *
  generalize B (N b) = y at *
  go_enter Tryz.func12, Tryz.ntmps12
  go_wp2_with fail
  refine (HTA.out).mono ?_
  rintro e w1 ⟨rfl, hw⟩
  subst hw
  go_wp2_with fail
  refine (HTB.out).mono ?_
  rintro e w1 ⟨rfl, hw⟩
  subst hw
  clear HTA HTB
  rcases (show x.size < y.size ∨ y.size < x.size ∨ x.size = y.size by omega) with hs | hs | hs
  · go_wp2
    go_ret
    exact ⟨by rw [HL1.out hs]; rfl, Below.refl _ _⟩
  · go_wp2
    go_ret
    exact ⟨by rw [HL2.out hs]; rfl, Below.refl _ _⟩
  · clear HL1 HL2
    go_wp2
    go_loopw [5] (fun i wr => ∃ k : Nat, k ≤ x.size ∧ i = .int .i64 k ∧ Hid (x.data.toList.take k = y.data.toList.take k) ∧ Below w1.heap.size w1 wr) (fun i _ => x.size - (intOf i).toNat)
    case atStart => exact ⟨0, Nat.zero_le _, rfl, rfl, Below.refl _ _⟩
    case round =>
      obtain ⟨k, hk, rfl, HP, hBr⟩ := hrel
      by_cases hlt : k < x.size
      · have hlt' : k < y.size := by omega
        rcases (show x[k].toNat < y[k].toNat ∨ y[k].toNat < x[k].toNat ∨ x[k].toNat = y[k].toNat by omega) with hc | hc | hc
        · have HF := hide (HL4.out k hlt hlt' hs HP.out hc)
          go_wp2_with fail
          go_quiet (fail)
          go_wp2
          go_ret
          exact ⟨by rw [HF.out]; rfl, below_dr hBr _⟩
        · have HF := hide (HL5.out k hlt' hlt hs.symm HP.out.symm hc)
          go_wp2_with fail
          go_quiet (fail)
          go_wp2_with fail
          go_quiet (fail)
          go_wp2
          go_ret
          exact ⟨by rw [HF.out]; rfl, below_dr (below_dr hBr _) _⟩
        · have HS : Hid (x.data.toList.take (k + 1) = y.data.toList.take (k + 1)) := by
            show _ = _
            rw [take_snoc x k hlt, take_snoc y k hlt', HP.out, UInt8.toNat_inj.1 hc]
          go_wp2_with fail
          go_quiet (fail)
          go_wp2_with fail
          go_quiet (fail)
          go_wp2
          go_roundw
          case rel => exact ⟨k + 1, by omega, by go_num, HS.out, below_dr hBr _⟩
          case measure => simp [intOf]; omega
      · obtain rfl : k = x.size := by omega
        have HF := hide (HL3.out hs HP.out)
        go_wp2
        go_ret
        exact ⟨by rw [HF.out]; rfl, hBr⟩
end Go.Proofs.YtghjhflfcambjaaGreatDoor
