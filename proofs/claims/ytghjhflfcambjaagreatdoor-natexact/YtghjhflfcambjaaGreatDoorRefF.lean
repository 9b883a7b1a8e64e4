/- The document's answer: NatOf. -/
import Derived.Test.YtghjhflfcambjaaGreatDoorRefE
namespace Go.Proofs.YtghjhflfcambjaaGreatDoor
open Go.RowKit

set_option maxRecDepth 100000 in
set_option maxHeartbeats 1000000 in
theorem rOf_any (n : Int) (w : World) (h0 : -9223372036854775808 ≤ n) (h1 : n ≤ 9223372036854775807) :
    Calls Tryz.prog 10 #[.int .i64 n] w fun e w' => e = .returned (.string (B n.toNat)) ∧ Below w.heap.size w w' := by
  go_enter Tryz.func10, Tryz.ntmps10
  go_wp2
  go_loopw [0, 3] (fun v a wr => ∃ (z : Int) (s : ByteArray), v = .int .i64 z ∧ a = .string s ∧ -9223372036854775808 ≤ z ∧ z ≤ 9223372036854775807 ∧ Hid (bn z.toNat ++ s.data.toList = bn n.toNat) ∧ Below w.heap.size w wr) (fun v _ _ => (intOf v).toNat)
  case atStart => exact ⟨n, ⟨#[]⟩, rfl, rfl, h0, h1, (show _ = _ by simp), Below.refl _ _⟩
  case round =>
    obtain ⟨z, s, rfl, rfl, hz0, hz1, HS, hBr⟩ := hrel
    by_cases hz : 0 < z
    · have hconv := run_convert_bytes_arg (P := Tryz.prog) (wr.alloc (.cells #[.int .u8 (z % 256)] 5)) 51 5 Tryz.underlying51 Tryz.underlying5 wr.heap.size 0 1 1 [z % 256] rfl (fun i hi => by
        obtain rfl : i = 0 := by omega
        rw [cell_of_row _ wr.heap.size (0 + 0) _ _ (0, 0) (heap_alloc_new _ _)]
        rfl) 22 Tryz.underlying22
      have HS2 : Hid (bn (z / 256).toNat ++ (strOfNums [z % 256] ++ s).data.toList = bn n.toNat) := by
        show _ = _
        rw [← HS.out, bn_pos z.toNat (by omega), ByteArray.data_append, Array.toList_append, strOfNums_data, show (z / 256).toNat = z.toNat / 256 by omega, List.append_assoc]
        have : UInt8.ofNat (z % 256).toNat = UInt8.ofNat (z.toNat % 256) := by congr 1; omega
        simp [this]
      have hs8 : s.size ≤ 8 := by
        have e := congrArg List.length HS.out
        rw [List.length_append, bytes_len] at e
        have := bn_fits 8 n.toNat (by show n.toNat < 18446744073709551616; omega)
        omega
      have hs1 : (strOfNums [z % 256]).size = 1 := strOfNums_size _
      go_wp2
      go_roundw
      case rel => exact ⟨z / 256, strOfNums [z % 256] ++ s, rfl, rfl, by omega, by omega, HS2.out, hBr.alloc hBr.size _⟩
      case measure => simp [intOf]; omega
    · have HE : Hid (s = B n.toNat) := by
        show s = _
        have := HS.out
        rw [show z.toNat = 0 by omega, bn_zero, List.nil_append] at this
        apply ByteArray.ext
        apply Array.toList_inj.1
        rw [this, B]
      go_wp2
      go_ret
      exact ⟨by rw [← HE.out]; rfl, hBr⟩
end Go.Proofs.YtghjhflfcambjaaGreatDoor
