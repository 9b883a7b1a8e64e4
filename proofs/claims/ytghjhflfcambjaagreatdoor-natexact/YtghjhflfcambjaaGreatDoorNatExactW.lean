/- The law NatExact answers true: package nat answers as the document's answer does. -/
import Derived.Test.YtghjhflfcambjaaGreatDoorRefP
import Derived.Test.YtghjhflfcambjaaGreatDoorRefM
import Derived.Test.YtghjhflfcambjaaGreatDoorTextD
namespace Go.Proofs.YtghjhflfcambjaaGreatDoor
open Go.RowKit Go.Lib

set_option maxRecDepth 100000 in
set_option maxHeartbeats 2000000 in
theorem natExact_big (a b : ByteArray) (n : Int) (s : ByteArray) (w : World) (ha : a.size ≤ 140737488355328) (hb : b.size ≤ 140737488355328) (hs : s.size ≤ 140737488355328) (hbig : 700 < a.size + b.size + s.size) :
    Calls Tryz.prog 3 #[.string a, .string b, .int .i64 n, .string s] w fun e w' => e = .returned (.bool true) ∧ Below w.heap.size w w' := by
  go_enter Tryz.func3, Tryz.ntmps3
  go_wp2
  go_ret
  exact ⟨rfl, Below.refl _ _⟩

/-- Both ways to an int answer the same. -/
theorem both_Int (a : ByteArray) (ha : a.size ≤ 1000) : ∃ (v : Int) (t : Bool), (∀ V : World, Calls Tryz.prog 5 #[.string a] V fun e w' => e = .returned (.tuple #[.int .i64 v, .bool t]) ∧ Below V.heap.size V w') ∧ ∀ V : World, Calls Tryz.prog 6 #[.string a] V fun e w' => e = .returned (.tuple #[.int .i64 v, .bool t]) ∧ w' = V := by
  by_cases h : N a ≤ 9223372036854775807
  · exact ⟨_, true, fun V => Int_yes a V (by omega) h, fun V => rInt_yes a V (by omega) h⟩
  · exact ⟨_, false, fun V => Int_no a V (by omega), fun V => rInt_no a V (by omega) (by omega)⟩
theorem both_Sub (a b : ByteArray) (ha : a.size ≤ 1000) (hb : b.size ≤ 1000) : ∃ (c : ByteArray) (t : Bool), (∀ V : World, Calls Tryz.prog 21 #[.string a, .string b] V fun e w' => e = .returned (.tuple #[.string c, .bool t]) ∧ Below V.heap.size V w') ∧ ∀ V : World, Calls Tryz.prog 22 #[.string a, .string b] V fun e w' => e = .returned (.tuple #[.string c, .bool t]) ∧ Below V.heap.size V w' := by
  by_cases h : N b ≤ N a
  · exact ⟨_, true, fun V => Sub_yes a b V (by omega) (by omega) h, fun V => rSub_yes a b V (by omega) (by omega) h⟩
  · exact ⟨_, false, fun V => Sub_no a b V (by omega), fun V => rSub_no a b V (by omega) (by omega) (by omega)⟩
theorem both_Div (a b : ByteArray) (ha : a.size ≤ 1000) (hb : b.size ≤ 1000) : ∃ (c d : ByteArray) (t : Bool), (∀ V : World, Calls Tryz.prog 23 #[.string a, .string b] V fun e w' => e = .returned (.tuple #[.string c, .string d, .bool t]) ∧ Below V.heap.size V w') ∧ ∀ V : World, Calls Tryz.prog 24 #[.string a, .string b] V fun e w' => e = .returned (.tuple #[.string c, .string d, .bool t]) ∧ Below V.heap.size V w' := by
  by_cases h : N b = 0
  · refine ⟨_, _, false, fun V => Div_no a b V (by omega) h, fun V => (rDiv_no a b V (by omega) (by omega) h).mono ?_⟩
    rintro e w' ⟨rfl, rfl⟩
    exact ⟨rfl, Below.refl _ _⟩
  · exact ⟨_, _, true, fun V => Div_yes a b V (by omega) (by omega) h, fun V => rDiv_any a b V (by omega) (by omega) h⟩

set_option maxRecDepth 100000 in
set_option maxHeartbeats 4000000 in
theorem natExact_walk (a b : ByteArray) (n : Int) (s : ByteArray) (w : World) (hn0 : -9223372036854775808 ≤ n) (hn1 : n ≤ 9223372036854775807) (hsm : ¬ 700 < a.size + b.size + s.size) (htab : TabIs Tryz.prog w "internal/strconv.uint64pow10" .u64 pow10Tab) :
    Calls Tryz.prog 3 #[.string a, .string b, .int .i64 n, .string s] w fun e w' => e = .returned (.bool true) ∧ Below w.heap.size w w' := by
  have sa : a.size ≤ 700 := by omega
  have sb : b.size ≤ 700 := by omega
  have ss : s.size ≤ 700 := by omega
  obtain ⟨iv, it, hI1, hI2⟩ := both_Int a (by omega)
  obtain ⟨sv, st, hS1, hS2⟩ := both_Sub a b (by omega) (by omega)
  obtain ⟨dv, dr, dt, hD1, hD2⟩ := both_Div a b (by omega) (by omega)
  have HI1 := hide hI1
  have HI2 := hide hI2
  have HS1 := hide hS1
  have HS2 := hide hS2
  have HD1 := hide hD1
  have HD2 := hide hD2
  have HTAB := hide htab
  have hB := Below.refl w.heap.size w
  clear hI1 hI2 hS1 hS2 hD1 hD2 htab
  go_enter Tryz.func3, Tryz.ntmps3
  go_wp2_with fail
  refine (under hB (HI1.out _)).mono ?_
  rintro e w1 ⟨rfl, hB⟩
  go_wp2_with fail
  refine (under_same hB (HI2.out _)).mono ?_
  rintro e w1 ⟨rfl, hB⟩
  go_wp2_with fail
  refine (Trim_to (N a) hB rfl (by omega)).mono ?_
  rintro e w1 ⟨rfl, hB⟩
  go_wp2_with fail
  refine (under_same hB (rTrim_any a _ (by omega))).mono ?_
  rintro e w1 ⟨rfl, hB⟩
  go_wp2_with fail
  refine (under hB (Of_any n _ hn0 hn1)).mono ?_
  rintro e w1 ⟨rfl, hB⟩
  go_wp2_with fail
  refine (under hB (rOf_any n _ hn0 hn1)).mono ?_
  rintro e w1 ⟨rfl, hB⟩
  go_wp2_with fail
  refine (Cmp_to (cmpI (N a) (N b)) hB rfl).mono ?_
  rintro e w1 ⟨rfl, hB⟩
  go_wp2_with fail
  refine (under hB (rCmp_any a b _ (by omega) (by omega))).mono ?_
  rintro e w1 ⟨rfl, hB⟩
  go_wp2_with fail
  refine (Add_to (N a + N b) hB rfl (by omega) (by omega)).mono ?_
  rintro e w1 ⟨rfl, hB⟩
  go_wp2_with fail
  refine (under hB (rAdd_any a b _ (by omega) (by omega))).mono ?_
  rintro e w1 ⟨rfl, hB⟩
  go_wp2_with fail
  refine (Mul_to (N a * N b) hB rfl (by omega) (by omega)).mono ?_
  rintro e w1 ⟨rfl, hB⟩
  go_wp2_with fail
  refine (under hB (rMul_any a b _ (by omega) (by omega))).mono ?_
  rintro e w1 ⟨rfl, hB⟩
  go_wp2_with fail
  refine (Gcd_to (Nat.gcd (N a) (N b)) hB rfl (by omega) (by omega)).mono ?_
  rintro e w1 ⟨rfl, hB⟩
  go_wp2_with fail
  refine (under hB (rGcd_any a b _ (by omega) (by omega))).mono ?_
  rintro e w1 ⟨rfl, hB⟩
  have ht1 := hide (tab_below HTAB.out hB)
  go_wp2_with fail
  refine (under hB (Text_any a _ (by omega) ht1.out)).mono ?_
  rintro e w2 ⟨rfl, hB⟩
  clear ht1
  go_wp2_with fail
  refine (under hB (rText_any a _ (by omega))).mono ?_
  rintro e w1 ⟨rfl, hB⟩
  go_wp2_with fail
  refine (under hB (HS1.out _)).mono ?_
  rintro e w1 ⟨rfl, hB⟩
  go_wp2_with fail
  refine (under hB (HS2.out _)).mono ?_
  rintro e w1 ⟨rfl, hB⟩
  go_wp2_with fail
  refine (under hB (HD1.out _)).mono ?_
  rintro e w1 ⟨rfl, hB⟩
  go_wp2_with fail
  refine (under hB (HD2.out _)).mono ?_
  rintro e w1 ⟨rfl, hB⟩
  go_wp2_with fail
  refine (under hB (Parse_pres s _ (by omega))).mono ?_
  rintro e w1 ⟨rfl, hB⟩
  go_wp2_with fail
  refine (under hB (rParse_any s _ (by omega))).mono ?_
  rintro e w1 ⟨rfl, hB⟩
  go_wp2
  go_ret
  exact ⟨rfl, hB⟩
end Go.Proofs.YtghjhflfcambjaaGreatDoor
