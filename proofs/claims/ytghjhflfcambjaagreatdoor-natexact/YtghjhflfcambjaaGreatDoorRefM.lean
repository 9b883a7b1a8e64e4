/- Package nat: Int. -/
import Derived.Test.YtghjhflfcambjaaGreatDoorRefC
namespace Go.Proofs.YtghjhflfcambjaaGreatDoor
open Go.RowKit

theorem Of_max (w : World) : Calls Tryz.prog 9 #[.int .i64 9223372036854775807] w fun e w' => e = .returned (.string (B 9223372036854775807)) ∧ Below w.heap.size w w' :=
  Of_any 9223372036854775807 w (by decide) (by decide)

set_option maxRecDepth 100000 in
set_option maxHeartbeats 1000000 in
theorem Int_no (s : ByteArray) (w : World) (h : 9223372036854775807 < N s) :
    Calls Tryz.prog 5 #[.string s] w fun e w' => e = .returned (.tuple #[.int .i64 0, .bool false]) ∧ Below w.heap.size w w' := by
  have HO := hide (Of_max w)
  have hc := fun V => Cmp_any s (B 9223372036854775807) V
  rw [N_B, cmpI_gt h] at hc
  have HC := hide hc
  clear hc h
  generalize B 9223372036854775807 = m at *
  go_enter Tryz.func5, Tryz.ntmps5
  go_wp2_with fail
  refine (HO.out).mono ?_
  rintro e w1 ⟨rfl, hb1⟩
  go_wp2_with fail
  refine (HC.out _).mono ?_
  rintro e w2 ⟨rfl, hw⟩
  subst hw
  go_wp2
  go_ret2
  exact ⟨rfl, hb1⟩

set_option maxRecDepth 100000 in
set_option maxHeartbeats 1000000 in
theorem Int_yes (s : ByteArray) (w : World) (hs : s.size ≤ 1000000) (h : N s ≤ 9223372036854775807) :
    Calls Tryz.prog 5 #[.string s] w fun e w' => e = .returned (.tuple #[.int .i64 (N s : Nat), .bool true]) ∧ Below w.heap.size w w' := by
  have HO := hide (Of_max w)
  have hc := fun V => Cmp_any s (B 9223372036854775807) V
  obtain ⟨r, hr, hr0⟩ : ∃ r : Int, cmpI (N s) (N (B 9223372036854775807)) = r ∧ ¬ 0 < r := ⟨_, rfl, by rw [N_B, cmpI]; by_cases h1 : N s < 9223372036854775807; (rw [if_pos h1]; decide); (rw [if_neg h1, if_pos (by omega)]; decide)⟩
  rw [hr] at hc
  have HC := hide hc
  have HS := hide (fun V => spread_some s V (by omega))
  have hwl : (words (N s)).length ≤ 2 := by
    rw [words_length]
    have := bn_fits 8 (N s) (by show _ < 18446744073709551616; omega)
    omega
  have HW := hide (fun (g cap : Nat) (V : World) (hl : Lies V g 0 (words (N s))) => wordOf_any g cap (words (N s)) V (words_small _) hwl hl)
  rw [nw_words] at HW
  generalize B 9223372036854775807 = m at *
  clear hc hr
  generalize words (N s) = ws at *
  generalize N s = n at *
  go_enter Tryz.func5, Tryz.ntmps5
  go_wp2_with fail
  refine (HO.out).mono ?_
  rintro e w1 ⟨rfl, hb1⟩
  go_wp2_with fail
  refine (HC.out _).mono ?_
  rintro e w2 ⟨rfl, hw⟩
  subst hw
  go_wp2_with fail
  refine (HS.out _).mono ?_
  rintro e w3 ⟨g, cap, rfl, hH, hb3⟩
  have hl := (own_lies hH).2.2.2
  have HW' := hide (HW.out g cap w3 hl)
  clear hH hl HW
  go_wp2_with fail
  refine (HW'.out).mono ?_
  rintro e w4 ⟨rfl, hw⟩
  subst hw
  go_wp2
  go_ret2
  exact ⟨rfl, hb1.trans (hb3.mono hb1.size)⟩
end Go.Proofs.YtghjhflfcambjaaGreatDoor
