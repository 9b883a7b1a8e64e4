/- nat.Of, wordOf and gcdOfWords of package nat. -/
import Derived.Test.YtghjhflfcambjaaGreatDoorMulA
namespace Go.Proofs.YtghjhflfcambjaaGreatDoor
open Go.RowKit

theorem below_drewN' {B : Nat} {a w : World} (h : Below B a w) (k : Nat) : Below B a (w.drewN k) := ⟨h.os, h.tape, h.output, h.size, h.block⟩

set_option maxHeartbeats 1000000 in
theorem Of_any (n : Int) (w : World) (h0 : -9223372036854775808 ≤ n) (h1 : n ≤ 9223372036854775807) :
    Calls Tryz.prog 9 #[.int .i64 n] w fun e w' => e = .returned (.string (B n.toNat)) ∧ Below w.heap.size w w' := by
  have hO := fun V => ofWord_any n.toNat V (by omega)
  by_cases hn : 0 ≤ n
  · obtain ⟨m, rfl⟩ := Int.eq_ofNat_of_zero_le hn
    rw [Int.toNat_natCast] at hO ⊢
    have HO := hide hO
    have hmx : max (m : Int) 0 = (m : Int) := by omega
    clear hO
    go_enter Tryz.func9, Tryz.ntmps9
    go_wp2_with fail
    refine (HO.out _).mono ?_
    rintro e w1 ⟨rfl, hb⟩
    go_wp2
    go_ret
    exact ⟨rfl, hb⟩
  · have e0 : n.toNat = 0 := by omega
    rw [e0] at hO ⊢
    have HO := hide hO
    have hmx : max n 0 = 0 := by omega
    clear hO e0
    go_enter Tryz.func9, Tryz.ntmps9
    go_wp2_with fail
    refine (HO.out _).mono ?_
    rintro e w1 ⟨rfl, hb⟩
    go_wp2
    go_ret
    exact ⟨rfl, hb⟩

set_option maxRecDepth 100000 in
set_option maxHeartbeats 1000000 in
theorem gcdOfWords_any (a b : Nat) (w : World) (ha : a < 18446744073709551616) (hb : b < 18446744073709551616) :
    Calls Tryz.prog 44 #[.int .u64 (a : Nat), .int .u64 (b : Nat)] w fun e w' => e = .returned (.int .u64 (Nat.gcd a b : Nat)) ∧ Below w.heap.size w w' := by
  go_enter Tryz.func44, Tryz.ntmps44
  go_wp2
  go_loopw [0, 1] (fun x y wr => ∃ m n : Nat, x = .int .u64 m ∧ y = .int .u64 n ∧ m < 18446744073709551616 ∧ n < 18446744073709551616 ∧ Hid (Nat.gcd m n = Nat.gcd a b) ∧ Below w.heap.size w wr) (fun _ y _ => (intOf y).toNat)
  case atStart => exact ⟨a, b, rfl, rfl, ha, hb, rfl, Below.refl _ _⟩
  case round =>
    obtain ⟨m, n, rfl, rfl, hm, hn, hg, hbr⟩ := hrel
    by_cases h0 : n = 0
    · subst h0
      go_wp2
      go_ret
      exact ⟨ret_int (by rw [← hg.out, Nat.gcd_zero_right]), hbr⟩
    · have hnb : ((n : Int) != 0) = true := by rw [bne_iff_ne]; omega
      have hne : ((n : Int) == 0) = false := by rw [beq_eq_false_iff_ne]; omega
      have hn0 : ¬ (n : Int) = 0 := by omega
      have hpos : 0 < n := by omega
      have hr : m % n < n := Nat.mod_lt _ hpos
      have HG : Hid (Nat.gcd n (m % n) = Nat.gcd a b) := by show _ = _; rw [← hg.out, ← Nat.gcd_comm (m % n) n, ← Nat.gcd_rec, Nat.gcd_comm]
      go_wp2_with fail
      go_region
      all_goals go_wp2
      rw [show ((m : Int) % (n : Int)) = ((m % n : Nat) : Int) from (Int.natCast_emod m n).symm]
      go_roundw
      case rel => exact ⟨n, m % n, rfl, rfl, hn, by omega, HG, hbr.drew⟩
      case measure => simp [intOf]; omega

theorem or_high (a b : Nat) (ha : a < 4294967296) (hb : b < 4294967296) : bits .or .u64 (a : Int) ((b : Int) * 4294967296) = ((a + b * 4294967296 : Nat) : Int) := by
  have e1 : (b : Int) * 4294967296 = ((b * 4294967296 : Nat) : Int) := by omega
  rw [e1, u64_or_nat _ _ (by omega) (by omega)]
  congr 1
  have := nat_join 32 (b * 4294967296) a (by omega) (by omega)
  have e2 : a ||| b * 4294967296 = b * 4294967296 ||| a := Nat.or_comm _ _
  omega
theorem or_zero (a : Nat) (ha : a < 4294967296) : bits .or .u64 0 (a : Int) = (a : Int) := by
  have := u64_or_nat 0 a (by omega) (by omega)
  rw [show ((0 : Nat) : Int) = 0 from rfl] at this
  rw [this, Nat.zero_or]

set_option maxRecDepth 100000 in
set_option maxHeartbeats 1000000 in
theorem wordOf_any (g cap : Nat) (l : List Nat) (w : World) (hs : Small l) (hlen : l.length ≤ 2) (hl : Lies w g 0 l) :
    Calls Tryz.prog 30 #[.slice (some ⟨g, 0, none⟩) l.length cap] w fun e w' => e = .returned (.int .u64 (nw l : Nat)) ∧ w' = w := by
  match l, hlen with
  | [], _ =>
    go_enter Tryz.func30, Tryz.ntmps30
    go_wp2
    refine wp_loop_rounds 1 ?_
    rw [rounds_succ]
    go_wp2
    go_ret
    exact ⟨rfl, rfl⟩
  | [a], _ =>
    have h0 := hl.cell 0 (by simp)
    have ha : a < 4294967296 := hs a (by simp)
    have ho := or_zero a ha
    simp only [Nat.zero_add, List.getElem?_cons_zero, Option.getD_some] at h0
    go_enter Tryz.func30, Tryz.ntmps30
    go_wp2
    refine wp_loop_rounds 2 ?_
    rw [rounds_succ]
    go_wp2
    rw [rounds_succ]
    go_wp2
    go_ret
    exact ⟨ret_int (by simp [nw_cons, nw_nil]), rfl⟩
  | [a, b], _ =>
    have h0 := hl.cell 0 (by simp)
    have h1 := hl.cell 1 (by simp)
    have ha : a < 4294967296 := hs a (by simp)
    have hb : b < 4294967296 := hs b (by simp)
    have ho := or_zero a ha
    have ho2 := or_high a b ha hb
    simp only [Nat.zero_add, List.getElem?_cons_zero, List.getElem?_cons_succ, Option.getD_some] at h0 h1
    go_enter Tryz.func30, Tryz.ntmps30
    go_wp2
    refine wp_loop_rounds 3 ?_
    rw [rounds_succ]
    go_wp2
    rw [rounds_succ]
    go_wp2
    rw [rounds_succ]
    go_wp2
    go_ret
    exact ⟨ret_int (by simp only [nw_cons, nw_nil, W_eq]; omega), rfl⟩
end Go.Proofs.YtghjhflfcambjaaGreatDoor
