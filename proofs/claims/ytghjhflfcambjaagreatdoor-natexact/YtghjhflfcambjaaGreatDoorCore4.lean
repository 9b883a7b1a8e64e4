/- What bytesOf and ofWord of package nat hand back, for every word. -/
import Derived.Test.YtghjhflfcambjaaGreatDoorCore3
import Derived.Laws.BytesArg
namespace Go.Proofs.YtghjhflfcambjaaGreatDoor
open Go.RowKit

/-- The k-th byte of a word, the lowest first. -/
def byt (x k : Nat) : Int := ((x / 256 ^ k % 256 : Nat) : Int)

theorem byt_eqs (x : Nat) (hx : x < 18446744073709551616) : byt x 7 = (x : Int) / 72057594037927936 ∧ byt x 6 = (x : Int) / 281474976710656 % 256 ∧ byt x 5 = (x : Int) / 1099511627776 % 256 ∧ byt x 4 = (x : Int) / 4294967296 % 256 ∧
    byt x 3 = (x : Int) / 16777216 % 256 ∧ byt x 2 = (x : Int) / 65536 % 256 ∧ byt x 1 = (x : Int) / 256 % 256 ∧ byt x 0 = (x : Int) % 256 := by
  unfold byt
  simp only [Nat.reducePow]
  omega

set_option maxRecDepth 100000 in
set_option maxHeartbeats 1000000 in
theorem bytesOf_any (x : Nat) (w : World) (hx : x < 18446744073709551616) :
    Calls Tryz.prog 62 #[.int .u64 (x : Nat)] w fun e w' => e = .returned (.agg #[.int .u8 (byt x 7), .int .u8 (byt x 6), .int .u8 (byt x 5), .int .u8 (byt x 4), .int .u8 (byt x 3), .int .u8 (byt x 2), .int .u8 (byt x 1), .int .u8 (byt x 0)]) ∧ Below w.heap.size w w' := by
  obtain ⟨e7, e6, e5, e4, e3, e2, e1, e0⟩ := byt_eqs x hx
  rw [e7, e6, e5, e4, e3, e2, e1, e0]
  clear e7 e6 e5 e4 e3 e2 e1 e0
  go_enter Tryz.func62, Tryz.ntmps62
  go_wp2
  refine wp_loop_rounds 9 ?_
  rw [rounds_succ]
  go_wp2
  rw [rounds_succ]
  go_wp2
  rw [rounds_succ]
  go_wp2
  rw [rounds_succ]
  go_wp2
  rw [rounds_succ]
  go_wp2
  rw [rounds_succ]
  go_wp2
  rw [rounds_succ]
  go_wp2
  rw [rounds_succ]
  go_wp2
  rw [rounds_succ]
  go_wp2
  refine bodyPost_ret (v := .agg #[.int .u8 ((x : Int) / 72057594037927936), .int .u8 ((x : Int) / 281474976710656 % 256), .int .u8 ((x : Int) / 1099511627776 % 256), .int .u8 ((x : Int) / 4294967296 % 256), .int .u8 ((x : Int) / 16777216 % 256), .int .u8 ((x : Int) / 65536 % 256), .int .u8 ((x : Int) / 256 % 256), .int .u8 ((x : Int) % 256)]) (by simp [results, Tryz.results62, go_sem]) rfl ⟨rfl, ?_⟩
  exact (((Below.refl _ _).alloc (Nat.le_refl _) _).alloc (by simp) _)

theorem div_step (x c : Nat) : x / (c * 256) * 256 + x / c % 256 = x / c := by rw [← Nat.div_div_eq_div_mul]; exact Nat.div_add_mod' _ _
theorem div_top (x : Nat) (hx : x < 18446744073709551616) : 0 * 256 + x / 72057594037927936 % 256 = x / 72057594037927936 := by omega
theorem div_low (x : Nat) : x / 256 * 256 + x / 1 % 256 = x := by omega

theorem nb_bytes8 (x : Nat) (hx : x < 18446744073709551616) : N (strOfNums [byt x 7, byt x 6, byt x 5, byt x 4, byt x 3, byt x 2, byt x 1, byt x 0]) = x := by
  have h6 := div_step x 281474976710656
  have h5 := div_step x 1099511627776
  have h4 := div_step x 4294967296
  have h3 := div_step x 16777216
  have h2 := div_step x 65536
  have h1 := div_step x 256
  simp only [Nat.reduceMul] at h6 h5 h4 h3 h2 h1
  simp only [N, strOfNums_data, List.map_cons, List.map_nil, byt, Int.toNat_natCast, nb, List.foldl_cons, List.foldl_nil, UInt8.toNat_ofNat', Nat.reducePow, Nat.mod_mod]
  rw [div_top x hx, h6, h5, h4, h3, h2, h1, div_low]

theorem word_cells (x : Nat) (t : TypeId) (w : World) : ∀ i, i < 8 → (w.alloc (.cells #[.int .u8 (byt x 7), .int .u8 (byt x 6), .int .u8 (byt x 5), .int .u8 (byt x 4), .int .u8 (byt x 3), .int .u8 (byt x 2), .int .u8 (byt x 1), .int .u8 (byt x 0)] t)).cell? ⟨w.heap.size, 0 + i, none⟩ =
    some (.int .u8 (([byt x 7, byt x 6, byt x 5, byt x 4, byt x 3, byt x 2, byt x 1, byt x 0] : List Int).getD i 0)) := by
  intro i hi
  rcases (show i = 0 ∨ i = 1 ∨ i = 2 ∨ i = 3 ∨ i = 4 ∨ i = 5 ∨ i = 6 ∨ i = 7 by omega) with rfl | rfl | rfl | rfl | rfl | rfl | rfl | rfl <;> simp

set_option maxRecDepth 100000 in
set_option maxHeartbeats 1000000 in
theorem ofWord_any (x : Nat) (w : World) (hx : x < 18446744073709551616) :
    Calls Tryz.prog 34 #[.int .u64 (x : Nat)] w fun e w' => e = .returned (.string (B x)) ∧ Below w.heap.size w w' := by
  have hconv := fun (w1 : World) => run_convert_bytes_arg (P := Tryz.prog) (w1.alloc (.cells #[.int .u8 (byt x 7), .int .u8 (byt x 6), .int .u8 (byt x 5), .int .u8 (byt x 4), .int .u8 (byt x 3), .int .u8 (byt x 2), .int .u8 (byt x 1), .int .u8 (byt x 0)] 86)) 51 5 Tryz.underlying51 Tryz.underlying5 w1.heap.size 0 8 8 _ rfl (word_cells x _ w1) 22 Tryz.underlying22
  have HN : Hid (N (strOfNums [byt x 7, byt x 6, byt x 5, byt x 4, byt x 3, byt x 2, byt x 1, byt x 0]) = x) := nb_bytes8 x hx
  go_enter Tryz.func34, Tryz.ntmps34
  go_wp2_with (first
    | (go_at_call 62; refine (bytesOf_any x _ hx).mono ?_; rintro e w1 ⟨rfl, hb1⟩)
    | (go_at_call 33; refine (bare_any _ _).mono ?_; rintro e w2 ⟨rfl, rfl⟩; rw [HN.out]))
  go_ret
  exact ⟨rfl, hb1.alloc hb1.size _⟩
end Go.Proofs.YtghjhflfcambjaaGreatDoor
