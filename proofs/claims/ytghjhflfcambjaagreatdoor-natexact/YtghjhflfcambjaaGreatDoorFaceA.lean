/- The face of package nat: what each call answers, told by the number that it makes. -/
import Derived.Test.YtghjhflfcambjaaGreatDoorDivC
import Derived.Test.YtghjhflfcambjaaGreatDoorSubA
import Derived.Test.YtghjhflfcambjaaGreatDoorMulA
namespace Go.Proofs.YtghjhflfcambjaaGreatDoor
open Go.RowKit

theorem bn_fits (k : Nat) : ∀ n, n < 256 ^ k → (bn n).length ≤ k := by
  induction k with
  | zero => intro n h; have : n = 0 := by simpa using h
            subst this; simp [bn_zero]
  | succ k ih =>
    intro n h
    by_cases e : n = 0
    · subst e; simp [bn_zero]
    · rw [bn_pos n e, List.length_append, List.length_singleton]
      have := ih (n / 256) (Nat.div_lt_of_lt_mul (by rw [Nat.pow_succ] at h; omega))
      omega
theorem B_lt (n : Nat) : n < 256 ^ (B n).size := by
  have := nb_lt (bn n)
  rwa [nb_bn, ← B_size] at this
theorem sz_mono {m n : Nat} (h : m ≤ n) : (B m).size ≤ (B n).size := by
  rw [B_size m]
  exact bn_fits _ _ (Nat.lt_of_le_of_lt h (B_lt n))
theorem sz_mul (m n : Nat) : (B (m * n)).size ≤ (B m).size + (B n).size := by
  rw [B_size (m * n)]
  refine bn_fits _ _ ?_
  rw [Nat.pow_add]
  exact Nat.mul_lt_mul'' (B_lt m) (B_lt n)
theorem sz_add (m n : Nat) : (B (m + n)).size ≤ (B m).size + (B n).size + 1 := by
  rw [B_size (m + n)]
  refine bn_fits _ _ ?_
  have h1 := B_lt m
  have h2 := B_lt n
  have h3 : 256 ^ (B m).size ≤ 256 ^ ((B m).size + (B n).size) := Nat.pow_le_pow_right (by decide) (by omega)
  have h4 : 256 ^ (B n).size ≤ 256 ^ ((B m).size + (B n).size) := Nat.pow_le_pow_right (by decide) (by omega)
  rw [Nat.pow_succ]
  omega
theorem B_zero : B 0 = ⟨#[]⟩ := by rw [B, bn_zero]
theorem N_empty : N ⟨#[]⟩ = 0 := rfl
theorem B_inj {m n : Nat} (h : B m = B n) : m = n := by rw [← N_B m, h, N_B]
theorem B_some {n : Nat} (h : n ≠ 0) : B n ≠ ⟨#[]⟩ := fun e => h (by rw [← N_B n, e, N_empty])
theorem B_full {n : Nat} (h : n ≠ 0) : (B n).toList.isEmpty = false := by
  cases e : (B n).toList with
  | cons => rfl
  | nil =>
    rw [Lib.toList_data] at e
    have h2 : (B n).size = 0 := by rw [ByteArray.size, ← Array.length_toList, e]; rfl
    have h3 := B_lt n
    rw [h2] at h3
    omega
theorem bytes_len (s : ByteArray) : s.data.toList.length = s.size := by rw [Array.length_toList]; rfl
theorem B_one_size : (B 1).size ≤ 1 := by rw [B_size]; exact bn_fits 1 1 (by decide)

theorem under {P : Program} {f : FuncId} {args : Array Value} {w0 w : World} {X : Ending} (hB : Below w0.heap.size w0 w) (h : Calls P f args w fun e w' => e = X ∧ Below w.heap.size w w') : Calls P f args w fun e w' => e = X ∧ Below w0.heap.size w0 w' :=
  h.mono fun _ _ ⟨h1, h2⟩ => ⟨h1, hB.trans (h2.mono hB.size)⟩
theorem under_same {P : Program} {f : FuncId} {args : Array Value} {w0 w : World} {X : Ending} (hB : Below w0.heap.size w0 w) (h : Calls P f args w fun e w' => e = X ∧ w' = w) : Calls P f args w fun e w' => e = X ∧ Below w0.heap.size w0 w' :=
  h.mono fun _ _ ⟨h1, h2⟩ => ⟨h1, by rw [h2]; exact hB⟩

theorem Add_to {a b : ByteArray} {w0 w : World} (n : Nat) (hB : Below w0.heap.size w0 w) (h : N a + N b = n) (ha : a.size ≤ 1099511627776) (hb : b.size ≤ 1099511627776) :
    Calls Tryz.prog 13 #[.string a, .string b] w fun e w' => e = .returned (.string (B n)) ∧ Below w0.heap.size w0 w' := by
  subst h; exact under hB (Add_any a b w ha hb)
theorem Mul_to {a b : ByteArray} {w0 w : World} (n : Nat) (hB : Below w0.heap.size w0 w) (h : N a * N b = n) (ha : a.size ≤ 1099511627776) (hb : b.size ≤ 1099511627776) :
    Calls Tryz.prog 15 #[.string a, .string b] w fun e w' => e = .returned (.string (B n)) ∧ Below w0.heap.size w0 w' := by
  subst h; exact under hB (Mul_any a b w ha hb)
theorem Gcd_to {a b : ByteArray} {w0 w : World} (n : Nat) (hB : Below w0.heap.size w0 w) (h : Nat.gcd (N a) (N b) = n) (ha : a.size ≤ 1099511627776) (hb : b.size ≤ 1099511627776) :
    Calls Tryz.prog 17 #[.string a, .string b] w fun e w' => e = .returned (.string (B n)) ∧ Below w0.heap.size w0 w' := by
  subst h; exact under hB (Gcd_any a b w ha hb)
theorem Trim_to {a : ByteArray} {w0 w : World} (n : Nat) (hB : Below w0.heap.size w0 w) (h : N a = n) (ha : a.size ≤ 1099511627776) :
    Calls Tryz.prog 7 #[.string a] w fun e w' => e = .returned (.string (B n)) ∧ Below w0.heap.size w0 w' := by
  subst h; exact under hB (Trim_any a w (by omega))
theorem Of_to {x : Int} {w0 w : World} (n : Nat) (hB : Below w0.heap.size w0 w) (h : x = (n : Int)) (hx : x ≤ 9223372036854775807) :
    Calls Tryz.prog 9 #[.int .i64 x] w fun e w' => e = .returned (.string (B n)) ∧ Below w0.heap.size w0 w' := by
  have := under hB (Of_any x w (by omega) hx)
  rwa [show x.toNat = n by omega] at this
theorem Sub_to {a b : ByteArray} {w0 w : World} (n : Nat) (hB : Below w0.heap.size w0 w) (h : N a = N b + n) (ha : a.size ≤ 1099511627776) (hb : b.size ≤ 1099511627776) :
    Calls Tryz.prog 21 #[.string a, .string b] w fun e w' => e = .returned (.tuple #[.string (B n), .bool true]) ∧ Below w0.heap.size w0 w' := by
  have := under hB (Sub_yes a b w ha hb (by omega))
  rwa [show N a - N b = n by omega] at this
theorem Sub_not {a b : ByteArray} {w0 w : World} (hB : Below w0.heap.size w0 w) (h : N a < N b) :
    Calls Tryz.prog 21 #[.string a, .string b] w fun e w' => e = .returned (.tuple #[.string ⟨#[]⟩, .bool false]) ∧ Below w0.heap.size w0 w' := under hB (Sub_no a b w h)
theorem Div_to {a b : ByteArray} {w0 w : World} (q r : Nat) (hB : Below w0.heap.size w0 w) (hq : N a / N b = q) (hr : N a % N b = r) (h0 : N b ≠ 0) (ha : a.size ≤ 1099511627776) (hb : b.size ≤ 1099511627776) :
    Calls Tryz.prog 23 #[.string a, .string b] w fun e w' => e = .returned (.tuple #[.string (B q), .string (B r), .bool true]) ∧ Below w0.heap.size w0 w' := by
  subst hq hr; exact under hB (Div_yes a b w ha hb h0)
theorem Div_not {a b : ByteArray} {w0 w : World} (hB : Below w0.heap.size w0 w) (h0 : N b = 0) (hb : b.size ≤ 1099511627776) :
    Calls Tryz.prog 23 #[.string a, .string b] w fun e w' => e = .returned (.tuple #[.string ⟨#[]⟩, .string ⟨#[]⟩, .bool false]) ∧ Below w0.heap.size w0 w' := under hB (Div_no a b w hb h0)
theorem Cmp_to {a b : ByteArray} {w0 w : World} (n : Int) (hB : Below w0.heap.size w0 w) (h : cmpI (N a) (N b) = n) :
    Calls Tryz.prog 11 #[.string a, .string b] w fun e w' => e = .returned (.int .i64 n) ∧ Below w0.heap.size w0 w' := by
  subst h; exact under_same hB (Cmp_any a b w)
end Go.Proofs.YtghjhflfcambjaaGreatDoor
