/- The document's answer: NatDiv. -/
import Derived.Test.YtghjhflfcambjaaGreatDoorRefH
import Derived.Deep.RegionHeld3
namespace Go.Proofs.YtghjhflfcambjaaGreatDoor
open Go.RowKit

def bv (d : Nat) : Value := .int .u8 (d : Int)
/-- The slice value v holds these bytes, and nobody else's; or it is nil and there are none. -/
def HasB (w : World) (base : Nat) (v : Value) (l : List Nat) : Prop := w.ownsRow base 5 1 v l.length (l.map bv)
def qn (l : List Nat) : Nat := l.foldl (fun n d => n * 256 + d) 0
theorem qn_snoc (l : List Nat) (d : Nat) : qn (l ++ [d]) = qn l * 256 + d := by simp [qn]
theorem dig_snoc {l : List Nat} (h : Dig l) {d : Nat} (hd : d < 256) : Dig (l ++ [d]) := fun x hx => by
  rcases List.mem_append.1 hx with h1 | h1
  · exact h x h1
  · simp at h1; omega
theorem N_qn (l : List Nat) : Dig l → N (strOfNums (l.map Int.ofNat)) = qn l := by
  induction l using snoc_ind with
  | h0 => intro _; rfl
  | h1 l d ih =>
    intro h
    have h1 := ih fun x hx => h x (List.mem_append_left _ hx)
    have h2 := h d (List.mem_append_right _ (List.mem_singleton.2 rfl))
    rw [N, strOfNums_data] at h1 ⊢
    rw [List.map_append, List.map_append, List.map_cons, List.map_nil, List.map_cons, List.map_nil, nb_snoc, h1, qn_snoc]
    have : (UInt8.ofNat (Int.ofNat d).toNat).toNat = d := by simp; omega
    rw [this]
theorem div_next {P D c : Nat} (hD : 0 < D) : (P * 256 + c) / D = P / D * 256 + (P % D * 256 + c) / D ∧ (P * 256 + c) % D = (P % D * 256 + c) % D := by
  have e : P * 256 + c = P % D * 256 + c + P / D * 256 * D := by
    have := Nat.div_add_mod P D
    have f : P / D * 256 * D = D * (P / D) * 256 := by rw [Nat.mul_right_comm, Nat.mul_comm (P / D) D]
    omega
  rw [e, Nat.add_mul_div_right _ _ hD, Nat.add_mul_mod_self_right]
  exact ⟨Nat.add_comm _ _, rfl⟩
theorem N_one (s x : ByteArray) (k : Nat) (h : k < x.size) : N (s ++ x.extract k (k + 1)) = N s * 256 + x[k].toNat := by
  have e : (x.extract k (k + 1)).data.toList = [x[k]] := by
    rw [ByteArray.data_extract, Array.toList_extract, List.extract_eq_take_drop, show k + 1 - k = 1 by omega, List.drop_eq_getElem_cons (by rw [bytes_len]; exact h)]
    rfl
  rw [N, ByteArray.data_append, Array.toList_append, e, nb_snoc]
  rfl
theorem one_size (x : ByteArray) (k : Nat) (h : k < x.size) : (x.extract k (k + 1)).size = 1 := by
  rw [ByteArray.size_extract]; omega

set_option maxRecDepth 100000 in
set_option maxHeartbeats 1000000 in
theorem rDiv_no (a b : ByteArray) (w : World) (ha : a.size ≤ 1000000) (hb : b.size ≤ 1000000) (h : N b = 0) :
    Calls Tryz.prog 24 #[.string a, .string b] w fun e w' => e = .returned (.tuple #[.string ⟨#[]⟩, .string ⟨#[]⟩, .bool false]) ∧ w' = w := by
  have HTA := hide (rTrim_any a w (by omega))
  have htb := rTrim_any b w (by omega)
  rw [h, B_zero] at htb
  have HTB := hide htb
  clear htb
  go_enter Tryz.func24, Tryz.ntmps24
  go_wp2_with fail
  refine (HTA.out).mono ?_
  rintro e w1 ⟨rfl, hw⟩
  subst hw
  go_wp2_with fail
  refine (HTB.out).mono ?_
  rintro e w1 ⟨rfl, hw⟩
  subst hw
  go_wp2
  go_ret3
  exact ⟨rfl, rfl⟩

set_option maxRecDepth 100000 in
set_option maxHeartbeats 2000000 in
theorem rDiv_small (a b : ByteArray) (w : World) (ha : a.size ≤ 1000000) (hb : b.size ≤ 1000000) (h : N b ≠ 0) (h1 : (B (N a)).size ≤ 7) (h2 : (B (N b)).size ≤ 7) :
    Calls Tryz.prog 24 #[.string a, .string b] w fun e w' => e = .returned (.tuple #[.string (B (N a / N b)), .string (B (N a % N b)), .bool true]) ∧ Below w.heap.size w w' := by
  have HTA := hide (rTrim_any a w (by omega))
  have HTB := hide (rTrim_any b w (by omega))
  have HNx : N (B (N a)) = N a := N_B _
  have HNy : N (B (N b)) = N b := N_B _
  have hne := B_full h
  have hA := small_of _ h1
  have hD := small_of _ h2
  generalize B (N a) = x at *
  generalize B (N b) = y at *
  have HSA := hide (fun (V : World) => short_yes x V h1)
  have HSB := hide (fun (V : World) => short_yes y V h2)
  rw [HNx] at HSA
  rw [HNy] at HSB
  clear HNx HNy
  generalize hA' : N a = A at *
  generalize hD' : N b = D at *
  clear hA' hD' ha hb h1 h2
  have hd1 : (A : Int) / (D : Int) ≤ A := by
    rw [← Int.natCast_ediv]; have := Nat.div_le_self A D; omega
  have hd0 : 0 ≤ (A : Int) / (D : Int) := Int.ediv_nonneg (by omega) (by omega)
  have hr1 : (A : Int) % (D : Int) ≤ A := by
    rw [← Int.natCast_emod]; have := Nat.mod_le A D; omega
  have hr0 : 0 ≤ (A : Int) % (D : Int) := Int.emod_nonneg _ (by omega)
  have hq := fun V => rOf_any ((A : Int) / (D : Int)) V (by omega) (by omega)
  have hr := fun V => rOf_any ((A : Int) % (D : Int)) V (by omega) (by omega)
  rw [← Int.natCast_ediv, Int.toNat_natCast, Int.natCast_ediv] at hq
  rw [← Int.natCast_emod, Int.toNat_natCast, Int.natCast_emod] at hr
  have HQ := hide hq
  have HR := hide hr
  clear hq hr
  have hD0 : 0 < D := Nat.pos_of_ne_zero h
  go_enter Tryz.func24, Tryz.ntmps24
  go_wp2_with fail
  refine (HTA.out).mono ?_
  rintro e w1 ⟨rfl, hw⟩
  subst hw
  go_wp2_with fail
  refine (HTB.out).mono ?_
  rintro e w1 ⟨rfl, hw⟩
  subst hw
  go_wp2_with fail
  refine (HSA.out _).mono ?_
  rintro e w2 ⟨rfl, hw⟩
  subst hw
  go_wp2_with fail
  refine (HSB.out _).mono ?_
  rintro e w2 ⟨rfl, hw⟩
  subst hw
  go_upto_region 8 with fail
  have hz : ¬ (D : Int) = 0 := by omega
  have hw1 : IntKind.i64.wrap ((A : Int) / (D : Int)) = (A : Int) / (D : Int) := by rw [IntKind.wrap_i64]; omega
  have hw2 : IntKind.i64.wrap ((A : Int) % (D : Int)) = (A : Int) % (D : Int) := by rw [IntKind.wrap_i64]; omega
  have hB0 := (Below.refl w2.heap.size w2).drew
  go_region_held3 (fun V => Hid (Below w2.heap.size w2 V))
    (first | exact hB4 | exact hB3 | exact hB0)
    (first
      | (have hb3' := hB3; go_at_call 10; refine (HR.out _).mono ?_; rintro e w4 ⟨rfl, hb4⟩; have hB4 := hb3'.trans (hb4.mono hb3'.size))
      | (go_at_call 10; refine (HQ.out _).mono ?_; rintro e w3 ⟨rfl, hb3⟩; have hB3 := hB0.trans (hb3.mono hB0.size)))
  go_wp2
  go_ret3
  exact ⟨rfl, hB4⟩
end Go.Proofs.YtghjhflfcambjaaGreatDoor
