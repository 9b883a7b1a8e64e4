/- The document's answer: NatSub. -/
import Derived.Test.YtghjhflfcambjaaGreatDoorRefC
namespace Go.Proofs.YtghjhflfcambjaaGreatDoor
open Go.RowKit

theorem sub_step {A D k c y : Nat} {p : List Nat} (hk : k < p.length) (h0 : p[k]?.getD 0 = 0) (h : nd p + D % 256 ^ k = A % 256 ^ k + c * 256 ^ k) (c' : Nat) (hy : A / 256 ^ k % 256 + c' * 256 = y + D / 256 ^ k % 256 + c) :
    nd (p.set k y) + D % 256 ^ (k + 1) = A % 256 ^ (k + 1) + c' * 256 ^ (k + 1) := by
  have s := nd_set p k y hk
  have h0' : p[k] = 0 := by rwa [List.getElem?_eq_getElem hk] at h0
  rw [h0', Nat.zero_mul, Nat.add_zero] at s
  rw [s, mod_step, mod_step A, Nat.pow_succ]
  have e := congrArg (fun z => z * 256 ^ k) hy
  simp only [Nat.add_mul] at e
  have e1 : c' * 256 * 256 ^ k = c' * (256 ^ k * 256) := by rw [Nat.mul_assoc, Nat.mul_comm 256]
  rw [e1] at e
  rw [Nat.mul_comm (256 ^ k) (D / 256 ^ k % 256), Nat.mul_comm (256 ^ k) (A / 256 ^ k % 256)]
  omega
theorem cmpI_ge {m n : Nat} (h : n ≤ m) : 0 ≤ cmpI m n := by
  rw [cmpI, if_neg (by omega)]
  split <;> decide
theorem sub_end {A D n c : Nat} {p : List Nat} (hA : A < 256 ^ n) (hD : D ≤ A) (hp : nd p < 256 ^ n) (h : nd p + D % 256 ^ n = A % 256 ^ n + c * 256 ^ n) : nd p = A - D := by
  rw [Nat.mod_eq_of_lt hA, Nat.mod_eq_of_lt (by omega)] at h
  have hc : c = 0 := by
    rcases Nat.eq_zero_or_pos c with h0 | h0
    · exact h0
    · have : 1 * 256 ^ n ≤ c * 256 ^ n := Nat.mul_le_mul_right _ h0
      omega
  rw [hc] at h
  omega

set_option maxRecDepth 100000 in
set_option maxHeartbeats 2000000 in
theorem rSub_no (a b : ByteArray) (w : World) (ha : a.size ≤ 1000000) (hb : b.size ≤ 1000000) (h : N a < N b) :
    Calls Tryz.prog 22 #[.string a, .string b] w fun e w' => e = .returned (.tuple #[.string ⟨#[]⟩, .bool false]) ∧ Below w.heap.size w w' := by
  have hc := rCmp_any a b w ha hb
  rw [cmpI_lt h] at hc
  have HC := hide hc
  clear hc h
  go_enter Tryz.func22, Tryz.ntmps22
  go_wp2_with fail
  refine (HC.out).mono ?_
  rintro e w1 ⟨rfl, hb1⟩
  go_wp2
  go_ret2
  exact ⟨rfl, hb1⟩

set_option maxRecDepth 100000 in
set_option maxHeartbeats 2000000 in
theorem rSub_yes (a b : ByteArray) (w : World) (ha : a.size ≤ 1000000) (hb : b.size ≤ 1000000) (h : N b ≤ N a) :
    Calls Tryz.prog 22 #[.string a, .string b] w fun e w' => e = .returned (.tuple #[.string (B (N a - N b)), .bool true]) ∧ Below w.heap.size w w' := by
  obtain ⟨i0, hi, hz0, hz1, hz2⟩ := info_parts Tryz.infoInt
  have hc := rCmp_any a b w ha hb
  have hcr : ∃ r : Int, cmpI (N a) (N b) = r ∧ 0 ≤ r := ⟨_, rfl, cmpI_ge h⟩
  obtain ⟨r, hcr, hr⟩ := hcr
  rw [hcr] at hc
  have HC := hide hc
  have HT := hide (fun V => rTrim_any b V (by omega))
  have sb := Nat.le_trans (B_size_le b) hb
  have HLA := hide (N_lt a)
  have HLE := hide h
  have HDA := hide (fun (k : Nat) (V : World) (h : k ≤ 9223372036854775807) => digit_any a k V (by omega) h)
  have hdb := fun (k : Nat) (V : World) (h : k ≤ 9223372036854775807) => digit_any (B (N b)) k V (by omega) h
  rw [N_B] at hdb
  have HDB := hide hdb
  clear hc hcr hdb h
  generalize B (N b) = y' at *
  generalize hA : N a = A at *
  generalize hD : N b = D at *
  clear hA hD
  generalize hn : a.size = n at *
  go_enter Tryz.func22, Tryz.ntmps22
  go_wp2_with fail
  refine (HC.out).mono ?_
  rintro e w1 ⟨rfl, hb1⟩
  clear HC
  go_wp2_with fail
  refine (HT.out _).mono ?_
  rintro e w9 ⟨rfl, hw9⟩
  subst hw9
  clear HT
  go_wp2_with (first
    | (at_make; refine wpList_make_full _ rfl _ _ 55 rfl w9.heap.size 3 i0 (.int .i64 0) 1 Tryz.underlying55 hi hz0 hz1 .i64 .i64 _ _ n rfl rfl (by go_num) (by go_num) (by rw [hz2]; omega) (by unfold maxLen; omega) (Nat.le_refl _) ?_; intro w2 hown2 hgrow2))
  have hb2 := block_of_own hown2
  rw [made_ints] at hb2
  have hB2 : Below w9.heap.size w9 w2 := (Below.refl _ w9).grown hgrow2 (Nat.le_refl _) (fun k e => by cases e)
  have HI : Hid (RowI w2 w9.heap.size (List.replicate n 0)) := hb2
  clear hown2 hgrow2 hb2
  go_loopw [8, 9] (fun cv iv wr => ∃ (k c : Nat) (p : List Nat), k ≤ n ∧ iv = .int .i64 k ∧ cv = .int .i64 c ∧ c ≤ 1 ∧ p.length = n ∧ Hid (Dig p) ∧ Hid (∀ j, k ≤ j → p[j]?.getD 0 = 0) ∧ Hid (nd p + D % 256 ^ k = A % 256 ^ k + c * 256 ^ k) ∧ Hid (RowI wr w9.heap.size p) ∧ Below w9.heap.size w9 wr)
    (fun _ i _ => n - (intOf i).toNat)
  case atStart => exact ⟨0, 0, List.replicate n 0, Nat.zero_le _, rfl, rfl, Nat.zero_le _, by simp, dig_zeros _, (fun j _ => by rw [List.getElem?_replicate]; split <;> rfl), (show _ = _ by rw [nd_zeros]; simp [Nat.mod_one]), HI, hB2⟩
  case round =>
    obtain ⟨k, c, p, hk, rfl, rfl, hc, hpl, HDg, HZ, HE, HR, hBr⟩ := hrel
    clear HI hB2
    by_cases hlt : k < n
    · have hkp : k < p.length := by omega
      have hstep := hide (fun y c' => sub_step (y := y) hkp (HZ.out k (Nat.le_refl _)) HE.out c')
      have HX := hide (fun V => HDA.out k V (by omega))
      have HY := hide (fun V => HDB.out k V (by omega))
      have hx : A / 256 ^ k % 256 < 256 := Nat.mod_lt _ (by decide)
      have hy : D / 256 ^ k % 256 < 256 := Nat.mod_lt _ (by decide)
      generalize A / 256 ^ k % 256 = x at *
      generalize D / 256 ^ k % 256 = y at *
      have hcell := HR.out.cell k hkp
      have hfz := HR.out.fz k
      have hset := hide (fun z => HR.out.set k z)
      generalize p[k] = pk at *
      clear HE
      by_cases hlow : (x : Int) - y - c < 0
      · go_wp2_with (first
          | (have hdone := hx1; go_at_call 39; refine (HY.out _).mono ?_; rintro e w3 ⟨rfl, hw3⟩; subst hw3)
          | (go_at_call 39; refine (HX.out _).mono ?_; rintro e w3 ⟨rfl, hw3⟩; subst hw3; have hx1 : True := trivial))
        have hv : Value.int .i64 ((x : Int) - (y : Int) - (c : Int) + 256) = .int .i64 ((x + 256 - y - c : Nat) : Int) := int_eq (by omega)
        rw [hv]
        go_roundw
        case rel => exact ⟨k + 1, 1, p.set k (x + 256 - y - c), by omega, by go_num, rfl, by omega, by rw [List.length_set]; exact hpl, dig_set HDg.out _ _ (by omega), set_getD HZ.out, hstep.out _ 1 (by omega), hset.out _, hBr.setCell (Nat.le_refl _) _⟩
        case measure => simp [intOf]; omega
      · go_wp2_with (first
          | (have hdone := hx1; go_at_call 39; refine (HY.out _).mono ?_; rintro e w3 ⟨rfl, hw3⟩; subst hw3)
          | (go_at_call 39; refine (HX.out _).mono ?_; rintro e w3 ⟨rfl, hw3⟩; subst hw3; have hx1 : True := trivial))
        have hv : Value.int .i64 ((x : Int) - (y : Int) - (c : Int)) = .int .i64 ((x - y - c : Nat) : Int) := int_eq (by omega)
        rw [hv]
        go_roundw
        case rel => exact ⟨k + 1, 0, p.set k (x - y - c), by omega, by go_num, rfl, by omega, by rw [List.length_set]; exact hpl, dig_set HDg.out _ _ (by omega), set_getD HZ.out, hstep.out _ 0 (by omega), hset.out _, hBr.setCell (Nat.le_refl _) _⟩
        case measure => simp [intOf]; omega
    · obtain rfl : k = n := by omega
      have hpk := pack_any w9.heap.size p wr HDg.out (by omega) HR.out
      have hpn := nd_lt p HDg.out
      rw [hpl] at hpn
      rw [hpl, sub_end HLA.out HLE.out hpn HE.out] at hpk
      have HPK := hide hpk
      clear hpk hpn
      go_wp2_with (go_at_call 40; refine (HPK.out).mono ?_; rintro e w3 ⟨rfl, hb3⟩)
      go_ret2
      exact ⟨rfl, (hb1.trans (hBr.mono hb1.size)).trans (hb3.mono (hb1.trans (hBr.mono hb1.size)).size)⟩
set_option maxRecDepth 100000 in
set_option maxHeartbeats 1000000 in
theorem rOf_any (n : Int) (w : World) (h0 : -9223372036854775808 ≤ n) (h1 : n ≤ 9223372036854775807) :
    Calls Tryz.prog 10 #[.int .i64 n] w fun e w' => e = .returned (.string (B n.toNat)) ∧ Below w.heap.size w w' := by
  go_enter Tryz.func10, Tryz.ntmps10
  go_wp2
  go_loopw [0, 3] (fun v a wr => ∃ (z : Int) (s : ByteArray), v = .int .i64 z ∧ a = .string s ∧ -9223372036854775808 ≤ z ∧ z ≤ 9223372036854775807 ∧ Hid (bn z.toNat ++ s.data.toList = bn n.toNat) ∧ Below w.heap.size w wr) (fun v _ _ => (intOf v).toNat)
  case atStart => exact ⟨n, ⟨#[]⟩, rfl, rfl, h0, h1, (show _ = _ by simp), Below.refl _ _⟩
  case round =>
    obtain ⟨z, s, rfl, rfl, hz0, hz1, HS, hBr⟩ := hrel
    by_cases hz : 0 < z
    · have hconv := run_convert_bytes_arg (P := Tryz.prog) (wr.alloc (.cells #[.int .u8 (z % 256)] 5)) 51 5 Tryz.underlying51 Tryz.underlying5 wr.heap.size 0 1 1 [z % 256] rfl (fun i hi => by
        obtain rfl : i = 0 := by omega
        rw [cell_of_row _ wr.heap.size (0 + 0) _ _ (0, 0) (heap_alloc_new _ _)]
        rfl) 22 Tryz.underlying22
      have HS2 : Hid (bn (z / 256).toNat ++ (strOfNums [z % 256] ++ s).data.toList = bn n.toNat) := by
        show _ = _
        rw [← HS.out, bn_pos z.toNat (by omega), ByteArray.data_append, Array.toList_append, strOfNums_data, show (z / 256).toNat = z.toNat / 256 by omega, List.append_assoc]
        have : UInt8.ofNat (z % 256).toNat = UInt8.ofNat (z.toNat % 256) := by congr 1; omega
        simp [this]
      have hs8 : s.size ≤ 8 := by
        have e := congrArg List.length HS.out
        rw [List.length_append, bytes_len] at e
        have := bn_fits 8 n.toNat (by show n.toNat < 18446744073709551616; omega)
        omega
      have hs1 : (strOfNums [z % 256]).size = 1 := strOfNums_size _
      go_wp2
      go_roundw
      case rel => exact ⟨z / 256, strOfNums [z % 256] ++ s, rfl, rfl, by omega, by omega, HS2.out, hBr.alloc hBr.size _⟩
      case measure => simp [intOf]; omega
    · have HE : Hid (s = B n.toNat) := by
        show s = _
        have := HS.out
        rw [show z.toNat = 0 by omega, bn_zero, List.nil_append] at this
        apply ByteArray.ext
        apply Array.toList_inj.1
        rw [this, B]
      go_wp2
      go_ret
      exact ⟨by rw [← HE.out]; rfl, hBr⟩
end Go.Proofs.YtghjhflfcambjaaGreatDoor
