/- The document's answer: NatSub. -/
import Derived.Test.YtojidhnkpeiimaaGreatDoorDivBToRefC
import Derived.Deep.RegionHeld3
import Derived.Deep.CutRange
namespace Go.Proofs.YtojidhnkpeiimaaGreatDoor
open Go.RowKit
theorem sub_step {A D k c y : Nat} {p : List Nat} (hk : k < p.length) (h0 : p[k]?.getD 0 = 0) (h : nd p + D % 256 ^ k = A % 256 ^ k + c * 256 ^ k) (c' : Nat) (hy : A / 256 ^ k % 256 + c' * 256 = y + D / 256 ^ k % 256 + c) :
    nd (p.set k y) + D % 256 ^ (k + 1) = A % 256 ^ (k + 1) + c' * 256 ^ (k + 1) := by
  have s := nd_set p k y hk
  have h0' : p[k] = 0 := by rwa [List.getElem?_eq_getElem hk] at h0
  rw [h0', Nat.zero_mul, Nat.add_zero] at s
  rw [s, mod_step, mod_step A, Nat.pow_succ]
  have e := congrArg (fun z => z * 256 ^ k) hy
  simp only [Nat.add_mul] at e
  have e1 : c' * 256 * 256 ^ k = c' * (256 ^ k * 256) := by rw [Nat.mul_assoc, Nat.mul_comm 256]
  rw [e1] at e
  rw [Nat.mul_comm (256 ^ k) (D / 256 ^ k % 256), Nat.mul_comm (256 ^ k) (A / 256 ^ k % 256)]
  omega
theorem cmpI_ge {m n : Nat} (h : n ≤ m) : 0 ≤ cmpI m n := by
  rw [cmpI, if_neg (by omega)]
  split <;> decide
theorem sub_end {A D n c : Nat} {p : List Nat} (hA : A < 256 ^ n) (hD : D ≤ A) (hp : nd p < 256 ^ n) (h : nd p + D % 256 ^ n = A % 256 ^ n + c * 256 ^ n) : nd p = A - D := by
  rw [Nat.mod_eq_of_lt hA, Nat.mod_eq_of_lt (by omega)] at h
  have hc : c = 0 := by
    rcases Nat.eq_zero_or_pos c with h0 | h0
    · exact h0
    · have : 1 * 256 ^ n ≤ c * 256 ^ n := Nat.mul_le_mul_right _ h0
      omega
  rw [hc] at h
  omega
set_option maxRecDepth 100000 in
set_option maxHeartbeats 2000000 in
theorem rSub_no (a b : ByteArray) (w : World) (ha : a.size ≤ 1000000) (hb : b.size ≤ 1000000) (h : N a < N b) :
    Calls Tryz.prog 50 #[.string a, .string b] w fun e w' => e = .returned (.tuple #[.string ⟨#[]⟩, .bool false]) ∧ Below w.heap.size w w' := by
  have hc := rCmp_any a b w ha hb
  rw [cmpI_lt h] at hc
  have HC := hide hc
  clear hc h
  go_enter Tryz.func50, Tryz.ntmps50
  go_wp2_with fail
  refine (HC.out).mono ?_
  rintro e w1 ⟨rfl, hb1⟩
  go_wp2
  go_ret2
  exact ⟨rfl, hb1⟩
set_option maxRecDepth 100000 in
set_option maxHeartbeats 2000000 in
theorem rSub_yes (a b : ByteArray) (w : World) (ha : a.size ≤ 1000000) (hb : b.size ≤ 1000000) (h : N b ≤ N a) :
    Calls Tryz.prog 50 #[.string a, .string b] w fun e w' => e = .returned (.tuple #[.string (B (N a - N b)), .bool true]) ∧ Below w.heap.size w w' := by
  obtain ⟨i0, hi, hz0, hz1, hz2⟩ := info_parts Tryz.infoInt
  have hc := rCmp_any a b w ha hb
  have hcr : ∃ r : Int, cmpI (N a) (N b) = r ∧ 0 ≤ r := ⟨_, rfl, cmpI_ge h⟩
  obtain ⟨r, hcr, hr⟩ := hcr
  rw [hcr] at hc
  have HC := hide hc
  have HT := hide (fun V => rTrim_any b V (by omega))
  have sb := Nat.le_trans (B_size_le b) hb
  have HLA := hide (N_lt a)
  have HLE := hide h
  have HDA := hide (fun (k : Nat) (V : World) (h : k ≤ 9223372036854775807) => digit_any a k V (by omega) h)
  have hdb := fun (k : Nat) (V : World) (h : k ≤ 9223372036854775807) => digit_any (B (N b)) k V (by omega) h
  rw [N_B] at hdb
  have HDB := hide hdb
  clear hc hcr hdb h
  generalize B (N b) = y' at *
  generalize hA : N a = A at *
  generalize hD : N b = D at *
  clear hA hD
  generalize hn : a.size = n at *
  go_enter Tryz.func50, Tryz.ntmps50
  go_wp2_with fail
  refine (HC.out).mono ?_
  rintro e w1 ⟨rfl, hb1⟩
  clear HC
  go_wp2_with fail
  refine (HT.out _).mono ?_
  rintro e w9 ⟨rfl, hw9⟩
  subst hw9
  clear HT
  go_wp2_with (first
    | (at_make; refine wpList_make_full _ rfl _ _ 22 rfl w9.heap.size 3 i0 (.int .i64 0) 1 Tryz.underlying22 hi hz0 hz1 .i64 .i64 _ _ n rfl rfl (by go_num) (by go_num) (by rw [hz2]; omega) (by unfold maxLen; omega) (Nat.le_refl _) ?_; intro w2 hown2 hgrow2))
  have hb2 := block_of_own hown2
  rw [made_ints] at hb2
  have hB2 : Below w9.heap.size w9 w2 := (Below.refl _ w9).grown hgrow2 (Nat.le_refl _) (fun k e => by cases e)
  have HI : Hid (RowI w2 w9.heap.size (List.replicate n 0)) := hb2
  clear hown2 hgrow2 hb2
  go_loopw [8, 9] (fun cv iv wr => ∃ (k c : Nat) (p : List Nat), k ≤ n ∧ iv = .int .i64 k ∧ cv = .int .i64 c ∧ c ≤ 1 ∧ p.length = n ∧ Hid (Dig p) ∧ Hid (∀ j, k ≤ j → p[j]?.getD 0 = 0) ∧ Hid (nd p + D % 256 ^ k = A % 256 ^ k + c * 256 ^ k) ∧ Hid (RowI wr w9.heap.size p) ∧ Below w9.heap.size w9 wr)
    (fun _ i _ => n - (intOf i).toNat)
  case atStart => exact ⟨0, 0, List.replicate n 0, Nat.zero_le _, rfl, rfl, Nat.zero_le _, by simp, dig_zeros _, (fun j _ => by rw [List.getElem?_replicate]; split <;> rfl), (show _ = _ by rw [nd_zeros]; simp [Nat.mod_one]), HI, hB2⟩
  case round =>
    obtain ⟨k, c, p, hk, rfl, rfl, hc, hpl, HDg, HZ, HE, HR, hBr⟩ := hrel
    clear HI hB2
    by_cases hlt : k < n
    · have hkp : k < p.length := by omega
      have hstep := hide (fun y c' => sub_step (y := y) hkp (HZ.out k (Nat.le_refl _)) HE.out c')
      have HX := hide (fun V => HDA.out k V (by omega))
      have HY := hide (fun V => HDB.out k V (by omega))
      have hx : A / 256 ^ k % 256 < 256 := Nat.mod_lt _ (by decide)
      have hy : D / 256 ^ k % 256 < 256 := Nat.mod_lt _ (by decide)
      generalize A / 256 ^ k % 256 = x at *
      generalize D / 256 ^ k % 256 = y at *
      have hcell := HR.out.cell k hkp
      have hfz := HR.out.fz k
      have hset := hide (fun z => HR.out.set k z)
      generalize p[k] = pk at *
      clear HE
      by_cases hlow : (x : Int) - y - c < 0
      · go_wp2_with (first
          | (have hdone := hx1; go_at_call 28; refine (HY.out _).mono ?_; rintro e w3 ⟨rfl, hw3⟩; subst hw3)
          | (go_at_call 28; refine (HX.out _).mono ?_; rintro e w3 ⟨rfl, hw3⟩; subst hw3; have hx1 : True := trivial))
        have hv : Value.int .i64 ((x : Int) - (y : Int) - (c : Int) + 256) = .int .i64 ((x + 256 - y - c : Nat) : Int) := int_eq (by omega)
        rw [hv]
        go_roundw
        case rel => exact ⟨k + 1, 1, p.set k (x + 256 - y - c), by omega, by go_num, rfl, by omega, by rw [List.length_set]; exact hpl, dig_set HDg.out _ _ (by omega), set_getD HZ.out, hstep.out _ 1 (by omega), hset.out _, hBr.setCell (Nat.le_refl _) _⟩
        case measure => simp [intOf]; omega
      · go_wp2_with (first
          | (have hdone := hx1; go_at_call 28; refine (HY.out _).mono ?_; rintro e w3 ⟨rfl, hw3⟩; subst hw3)
          | (go_at_call 28; refine (HX.out _).mono ?_; rintro e w3 ⟨rfl, hw3⟩; subst hw3; have hx1 : True := trivial))
        have hv : Value.int .i64 ((x : Int) - (y : Int) - (c : Int)) = .int .i64 ((x - y - c : Nat) : Int) := int_eq (by omega)
        rw [hv]
        go_roundw
        case rel => exact ⟨k + 1, 0, p.set k (x - y - c), by omega, by go_num, rfl, by omega, by rw [List.length_set]; exact hpl, dig_set HDg.out _ _ (by omega), set_getD HZ.out, hstep.out _ 0 (by omega), hset.out _, hBr.setCell (Nat.le_refl _) _⟩
        case measure => simp [intOf]; omega
    · obtain rfl : k = n := by omega
      have hpk := pack_any w9.heap.size p wr HDg.out (by omega) HR.out
      have hpn := nd_lt p HDg.out
      rw [hpl] at hpn
      rw [hpl, sub_end HLA.out HLE.out hpn HE.out] at hpk
      have HPK := hide hpk
      clear hpk hpn
      go_wp2_with (go_at_call 76; refine (HPK.out).mono ?_; rintro e w3 ⟨rfl, hb3⟩)
      go_ret2
      exact ⟨rfl, (hb1.trans (hBr.mono hb1.size)).trans (hb3.mono (hb1.trans (hBr.mono hb1.size)).size)⟩
set_option maxRecDepth 100000 in
set_option maxHeartbeats 1000000 in
theorem rOf_any (n : Int) (w : World) (h0 : -9223372036854775808 ≤ n) (h1 : n ≤ 9223372036854775807) :
    Calls Tryz.prog 12 #[.int .i64 n] w fun e w' => e = .returned (.string (B n.toNat)) ∧ Below w.heap.size w w' := by
  go_enter Tryz.func12, Tryz.ntmps12
  go_wp2
  go_loopw [0, 3] (fun v a wr => ∃ (z : Int) (s : ByteArray), v = .int .i64 z ∧ a = .string s ∧ -9223372036854775808 ≤ z ∧ z ≤ 9223372036854775807 ∧ Hid (bn z.toNat ++ s.data.toList = bn n.toNat) ∧ Below w.heap.size w wr) (fun v _ _ => (intOf v).toNat)
  case atStart => exact ⟨n, ⟨#[]⟩, rfl, rfl, h0, h1, (show _ = _ by simp), Below.refl _ _⟩
  case round =>
    obtain ⟨z, s, rfl, rfl, hz0, hz1, HS, hBr⟩ := hrel
    by_cases hz : 0 < z
    · have hconv := run_convert_bytes_arg (P := Tryz.prog) (wr.alloc (.cells #[.int .u8 (z % 256)] 5)) 66 5 Tryz.underlying66 Tryz.underlying5 wr.heap.size 0 1 1 [z % 256] rfl (fun i hi => by
        obtain rfl : i = 0 := by omega
        rw [cell_of_row _ wr.heap.size (0 + 0) _ _ (0, 0) (heap_alloc_new _ _)]
        rfl) 42 Tryz.underlying42
      have HS2 : Hid (bn (z / 256).toNat ++ (strOfNums [z % 256] ++ s).data.toList = bn n.toNat) := by
        show _ = _
        rw [← HS.out, bn_pos z.toNat (by omega), ByteArray.data_append, Array.toList_append, strOfNums_data, show (z / 256).toNat = z.toNat / 256 by omega, List.append_assoc]
        have : UInt8.ofNat (z % 256).toNat = UInt8.ofNat (z.toNat % 256) := by congr 1; omega
        simp [this]
      have hs8 : s.size ≤ 8 := by
        have e := congrArg List.length HS.out
        rw [List.length_append, bytes_len] at e
        have := bn_fits 8 n.toNat (by show n.toNat < 18446744073709551616; omega)
        omega
      have hs1 : (strOfNums [z % 256]).size = 1 := strOfNums_size _
      go_wp2
      go_roundw
      case rel => exact ⟨z / 256, strOfNums [z % 256] ++ s, rfl, rfl, by omega, by omega, HS2.out, hBr.alloc hBr.size _⟩
      case measure => simp [intOf]; omega
    · have HE : Hid (s = B n.toNat) := by
        show s = _
        have := HS.out
        rw [show z.toNat = 0 by omega, bn_zero, List.nil_append] at this
        apply ByteArray.ext
        apply Array.toList_inj.1
        rw [this, B]
      go_wp2
      go_ret
      exact ⟨by rw [← HE.out]; rfl, hBr⟩
end Go.Proofs.YtojidhnkpeiimaaGreatDoor

/- The document's answer: short and NatInt. -/
namespace Go.Proofs.YtojidhnkpeiimaaGreatDoor
open Go.RowKit
theorem nb_take_le (l : List UInt8) (k : Nat) : nb (l.take k) ≤ nb l := by
  conv => rhs; rw [← List.take_append_drop k l, nb_append]
  have : nb (l.take k) * 1 ≤ nb (l.take k) * 256 ^ (l.drop k).length := Nat.mul_le_mul_left _ (Nat.pow_pos (by decide))
  omega
theorem nb_take_succ (s : ByteArray) (k : Nat) (h : k < s.size) : nb (s.data.toList.take (k + 1)) = nb (s.data.toList.take k) * 256 + s[k].toNat := by
  rw [take_snoc s k h, nb_snoc]
theorem nb_take_all (s : ByteArray) : nb (s.data.toList.take s.size) = N s := by
  rw [List.take_of_length_le (by rw [bytes_len]; exact Nat.le_refl _), N]
set_option maxRecDepth 100000 in
set_option maxHeartbeats 1000000 in
theorem short_yes (s : ByteArray) (w : World) (hs : s.size ≤ 7) :
    Calls Tryz.prog 49 #[.string s] w fun e w' => e = .returned (.tuple #[.int .i64 (N s : Nat), .bool true]) ∧ w' = w := by
  have hN : N s < 72057594037927936 := Nat.lt_of_lt_of_le (N_lt s) (Nat.pow_le_pow_right (by decide) hs)
  have HA := hide (nb_take_all s)
  go_enter Tryz.func49, Tryz.ntmps49
  go_wp2
  go_loop [4, 5] (fun v i => ∃ k : Nat, k ≤ s.size ∧ i = .int .i64 k ∧ v = .int .i64 (nb (s.data.toList.take k) : Nat)) (fun _ i => s.size - (intOf i).toNat)
  case atStart => exact ⟨0, Nat.zero_le _, rfl, rfl⟩
  case round =>
    obtain ⟨k, hk, rfl, rfl⟩ := hrel
    by_cases hlt : k < s.size
    · have hwr := wrap64_small _ s[k].toNat_lt
      have hst := nb_take_succ s k hlt
      have hle := nb_take_le s.data.toList (k + 1)
      rw [hst] at hle
      have hle' : nb (s.data.toList.take k) * 256 + s[k].toNat < 72057594037927936 := Nat.lt_of_le_of_lt hle hN
      have HST := hide hst
      clear hst hle hN
      generalize nb (s.data.toList.take k) = m at *
      go_wp2
      go_round
      case rel => exact ⟨k + 1, by omega, by go_num, by rw [HST.out]; exact int_eq (by omega)⟩
      case measure => simp [intOf]; omega
    · obtain rfl : k = s.size := by omega
      rw [HA.out]
      go_wp2
      go_ret2
      exact ⟨rfl, rfl⟩
set_option maxRecDepth 100000 in
set_option maxHeartbeats 1000000 in
theorem short_no (s : ByteArray) (w : World) (h1 : 7 < s.size) (hs : s.size ≤ 1000000) :
    Calls Tryz.prog 49 #[.string s] w fun e w' => e = .returned (.tuple #[.int .i64 0, .bool false]) ∧ w' = w := by
  go_enter Tryz.func49, Tryz.ntmps49
  go_wp2
  go_ret2
  exact ⟨rfl, rfl⟩
theorem small_of (m : Nat) (h : (B m).size ≤ 7) : m < 72057594037927936 := Nat.lt_of_lt_of_le (B_lt m) (Nat.pow_le_pow_right (by decide) h)
end Go.Proofs.YtojidhnkpeiimaaGreatDoor

/- The document's answer: NatMul. -/
namespace Go.Proofs.YtojidhnkpeiimaaGreatDoor
open Go.RowKit
theorem mul_step {M D k m c x y : Nat} {p : List Nat} (hk : k + m < p.length) (h : nd p + c * 256 ^ (k + m) = M + x * 256 ^ k * (D % 256 ^ m)) (hy : D / 256 ^ m % 256 = y) :
    nd (p.set (k + m) ((c + p[k + m] + x * y) % 256)) + (c + p[k + m] + x * y) / 256 * 256 ^ (k + (m + 1)) = M + x * 256 ^ k * (D % 256 ^ (m + 1)) := by
  have s := nd_set p (k + m) ((c + p[k + m] + x * y) % 256) hk
  have t := carry_step (c + p[k + m] + x * y) (256 ^ (k + m))
  have e : (c + p[k + m] + x * y) * 256 ^ (k + m) = c * 256 ^ (k + m) + p[k + m] * 256 ^ (k + m) + x * y * 256 ^ (k + m) := by rw [Nat.add_mul, Nat.add_mul]
  have f : x * 256 ^ k * (D % 256 ^ (m + 1)) = x * 256 ^ k * (D % 256 ^ m) + x * y * 256 ^ (k + m) := by
    rw [mod_step, hy, Nat.mul_add, Nat.pow_add]
    congr 1
    rw [Nat.mul_assoc, Nat.mul_assoc, Nat.mul_comm y, Nat.mul_assoc]
  rw [f, show k + (m + 1) = k + m + 1 by omega, Nat.pow_succ]
  omega
theorem nd_ge (l : List Nat) : ∀ (j : Nat) (h : j < l.length), l[j] * 256 ^ j ≤ nd l := by
  induction l with
  | nil => intro j h; exact absurd h (Nat.not_lt_zero _)
  | cons x r ih =>
    intro j h
    cases j with
    | zero => simp only [List.getElem_cons_zero, Nat.pow_zero, Nat.mul_one, nd_cons]; omega
    | succ j =>
      have hj : j < r.length := by simpa using h
      have := ih j hj
      rw [List.getElem_cons_succ, nd_cons, Nat.pow_succ, ← Nat.mul_assoc]
      omega
theorem mul_row {A D k lb c x : Nat} {p : List Nat} (hk : k + lb < p.length) (hD : D < 256 ^ lb) (hx : A / 256 ^ k % 256 = x) (h : nd p + c * 256 ^ (k + lb) = A % 256 ^ k * D + x * 256 ^ k * (D % 256 ^ lb)) :
    nd (p.set (k + lb) (p[k + lb] + c)) = A % 256 ^ (k + 1) * D ∧ p[k + lb] + c < 256 := by
  have s := nd_set p (k + lb) (p[k + lb] + c) hk
  rw [Nat.mod_eq_of_lt hD] at h
  have f : A % 256 ^ (k + 1) * D = A % 256 ^ k * D + x * 256 ^ k * D := by rw [mod_step, hx, Nat.add_mul, Nat.mul_comm (256 ^ k) x]
  have e : (p[k + lb] + c) * 256 ^ (k + lb) = p[k + lb] * 256 ^ (k + lb) + c * 256 ^ (k + lb) := Nat.add_mul _ _ _
  have hn : nd (p.set (k + lb) (p[k + lb] + c)) = A % 256 ^ (k + 1) * D := by rw [f]; omega
  refine ⟨hn, ?_⟩
  have g := nd_ge (p.set (k + lb) (p[k + lb] + c)) (k + lb) (by rw [List.length_set]; exact hk)
  rw [hn, List.getElem_set_self] at g
  have hb : A % 256 ^ (k + 1) * D < 256 ^ (k + 1) * 256 ^ lb := Nat.mul_lt_mul'' (Nat.mod_lt _ (Nat.pow_pos (by decide))) hD
  rcases Nat.lt_or_ge (p[k + lb] + c) 256 with h1 | h1
  · exact h1
  · have h2 : 256 * 256 ^ (k + lb) ≤ (p[k + lb] + c) * 256 ^ (k + lb) := Nat.mul_le_mul_right _ h1
    have h3 : 256 ^ (k + 1) * 256 ^ lb = 256 * 256 ^ (k + lb) := by rw [← Nat.pow_add, ← Nat.pow_succ', show k + 1 + lb = k + lb + 1 by omega]
    omega
set_option maxRecDepth 100000 in
set_option maxHeartbeats 2000000 in
theorem rMul_any (a b : ByteArray) (w : World) (ha : a.size ≤ 1000000) (hb : b.size ≤ 1000000) :
    Calls Tryz.prog 77 #[.string a, .string b] w fun e w' => e = .returned (.string (B (N a * N b))) ∧ Below w.heap.size w w' := by
  obtain ⟨i0, hi, hz0, hz1, hz2⟩ := info_parts Tryz.infoInt
  have HTA := hide (rTrim_any a w (by omega))
  have HTB := hide (rTrim_any b w (by omega))
  have sa := Nat.le_trans (B_size_le a) ha
  have sb := Nat.le_trans (B_size_le b) hb
  have HNx : N (B (N a)) = N a := N_B _
  have HNy : N (B (N b)) = N b := N_B _
  generalize B (N a) = x at *
  generalize B (N b) = y at *
  have HLA := hide (N_lt x)
  have HLB := hide (N_lt y)
  have HDA := hide (fun (k : Nat) (V : World) (h : k ≤ 9223372036854775807) => digit_any x k V (by omega) h)
  have HDB := hide (fun (k : Nat) (V : World) (h : k ≤ 9223372036854775807) => digit_any y k V (by omega) h)
  have HSA := hide (fun (h : x.size ≤ 7) (V : World) => short_yes x V h)
  have HSB := hide (fun (h : y.size ≤ 7) (V : World) => short_yes y V h)
  rw [HNx] at HLA HDA HSA
  rw [HNy] at HLB HDB HSB
  clear HNx HNy
  generalize hA : N a = A at *
  generalize hD : N b = D at *
  clear hA hD ha hb
  go_enter Tryz.func77, Tryz.ntmps77
  go_wp2_with fail
  refine (HTA.out).mono ?_
  rintro e w1 ⟨rfl, hw⟩
  subst hw
  go_wp2_with fail
  refine (HTB.out).mono ?_
  rintro e w1 ⟨rfl, hw⟩
  subst hw
  clear HTA HTB
  by_cases hsm : x.size + y.size ≤ 7
  · have hp : A * D < 72057594037927936 := by
      have h1 : A * D < 256 ^ x.size * 256 ^ y.size := Nat.mul_lt_mul'' HLA.out HLB.out
      rw [← Nat.pow_add] at h1
      exact Nat.lt_of_lt_of_le h1 (Nat.pow_le_pow_right (by decide) hsm)
    have hp0 : (0 : Int) ≤ (A : Int) * (D : Int) := Int.mul_nonneg (by omega) (by omega)
    have hp1 : (A : Int) * (D : Int) < 72057594037927936 := by
      have h2 : ((A * D : Nat) : Int) < 72057594037927936 := by omega
      rwa [Int.natCast_mul] at h2
    have HO := hide (fun V => rOf_any ((A : Int) * (D : Int)) V (by omega) (by omega))
    have hto : ((A : Int) * (D : Int)).toNat = A * D := by rw [← Int.natCast_mul, Int.toNat_natCast]
    rw [hto] at HO
    have HSA' := hide (fun V => HSA.out (by omega) V)
    have HSB' := hide (fun V => HSB.out (by omega) V)
    have HP0 := hide hp0
    have HP1 := hide hp1
    have hsi : (x.size : Int) + (y.size : Int) ≤ 7 := by omega
    clear HSA HSB hto hp hp0 hp1 hsm
    go_wp2_with fail
    refine (HSA'.out _).mono ?_
    rintro e w2 ⟨rfl, hw⟩
    subst hw
    go_wp2_with fail
    refine (HSB'.out _).mono ?_
    rintro e w2 ⟨rfl, hw⟩
    subst hw
    have hwr : IntKind.i64.wrap ((A : Int) * (D : Int)) = (A : Int) * (D : Int) := by
      have h1 := HP0.out
      have h2 := HP1.out
      rw [IntKind.wrap_i64]
      omega
    have hwr2 : wrap64 ((A : Int) * (D : Int)) = (A : Int) * (D : Int) := by
      have h1 := HP0.out
      have h2 := HP1.out
      rw [wrap64]
      omega
    clear HP0 HP1
    go_wp2_with fail
    refine (HO.out _).mono ?_
    rintro e w3 ⟨rfl, hb3⟩
    go_wp2
    go_ret
    exact ⟨rfl, hb3⟩
  · clear HSA HSB
    go_wp2_with (first
      | (at_make; refine wpList_make_full _ rfl _ _ 22 rfl w1.heap.size 3 i0 (.int .i64 0) 1 Tryz.underlying22 hi hz0 hz1 .i64 .i64 _ _ (x.size + y.size + 1) rfl rfl (by go_num) (by go_num) (by rw [hz2]; omega) (by unfold maxLen; omega) (Nat.le_refl _) ?_; intro w2 hown2 hgrow2))
    have hb2 := block_of_own hown2
    rw [made_ints] at hb2
    have hB2 : Below w1.heap.size w1 w2 := (Below.refl _ w1).grown hgrow2 (Nat.le_refl _) (fun k e => by cases e)
    have HI : Hid (RowI w2 w1.heap.size (List.replicate (x.size + y.size + 1) 0)) := hb2
    clear hown2 hgrow2 hb2
    go_loopw [10] (fun iv wr => ∃ (k : Nat) (p : List Nat), k ≤ x.size ∧ iv = .int .i64 k ∧ p.length = x.size + y.size + 1 ∧ Hid (Dig p) ∧ Hid (nd p = A % 256 ^ k * D) ∧ Hid (RowI wr w1.heap.size p) ∧ Below w1.heap.size w1 wr)
      (fun i _ => x.size - (intOf i).toNat)
    case atStart => exact ⟨0, List.replicate (x.size + y.size + 1) 0, Nat.zero_le _, rfl, by simp, dig_zeros _, (show _ = _ by rw [nd_zeros]; simp [Nat.mod_one]), HI, hB2⟩
    case round =>
      obtain ⟨k, p, hk, rfl, hpl, HDg, HE, HR, hBr⟩ := hrel
      clear HI hB2
      obtain ⟨wo, hwo⟩ : ∃ wo : World, wo = wr := ⟨_, rfl⟩
      by_cases hlt : k < x.size
      · have HX := hide (fun V => HDA.out k V (by omega))
        have hx : A / 256 ^ k % 256 < 256 := Nat.mod_lt _ (by decide)
        have hrow := hide (fun (c : Nat) (q : List Nat) (hq : k + y.size < q.length) => mul_row (A := A) (D := D) (k := k) (lb := y.size) (c := c) (p := q) hq HLB.out rfl)
        generalize A / 256 ^ k % 256 = xd at *
        go_wp2_with (go_at_call 28; refine (HX.out _).mono ?_; rintro e w3 ⟨rfl, hw3⟩; subst hw3)
        go_loopw [12, 13] (fun cv jv wr => ∃ (m c : Nat) (q : List Nat), m ≤ y.size ∧ jv = .int .i64 m ∧ cv = .int .i64 c ∧ c ≤ 255 ∧ q.length = x.size + y.size + 1 ∧ Hid (Dig q) ∧ Hid (nd q + c * 256 ^ (k + m) = A % 256 ^ k * D + xd * 256 ^ k * (D % 256 ^ m)) ∧ Hid (RowI wr w1.heap.size q) ∧ Below w1.heap.size w1 wr)
          (fun _ j _ => y.size - (intOf j).toNat)
        case atStart =>
          refine ⟨0, 0, p, Nat.zero_le _, rfl, rfl, Nat.zero_le _, hpl, HDg.out, ?_, HR, hBr⟩
          show _ = _
          rw [HE.out]
          simp [Nat.mod_one]
        case round =>
          obtain ⟨m, c, q, hm, rfl, rfl, hc, hql, HDq, HEq, HRq, hBq⟩ := hrel
          clear HR hBr HDg HE
          by_cases hmt : m < y.size
          · have hkq : k + m < q.length := by omega
            have HY := hide (fun V => HDB.out m V (by omega))
            have hyl : D / 256 ^ m % 256 < 256 := Nat.mod_lt _ (by decide)
            have hstep := mul_step (y := D / 256 ^ m % 256) hkq HEq.out rfl
            have hcell := HRq.out.cell (k + m) hkq
            have hqd := HDq.out q[k + m] (List.getElem_mem hkq)
            have hfz := HRq.out.fz (k + m)
            have hset := hide (fun z => HRq.out.set (k + m) z)
            generalize D / 256 ^ m % 256 = yd at *
            generalize q[k + m] = qk at *
            have HST := hide hstep
            have hpr : xd * yd ≤ 255 * 255 := Nat.mul_le_mul (by omega) (by omega)
            have hpr0 : (0 : Int) ≤ (xd : Int) * (yd : Int) := Int.mul_nonneg (by omega) (by omega)
            have hpr1 : (xd : Int) * (yd : Int) ≤ 65025 := by
              have h2 : ((xd * yd : Nat) : Int) ≤ 65025 := by omega
              rwa [Int.natCast_mul] at h2
            clear hstep HEq
            go_wp2_with (go_at_call 28; refine (HY.out _).mono ?_; rintro e w3 ⟨rfl, hw3⟩; subst hw3)
            have hxy : (xd : Int) * (yd : Int) = ((xd * yd : Nat) : Int) := (Int.natCast_mul _ _).symm
            rw [hxy]
            clear hpr0 hpr1 hxy
            generalize xd * yd = t at *
            have hv : Value.int .i64 (((c : Int) + (qk : Int) + (t : Int)) % 256) = .int .i64 (((c + qk + t) % 256 : Nat) : Int) := int_eq (by omega)
            have hv2 : Value.int .i64 (((c : Int) + (qk : Int) + (t : Int)) / 256) = .int .i64 (((c + qk + t) / 256 : Nat) : Int) := int_eq (by omega)
            rw [hv, hv2]
            go_roundw
            case rel => exact ⟨m + 1, (c + qk + t) / 256, q.set (k + m) ((c + qk + t) % 256), by omega, by go_num, rfl, by omega, by rw [List.length_set]; exact hql, dig_set HDq.out _ _ (Nat.mod_lt _ (by decide)), HST.out, hset.out _, hBq.setCell (Nat.le_refl _) _⟩
            case measure => simp [intOf]; omega
          · obtain rfl : m = y.size := by omega
            have hkq : k + y.size < q.length := by omega
            obtain ⟨hfin, hsm2⟩ := hrow.out c q hkq HEq.out
            have hcell := HRq.out.cell (k + y.size) hkq
            have hfz := HRq.out.fz (k + y.size)
            have hset := hide (fun z => HRq.out.set (k + y.size) z)
            generalize q[k + y.size] = qk at *
            have HFN := hide hfin
            clear hfin HEq
            go_wp2
            have hv : Value.int .i64 ((qk : Int) + (c : Int)) = .int .i64 ((qk + c : Nat) : Int) := int_eq (by omega)
            rw [hv]
            go_roundw
            case rel => exact ⟨k + 1, q.set (k + y.size) (qk + c), by omega, by go_num, by rw [List.length_set]; exact hql, dig_set HDq.out _ _ hsm2, HFN.out, hset.out _, hBq.setCell (Nat.le_refl _) _⟩
            case measure => simp [intOf]; omega
      · obtain rfl : k = x.size := by omega
        have hpk := pack_any w1.heap.size p wr HDg.out (by omega) HR.out
        rw [hpl, HE.out, Nat.mod_eq_of_lt HLA.out] at hpk
        have HPK := hide hpk
        clear hpk
        go_wp2_with (go_at_call 76; refine (HPK.out).mono ?_; rintro e w3 ⟨rfl, hb3⟩)
        go_ret
        exact ⟨rfl, hBr.trans (hb3.mono hBr.size)⟩
end Go.Proofs.YtojidhnkpeiimaaGreatDoor

/- The document's answer: NatDiv. -/
namespace Go.Proofs.YtojidhnkpeiimaaGreatDoor
open Go.RowKit
def bv (d : Nat) : Value := .int .u8 (d : Int)
def HasB (w : World) (base : Nat) (v : Value) (l : List Nat) : Prop := w.ownsRow base 5 1 v l.length (l.map bv)
def qn (l : List Nat) : Nat := l.foldl (fun n d => n * 256 + d) 0
theorem qn_snoc (l : List Nat) (d : Nat) : qn (l ++ [d]) = qn l * 256 + d := by simp [qn]
theorem dig_snoc {l : List Nat} (h : Dig l) {d : Nat} (hd : d < 256) : Dig (l ++ [d]) := fun x hx => by
  rcases List.mem_append.1 hx with h1 | h1
  · exact h x h1
  · simp at h1; omega
theorem N_qn (l : List Nat) : Dig l → N (strOfNums (l.map Int.ofNat)) = qn l := by
  induction l using snoc_ind with
  | h0 => intro _; rfl
  | h1 l d ih =>
    intro h
    have h1 := ih fun x hx => h x (List.mem_append_left _ hx)
    have h2 := h d (List.mem_append_right _ (List.mem_singleton.2 rfl))
    rw [N, strOfNums_data] at h1 ⊢
    rw [List.map_append, List.map_append, List.map_cons, List.map_nil, List.map_cons, List.map_nil, nb_snoc, h1, qn_snoc]
    have : (UInt8.ofNat (Int.ofNat d).toNat).toNat = d := by simp; omega
    rw [this]
theorem div_next {P D c : Nat} (hD : 0 < D) : (P * 256 + c) / D = P / D * 256 + (P % D * 256 + c) / D ∧ (P * 256 + c) % D = (P % D * 256 + c) % D := by
  have e : P * 256 + c = P % D * 256 + c + P / D * 256 * D := by
    have := Nat.div_add_mod P D
    have f : P / D * 256 * D = D * (P / D) * 256 := by rw [Nat.mul_right_comm, Nat.mul_comm (P / D) D]
    omega
  rw [e, Nat.add_mul_div_right _ _ hD, Nat.add_mul_mod_self_right]
  exact ⟨Nat.add_comm _ _, rfl⟩
theorem N_one (s x : ByteArray) (k : Nat) (h : k < x.size) : N (s ++ x.extract k (k + 1)) = N s * 256 + x[k].toNat := by
  have e : (x.extract k (k + 1)).data.toList = [x[k]] := by
    rw [ByteArray.data_extract, Array.toList_extract, List.extract_eq_take_drop, show k + 1 - k = 1 by omega, List.drop_eq_getElem_cons (by rw [bytes_len]; exact h)]
    rfl
  rw [N, ByteArray.data_append, Array.toList_append, e, nb_snoc]
  rfl
theorem one_size (x : ByteArray) (k : Nat) (h : k < x.size) : (x.extract k (k + 1)).size = 1 := by
  rw [ByteArray.size_extract]; omega
set_option maxRecDepth 100000 in
set_option maxHeartbeats 2000000 in
theorem rDiv_small (a b : ByteArray) (w : World) (ha : a.size ≤ 1000000) (hb : b.size ≤ 1000000) (h : N b ≠ 0) (h1 : (B (N a)).size ≤ 7) (h2 : (B (N b)).size ≤ 7) :
    Calls Tryz.prog 27 #[.string a, .string b] w fun e w' => e = .returned (.tuple #[.string (B (N a / N b)), .string (B (N a % N b)), .bool true]) ∧ Below w.heap.size w w' := by
  have HTA := hide (rTrim_any a w (by omega))
  have HTB := hide (rTrim_any b w (by omega))
  have HNx : N (B (N a)) = N a := N_B _
  have HNy : N (B (N b)) = N b := N_B _
  have hne := B_full h
  have hA := small_of _ h1
  have hD := small_of _ h2
  generalize B (N a) = x at *
  generalize B (N b) = y at *
  have HSA := hide (fun (V : World) => short_yes x V h1)
  have HSB := hide (fun (V : World) => short_yes y V h2)
  rw [HNx] at HSA
  rw [HNy] at HSB
  clear HNx HNy
  generalize hA' : N a = A at *
  generalize hD' : N b = D at *
  clear hA' hD' ha hb h1 h2
  have hd1 : (A : Int) / (D : Int) ≤ A := by
    rw [← Int.natCast_ediv]; have := Nat.div_le_self A D; omega
  have hd0 : 0 ≤ (A : Int) / (D : Int) := Int.ediv_nonneg (by omega) (by omega)
  have hr1 : (A : Int) % (D : Int) ≤ A := by
    rw [← Int.natCast_emod]; have := Nat.mod_le A D; omega
  have hr0 : 0 ≤ (A : Int) % (D : Int) := Int.emod_nonneg _ (by omega)
  have hq := fun V => rOf_any ((A : Int) / (D : Int)) V (by omega) (by omega)
  have hr := fun V => rOf_any ((A : Int) % (D : Int)) V (by omega) (by omega)
  rw [← Int.natCast_ediv, Int.toNat_natCast, Int.natCast_ediv] at hq
  rw [← Int.natCast_emod, Int.toNat_natCast, Int.natCast_emod] at hr
  have HQ := hide hq
  have HR := hide hr
  clear hq hr
  have hD0 : 0 < D := Nat.pos_of_ne_zero h
  go_enter Tryz.func27, Tryz.ntmps27
  go_wp2_with fail
  refine (HTA.out).mono ?_
  rintro e w1 ⟨rfl, hw⟩
  subst hw
  go_wp2_with fail
  refine (HTB.out).mono ?_
  rintro e w1 ⟨rfl, hw⟩
  subst hw
  go_wp2_with fail
  refine (HSA.out _).mono ?_
  rintro e w2 ⟨rfl, hw⟩
  subst hw
  go_wp2_with fail
  refine (HSB.out _).mono ?_
  rintro e w2 ⟨rfl, hw⟩
  subst hw
  go_upto_region 8 with fail
  have hz : ¬ (D : Int) = 0 := by omega
  have hw1 : IntKind.i64.wrap ((A : Int) / (D : Int)) = (A : Int) / (D : Int) := by rw [IntKind.wrap_i64]; omega
  have hw2 : IntKind.i64.wrap ((A : Int) % (D : Int)) = (A : Int) % (D : Int) := by rw [IntKind.wrap_i64]; omega
  have hB0 := (Below.refl w2.heap.size w2).drew
  go_region_held3 (fun V => Hid (Below w2.heap.size w2 V))
    (first | exact hB4 | exact hB3 | exact hB0)
    (first
      | (have hb3' := hB3; go_at_call 12; refine (HR.out _).mono ?_; rintro e w4 ⟨rfl, hb4⟩; have hB4 := hb3'.trans (hb4.mono hb3'.size))
      | (go_at_call 12; refine (HQ.out _).mono ?_; rintro e w3 ⟨rfl, hb3⟩; have hB3 := hB0.trans (hb3.mono hB0.size)))
  go_wp2
  go_ret3
  exact ⟨rfl, hB4⟩
end Go.Proofs.YtojidhnkpeiimaaGreatDoor

/- The document's answer: NatDiv, byte by byte. -/
namespace Go.Proofs.YtojidhnkpeiimaaGreatDoor
open Go.RowKit
theorem HasB.cases {w : World} {base : Nat} {v : Value} {l : List Nat} (h : HasB w base v l) : (v = .slice none 0 0 ∧ l = []) ∨ ∃ g cap, v = .slice (some ⟨g, 0, none⟩) l.length cap ∧ ∀ j, j < l.length → w.cell? ⟨g, j, none⟩ = some (.int .u8 (l[j]?.getD 0 : Nat)) := by
  rcases h.2 with ⟨hv, hn⟩ | ⟨g, cap, cur, hv, r⟩
  · exact .inl ⟨hv, List.eq_nil_of_length_eq_zero hn⟩
  · subst hv
    refine .inr ⟨g, cap, rfl, fun j hj => ?_⟩
    rw [World.ownsRow.cellAt h j (by omega), List.getElem?_map, List.getElem?_eq_getElem hj]
    rfl
theorem div_fits {D R : Nat} {y : ByteArray} (hy : N y = D) (hR : R < 256 * D) (hs : y.size ≤ 500000) (d : Nat) : (B (R - d * D)).size ≤ 1000000 := by
  have h1 := sz_mono (Nat.le_trans (Nat.sub_le R (d * D)) (Nat.le_of_lt hR))
  have h2 := sz_mul 256 D
  have h3 := B_size_le y
  rw [hy] at h3
  have h4 : (B 256).size ≤ 2 := by rw [B_size]; exact bn_fits 2 256 (by decide)
  omega
theorem div_done {R D d : Nat} (hD : 0 < D) (h1 : d * D ≤ R) (h2 : ¬ D ≤ R - d * D) : R / D = d ∧ R % D = R - d * D := by
  have e : R = (R - d * D) + d * D := by omega
  constructor
  · rw [e, Nat.add_mul_div_right _ _ hD, Nat.div_eq_of_lt (by omega)]; omega
  · conv => lhs; rw [e]
    rw [Nat.add_mul_mod_self_right, Nat.mod_eq_of_lt (by omega)]
set_option maxRecDepth 100000 in
set_option maxHeartbeats 2000000 in
theorem rDiv_long (a b : ByteArray) (w : World) (ha : a.size ≤ 500000) (hb : b.size ≤ 500000) (h : N b ≠ 0) (hlong : ¬ ((B (N a)).size ≤ 7 ∧ (B (N b)).size ≤ 7)) :
    Calls Tryz.prog 27 #[.string a, .string b] w fun e w' => e = .returned (.tuple #[.string (B (N a / N b)), .string (B (N a % N b)), .bool true]) ∧ Below w.heap.size w w' := by
  obtain ⟨i0, hi, hz0, hz1, hz2⟩ := info_parts Tryz.infoByte
  have HTA := hide (rTrim_any a w (by omega))
  have HTB := hide (rTrim_any b w (by omega))
  have HNx : N (B (N a)) = N a := N_B _
  have HNy : N (B (N b)) = N b := N_B _
  have hne := B_full h
  have sa := Nat.le_trans (B_size_le a) ha
  have sb := Nat.le_trans (B_size_le b) hb
  generalize B (N a) = x at *
  generalize hy : B (N b) = y at *
  have HY0 := hide HNy
  have HX := hide (nb_take_all x)
  rw [HNx] at HX
  have hD0 : 0 < N b := Nat.pos_of_ne_zero h
  clear HNx HNy
  -- the two shorts: one of them says no
  have HSA := hide (fun (V : World) => if h7 : x.size ≤ 7 then Exists.intro (p := fun r : Value × Value => r.2 = .bool (decide (x.size ≤ 7)) ∧ Calls Tryz.prog 49 #[.string x] V fun e w' => e = .returned (.tuple #[r.1, r.2]) ∧ w' = V) (.int .i64 (N x : Nat), .bool true) ⟨by simp [h7], short_yes x V h7⟩ else ⟨(.int .i64 0, .bool false), by simp [h7], short_no x V (by omega) (by omega)⟩)
  have HSB := hide (fun (V : World) => if h7 : y.size ≤ 7 then Exists.intro (p := fun r : Value × Value => r.2 = .bool (decide (y.size ≤ 7)) ∧ Calls Tryz.prog 49 #[.string y] V fun e w' => e = .returned (.tuple #[r.1, r.2]) ∧ w' = V) (.int .i64 (N y : Nat), .bool true) ⟨by simp [h7], short_yes y V h7⟩ else ⟨(.int .i64 0, .bool false), by simp [h7], short_no y V (by omega) (by omega)⟩)
  generalize hA' : N a = A at *
  generalize hD' : N b = D at *
  clear hA' hD' ha hb hy
  go_enter Tryz.func27, Tryz.ntmps27
  go_wp2_with fail
  refine (HTA.out).mono ?_
  rintro e w1 ⟨rfl, hw⟩
  subst hw
  go_wp2_with fail
  refine (HTB.out).mono ?_
  rintro e w1 ⟨rfl, hw⟩
  subst hw
  clear HTA HTB
  obtain ⟨⟨p1, p2⟩, hp2, HC1⟩ := HSA.out w1
  obtain ⟨⟨q1, q2⟩, hq2, HC2⟩ := HSB.out w1
  simp only at hp2 hq2
  subst hp2 hq2
  have HC1' := hide HC1
  have HC2' := hide HC2
  clear HC1 HC2 HSA HSB
  have hboth : (decide (x.size ≤ 7) = false) ∨ (decide (x.size ≤ 7) = true ∧ decide (y.size ≤ 7) = false) := by
    by_cases h7 : x.size ≤ 7
    · exact .inr ⟨decide_eq_true h7, decide_eq_false fun h8 => hlong ⟨h7, h8⟩⟩
    · exact .inl (decide_eq_false h7)
  clear hlong
  generalize decide (x.size ≤ 7) = t1 at *
  generalize decide (y.size ≤ 7) = t2 at *
  go_wp2_with fail
  refine (HC1'.out).mono ?_
  rintro e w2 ⟨rfl, hw⟩
  subst hw
  go_wp2_with fail
  refine (HC2'.out).mono ?_
  rintro e w2 ⟨rfl, hw⟩
  subst hw
  clear HC1' HC2'
  rcases hboth with rfl | ⟨rfl, rfl⟩
  all_goals
    go_wp2
    go_loopw [11, 12, 13] (fun qv rv iv wr => ∃ (k : Nat) (ql : List Nat), k ≤ x.size ∧ iv = .int .i64 k ∧ rv = .string (B (nb (x.data.toList.take k) % D)) ∧ ql.length = k ∧ Hid (Dig ql) ∧ Hid (qn ql = nb (x.data.toList.take k) / D) ∧ Hid (HasB wr w2.heap.size qv ql) ∧ Below w2.heap.size w2 wr)
      (fun _ _ i _ => x.size - (intOf i).toNat)
    case atStart => exact ⟨0, [], Nat.zero_le _, rfl, (by rw [List.take_zero, nb_nil, Nat.zero_mod, B_zero]), rfl, (fun x hx => by cases hx), (show _ = _ by rw [List.take_zero, nb_nil, Nat.zero_div]; rfl), World.ownsRow_nil _ _ _ _, Below.refl _ _⟩
    case round =>
      obtain ⟨k, ql, hk, rfl, rfl, hql, HDg, HE, HH, hBr⟩ := hrel
      by_cases hlt : k < x.size
      · have hsz := one_size x k hlt
        have hn1 := N_one (B (nb (x.data.toList.take k) % D)) x k hlt
        rw [N_B] at hn1
        have hst := nb_take_succ x k hlt
        obtain ⟨hdn1, hdn2⟩ := div_next (P := nb (x.data.toList.take k)) (D := D) (c := x[k].toNat) hD0
        rw [← hst] at hdn1 hdn2
        have hrl : nb (x.data.toList.take k) % D < D := Nat.mod_lt _ hD0
        have hcl := x[k].toNat_lt
        have hsr : (B (nb (x.data.toList.take k) % D)).size ≤ 500000 := Nat.le_trans (sz_mono (Nat.le_of_lt hrl)) (by have := B_size_le y; rw [HY0.out] at this; omega)
        have HQ1 : Hid (nb (x.data.toList.take (k + 1)) / D = qn ql * 256 + (nb (x.data.toList.take k) % D * 256 + x[k].toNat) / D) := by show _ = _; rw [hdn1, HE.out]
        have HR1 := hide hdn2
        have hR : nb (x.data.toList.take k) % D * 256 + x[k].toNat < 256 * D := by omega
        clear hst hdn1 hdn2 HE hcl hrl
        generalize nb (x.data.toList.take k) % D * 256 + x[k].toNat = R at *
        generalize B (nb (x.data.toList.take k) % D) = rs at *
        have hcat : (rs ++ x.extract k (k + 1)).size ≤ 1000001 := by rw [ByteArray.size_append, hsz]; omega
        have HT := hide (fun V => rTrim_any (rs ++ x.extract k (k + 1)) V (by omega))
        rw [hn1] at HT
        clear hn1 hcat
        have HSY := hide (fun (d : Nat) (V : World) (h1 : d * D ≤ R) (h2 : D ≤ R - d * D) => by
          have hs := rSub_yes (B (R - d * D)) y V (div_fits HY0.out hR sb d) (by omega) (by rw [N_B, HY0.out]; exact h2)
          rw [N_B, HY0.out, show R - d * D - D = R - (d + 1) * D by rw [Nat.add_mul, Nat.one_mul]; omega] at hs
          exact hs)
        have HSN := hide (fun (d : Nat) (V : World) (h2 : ¬ D ≤ R - d * D) => rSub_no (B (R - d * D)) y V (div_fits HY0.out hR sb d) (by omega) (by rw [N_B, HY0.out]; omega))
        go_wp2_with (go_at_call 26; refine (HT.out _).mono ?_; rintro e w3 ⟨rfl, hw3⟩; subst hw3)
        clear HT
        go_loopw [12, 14] (fun rv dv wi => ∃ d : Nat, d * D ≤ R ∧ rv = .string (B (R - d * D)) ∧ dv = .int .i64 d ∧ Below w3.heap.size w3 wi) (fun _ dv _ => 256 - (intOf dv).toNat)
        case atStart => exact ⟨0, by omega, by rw [Nat.zero_mul, Nat.sub_zero], rfl, Below.refl _ _⟩
        case round =>
          obtain ⟨d, hd, rfl, rfl, hBi⟩ := hrel
          have hd256 : d < 256 := by
            rcases Nat.lt_or_ge d 256 with h1 | h1
            · exact h1
            · have := Nat.mul_le_mul_right D h1
              omega
          by_cases hle : D ≤ R - d * D
          · have hd2 : (d + 1) * D ≤ R := by rw [Nat.add_mul, Nat.one_mul]; omega
            have HC := hide (fun V => HSY.out d V hd hle)
            clear hd hle
            go_wp2_with fail
            refine (HC.out _).mono ?_
            rintro e w4 ⟨rfl, hb4⟩
            go_wp2
            go_roundw
            case rel => exact ⟨d + 1, hd2, rfl, by go_num, hBi.trans (hb4.mono hBi.size)⟩
            case measure => simp [intOf]; omega
          · have HC := hide (fun V => HSN.out d V hle)
            obtain ⟨hq, hr⟩ := div_done hD0 hd hle
            have HQ2 : Hid (qn (ql ++ [d]) = nb (x.data.toList.take (k + 1)) / D) := by show _ = _; rw [qn_snoc, HQ1.out, hq]
            have HR2 : Hid (R - d * D = nb (x.data.toList.take (k + 1)) % D) := by show _ = _; rw [HR1.out, hr]
            clear hq hr hd hle HSY HSN HR1 HQ1
            go_wp2_with fail
            refine (HC.out _).mono ?_
            rintro e w4 ⟨rfl, hb4⟩
            have HH4 : HasB w4 w2.heap.size _ ql := own_below (own_below HH.out hBi (Nat.le_refl _)) hb4 (Nat.le_refl _)
            have hB4 := (hBr.trans (hBi.mono hBr.size)).trans (hb4.mono (hBr.trans (hBi.mono hBr.size)).size)
            have hs4 := hB4.size
            rw [HR2.out]
            clear HR2 HC
            go_wp2_with (at_builtin; refine wpList_append_own _ rfl _ _ 66 rfl w2.heap.size 5 i0 (.int .u8 0) 1 1 Tryz.underlying66 hi hz0 hz1 hz2 rfl (by decide) _ _ _ rfl (World.ownsRow.alloc HH4 _) ⟨w4.heap.size, 0, none⟩ 1 1 [.int .u8 (d : Nat)] rfl rfl (cell_one_new _ _ _) (by simp [Value.oneCell']) (by unfold maxLen; omega) (by omega) (by simp; omega) ?_; intro v' w5 hown5 hgrow5 _)
            have hB5 : Below w2.heap.size w2 w5 := (hB4.alloc hB4.size _).grown hgrow5 (by simp; omega) (fun k hk => (World.ownsRow.lt HH4 k hk).1)
            go_wp2
            go_roundw
            case rel =>
              refine ⟨k + 1, ql ++ [d], by omega, by go_num, rfl, by rw [List.length_append, hql]; rfl, dig_snoc HDg.out hd256, HQ2.out, ?_, hB5⟩
              have e : (ql ++ [d]).length = ql.length + 1 := by simp
              show HasB _ _ _ _
              rw [HasB, e]
              simpa [bv] using hown5
            case measure => simp [intOf]; omega
      · obtain rfl : k = x.size := by omega
        rw [HX.out] at HE ⊢
        have hnq := N_qn ql HDg.out
        rw [HE.out] at hnq
        rcases HH.out.cases with ⟨rfl, rfl⟩ | ⟨g, cap, rfl, hcs⟩
        · have HT := hide (fun V => rTrim_any ⟨#[]⟩ V (by show 0 ≤ _; omega))
          have hnq' : N ⟨#[]⟩ = A / D := hnq
          rw [hnq'] at HT
          have hconv := run_convert_bytes_nil (P := Tryz.prog) wr 66 5 Tryz.underlying66 Tryz.underlying5 0 0 42 Tryz.underlying42
          rw [show ByteArray.empty = ⟨#[]⟩ from rfl] at hconv
          clear hnq hnq' HH HDg HE hql
          go_wp2_with (go_at_call 26; refine (HT.out _).mono ?_; rintro e w3 ⟨rfl, hw3⟩; subst hw3)
          go_ret3
          exact ⟨rfl, hBr⟩
        · have hmap : (ql.map Int.ofNat).length = ql.length := by simp
          have hcm : ∀ i, i < ql.length → wr.cell? ⟨g, 0 + i, none⟩ = some (.int .u8 ((ql.map Int.ofNat).getD i 0)) := fun i hi => by
            rw [Nat.zero_add, hcs i hi]
            simp [List.getD_eq_getElem?_getD, List.getElem?_eq_getElem hi]
          have hconv := run_convert_bytes_arg (P := Tryz.prog) wr 66 5 Tryz.underlying66 Tryz.underlying5 g 0 ql.length cap (ql.map Int.ofNat) hmap hcm 42 Tryz.underlying42
          have hsz : (strOfNums (ql.map Int.ofNat)).size ≤ 140737488355328 := by
            rw [strOfNums_size, hmap]
            omega
          clear hmap hql
          have HT := hide (fun V => rTrim_any (strOfNums (ql.map Int.ofNat)) V hsz)
          rw [hnq] at HT
          clear hnq HH HDg HE hcs hcm
          go_wp2_with (go_at_call 26; refine (HT.out _).mono ?_; rintro e w3 ⟨rfl, hw3⟩; subst hw3)
          go_ret3
          exact ⟨rfl, hBr⟩
theorem rDiv_any (a b : ByteArray) (w : World) (ha : a.size ≤ 500000) (hb : b.size ≤ 500000) (h : N b ≠ 0) :
    Calls Tryz.prog 27 #[.string a, .string b] w fun e w' => e = .returned (.tuple #[.string (B (N a / N b)), .string (B (N a % N b)), .bool true]) ∧ Below w.heap.size w w' := by
  by_cases hs : (B (N a)).size ≤ 7 ∧ (B (N b)).size ≤ 7
  · exact rDiv_small a b w (by omega) (by omega) h hs.1 hs.2
  · exact rDiv_long a b w ha hb h hs
theorem rDiv_B (m n : Nat) (w : World) (hm : (B m).size ≤ 500000) (hn : (B n).size ≤ 500000) (h : n ≠ 0) :
    Calls Tryz.prog 27 #[.string (B m), .string (B n)] w fun e w' => e = .returned (.tuple #[.string (B (m / n)), .string (B (m % n)), .bool true]) ∧ Below w.heap.size w w' := by
  have := rDiv_any (B m) (B n) w hm hn (by rw [N_B]; exact h)
  rwa [N_B, N_B] at this
set_option maxRecDepth 100000 in
set_option maxHeartbeats 1000000 in
theorem rGcd_any (a b : ByteArray) (w : World) (ha : a.size ≤ 500000) (hb : b.size ≤ 500000) :
    Calls Tryz.prog 63 #[.string a, .string b] w fun e w' => e = .returned (.string (B (Nat.gcd (N a) (N b)))) ∧ Below w.heap.size w w' := by
  have HTA := hide (rTrim_any a w (by omega))
  have HTB := hide (rTrim_any b w (by omega))
  have sa := Nat.le_trans (B_size_le a) ha
  have sb := Nat.le_trans (B_size_le b) hb
  generalize hA' : N a = A at *
  generalize hD' : N b = D at *
  clear hA' hD' ha hb
  go_enter Tryz.func63, Tryz.ntmps63
  go_wp2_with fail
  refine (HTA.out).mono ?_
  rintro e w1 ⟨rfl, hw⟩
  subst hw
  go_wp2_with fail
  refine (HTB.out).mono ?_
  rintro e w1 ⟨rfl, hw⟩
  subst hw
  clear HTA HTB
  go_wp2
  go_loopg [0, 1] D (fun r vx vy wr => ∃ m : Nat, vx = .string (B m) ∧ vy = .string (B r) ∧ (B m).size ≤ 500000 ∧ (B r).size ≤ 500000 ∧ Hid (Nat.gcd m r = Nat.gcd A D) ∧ Below w1.heap.size w1 wr)
  case atStart => exact ⟨A, rfl, rfl, sa, sb, rfl, Below.refl _ _⟩
  case round =>
    obtain ⟨m, rfl, rfl, hm, hr, HG, hBr⟩ := hrel
    by_cases h0 : gk = 0
    · subst h0
      rw [B_zero]
      have HE : Hid (m = Nat.gcd A D) := by show _ = _; rw [← HG.out, Nat.gcd_zero_right]
      go_wp2
      go_ret
      exact ⟨by rw [← HE.out]; rfl, hBr⟩
    · have hne := B_full h0
      have HD := hide (fun V => rDiv_B m gk V hm hr h0)
      have hmod := Nat.mod_lt m (Nat.pos_of_ne_zero h0)
      have hsz := Nat.le_trans (sz_mono (Nat.le_of_lt hmod)) hr
      have HG2 : Hid (Nat.gcd gk (m % gk) = Nat.gcd A D) := by show _ = _; rw [← HG.out, Nat.gcd_comm m gk, Nat.gcd_rec gk m, Nat.gcd_comm]
      go_wp2_with fail
      refine (HD.out _).mono ?_
      rintro e w2 ⟨rfl, hb2⟩
      go_wp2
      go_roundg (m % gk)
      case measure => exact hmod
      case rel => exact ⟨gk, rfl, rfl, hr, hsz, HG2.out, hBr.trans (hb2.mono hBr.size)⟩
end Go.Proofs.YtojidhnkpeiimaaGreatDoor

/- Plain facts on rational numbers: how fractions of natural numbers stand for them, and how long they are. -/
namespace Go.Proofs.YtojidhnkpeiimaaGreatDoor
def sg (neg : Bool) (n : Nat) : Int := if neg then -(n : Int) else (n : Int)
theorem sg_natAbs (neg : Bool) (n : Nat) : (sg neg n).natAbs = n := by cases neg <;> simp [sg]
theorem sg_zero (neg : Bool) : sg neg 0 = 0 := by cases neg <;> rfl
theorem sg_not (neg : Bool) (n : Nat) : sg (!neg) n = -sg neg n := by cases neg <;> simp [sg]
theorem sg_mul (a b : Bool) (m n : Nat) : sg (a != b) (m * n) = sg a m * sg b n := by cases a <;> cases b <;> simp [sg, Int.neg_mul, Int.mul_neg]
theorem sg_mul_nat (a : Bool) (m n : Nat) : sg a m * (n : Int) = sg a (m * n) := by cases a <;> simp [sg, Int.neg_mul]
theorem sg_eq_zero {neg : Bool} {n : Nat} : sg neg n = 0 ↔ n = 0 := by cases neg <;> simp [sg]
theorem sg_div (neg : Bool) (n g : Nat) (h : g ∣ n) : sg neg n / (g : Int) = sg neg (n / g) := by
  cases neg
  · simp [sg]
  · simp only [sg, if_true]
    rw [Int.neg_ediv_of_dvd (Int.natCast_dvd_natCast.2 h)]
    simp
theorem mk_norm {n : Int} {d : Nat} (hd : d ≠ 0) : mkRat n d = Rat.normalize n d hd := by rw [mkRat, dif_neg hd]
theorem mk_num {n : Int} {d : Nat} (hd : d ≠ 0) : (mkRat n d).num = n / (Nat.gcd n.natAbs d : Int) := by rw [mk_norm hd, Rat.normalize_eq]
theorem mk_den {n : Int} {d : Nat} (hd : d ≠ 0) : (mkRat n d).den = d / Nat.gcd n.natAbs d := by rw [mk_norm hd, Rat.normalize_eq]
theorem mk_parts (neg : Bool) (a d : Nat) (ha : a ≠ 0) (hd : d ≠ 0) : decide ((mkRat (sg neg a) d).num < 0) = neg ∧ (mkRat (sg neg a) d).num.natAbs = a / Nat.gcd a d ∧ (mkRat (sg neg a) d).den = d / Nat.gcd a d := by
  have hg : Nat.gcd a d ∣ a := Nat.gcd_dvd_left _ _
  have hgp : 0 < Nat.gcd a d := Nat.gcd_pos_of_pos_left _ (Nat.pos_of_ne_zero ha)
  rw [mk_num hd, mk_den hd, sg_natAbs, sg_div neg a _ hg, sg_natAbs]
  refine ⟨?_, rfl, rfl⟩
  have hq : 0 < a / Nat.gcd a d := Nat.div_pos (Nat.le_of_dvd (Nat.pos_of_ne_zero ha) hg) hgp
  cases neg
  · simp only [sg]; simp; omega
  · simp only [sg]; simp; omega
def val (neg : Bool) (num den : ByteArray) : Rat := mkRat (sg neg (N num)) (N den)
theorem val_num0 {neg : Bool} {num den : ByteArray} (h : N num = 0) : val neg num den = 0 := by rw [val, h, sg_zero, Rat.zero_mkRat]
theorem val_den0 {neg : Bool} {num den : ByteArray} (h : N den = 0) : val neg num den = 0 := by rw [val, h, Rat.mkRat_zero]
theorem val_zero_iff {neg : Bool} {num den : ByteArray} : val neg num den = 0 ↔ N num = 0 ∨ N den = 0 := by
  constructor
  · intro h
    by_cases hd : N den = 0
    · exact .inr hd
    · rw [val, Rat.mkRat_eq_zero hd, sg_eq_zero] at h; exact .inl h
  · rintro (h | h)
    · exact val_num0 h
    · exact val_den0 h
theorem val_not (neg : Bool) (num den : ByteArray) : val (!neg) num den = -val neg num den := by rw [val, val, sg_not, Rat.neg_mkRat]
theorem val_mul (a b : Bool) (x y u v : ByteArray) : mkRat (sg (a != b) (N x * N u)) (N y * N v) = val a x y * val b u v := by rw [val, val, Rat.mkRat_mul_mkRat, sg_mul]
theorem val_add (a b : Bool) (x y u v : ByteArray) (hy : N y ≠ 0) (hv : N v ≠ 0) : mkRat (sg a (N x * N v) + sg b (N u * N y)) (N y * N v) = val a x y + val b u v := by
  rw [val, val, Rat.mkRat_add_mkRat _ _ hy hv, sg_mul_nat, sg_mul_nat]
theorem val_inv (neg : Bool) (x y : ByteArray) (hx : N x ≠ 0) (hy : N y ≠ 0) : val neg y x = (val neg x y)⁻¹ := by
  have h : val neg x y * val neg y x = 1 := by
    rw [← val_mul]
    have : sg (neg != neg) (N x * N y) = ((N x * N y : Nat) : Int) * 1 := by cases neg <;> simp [sg]
    rw [this, Nat.mul_comm (N y) (N x), ← Nat.mul_one (N x * N y), Int.natCast_mul (N x * N y) 1, Int.natCast_one, Int.mul_one, Rat.mkRat_mul_left (Nat.mul_ne_zero hx hy)]
    rfl
  grind
def C (q : Rat) : Value := .agg #[.bool (decide (q.num < 0)), .string (B q.num.natAbs), .string (B q.den)]
theorem C_zero : C 0 = .agg #[.bool false, .string ⟨#[]⟩, .string (B 1)] := by
  show Value.agg #[_, .string (B 0), .string (B 1)] = _
  rw [B_zero]
  rfl
theorem val_C (q : Rat) : val (decide (q.num < 0)) (B q.num.natAbs) (B q.den) = q := by
  rw [val, N_B, N_B]
  have : sg (decide (q.num < 0)) q.num.natAbs = q.num := by
    by_cases h : q.num < 0
    · simp [sg, h]; omega
    · simp [sg, h]; omega
  rw [this, Rat.mkRat_self]
theorem C_make (neg : Bool) (a d : Nat) (ha : a ≠ 0) (hd : d ≠ 0) : C (mkRat (sg neg a) d) = .agg #[.bool neg, .string (B (a / Nat.gcd a d)), .string (B (d / Nat.gcd a d))] := by
  obtain ⟨h1, h2, h3⟩ := mk_parts neg a d ha hd
  rw [C, h1, h2, h3]
def qw (q : Rat) : Nat := (B q.num.natAbs).size + (B q.den).size
theorem qw_norm {n : Int} {d : Nat} (hd : d ≠ 0) : qw (Rat.normalize n d hd) ≤ (B n.natAbs).size + (B d).size := by
  rw [Rat.normalize_eq]
  have h1 : (n / (Nat.gcd n.natAbs d : Int)).natAbs ≤ n.natAbs := by
    have hg : ((Nat.gcd n.natAbs d : Nat) : Int) ∣ n := by have h := Int.natCast_dvd_natCast.2 (Nat.gcd_dvd_left n.natAbs d); rwa [Int.dvd_natAbs] at h
    rw [Int.natAbs_ediv_of_dvd hg]
    exact Nat.div_le_self _ _
  have s1 := sz_mono h1
  have s2 := sz_mono (Nat.div_le_self d (Nat.gcd n.natAbs d))
  simp only [qw]
  omega
theorem qw_zero : qw 0 ≤ 1 := by
  show (B 0).size + (B 1).size ≤ 1
  rw [B_zero]
  have := B_one_size
  have : (⟨#[]⟩ : ByteArray).size = 0 := rfl
  omega
theorem qw_val (neg : Bool) (num den : ByteArray) : qw (val neg num den) ≤ num.size + den.size + 1 := by
  by_cases hd : N den = 0
  · rw [val_den0 hd]; have := qw_zero; omega
  · rw [val, mk_norm hd]
    have := qw_norm (n := sg neg (N num)) hd
    rw [sg_natAbs] at this
    have := B_size_le num
    have := B_size_le den
    omega
def cmpQ (p q : Rat) : Int := if p < q then -1 else if p = q then 0 else 1
theorem mk_sign (neg : Bool) (n d : Nat) (hd : d ≠ 0) (hn : n ≠ 0) : (neg = true → mkRat (sg neg n) d < 0) ∧ (neg = false → 0 < mkRat (sg neg n) d) := by
  have hp : ∀ m : Nat, m ≠ 0 → 0 < mkRat (m : Int) d := fun m hm => by
    have h1 : 0 ≤ mkRat (m : Int) d := by
      rw [← Rat.num_nonneg, mk_num hd]
      exact Int.ediv_nonneg (by omega) (by omega)
    have h2 : mkRat (m : Int) d ≠ 0 := by rw [Ne, Rat.mkRat_eq_zero hd]; omega
    grind
  constructor
  · rintro rfl
    have h := hp n hn
    have e : mkRat (sg true n) d = -mkRat (n : Int) d := by rw [Rat.neg_mkRat]; rfl
    rw [e]
    grind
  · rintro rfl
    exact hp n hn
end Go.Proofs.YtojidhnkpeiimaaGreatDoor
