/- The document's answer: NatAdd. -/
import Derived.Test.YtghjhflfcambjaaGreatDoorRefA
import Derived.BigQuiet
namespace Go.Proofs.YtghjhflfcambjaaGreatDoor
open Go.RowKit

theorem carry_step (v P : Nat) : v % 256 * P + v / 256 * (P * 256) = v * P := by
  have h : v = v / 256 * 256 + v % 256 := by omega
  conv => rhs; rw [h, Nat.add_mul, Nat.mul_assoc, Nat.mul_comm 256 P]
  omega
theorem add_step {A D k c : Nat} {p : List Nat} (hk : k < p.length) (h0 : p[k]?.getD 0 = 0) (h : nd p + c * 256 ^ k = A % 256 ^ k + D % 256 ^ k) :
    nd (p.set k ((c + A / 256 ^ k % 256 + D / 256 ^ k % 256) % 256)) + (c + A / 256 ^ k % 256 + D / 256 ^ k % 256) / 256 * 256 ^ (k + 1) = A % 256 ^ (k + 1) + D % 256 ^ (k + 1) := by
  have s := nd_set p k ((c + A / 256 ^ k % 256 + D / 256 ^ k % 256) % 256) hk
  have h0' : p[k] = 0 := by rwa [List.getElem?_eq_getElem hk] at h0
  rw [h0', Nat.zero_mul, Nat.add_zero] at s
  rw [s, mod_step, mod_step D, Nat.pow_succ]
  have := carry_step (c + A / 256 ^ k % 256 + D / 256 ^ k % 256) (256 ^ k)
  have e : (c + A / 256 ^ k % 256 + D / 256 ^ k % 256) * 256 ^ k = c * 256 ^ k + 256 ^ k * (A / 256 ^ k % 256) + 256 ^ k * (D / 256 ^ k % 256) := by
    rw [Nat.add_mul, Nat.add_mul, Nat.mul_comm (A / 256 ^ k % 256), Nat.mul_comm (D / 256 ^ k % 256)]
  omega
theorem set_getD {p : List Nat} {k y : Nat} (h : ∀ j, k ≤ j → p[j]?.getD 0 = 0) : ∀ j, k + 1 ≤ j → (p.set k y)[j]?.getD 0 = 0 := fun j hj => by
  rw [List.getElem?_set_ne (by omega)]
  exact h j (by omega)
theorem add_end {A D n c : Nat} {p : List Nat} (hA : A < 256 ^ n) (hD : D < 256 ^ n) (h : nd p + c * 256 ^ (n + 1) = A % 256 ^ (n + 1) + D % 256 ^ (n + 1)) : nd p = A + D := by
  have hp : 256 ^ (n + 1) = 256 * 256 ^ n := by rw [Nat.pow_succ, Nat.mul_comm]
  rw [Nat.mod_eq_of_lt (by omega), Nat.mod_eq_of_lt (by omega)] at h
  have hc : c = 0 := by
    rcases Nat.eq_zero_or_pos c with h0 | h0
    · exact h0
    · have : 1 * 256 ^ (n + 1) ≤ c * 256 ^ (n + 1) := Nat.mul_le_mul_right _ h0
      omega
  rw [hc] at h
  omega
theorem N_lt (s : ByteArray) : N s < 256 ^ s.size := by
  have := nb_lt s.data.toList
  rwa [bytes_len] at this

set_option maxRecDepth 100000 in
set_option maxHeartbeats 2000000 in
theorem rAdd_any (a b : ByteArray) (w : World) (ha : a.size ≤ 1000000) (hb : b.size ≤ 1000000) :
    Calls Tryz.prog 14 #[.string a, .string b] w fun e w' => e = .returned (.string (B (N a + N b))) ∧ Below w.heap.size w w' := by
  obtain ⟨i0, hi, hz0, hz1, hz2⟩ := info_parts Tryz.infoInt
  obtain ⟨n, hn⟩ : ∃ n, n = max a.size b.size := ⟨_, rfl⟩
  have hna : a.size ≤ n := by omega
  have hnb : b.size ≤ n := by omega
  have hn1 : n ≤ 1000000 := by omega
  have hcase : (b.size ≤ a.size ∧ a.size = n) ∨ (a.size < b.size ∧ b.size = n) := by omega
  clear hn
  have HLA : Hid (N a < 256 ^ n) := Nat.lt_of_lt_of_le (N_lt a) (Nat.pow_le_pow_right (by decide) hna)
  have HLB : Hid (N b < 256 ^ n) := Nat.lt_of_lt_of_le (N_lt b) (Nat.pow_le_pow_right (by decide) hnb)
  have HDA := hide (fun (k : Nat) (V : World) (h : k ≤ 9223372036854775807) => digit_any a k V (by omega) h)
  have HDB := hide (fun (k : Nat) (V : World) (h : k ≤ 9223372036854775807) => digit_any b k V (by omega) h)
  generalize hA : N a = A at *
  generalize hD : N b = D at *
  clear hA hD
  go_enter Tryz.func14, Tryz.ntmps14
  rcases hcase with ⟨hc1, hc2⟩ | ⟨hc1, hc2⟩
  all_goals
    go_wp2_with (first
      | (at_make; refine wpList_make_full _ rfl _ _ 55 rfl w.heap.size 3 i0 (.int .i64 0) 1 Tryz.underlying55 hi hz0 hz1 .i64 .i64 _ _ (n + 1) rfl rfl (by go_num) (by go_num) (by rw [hz2]; omega) (by unfold maxLen; omega) (Nat.le_refl _) ?_; intro w2 hown2 hgrow2))
    have hb2 := block_of_own hown2
    rw [made_ints] at hb2
    have hB2 : Below w.heap.size w w2 := (Below.refl _ w).grown hgrow2 (Nat.le_refl _) (fun k e => by cases e)
    have HI : Hid (RowI w2 w.heap.size (List.replicate (n + 1) 0)) := hb2
    clear hown2 hgrow2 hb2 hc1 hc2
    go_loopw [7, 8] (fun cv iv wr => ∃ (k c : Nat) (p : List Nat), k ≤ n + 1 ∧ iv = .int .i64 k ∧ cv = .int .i64 c ∧ c ≤ 1 ∧ p.length = n + 1 ∧ Hid (Dig p) ∧ Hid (∀ j, k ≤ j → p[j]?.getD 0 = 0) ∧ Hid (nd p + c * 256 ^ k = A % 256 ^ k + D % 256 ^ k) ∧ Hid (RowI wr w.heap.size p) ∧ Below w.heap.size w wr)
      (fun _ i _ => n + 1 - (intOf i).toNat)
    case atStart => exact ⟨0, 0, List.replicate (n + 1) 0, Nat.zero_le _, rfl, rfl, Nat.zero_le _, by simp, dig_zeros _, (fun j _ => by rw [List.getElem?_replicate]; split <;> rfl), (show _ = _ by rw [nd_zeros]; simp [Nat.mod_one]), HI, hB2⟩
    case round =>
      obtain ⟨k, c, p, hk, rfl, rfl, hc, hpl, HDg, HZ, HE, HR, hBr⟩ := hrel
      clear HI hB2
      by_cases hlt : k < n + 1
      · have hkp : k < p.length := by omega
        have hstep := hide (add_step hkp (HZ.out k (Nat.le_refl _)) HE.out)
        have HX := hide (fun V => HDA.out k V (by omega))
        have HY := hide (fun V => HDB.out k V (by omega))
        have hx : A / 256 ^ k % 256 < 256 := Nat.mod_lt _ (by decide)
        have hy : D / 256 ^ k % 256 < 256 := Nat.mod_lt _ (by decide)
        generalize A / 256 ^ k % 256 = x at *
        generalize D / 256 ^ k % 256 = y at *
        have hcell := HR.out.cell k hkp
        have hfz := HR.out.fz k
        have hset := hide (fun z => HR.out.set k z)
        generalize p[k] = pk at *
        clear HE
        go_wp2_with (first
          | (have hdone := hx1; go_at_call 39; refine (HY.out _).mono ?_; rintro e w3 ⟨rfl, hw3⟩; subst hw3)
          | (go_at_call 39; refine (HX.out _).mono ?_; rintro e w3 ⟨rfl, hw3⟩; subst hw3; have hx1 : True := trivial))
        have hv : Value.int .i64 (((c : Int) + (x : Int) + (y : Int)) % 256) = .int .i64 (((c + x + y) % 256 : Nat) : Int) := int_eq (by omega)
        have hv2 : Value.int .i64 (((c : Int) + (x : Int) + (y : Int)) / 256) = .int .i64 (((c + x + y) / 256 : Nat) : Int) := int_eq (by omega)
        rw [hv, hv2]
        go_roundw
        case rel => exact ⟨k + 1, (c + x + y) / 256, p.set k ((c + x + y) % 256), by omega, by go_num, rfl, by omega, by rw [List.length_set]; exact hpl, dig_set HDg.out _ _ (Nat.mod_lt _ (by decide)), set_getD HZ.out, hstep.out, hset.out _, hBr.setCell (Nat.le_refl _) _⟩
        case measure => simp [intOf]; omega
      · obtain rfl : k = n + 1 := by omega
        have hpk := pack_any w.heap.size p wr HDg.out (by omega) HR.out
        rw [hpl, add_end HLA.out HLB.out HE.out] at hpk
        have HPK := hide hpk
        clear hpk
        go_wp2_with (go_at_call 40; refine (HPK.out).mono ?_; rintro e w3 ⟨rfl, hb3⟩)
        go_ret
        exact ⟨rfl, hBr.trans (hb3.mono hBr.size)⟩
theorem below_dr {b : Nat} {v u : World} (h : Below b v u) (k : Nat) : Below b v (u.drewN k) := ⟨h.os, h.tape, h.output, h.size, h.block⟩
theorem lt_of_digit (a b : ByteArray) (k : Nat) (ha : k < a.size) (hb : k < b.size) (hl : a.size = b.size) (hp : a.data.toList.take k = b.data.toList.take k) (h : a[k].toNat < b[k].toNat) : N a < N b := by
  have ea : a.data.toList = a.data.toList.take k ++ (a[k] :: a.data.toList.drop (k + 1)) := by
    have hd : a.data.toList.drop k = a[k] :: a.data.toList.drop (k + 1) := List.drop_eq_getElem_cons (l := a.data.toList) (i := k) (by simpa using ha)
    rw [← hd, List.take_append_drop]
  have eb : b.data.toList = b.data.toList.take k ++ (b[k] :: b.data.toList.drop (k + 1)) := by
    have hd : b.data.toList.drop k = b[k] :: b.data.toList.drop (k + 1) := List.drop_eq_getElem_cons (l := b.data.toList) (i := k) (by simpa using hb)
    rw [← hd, List.take_append_drop]
  rw [N, N, ea, eb, hp, nb_append, nb_append, nb_cons, nb_cons]
  have l1 : (a.data.toList.drop (k + 1)).length = a.size - (k + 1) := by rw [List.length_drop, bytes_len]
  have l2 : (b.data.toList.drop (k + 1)).length = a.size - (k + 1) := by rw [List.length_drop, bytes_len, hl]
  have b1 := nb_lt (a.data.toList.drop (k + 1))
  rw [l1] at b1
  rw [List.length_cons, List.length_cons, l1, l2]
  have hm : (a[k].toNat + 1) * 256 ^ (a.size - (k + 1)) ≤ b[k].toNat * 256 ^ (a.size - (k + 1)) := Nat.mul_le_mul_right _ h
  rw [Nat.add_mul, Nat.one_mul] at hm
  omega
theorem lt_of_size {m n : Nat} (h : (B m).size < (B n).size) : m < n := by
  rcases Nat.lt_or_ge m n with h1 | h1
  · exact h1
  · have := sz_mono h1; omega
theorem cmpI_lt {m n : Nat} (h : m < n) : cmpI m n = -1 := if_pos h
theorem cmpI_gt {m n : Nat} (h : n < m) : cmpI m n = 1 := by rw [cmpI, if_neg (by omega), if_neg (by omega)]
theorem cmpI_eq {m n : Nat} (h : m = n) : cmpI m n = 0 := by rw [cmpI, if_neg (by omega), if_pos h]
theorem eq_of_all {m n : Nat} (hl : (B m).size = (B n).size) (hp : (B m).data.toList.take (B m).size = (B n).data.toList.take (B m).size) : m = n := by
  rw [List.take_of_length_le (by rw [bytes_len]; exact Nat.le_refl _), List.take_of_length_le (by rw [bytes_len, hl]; exact Nat.le_refl _)] at hp
  exact B_inj (ByteArray.ext (Array.toList_inj.1 hp))

set_option maxRecDepth 100000 in
set_option maxHeartbeats 2000000 in
theorem rCmp_any (a b : ByteArray) (w : World) (ha : a.size ≤ 1000000) (hb : b.size ≤ 1000000) :
    Calls Tryz.prog 12 #[.string a, .string b] w fun e w' => e = .returned (.int .i64 (cmpI (N a) (N b))) ∧ Below w.heap.size w w' := by
  have HTA := hide (rTrim_any a w (by omega))
  have HTB := hide (rTrim_any b w (by omega))
  have sa := Nat.le_trans (B_size_le a) ha
  have sb := Nat.le_trans (B_size_le b) hb
  have HL1 := hide (fun h => cmpI_lt (lt_of_size (m := N a) (n := N b) h))
  have HL2 := hide (fun h => cmpI_gt (lt_of_size (m := N b) (n := N a) h))
  have HL3 := hide (fun hl hp => cmpI_eq (eq_of_all (m := N a) (n := N b) hl hp))
  have HL4 := hide (fun k h1 h2 hl hp h => cmpI_lt (m := N a) (n := N b) (by have := lt_of_digit (B (N a)) (B (N b)) k h1 h2 hl hp h; rwa [N_B, N_B] at this))
  have HL5 := hide (fun k h1 h2 hl hp h => cmpI_gt (m := N a) (n := N b) (by have := lt_of_digit (B (N b)) (B (N a)) k h1 h2 hl hp h; rwa [N_B, N_B] at this))
  generalize cmpI (N a) (N b) = r at *
  generalize B (N a) = x at *
  generalize B (N b) = y at *
  go_enter Tryz.func12, Tryz.ntmps12
  go_wp2_with fail
  refine (HTA.out).mono ?_
  rintro e w1 ⟨rfl, hw⟩
  subst hw
  go_wp2_with fail
  refine (HTB.out).mono ?_
  rintro e w1 ⟨rfl, hw⟩
  subst hw
  clear HTA HTB
  rcases (show x.size < y.size ∨ y.size < x.size ∨ x.size = y.size by omega) with hs | hs | hs
  · go_wp2
    go_ret
    exact ⟨by rw [HL1.out hs]; rfl, Below.refl _ _⟩
  · go_wp2
    go_ret
    exact ⟨by rw [HL2.out hs]; rfl, Below.refl _ _⟩
  · clear HL1 HL2
    go_wp2
    go_loopw [5] (fun i wr => ∃ k : Nat, k ≤ x.size ∧ i = .int .i64 k ∧ Hid (x.data.toList.take k = y.data.toList.take k) ∧ Below w1.heap.size w1 wr) (fun i _ => x.size - (intOf i).toNat)
    case atStart => exact ⟨0, Nat.zero_le _, rfl, rfl, Below.refl _ _⟩
    case round =>
      obtain ⟨k, hk, rfl, HP, hBr⟩ := hrel
      by_cases hlt : k < x.size
      · have hlt' : k < y.size := by omega
        rcases (show x[k].toNat < y[k].toNat ∨ y[k].toNat < x[k].toNat ∨ x[k].toNat = y[k].toNat by omega) with hc | hc | hc
        · have HF := hide (HL4.out k hlt hlt' hs HP.out hc)
          go_wp2_with fail
          go_quiet (fail)
          go_wp2
          go_ret
          exact ⟨by rw [HF.out]; rfl, below_dr hBr _⟩
        · have HF := hide (HL5.out k hlt' hlt hs.symm HP.out.symm hc)
          go_wp2_with fail
          go_quiet (fail)
          go_wp2_with fail
          go_quiet (fail)
          go_wp2
          go_ret
          exact ⟨by rw [HF.out]; rfl, below_dr (below_dr hBr _) _⟩
        · have HS : Hid (x.data.toList.take (k + 1) = y.data.toList.take (k + 1)) := by
            show _ = _
            rw [take_snoc x k hlt, take_snoc y k hlt', HP.out, UInt8.toNat_inj.1 hc]
          go_wp2_with fail
          go_quiet (fail)
          go_wp2_with fail
          go_quiet (fail)
          go_wp2
          go_roundw
          case rel => exact ⟨k + 1, by omega, by go_num, HS.out, below_dr hBr _⟩
          case measure => simp [intOf]; omega
      · obtain rfl : k = x.size := by omega
        have HF := hide (HL3.out hs HP.out)
        go_wp2
        go_ret
        exact ⟨by rw [HF.out]; rfl, hBr⟩
end Go.Proofs.YtghjhflfcambjaaGreatDoor
