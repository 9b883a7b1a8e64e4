/- The document's answer: NatText. -/
import Derived.Test.YtghjhflfcambjaaGreatDoorRefJ
import Derived.Test.YtghjhflfcambjaaGreatDoorNumC
namespace Go.Proofs.YtghjhflfcambjaaGreatDoor
open Go.RowKit Go.Lib

theorem dec_len (k : Nat) : ∀ n, n < 10 ^ (k + 1) → (decDigits n).length ≤ k + 1 := by
  induction k with
  | zero => intro n h; rw [dec_small (by simpa using h)]; simp
  | succ k ih =>
    intro n h
    by_cases h9 : n < 10
    · rw [dec_small h9]; simp
    · rw [dec_big h9, List.length_append]
      have := ih (n / 10) (by rw [Nat.pow_succ] at h; omega)
      simp
      omega
theorem dec_fits {n k : Nat} (h : n < 256 ^ k) : (decDigits n).length ≤ 3 * k + 1 := by
  apply dec_len
  have h1 : (256 : Nat) ^ k ≤ (10 ^ 3) ^ k := Nat.pow_le_pow_left (by decide) k
  rw [← Nat.pow_mul] at h1
  have h2 : 10 ^ (3 * k) ≤ 10 ^ (3 * k + 1) := Nat.pow_le_pow_right (by decide) (by omega)
  omega
/-- The digits, none of 0. -/
def dg0 (n : Nat) : List UInt8 := if n = 0 then [] else decDigits n
theorem dg0_step {n : Nat} (h : n ≠ 0) : dg0 n = dg0 (n / 10) ++ [UInt8.ofNat (48 + n % 10)] := by
  rw [dg0, if_neg h]
  by_cases h9 : n < 10
  · rw [dec_small h9, dg0, if_pos (by omega), List.nil_append, Nat.mod_eq_of_lt h9]
  · rw [dec_big h9, dg0, if_neg (by omega)]

set_option maxRecDepth 100000 in
set_option maxHeartbeats 1000000 in
theorem rText_any (a : ByteArray) (w : World) (ha : a.size ≤ 500000) :
    Calls Tryz.prog 20 #[.string a] w fun e w' => e = .returned (.string ⟨(decDigits (N a)).toArray⟩) ∧ Below w.heap.size w w' := by
  have HT := hide (rTrim_any a w (by omega))
  have sa := Nat.le_trans (B_size_le a) ha
  have hfit := dec_fits (B_lt (N a))
  generalize hA' : N a = A at *
  clear hA' ha
  by_cases hA0 : A = 0
  · subst hA0
    rw [B_zero] at HT
    have HZ : Hid (decDigits 0 = [48]) := dec_small (by decide)
    rw [HZ.out]
    clear hfit
    go_enter Tryz.func20, Tryz.ntmps20
    go_wp2_with fail
    refine (HT.out).mono ?_
    rintro e w1 ⟨rfl, hw⟩
    subst hw
    go_wp2
    go_ret
    exact ⟨rfl, Below.refl _ _⟩
  · have hne := B_full hA0
    have HDA : Hid (dg0 A = decDigits A) := if_neg hA0
    have hN10 : N ⟨#[10]⟩ = 10 := rfl
    go_enter Tryz.func20, Tryz.ntmps20
    go_wp2_with fail
    refine (HT.out).mono ?_
    rintro e w1 ⟨rfl, hw⟩
    subst hw
    clear HT
    go_wp2
    go_loopg [0, 3] A (fun n va vs wr => ∃ s : ByteArray, va = .string (B n) ∧ vs = .string s ∧ (B n).size ≤ 500000 ∧ Hid (dg0 n ++ s.data.toList = dg0 A) ∧ Below w1.heap.size w1 wr)
    case atStart => exact ⟨⟨#[]⟩, rfl, rfl, sa, (show _ = _ by simp), Below.refl _ _⟩
    case round =>
      obtain ⟨s, rfl, rfl, hn, HS, hBr⟩ := hrel
      clear hne
      by_cases h0 : gk = 0
      · subst h0
        rw [B_zero]
        have HE : Hid (s = ⟨(decDigits A).toArray⟩) := by
          show _ = _
          have := HS.out
          rw [dg0, if_pos rfl, List.nil_append, HDA.out] at this
          apply ByteArray.ext
          apply Array.toList_inj.1
          rw [this]
        go_wp2
        go_ret
        exact ⟨by rw [← HE.out]; rfl, hBr⟩
      · have hne := B_full h0
        have hdv := fun V => rDiv_any (B gk) ⟨#[10]⟩ V hn (by show 1 ≤ _; omega) (by rw [hN10]; decide)
        rw [N_B, hN10] at hdv
        have HD := hide hdv
        have hm10 : gk % 10 < 10 := Nat.mod_lt _ (by decide)
        have hsm : (B (gk % 10)).size ≤ 500000 := Nat.le_trans (sz_mono (Nat.mod_le _ _)) hn
        have hdg := fun V => digit_any (B (gk % 10)) 0 V (by omega) (by omega)
        rw [N_B, Nat.pow_zero, Nat.div_one, Nat.mod_eq_of_lt (show gk % 10 < 256 by omega)] at hdg
        have HG := hide hdg
        have hq := Nat.le_trans (sz_mono (Nat.div_le_self gk 10)) hn
        have hss : s.size ≤ 1500001 := by
          have e := congrArg List.length HS.out
          rw [List.length_append, bytes_len, HDA.out] at e
          omega
        have hlt : gk / 10 < gk := Nat.div_lt_self (Nat.pos_of_ne_zero h0) (by decide)
        have hst := dg0_step h0
        have HS2 : Hid (dg0 (gk / 10) ++ (strOfNums [48 + ((gk % 10 : Nat) : Int)] ++ s).data.toList = dg0 A) := by
          show _ = _
          rw [← HS.out, hst, ByteArray.data_append, Array.toList_append, strOfNums_data, List.append_assoc]
          have this : (48 + ((gk % 10 : Nat) : Int)).toNat = 48 + gk % 10 := by omega
          rw [List.map_cons, List.map_nil, this]
        clear hst hdv hdg hn hsm
        generalize hd' : gk % 10 = d at *
        clear hd'
        have hconv := fun V : World => run_convert_bytes_arg (P := Tryz.prog) (V.alloc (.cells #[.int .u8 (48 + (d : Int))] 5)) 51 5 Tryz.underlying51 Tryz.underlying5 V.heap.size 0 1 1 [48 + (d : Int)] rfl (fun i hi => by
          obtain rfl : i = 0 := by omega
          rw [cell_of_row _ V.heap.size (0 + 0) _ _ (0, 0) (heap_alloc_new _ _)]
          rfl) 9 Tryz.underlying9
        have hs1 : (strOfNums [48 + (d : Int)]).size = 1 := strOfNums_size _
        go_wp2_with fail
        refine (HD.out _).mono ?_
        rintro e w2 ⟨rfl, hb2⟩
        go_wp2_with fail
        refine (HG.out _).mono ?_
        rintro e w3 ⟨rfl, hw3⟩
        subst hw3
        have hconv2 := hconv w3
        clear hconv
        go_wp2
        go_roundg (gk / 10)
        case measure => exact hlt
        case rel => exact ⟨strOfNums [48 + (d : Int)] ++ s, rfl, rfl, hq, HS2.out, (hBr.trans (hb2.mono hBr.size)).alloc (hBr.trans (hb2.mono hBr.size)).size _⟩
end Go.Proofs.YtghjhflfcambjaaGreatDoor
