/- The document's answer: NatText. -/
import Derived.Test.YtmkilmcmgdoiiaaGreatDoorRefJToNumR
import Derived.Test.YtmkilmcmgdoiiaaGreatDoorSumAToNumC
import Derived.Test.YtmkilmcmgdoiiaaGreatDoorParseAToNumG
namespace Go.Proofs.YtmkilmcmgdoiiaaGreatDoor
open Go.RowKit Go.Lib

theorem dec_len (k : Nat) : ∀ n, n < 10 ^ (k + 1) → (decDigits n).length ≤ k + 1 := by
  induction k with
  | zero => intro n h; rw [dec_small (by simpa using h)]; simp
  | succ k ih =>
    intro n h
    by_cases h9 : n < 10
    · rw [dec_small h9]; simp
    · rw [dec_big h9, List.length_append]
      have := ih (n / 10) (by rw [Nat.pow_succ] at h; omega)
      simp
      omega
theorem dec_fits {n k : Nat} (h : n < 256 ^ k) : (decDigits n).length ≤ 3 * k + 1 := by
  apply dec_len
  have h1 : (256 : Nat) ^ k ≤ (10 ^ 3) ^ k := Nat.pow_le_pow_left (by decide) k
  rw [← Nat.pow_mul] at h1
  have h2 : 10 ^ (3 * k) ≤ 10 ^ (3 * k + 1) := Nat.pow_le_pow_right (by decide) (by omega)
  omega
/-- The digits, none of 0. -/
def dg0 (n : Nat) : List UInt8 := if n = 0 then [] else decDigits n
theorem dg0_step {n : Nat} (h : n ≠ 0) : dg0 n = dg0 (n / 10) ++ [UInt8.ofNat (48 + n % 10)] := by
  rw [dg0, if_neg h]
  by_cases h9 : n < 10
  · rw [dec_small h9, dg0, if_pos (by omega), List.nil_append, Nat.mod_eq_of_lt h9]
  · rw [dec_big h9, dg0, if_neg (by omega)]

set_option maxRecDepth 100000 in
set_option maxHeartbeats 1000000 in
theorem rText_any (a : ByteArray) (w : World) (ha : a.size ≤ 500000) :
    Calls Tryz.prog 21 #[.string a] w fun e w' => e = .returned (.string ⟨(decDigits (N a)).toArray⟩) ∧ Below w.heap.size w w' := by
  have HT := hide (rTrim_any a w (by omega))
  have sa := Nat.le_trans (B_size_le a) ha
  have hfit := dec_fits (B_lt (N a))
  generalize hA' : N a = A at *
  clear hA' ha
  by_cases hA0 : A = 0
  · subst hA0
    rw [B_zero] at HT
    have HZ : Hid (decDigits 0 = [48]) := dec_small (by decide)
    rw [HZ.out]
    clear hfit
    go_enter Tryz.func21, Tryz.ntmps21
    go_wp2_with fail
    refine (HT.out).mono ?_
    rintro e w1 ⟨rfl, hw⟩
    subst hw
    go_wp2
    go_ret
    exact ⟨rfl, Below.refl _ _⟩
  · have hne := B_full hA0
    have HDA : Hid (dg0 A = decDigits A) := if_neg hA0
    have hN10 : N ⟨#[10]⟩ = 10 := rfl
    go_enter Tryz.func21, Tryz.ntmps21
    go_wp2_with fail
    refine (HT.out).mono ?_
    rintro e w1 ⟨rfl, hw⟩
    subst hw
    clear HT
    go_wp2
    go_loopg [0, 3] A (fun n va vs wr => ∃ s : ByteArray, va = .string (B n) ∧ vs = .string s ∧ (B n).size ≤ 500000 ∧ Hid (dg0 n ++ s.data.toList = dg0 A) ∧ Below w1.heap.size w1 wr)
    case atStart => exact ⟨⟨#[]⟩, rfl, rfl, sa, (show _ = _ by simp), Below.refl _ _⟩
    case round =>
      obtain ⟨s, rfl, rfl, hn, HS, hBr⟩ := hrel
      clear hne
      by_cases h0 : gk = 0
      · subst h0
        rw [B_zero]
        have HE : Hid (s = ⟨(decDigits A).toArray⟩) := by
          show _ = _
          have := HS.out
          rw [dg0, if_pos rfl, List.nil_append, HDA.out] at this
          apply ByteArray.ext
          apply Array.toList_inj.1
          rw [this]
        go_wp2
        go_ret
        exact ⟨by rw [← HE.out]; rfl, hBr⟩
      · have hne := B_full h0
        have hdv := fun V => rDiv_any (B gk) ⟨#[10]⟩ V hn (by show 1 ≤ _; omega) (by rw [hN10]; decide)
        rw [N_B, hN10] at hdv
        have HD := hide hdv
        have hm10 : gk % 10 < 10 := Nat.mod_lt _ (by decide)
        have hsm : (B (gk % 10)).size ≤ 500000 := Nat.le_trans (sz_mono (Nat.mod_le _ _)) hn
        have hdg := fun V => digit_any (B (gk % 10)) 0 V (by omega) (by omega)
        rw [N_B, Nat.pow_zero, Nat.div_one, Nat.mod_eq_of_lt (show gk % 10 < 256 by omega)] at hdg
        have HG := hide hdg
        have hq := Nat.le_trans (sz_mono (Nat.div_le_self gk 10)) hn
        have hss : s.size ≤ 1500001 := by
          have e := congrArg List.length HS.out
          rw [List.length_append, bytes_len, HDA.out] at e
          omega
        have hlt : gk / 10 < gk := Nat.div_lt_self (Nat.pos_of_ne_zero h0) (by decide)
        have hst := dg0_step h0
        have HS2 : Hid (dg0 (gk / 10) ++ (strOfNums [48 + ((gk % 10 : Nat) : Int)] ++ s).data.toList = dg0 A) := by
          show _ = _
          rw [← HS.out, hst, ByteArray.data_append, Array.toList_append, strOfNums_data, List.append_assoc]
          have this : (48 + ((gk % 10 : Nat) : Int)).toNat = 48 + gk % 10 := by omega
          rw [List.map_cons, List.map_nil, this]
        clear hst hdv hdg hn hsm
        generalize hd' : gk % 10 = d at *
        clear hd'
        have hconv := fun V : World => run_convert_bytes_arg (P := Tryz.prog) (V.alloc (.cells #[.int .u8 (48 + (d : Int))] 5)) 61 5 Tryz.underlying61 Tryz.underlying5 V.heap.size 0 1 1 [48 + (d : Int)] rfl (fun i hi => by
          obtain rfl : i = 0 := by omega
          rw [cell_of_row _ V.heap.size (0 + 0) _ _ (0, 0) (heap_alloc_new _ _)]
          rfl) 9 Tryz.underlying9
        have hs1 : (strOfNums [48 + (d : Int)]).size = 1 := strOfNums_size _
        go_wp2_with fail
        refine (HD.out _).mono ?_
        rintro e w2 ⟨rfl, hb2⟩
        go_wp2_with fail
        refine (HG.out _).mono ?_
        rintro e w3 ⟨rfl, hw3⟩
        subst hw3
        have hconv2 := hconv w3
        clear hconv
        go_wp2
        go_roundg (gk / 10)
        case measure => exact hlt
        case rel => exact ⟨strOfNums [48 + (d : Int)] ++ s, rfl, rfl, hq, HS2.out, (hBr.trans (hb2.mono hBr.size)).alloc (hBr.trans (hb2.mono hBr.size)).size _⟩
end Go.Proofs.YtmkilmcmgdoiiaaGreatDoor

/- appendDigit at the nil slice, and nat.Parse. -/
namespace Go.Proofs.YtmkilmcmgdoiiaaGreatDoor
open Go.RowKit

set_option maxRecDepth 100000 in
set_option maxHeartbeats 2000000 in
theorem appendDigit_nil (d : Nat) (w : World) (hd : d ≤ 9) (base : Nat) (hb : base ≤ w.heap.size) :
    Calls Tryz.prog 73 #[.slice none 0 0, .int .u8 (d : Nat)] w fun e w' => ∃ v' l', e = .returned v' ∧ Has w' base v' l' ∧ Small l' ∧ nw l' = d ∧ l'.length ≤ 1 ∧ Below base w w' := by
  obtain ⟨i0, hi, hz0, hz1, hz2⟩ := info_parts Tryz.infoU32
  by_cases h0 : d = 0
  · subst h0
    go_enter Tryz.func73, Tryz.ntmps73
    go_wp2
    refine wp_loop_rounds 1 ?_
    rw [rounds_succ]
    go_wp2
    go_ret
    exact ⟨_, [], rfl, World.ownsRow_nil _ _ _ _, fun x hx => by simp at hx, rfl, by simp, Below.refl _ _⟩
  · have hp : 0 < d := by omega
    have hn := World.ownsRow_nil w base 76 1
    go_enter Tryz.func73, Tryz.ntmps73
    go_wp2
    refine wp_loop_rounds 1 ?_
    rw [rounds_succ]
    go_wp2_with (at_builtin; refine wpList_append_own _ rfl _ _ 57 rfl base 76 i0 (.int .u32 0) 1 4 Tryz.underlying57 hi hz0 hz1 hz2 rfl (by decide) _ _ _ rfl (hn.alloc _) ⟨w.heap.size, 0, none⟩ 1 1 [.int .u32 (d : Nat)] rfl rfl (cell_one_new _ _ _) (by simp [Value.oneCell']) (by unfold maxLen; omega) (by omega) (by simp; omega) ?_; intro v' w2 hown3 hgrow2 _)
    go_ret
    refine ⟨_, [d], rfl, by simpa [Has, u32] using hown3, fun x hx => by simp at hx; subst hx; rw [W_eq]; omega, by simp [nw_cons, nw_nil], by simp, ?_⟩
    exact ((Below.refl _ _).alloc hb _).grown hgrow2 (by simp; omega) (fun k hk => by cases hk)

theorem appendDigit_any (v : Value) (l : List Nat) (d : Nat) (w : World) (hs : Small l) (hd : d ≤ 9) (hlen : l.length ≤ 8796093022208) (base : Nat) (hb : base ≤ w.heap.size) (h : Has w base v l) :
    Calls Tryz.prog 73 #[v, .int .u8 (d : Nat)] w fun e w' => ∃ v' l', e = .returned v' ∧ Has w' base v' l' ∧ Small l' ∧ nw l' = nw l * 10 + d ∧ l'.length ≤ l.length + 1 ∧ Below base w w' := by
  rcases h.cases with ⟨rfl, rfl⟩ | ⟨g, cap, rfl, hcap, hbg, hl⟩
  · refine (appendDigit_nil d w hd base hb).mono ?_
    rintro e w' ⟨v', l', rfl, h1, h2, h3, h4, h5⟩
    exact ⟨v', l', rfl, h1, h2, by rw [h3, nw_nil]; omega, h4, h5⟩
  · exact appendDigit_some g cap l d w hs hd hlen base hb h

/-- What nat.Parse answers. -/
def parseN (l : List UInt8) : Nat × Nat := if wellDig l then (if l.length ≤ 400 then (dval l, 0) else (0, 2)) else (0, 1)

set_option maxRecDepth 100000 in
set_option maxHeartbeats 2000000 in
theorem Parse_bad (s : ByteArray) (w : World) (hs : s.size ≤ 140737488355328) (hbad : wellDig s.data.toList = false) :
    Calls Tryz.prog 26 #[.string s] w fun e w' => e = .returned (.tuple #[.string ⟨#[]⟩, .int .i64 1]) ∧ Below w.heap.size w w' := by
  have hall := allDigits_any s w hs
  have HB : Hid (wellDig s.data.toList = false) := hbad
  clear hbad
  cases hA : allDig s.data.toList with
  | false =>
    rw [hA] at hall
    have HH := hide hall
    clear hall hA
    go_enter Tryz.func26, Tryz.ntmps26
    go_wp2_with (go_at_call 72; refine HH.out.mono ?_; rintro e w' ⟨rfl, rfl⟩)
    go_ret2
    exact ⟨rfl, Below.refl _ _⟩
  | true =>
    rw [hA] at hall
    have HH := hide hall
    have hb := HB.out
    rw [wellDig, hA] at hb
    simp only [Bool.true_and, Bool.not_eq_false', Bool.and_eq_true, decide_eq_true_eq, beq_iff_eq] at hb
    obtain ⟨h1, h2⟩ := hb
    have h1' : 1 < s.size := by simpa using h1
    have h0 : (s[0]'(by omega)).toNat = 48 := by
      have e : s.data.toList[0]?.getD 0 = s[0]'(by omega) := by rw [List.getElem?_eq_getElem (by simpa using (show 0 < s.size by omega))]; rfl
      rw [← e, h2]; rfl
    clear hall hA h1 h2
    go_enter Tryz.func26, Tryz.ntmps26
    go_wp2_with (go_at_call 72; refine HH.out.mono ?_; rintro e w' ⟨rfl, rfl⟩)
    go_ret2
    exact ⟨rfl, Below.refl _ _⟩

theorem well_all {l : List UInt8} (h : wellDig l = true) : allDig l = true := by
  rw [wellDig, Bool.and_eq_true] at h; exact h.1
theorem all_dig (s : ByteArray) (h : allDig s.data.toList = true) (k : Nat) (hk : k < s.size) : 48 ≤ s[k].toNat ∧ s[k].toNat ≤ 57 := by
  rw [allDig, Bool.and_eq_true] at h
  have := List.all_eq_true.1 h.2 s[k] (by
    have e : s.data.toList[k]'(by simpa using hk) = s[k] := rfl
    rw [← e]; exact List.getElem_mem _)
  simpa [isDig] using this
theorem all_pos (s : ByteArray) (h : allDig s.data.toList = true) : 0 < s.size := by
  rw [allDig, Bool.and_eq_true] at h
  have h1 := h.1
  rcases Nat.eq_zero_or_pos s.size with e | e
  · have : s.data.toList = [] := List.eq_nil_of_length_eq_zero (by simpa using e)
    rw [this] at h1; cases h1
  · exact e
theorem well_first (s : ByteArray) (h : wellDig s.data.toList = true) (h1 : 1 < s.size) : (((s[0]'(by omega)).toNat : Int) == 48) = false := by
  rw [wellDig, Bool.and_eq_true] at h
  have h2 := h.2
  have e : s.data.toList[0]?.getD 0 = s[0]'(by omega) := by rw [List.getElem?_eq_getElem (by simpa using (show 0 < s.size by omega))]; rfl
  rw [e] at h2
  have hl : 1 < s.data.toList.length := by simpa using h1
  simp only [hl, decide_true, Bool.true_and, Bool.not_eq_true', beq_eq_false_iff_ne, ne_eq] at h2
  refine beq_eq_false_iff_ne.2 fun e2 => h2 ?_
  have : (s[0]'(by omega)).toNat = 48 := by omega
  exact UInt8.toNat_inj.1 this

set_option maxRecDepth 100000 in
set_option maxHeartbeats 2000000 in
theorem Parse_long (s : ByteArray) (w : World) (hs : s.size ≤ 140737488355328) (hgood : wellDig s.data.toList = true) (hlong : 400 < s.size) :
    Calls Tryz.prog 26 #[.string s] w fun e w' => e = .returned (.tuple #[.string ⟨#[]⟩, .int .i64 2]) ∧ Below w.heap.size w w' := by
  have hall := allDigits_any s w hs
  rw [well_all hgood] at hall
  have hf := well_first s hgood (by omega)
  have HH := hide hall
  clear hall hgood
  go_enter Tryz.func26, Tryz.ntmps26
  go_wp2_with (go_at_call 72; refine HH.out.mono ?_; rintro e w' ⟨rfl, rfl⟩)
  go_ret2
  exact ⟨rfl, Below.refl _ _⟩

/-- The loop of Parse, once the text is known to be one, as both ways to it want it. -/
def ParseLoop (s : ByteArray) (w : World) (k : Nat) (v : Value) (wr : World) : Prop :=
  ∃ ls, Has wr w.heap.size v ls ∧ Small ls ∧ nw ls = dval (s.data.toList.take k) ∧ ls.length ≤ k ∧ Below w.heap.size w wr

set_option maxRecDepth 100000 in
set_option maxHeartbeats 2000000 in
theorem Parse_good (s : ByteArray) (w : World) (hgood : wellDig s.data.toList = true) (hlong : s.size ≤ 400) :
    Calls Tryz.prog 26 #[.string s] w fun e w' => e = .returned (.tuple #[.string (B (dval s.data.toList)), .int .i64 0]) ∧ Below w.heap.size w w' := by
  have hall := allDigits_any s w (by omega)
  have hA := well_all hgood
  rw [hA] at hall
  have hpos := all_pos s hA
  have HD := hide (all_dig s hA)
  have HH := hide hall
  have HF := hide (well_first s hgood)
  clear hall hA hgood
  have hl4 : decide (400 < (s.size : Int)) = false := by simp; omega
  rcases (show s.size = 1 ∨ 1 < s.size by omega) with h1 | h1
  · have h1a : ¬ 1 < s.size := by omega
    clear h1
    go_enter Tryz.func26, Tryz.ntmps26
    go_wp2_with (go_at_call 72; refine HH.out.mono ?_; rintro e w' ⟨rfl, rfl⟩)
    go_loopw [4, 24] (fun v i wr => ∃ k : Nat, k ≤ s.size ∧ i = .int .i64 k ∧ ParseLoop s w' k v wr) (fun _ i _ => s.size - (intOf i).toNat)
    case atStart => exact ⟨0, Nat.zero_le _, rfl, [], World.ownsRow_nil _ _ _ _, fun x hx => by simp at hx, rfl, Nat.le_refl _, Below.refl _ _⟩
    case round =>
      obtain ⟨k, hk, rfl, ls, hown, hsm, hnw, hll, hbel⟩ := hrel
      have HN := hide hnw
      have hsz := hbel.size
      clear hnw
      by_cases hlt : k < s.size
      · obtain ⟨hd1, hd2⟩ := HD.out k hlt
        have HT : Hid (dval (s.data.toList.take (k + 1)) = dval (s.data.toList.take k) * 10 + (s[k].toNat - 48)) := by show _ = _; rw [take_snoc s k hlt, dval_snoc]
        go_wp2_with fail
        rw [show (s[k].toNat : Int) - 48 = ((s[k].toNat - 48 : Nat) : Int) by omega]
        refine (appendDigit_any _ ls _ _ hsm (by omega) (by omega) w'.heap.size hsz hown).mono ?_
        rintro e w2 ⟨v2, l2, rfl, h2, h3, h4, h5, h6⟩
        have H4 := hide h4
        clear h4 hown
        go_wp2
        go_roundw
        case rel => exact ⟨k + 1, by omega, by go_num, l2, h2, h3, by rw [H4.out, HN.out, HT.out], by omega, hbel.trans h6⟩
        case measure => simp [intOf]; omega
      · obtain rfl : k = s.size := by omega
        go_wp2_with fail
        refine (gather_own w'.heap.size _ ls _ hsm (by omega) hown).mono ?_
        rintro e w2 ⟨rfl, hb2⟩
        go_wp2
        go_ret2
        exact ⟨by rw [HN.out, List.take_of_length_le (by rw [Array.length_toList]; exact Nat.le_refl _)]; rfl, hbel.trans (hb2.mono hsz)⟩
  · have hf := HF.out h1
    go_enter Tryz.func26, Tryz.ntmps26
    go_wp2_with (go_at_call 72; refine HH.out.mono ?_; rintro e w' ⟨rfl, rfl⟩)
    go_loopw [4, 24] (fun v i wr => ∃ k : Nat, k ≤ s.size ∧ i = .int .i64 k ∧ ParseLoop s w' k v wr) (fun _ i _ => s.size - (intOf i).toNat)
    case atStart => exact ⟨0, Nat.zero_le _, rfl, [], World.ownsRow_nil _ _ _ _, fun x hx => by simp at hx, rfl, Nat.le_refl _, Below.refl _ _⟩
    case round =>
      obtain ⟨k, hk, rfl, ls, hown, hsm, hnw, hll, hbel⟩ := hrel
      have HN := hide hnw
      have hsz := hbel.size
      clear hnw
      by_cases hlt : k < s.size
      · obtain ⟨hd1, hd2⟩ := HD.out k hlt
        have HT : Hid (dval (s.data.toList.take (k + 1)) = dval (s.data.toList.take k) * 10 + (s[k].toNat - 48)) := by show _ = _; rw [take_snoc s k hlt, dval_snoc]
        go_wp2_with fail
        rw [show (s[k].toNat : Int) - 48 = ((s[k].toNat - 48 : Nat) : Int) by omega]
        refine (appendDigit_any _ ls _ _ hsm (by omega) (by omega) w'.heap.size hsz hown).mono ?_
        rintro e w2 ⟨v2, l2, rfl, h2, h3, h4, h5, h6⟩
        have H4 := hide h4
        clear h4 hown
        go_wp2
        go_roundw
        case rel => exact ⟨k + 1, by omega, by go_num, l2, h2, h3, by rw [H4.out, HN.out, HT.out], by omega, hbel.trans h6⟩
        case measure => simp [intOf]; omega
      · obtain rfl : k = s.size := by omega
        go_wp2_with fail
        refine (gather_own w'.heap.size _ ls _ hsm (by omega) hown).mono ?_
        rintro e w2 ⟨rfl, hb2⟩
        go_wp2
        go_ret2
        exact ⟨by rw [HN.out, List.take_of_length_le (by rw [Array.length_toList]; exact Nat.le_refl _)]; rfl, hbel.trans (hb2.mono hsz)⟩
end Go.Proofs.YtmkilmcmgdoiiaaGreatDoor
