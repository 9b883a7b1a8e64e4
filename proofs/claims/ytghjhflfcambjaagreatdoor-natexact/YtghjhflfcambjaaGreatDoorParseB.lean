/- appendDigit at the nil slice, and nat.Parse. -/
import Derived.Test.YtghjhflfcambjaaGreatDoorParseA
namespace Go.Proofs.YtghjhflfcambjaaGreatDoor
open Go.RowKit

set_option maxRecDepth 100000 in
set_option maxHeartbeats 2000000 in
theorem appendDigit_nil (d : Nat) (w : World) (hd : d ≤ 9) (base : Nat) (hb : base ≤ w.heap.size) :
    Calls Tryz.prog 52 #[.slice none 0 0, .int .u8 (d : Nat)] w fun e w' => ∃ v' l', e = .returned v' ∧ Has w' base v' l' ∧ Small l' ∧ nw l' = d ∧ l'.length ≤ 1 ∧ Below base w w' := by
  obtain ⟨i0, hi, hz0, hz1, hz2⟩ := info_parts Tryz.infoU32
  by_cases h0 : d = 0
  · subst h0
    go_enter Tryz.func52, Tryz.ntmps52
    go_wp2
    refine wp_loop_rounds 1 ?_
    rw [rounds_succ]
    go_wp2
    go_ret
    exact ⟨_, [], rfl, World.ownsRow_nil _ _ _ _, fun x hx => by simp at hx, rfl, by simp, Below.refl _ _⟩
  · have hp : 0 < d := by omega
    have hn := World.ownsRow_nil w base 66 1
    go_enter Tryz.func52, Tryz.ntmps52
    go_wp2
    refine wp_loop_rounds 1 ?_
    rw [rounds_succ]
    go_wp2_with (at_builtin; refine wpList_append_own _ rfl _ _ 47 rfl base 66 i0 (.int .u32 0) 1 4 Tryz.underlying47 hi hz0 hz1 hz2 rfl (by decide) _ _ _ rfl (hn.alloc _) ⟨w.heap.size, 0, none⟩ 1 1 [.int .u32 (d : Nat)] rfl rfl (cell_one_new _ _ _) (by simp [Value.oneCell']) (by unfold maxLen; omega) (by omega) (by simp; omega) ?_; intro v' w2 hown3 hgrow2 _)
    go_ret
    refine ⟨_, [d], rfl, by simpa [Has, u32] using hown3, fun x hx => by simp at hx; subst hx; rw [W_eq]; omega, by simp [nw_cons, nw_nil], by simp, ?_⟩
    exact ((Below.refl _ _).alloc hb _).grown hgrow2 (by simp; omega) (fun k hk => by cases hk)

theorem appendDigit_any (v : Value) (l : List Nat) (d : Nat) (w : World) (hs : Small l) (hd : d ≤ 9) (hlen : l.length ≤ 8796093022208) (base : Nat) (hb : base ≤ w.heap.size) (h : Has w base v l) :
    Calls Tryz.prog 52 #[v, .int .u8 (d : Nat)] w fun e w' => ∃ v' l', e = .returned v' ∧ Has w' base v' l' ∧ Small l' ∧ nw l' = nw l * 10 + d ∧ l'.length ≤ l.length + 1 ∧ Below base w w' := by
  rcases h.cases with ⟨rfl, rfl⟩ | ⟨g, cap, rfl, hcap, hbg, hl⟩
  · refine (appendDigit_nil d w hd base hb).mono ?_
    rintro e w' ⟨v', l', rfl, h1, h2, h3, h4, h5⟩
    exact ⟨v', l', rfl, h1, h2, by rw [h3, nw_nil]; omega, h4, h5⟩
  · exact appendDigit_some g cap l d w hs hd hlen base hb h

/-- What nat.Parse answers. -/
def parseN (l : List UInt8) : Nat × Nat := if wellDig l then (if l.length ≤ 400 then (dval l, 0) else (0, 2)) else (0, 1)

set_option maxRecDepth 100000 in
set_option maxHeartbeats 2000000 in
theorem Parse_bad (s : ByteArray) (w : World) (hs : s.size ≤ 140737488355328) (hbad : wellDig s.data.toList = false) :
    Calls Tryz.prog 25 #[.string s] w fun e w' => e = .returned (.tuple #[.string ⟨#[]⟩, .int .i64 1]) ∧ Below w.heap.size w w' := by
  have hall := allDigits_any s w hs
  have HB : Hid (wellDig s.data.toList = false) := hbad
  clear hbad
  cases hA : allDig s.data.toList with
  | false =>
    rw [hA] at hall
    have HH := hide hall
    clear hall hA
    go_enter Tryz.func25, Tryz.ntmps25
    go_wp2_with (go_at_call 51; refine HH.out.mono ?_; rintro e w' ⟨rfl, rfl⟩)
    go_ret2
    exact ⟨rfl, Below.refl _ _⟩
  | true =>
    rw [hA] at hall
    have HH := hide hall
    have hb := HB.out
    rw [wellDig, hA] at hb
    simp only [Bool.true_and, Bool.not_eq_false', Bool.and_eq_true, decide_eq_true_eq, beq_iff_eq] at hb
    obtain ⟨h1, h2⟩ := hb
    have h1' : 1 < s.size := by simpa using h1
    have h0 : (s[0]'(by omega)).toNat = 48 := by
      have e : s.data.toList[0]?.getD 0 = s[0]'(by omega) := by rw [List.getElem?_eq_getElem (by simpa using (show 0 < s.size by omega))]; rfl
      rw [← e, h2]; rfl
    clear hall hA h1 h2
    go_enter Tryz.func25, Tryz.ntmps25
    go_wp2_with (go_at_call 51; refine HH.out.mono ?_; rintro e w' ⟨rfl, rfl⟩)
    go_ret2
    exact ⟨rfl, Below.refl _ _⟩

theorem well_all {l : List UInt8} (h : wellDig l = true) : allDig l = true := by
  rw [wellDig, Bool.and_eq_true] at h; exact h.1
theorem all_dig (s : ByteArray) (h : allDig s.data.toList = true) (k : Nat) (hk : k < s.size) : 48 ≤ s[k].toNat ∧ s[k].toNat ≤ 57 := by
  rw [allDig, Bool.and_eq_true] at h
  have := List.all_eq_true.1 h.2 s[k] (by
    have e : s.data.toList[k]'(by simpa using hk) = s[k] := rfl
    rw [← e]; exact List.getElem_mem _)
  simpa [isDig] using this
theorem all_pos (s : ByteArray) (h : allDig s.data.toList = true) : 0 < s.size := by
  rw [allDig, Bool.and_eq_true] at h
  have h1 := h.1
  rcases Nat.eq_zero_or_pos s.size with e | e
  · have : s.data.toList = [] := List.eq_nil_of_length_eq_zero (by simpa using e)
    rw [this] at h1; cases h1
  · exact e
theorem well_first (s : ByteArray) (h : wellDig s.data.toList = true) (h1 : 1 < s.size) : (((s[0]'(by omega)).toNat : Int) == 48) = false := by
  rw [wellDig, Bool.and_eq_true] at h
  have h2 := h.2
  have e : s.data.toList[0]?.getD 0 = s[0]'(by omega) := by rw [List.getElem?_eq_getElem (by simpa using (show 0 < s.size by omega))]; rfl
  rw [e] at h2
  have hl : 1 < s.data.toList.length := by simpa using h1
  simp only [hl, decide_true, Bool.true_and, Bool.not_eq_true', beq_eq_false_iff_ne, ne_eq] at h2
  refine beq_eq_false_iff_ne.2 fun e2 => h2 ?_
  have : (s[0]'(by omega)).toNat = 48 := by omega
  exact UInt8.toNat_inj.1 this

set_option maxRecDepth 100000 in
set_option maxHeartbeats 2000000 in
theorem Parse_long (s : ByteArray) (w : World) (hs : s.size ≤ 140737488355328) (hgood : wellDig s.data.toList = true) (hlong : 400 < s.size) :
    Calls Tryz.prog 25 #[.string s] w fun e w' => e = .returned (.tuple #[.string ⟨#[]⟩, .int .i64 2]) ∧ Below w.heap.size w w' := by
  have hall := allDigits_any s w hs
  rw [well_all hgood] at hall
  have hf := well_first s hgood (by omega)
  have HH := hide hall
  clear hall hgood
  go_enter Tryz.func25, Tryz.ntmps25
  go_wp2_with (go_at_call 51; refine HH.out.mono ?_; rintro e w' ⟨rfl, rfl⟩)
  go_ret2
  exact ⟨rfl, Below.refl _ _⟩

/-- The loop of Parse, once the text is known to be one, as both ways to it want it. -/
def ParseLoop (s : ByteArray) (w : World) (k : Nat) (v : Value) (wr : World) : Prop :=
  ∃ ls, Has wr w.heap.size v ls ∧ Small ls ∧ nw ls = dval (s.data.toList.take k) ∧ ls.length ≤ k ∧ Below w.heap.size w wr

set_option maxRecDepth 100000 in
set_option maxHeartbeats 2000000 in
theorem Parse_good (s : ByteArray) (w : World) (hgood : wellDig s.data.toList = true) (hlong : s.size ≤ 400) :
    Calls Tryz.prog 25 #[.string s] w fun e w' => e = .returned (.tuple #[.string (B (dval s.data.toList)), .int .i64 0]) ∧ Below w.heap.size w w' := by
  have hall := allDigits_any s w (by omega)
  have hA := well_all hgood
  rw [hA] at hall
  have hpos := all_pos s hA
  have HD := hide (all_dig s hA)
  have HH := hide hall
  have HF := hide (well_first s hgood)
  clear hall hA hgood
  have hl4 : decide (400 < (s.size : Int)) = false := by simp; omega
  rcases (show s.size = 1 ∨ 1 < s.size by omega) with h1 | h1
  · have h1a : ¬ 1 < s.size := by omega
    clear h1
    go_enter Tryz.func25, Tryz.ntmps25
    go_wp2_with (go_at_call 51; refine HH.out.mono ?_; rintro e w' ⟨rfl, rfl⟩)
    go_loopw [4, 24] (fun v i wr => ∃ k : Nat, k ≤ s.size ∧ i = .int .i64 k ∧ ParseLoop s w' k v wr) (fun _ i _ => s.size - (intOf i).toNat)
    case atStart => exact ⟨0, Nat.zero_le _, rfl, [], World.ownsRow_nil _ _ _ _, fun x hx => by simp at hx, rfl, Nat.le_refl _, Below.refl _ _⟩
    case round =>
      obtain ⟨k, hk, rfl, ls, hown, hsm, hnw, hll, hbel⟩ := hrel
      have HN := hide hnw
      have hsz := hbel.size
      clear hnw
      by_cases hlt : k < s.size
      · obtain ⟨hd1, hd2⟩ := HD.out k hlt
        have HT : Hid (dval (s.data.toList.take (k + 1)) = dval (s.data.toList.take k) * 10 + (s[k].toNat - 48)) := by show _ = _; rw [take_snoc s k hlt, dval_snoc]
        go_wp2_with fail
        rw [show (s[k].toNat : Int) - 48 = ((s[k].toNat - 48 : Nat) : Int) by omega]
        refine (appendDigit_any _ ls _ _ hsm (by omega) (by omega) w'.heap.size hsz hown).mono ?_
        rintro e w2 ⟨v2, l2, rfl, h2, h3, h4, h5, h6⟩
        have H4 := hide h4
        clear h4 hown
        go_wp2
        go_roundw
        case rel => exact ⟨k + 1, by omega, by go_num, l2, h2, h3, by rw [H4.out, HN.out, HT.out], by omega, hbel.trans h6⟩
        case measure => simp [intOf]; omega
      · obtain rfl : k = s.size := by omega
        go_wp2_with fail
        refine (gather_own w'.heap.size _ ls _ hsm (by omega) hown).mono ?_
        rintro e w2 ⟨rfl, hb2⟩
        go_wp2
        go_ret2
        exact ⟨by rw [HN.out, List.take_of_length_le (by rw [Array.length_toList]; exact Nat.le_refl _)]; rfl, hbel.trans (hb2.mono hsz)⟩
  · have hf := HF.out h1
    go_enter Tryz.func25, Tryz.ntmps25
    go_wp2_with (go_at_call 51; refine HH.out.mono ?_; rintro e w' ⟨rfl, rfl⟩)
    go_loopw [4, 24] (fun v i wr => ∃ k : Nat, k ≤ s.size ∧ i = .int .i64 k ∧ ParseLoop s w' k v wr) (fun _ i _ => s.size - (intOf i).toNat)
    case atStart => exact ⟨0, Nat.zero_le _, rfl, [], World.ownsRow_nil _ _ _ _, fun x hx => by simp at hx, rfl, Nat.le_refl _, Below.refl _ _⟩
    case round =>
      obtain ⟨k, hk, rfl, ls, hown, hsm, hnw, hll, hbel⟩ := hrel
      have HN := hide hnw
      have hsz := hbel.size
      clear hnw
      by_cases hlt : k < s.size
      · obtain ⟨hd1, hd2⟩ := HD.out k hlt
        have HT : Hid (dval (s.data.toList.take (k + 1)) = dval (s.data.toList.take k) * 10 + (s[k].toNat - 48)) := by show _ = _; rw [take_snoc s k hlt, dval_snoc]
        go_wp2_with fail
        rw [show (s[k].toNat : Int) - 48 = ((s[k].toNat - 48 : Nat) : Int) by omega]
        refine (appendDigit_any _ ls _ _ hsm (by omega) (by omega) w'.heap.size hsz hown).mono ?_
        rintro e w2 ⟨v2, l2, rfl, h2, h3, h4, h5, h6⟩
        have H4 := hide h4
        clear h4 hown
        go_wp2
        go_roundw
        case rel => exact ⟨k + 1, by omega, by go_num, l2, h2, h3, by rw [H4.out, HN.out, HT.out], by omega, hbel.trans h6⟩
        case measure => simp [intOf]; omega
      · obtain rfl : k = s.size := by omega
        go_wp2_with fail
        refine (gather_own w'.heap.size _ ls _ hsm (by omega) hown).mono ?_
        rintro e w2 ⟨rfl, hb2⟩
        go_wp2
        go_ret2
        exact ⟨by rw [HN.out, List.take_of_length_le (by rw [Array.length_toList]; exact Nat.le_refl _)]; rfl, hbel.trans (hb2.mono hsz)⟩
end Go.Proofs.YtghjhflfcambjaaGreatDoor
