/- The law NatBack answers true: text of a number parses back to it, and a parsed text is the number's text. -/
import Derived.Test.YtghjhflfcambjaaDoorTextD
import Derived.Test.YtghjhflfcambjaaDoorParseB
import Derived.Test.YtghjhflfcambjaaDoorNumE
namespace Go.Proofs.YtghjhflfcambjaaDoor
open Go.RowKit Go.Lib

theorem str_eq {a b : ByteArray} (h : a.data.toList = b.data.toList) : a = b := by
  obtain ⟨⟨x⟩⟩ := a
  obtain ⟨⟨y⟩⟩ := b
  simp at h
  rw [h]

theorem Parse_cases (s : ByteArray) (w : World) (hs : s.size ≤ 140737488355328) :
    Calls Tryd.prog 15 #[.string s] w fun e w' => ∃ (c : ByteArray) (f : Int), e = .returned (.tuple #[.string c, .int .i64 f]) ∧ Below w.heap.size w w' ∧
      ((f != 0) = true ∨ (f = 0 ∧ c = B (dval s.data.toList) ∧ wellDig s.data.toList = true ∧ s.size ≤ 400)) := by
  cases hw : wellDig s.data.toList with
  | false =>
    refine (Parse_bad s w hs hw).mono ?_
    rintro e w' ⟨rfl, hb⟩
    exact ⟨_, _, rfl, hb, .inl rfl⟩
  | true =>
    by_cases hl : s.size ≤ 400
    · refine (Parse_good s w hw hl).mono ?_
      rintro e w' ⟨rfl, hb⟩
      exact ⟨_, _, rfl, hb, .inr ⟨rfl, rfl, rfl, hl⟩⟩
    · refine (Parse_long s w hs hw (by omega)).mono ?_
      rintro e w' ⟨rfl, hb⟩
      exact ⟨_, _, rfl, hb, .inl rfl⟩

theorem dec_len (a : ByteArray) : (decDigits (N a)).length ≤ 18 * ((a.size + 3) / 4) + 1 := by
  by_cases h : N a = 0
  · rw [h, dec_small (by decide)]; simp
  · have h1 := txt_len (N a) _ (Nat.le_refl _)
    rw [txt_all _ h] at h1
    have h2 := grp_words (N a)
    have h3 := words_length (N a)
    rw [← B_size] at h3
    have h4 := B_size_le a
    omega
theorem dval_lt (l : List UInt8) (h : l.all isDig = true) : dval l < 10 ^ l.length := by
  induction l using snoc_ind with
  | h0 => decide
  | h1 l c ih =>
    rw [List.all_append, Bool.and_eq_true] at h
    have hc : isDig c = true := by simpa using h.2
    simp only [isDig, decide_eq_true_eq] at hc
    have := ih h.1
    rw [dval_snoc, List.length_append, List.length_singleton, Nat.pow_succ]
    omega
theorem bn_len_le (k : Nat) : ∀ n, n < 256 ^ k → (bn n).length ≤ k := by
  induction k with
  | zero => intro n h; have : n = 0 := by simpa using h
            subst this; simp [bn_zero]
  | succ k ih =>
    intro n h
    by_cases e : n = 0
    · subst e; simp [bn_zero]
    · rw [bn_pos n e, List.length_append, List.length_singleton]
      have := ih (n / 256) (Nat.div_lt_of_lt_mul (by rw [Nat.pow_succ] at h; omega))
      omega
theorem dval_size (s : ByteArray) (hsl : s.size ≤ 400) (hw : wellDig s.data.toList = true) : (B (dval s.data.toList)).size ≤ 1099511627776 := by
  have h1 := well_all hw
  rw [allDig, Bool.and_eq_true] at h1
  have h2 := dval_lt _ h1.2
  have h3 := bn_len_le s.data.toList.length (dval s.data.toList) (Nat.lt_of_lt_of_le h2 (Nat.pow_le_pow_left (by decide) _))
  rw [size_list] at h3
  rw [B_size]
  omega

set_option maxRecDepth 100000 in
set_option maxHeartbeats 2000000 in
theorem natBack_big (a s : ByteArray) (w : World) (ha : a.size ≤ 140737488355328) (hs : s.size ≤ 140737488355328) (hbig : 700 < a.size + s.size) :
    Calls Tryd.prog 4 #[.string a, .string s] w fun e w' => e = .returned (.bool true) ∧ Below w.heap.size w w' := by
  go_enter Tryd.func4, Tryd.ntmps4
  go_wp2
  go_ret
  exact ⟨rfl, Below.refl _ _⟩

set_option maxRecDepth 100000 in
set_option maxHeartbeats 2000000 in
theorem natBack_walk (a s : ByteArray) (w : World) (hsm : ¬ 700 < a.size + s.size) (htab : TabIs Tryd.prog w "internal/strconv.uint64pow10" .u64 pow10Tab) :
    Calls Tryd.prog 4 #[.string a, .string s] w fun e w' => e = .returned (.bool true) ∧ Below w.heap.size w w' := by
  have hT := Text_any a w (by omega) htab
  have hTd : (⟨(decDigits (N a)).toArray⟩ : ByteArray).data.toList = decDigits (N a) := rfl
  have hTe : (⟨(decDigits (N a)).toArray⟩ : ByteArray).toList.isEmpty = false := by
    rw [toList_data, hTd]
    cases h : decDigits (N a) with
    | nil => exact absurd h (dec_ne _)
    | cons => rfl
  have hTl : (⟨(decDigits (N a)).toArray⟩ : ByteArray).size ≤ 140737488355328 := by
    rw [size_mk]
    have := dec_len a
    omega
  have HTI := hide htab
  have hwell := dec_well (N a)
  have hdv := dval_dec (N a)
  rw [← hTd] at hwell hdv
  generalize (⟨(decDigits (N a)).toArray⟩ : ByteArray) = T at *
  have HT := hide hT
  have HTd := hide hTd
  have HW := hide hwell
  have HV := hide hdv
  have hw2 : wellDig T.data.toList = true := hwell
  clear hT hTd htab hwell hdv
  go_enter Tryd.func4, Tryd.ntmps4
  go_wp2_with fail
  refine HT.out.mono ?_
  rintro e w1 ⟨rfl, hb1⟩
  by_cases ht : T.size ≤ 400
  · go_wp2_with fail
    refine (Parse_good T _ HW.out ht).mono ?_
    rintro e w2 ⟨rfl, hb2⟩
    rw [HV.out]
    have hB2 : Below w.heap.size w w2 := hb1.trans (hb2.mono hb1.size)
    go_wp2_with fail
    refine (Trim_any a _ (by omega)).mono ?_
    rintro e w3 ⟨rfl, hb3⟩
    have hB3 : Below w.heap.size w w3 := hB2.trans (hb3.mono hB2.size)
    go_wp2_with fail
    refine (Parse_cases s _ (by omega)).mono ?_
    rintro e w4 ⟨c, f, rfl, hb4, hcase⟩
    have hB4 : Below w.heap.size w w4 := hB3.trans (hb4.mono hB3.size)
    rcases hcase with hf | ⟨rfl, rfl, hwl, hsl⟩
    · go_wp2
      go_ret
      exact ⟨rfl, hB4⟩
    · have HL := hide (dec_dval _ hwl)
      have hTx := Text_any (B (dval s.data.toList)) w4 (dval_size s hsl hwl) (tab_below HTI.out hB4)
      have hes : (⟨(decDigits (N (B (dval s.data.toList)))).toArray⟩ : ByteArray) = s := str_eq (by rw [N_B]; exact HL.out)
      rw [hes] at hTx
      have HX := hide hTx
      clear hes hTx hwl
      go_wp2_with fail
      refine HX.out.mono ?_
      rintro e w5 ⟨rfl, hb5⟩
      go_wp2
      go_ret
      exact ⟨by simp, hB4.trans (hb5.mono hB4.size)⟩
  · have ht2 : 400 < T.size := by omega
    go_wp2_with fail
    refine (Parse_long T _ hTl HW.out ht2).mono ?_
    rintro e w3 ⟨rfl, hb3⟩
    have hB3 : Below w.heap.size w w3 := hb1.trans (hb3.mono hb1.size)
    go_wp2_with fail
    refine (Parse_cases s _ (by omega)).mono ?_
    rintro e w4 ⟨c, f, rfl, hb4, hcase⟩
    have hB4 : Below w.heap.size w w4 := hB3.trans (hb4.mono hB3.size)
    rcases hcase with hf | ⟨rfl, rfl, hwl, hsl⟩
    · go_wp2
      go_ret
      exact ⟨rfl, hB4⟩
    · have HL := hide (dec_dval _ hwl)
      have hTx := Text_any (B (dval s.data.toList)) w4 (dval_size s hsl hwl) (tab_below HTI.out hB4)
      have hes : (⟨(decDigits (N (B (dval s.data.toList)))).toArray⟩ : ByteArray) = s := str_eq (by rw [N_B]; exact HL.out)
      rw [hes] at hTx
      have HX := hide hTx
      clear hes hTx hwl
      go_wp2_with fail
      refine HX.out.mono ?_
      rintro e w5 ⟨rfl, hb5⟩
      go_wp2
      go_ret
      exact ⟨by simp, hB4.trans (hb5.mono hB4.size)⟩
end Go.Proofs.YtghjhflfcambjaaDoor
