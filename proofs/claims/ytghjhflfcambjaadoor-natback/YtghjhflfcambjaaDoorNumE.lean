/- Plain facts: a numeral read gives back the number, and a number written the numeral. -/
import Derived.Test.YtghjhflfcambjaaDoorNumC
import Derived.Test.YtghjhflfcambjaaDoorNumD
namespace Go.Proofs.YtghjhflfcambjaaDoor
open Go

theorem dig_char (d : Nat) (h : d < 10) : (UInt8.ofNat (48 + d)).toNat = 48 + d := by
  rw [UInt8.toNat_ofNat']; exact Nat.mod_eq_of_lt (by omega)
theorem dval_dec (m : Nat) : dval (Lib.decDigits m) = m := by
  induction m using Nat.strongRecOn with
  | ind m ih =>
    by_cases h : m < 10
    · rw [dec_small h]
      show 0 * 10 + _ = _
      rw [dig_char m h]; omega
    · rw [dec_big h, dval_snoc, ih _ (by omega), dig_char _ (Nat.mod_lt _ (by decide))]; omega
theorem dec_ne (m : Nat) : Lib.decDigits m ≠ [] := by
  by_cases h : m < 10
  · rw [dec_small h]; simp
  · rw [dec_big h]; simp
theorem dec_all (m : Nat) : (Lib.decDigits m).all isDig = true := by
  induction m using Nat.strongRecOn with
  | ind m ih =>
    by_cases h : m < 10
    · rw [dec_small h]; simp [isDig]; omega
    · have := Nat.mod_lt m (show 0 < 10 by decide)
      rw [dec_big h, List.all_append, ih _ (by omega)]; simp [isDig]; omega
theorem dec_first (m : Nat) (h : m ≠ 0) : (Lib.decDigits m)[0]?.getD 0 ≠ 48 := by
  induction m using Nat.strongRecOn with
  | ind m ih =>
    by_cases hs : m < 10
    · rw [dec_small hs]
      intro e
      have : (UInt8.ofNat (48 + m)).toNat = 48 := by rw [show UInt8.ofNat (48 + m) = 48 from e]; rfl
      rw [dig_char m hs] at this
      omega
    · rw [dec_big hs, List.getElem?_append_left (List.length_pos_iff.2 (dec_ne _))]
      exact ih _ (by omega) (by omega)
theorem dec_well (m : Nat) : wellDig (Lib.decDigits m) = true := by
  have hn : (Lib.decDigits m).isEmpty = false := by
    cases h : Lib.decDigits m with
    | nil => exact absurd h (dec_ne m)
    | cons => rfl
  rw [wellDig, allDig, dec_all, hn]
  by_cases h : m = 0
  · subst h; rw [dec_small (by decide)]; rfl
  · have := dec_first m h
    simp [this]
theorem all_snoc {l : List UInt8} {c : UInt8} (h : allDig (l ++ [c]) = true) : l.all isDig = true ∧ isDig c = true := by
  rw [allDig, Bool.and_eq_true, List.all_append, Bool.and_eq_true] at h
  exact ⟨h.2.1, by simpa using h.2.2⟩
theorem char_dig (c : UInt8) (h : isDig c = true) : UInt8.ofNat (48 + (c.toNat - 48)) = c := by
  simp only [isDig, decide_eq_true_eq] at h
  rw [show 48 + (c.toNat - 48) = c.toNat by omega]
  simp
theorem dec_dval (l : List UInt8) : wellDig l = true → Lib.decDigits (dval l) = l := by
  induction l using snoc_ind with
  | h0 => intro h; cases h
  | h1 l c ih =>
    intro h
    have hw := h
    rw [wellDig, Bool.and_eq_true] at h
    obtain ⟨ha, hc⟩ := all_snoc h.1
    have hcd := hc
    simp only [isDig, decide_eq_true_eq] at hcd
    by_cases hl : l = []
    · subst hl
      rw [dval_snoc, show dval ([] : List UInt8) = 0 from rfl, dec_small (by omega), Nat.zero_mul, Nat.zero_add, char_dig c hc]; rfl
    · have hpos : 0 < l.length := List.length_pos_iff.2 hl
      have hfirst : l[0]?.getD 0 ≠ 48 := by
        have h2 := h.2
        rw [List.getElem?_append_left hpos] at h2
        have h3 : decide (1 < (l ++ [c]).length) = true := by rw [List.length_append]; simp; omega
        rw [h3] at h2
        simpa using h2
      have hwl : wellDig l = true := by
        have he : l.isEmpty = false := by cases l with | nil => exact absurd rfl hl | cons => rfl
        rw [wellDig, allDig, ha, he]
        simp [hfirst]
      have e := ih hwl
      have hq : dval l ≠ 0 := by
        intro hz
        rw [hz, dec_small (by decide)] at e
        rw [← e] at hfirst
        exact hfirst rfl
      rw [dval_snoc, dec_step _ _ hq (by omega), e, char_dig c hc]

end Go.Proofs.YtghjhflfcambjaaDoor
