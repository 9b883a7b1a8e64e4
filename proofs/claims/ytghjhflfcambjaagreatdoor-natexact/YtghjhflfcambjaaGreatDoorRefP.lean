/- The document's answer: NatParse; and what both parsers answer. -/
import Derived.Test.YtghjhflfcambjaaGreatDoorRefL
import Derived.Test.YtghjhflfcambjaaGreatDoorParseB
namespace Go.Proofs.YtghjhflfcambjaaGreatDoor
open Go.RowKit

/-- What is answered to a text. -/
def pres (s : ByteArray) : ByteArray × Int := if wellDig s.data.toList = true then (if 400 < s.size then (⟨#[]⟩, 2) else (B (dval s.data.toList), 0)) else (⟨#[]⟩, 1)
theorem pres_bad {s : ByteArray} (h : wellDig s.data.toList = false) : pres s = (⟨#[]⟩, 1) := by rw [pres, if_neg (by rw [h]; decide)]
theorem pres_long {s : ByteArray} (h : wellDig s.data.toList = true) (h1 : 400 < s.size) : pres s = (⟨#[]⟩, 2) := by rw [pres, if_pos h, if_pos h1]
theorem pres_good {s : ByteArray} (h : wellDig s.data.toList = true) (h1 : ¬ 400 < s.size) : pres s = (B (dval s.data.toList), 0) := by rw [pres, if_pos h, if_neg h1]

theorem Parse_pres (s : ByteArray) (w : World) (hs : s.size ≤ 140737488355328) :
    Calls Tryz.prog 25 #[.string s] w fun e w' => e = .returned (.tuple #[.string (pres s).1, .int .i64 (pres s).2]) ∧ Below w.heap.size w w' := by
  cases hw : wellDig s.data.toList with
  | false => rw [pres_bad hw]; exact Parse_bad s w hs hw
  | true =>
    by_cases h : 400 < s.size
    · rw [pres_long hw h]; exact Parse_long s w hs hw h
    · rw [pres_good hw h]; exact Parse_good s w hw (by omega)

theorem dval_lt (l : List UInt8) : l.all isDig = true → dval l < 10 ^ l.length := by
  induction l using snoc_ind with
  | h0 => intro _; decide
  | h1 l c ih =>
    intro h
    rw [List.all_append, Bool.and_eq_true] at h
    have h1 := ih h.1
    have h2 : 48 ≤ c.toNat ∧ c.toNat ≤ 57 := by simpa [isDig] using h.2
    rw [dval_snoc, List.length_append, List.length_singleton, Nat.pow_succ]
    omega
theorem dval_size (l : List UInt8) (h : l.all isDig = true) : (B (dval l)).size ≤ l.length := by
  rw [B_size]
  exact bn_fits _ _ (Nat.lt_of_lt_of_le (dval_lt l h) (Nat.pow_le_pow_left (by decide) _))
theorem all_take {l : List UInt8} (h : l.all isDig = true) (k : Nat) : (l.take k).all isDig = true := by
  rw [List.all_eq_true] at h ⊢
  exact fun x hx => h x (List.mem_of_mem_take hx)

set_option maxRecDepth 100000 in
set_option maxHeartbeats 2000000 in
theorem rParse_any (s : ByteArray) (w : World) (hs : s.size ≤ 1000000) :
    Calls Tryz.prog 26 #[.string s] w fun e w' => e = .returned (.tuple #[.string (pres s).1, .int .i64 (pres s).2]) ∧ Below w.heap.size w w' := by
  have HB := hide (fun h => pres_bad (s := s) h)
  have HL := hide (fun h h1 => pres_long (s := s) h h1)
  have HG := hide (fun h h1 => pres_good (s := s) h h1)
  generalize pres s = r at *
  by_cases h0 : s.size = 0
  · obtain rfl : s = ⟨#[]⟩ := by
      obtain ⟨⟨l⟩⟩ := s
      have : l = [] := List.eq_nil_of_length_eq_zero (by simpa [ByteArray.size] using h0)
      rw [this]
    rw [HB.out rfl]
    go_enter Tryz.func26, Tryz.ntmps26
    go_wp2
    go_ret2
    exact ⟨rfl, Below.refl _ _⟩
  · have hne : s.toList.isEmpty = false := by
      rw [toList_data]
      cases hl : s.data.toList with
      | nil => rw [← bytes_len, hl] at h0; exact absurd rfl h0
      | cons x r => rfl
    have hp : 0 < s.size := by omega
    have hg0 : s.data[0]?.getD 0 = s[0]'hp := by
      have e : s.data.toList[0]?.getD 0 = s[0]'hp := by rw [List.getElem?_eq_getElem (by rw [bytes_len]; exact hp)]; rfl
      simpa using e
    by_cases hlead : 1 < s.size ∧ (s[0]'hp).toNat = 48
    · obtain ⟨h1, h2⟩ := hlead
      have hb : wellDig s.data.toList = false := by
        have : s[0]'hp = 48 := UInt8.toNat_inj.1 h2
        simp [wellDig, hg0, this, h1]
      rw [HB.out hb]
      clear hb hg0
      go_enter Tryz.func26, Tryz.ntmps26
      go_wp2
      go_ret2
      exact ⟨rfl, Below.refl _ _⟩
    · have HW : Hid (s.data.toList.all isDig = true → wellDig s.data.toList = true) := by
        intro hall
        have hem : s.data.toList.isEmpty = false := by rw [← toList_data]; exact hne
        by_cases h1 : 1 < s.size
        · have h2 : ¬ s[0]'hp = 48 := fun e => hlead ⟨h1, by rw [e]; rfl⟩
          simp [wellDig, allDig, hall, hem, hg0, h2]
        · simp [wellDig, allDig, hall, hem]
          omega
      have hcase : ¬ 1 < s.size ∨ (1 < s.size ∧ ¬ (s[0]'hp).toNat = 48) := by
        by_cases h1 : 1 < s.size
        · exact .inr ⟨h1, fun e => hlead ⟨h1, e⟩⟩
        · exact .inl h1
      clear hlead hg0
      go_enter Tryz.func26, Tryz.ntmps26
      have hb48 : ∀ n : Nat, ¬ n = 48 → ¬ (n : Int) = 48 ∧ ((n : Int) == 48) = false := fun n hn => ⟨by omega, by simp; omega⟩
      rcases hcase with h1 | ⟨h1, h2⟩
      all_goals
        first
          | (obtain ⟨h2i, h2b⟩ := hb48 _ h2; clear hb48)
          | clear hb48
        go_wp2
        go_loopw [4] (fun i wr => ∃ k : Nat, k ≤ s.size ∧ i = .int .i64 k ∧ Hid ((s.data.toList.take k).all isDig = true) ∧ Below w.heap.size w wr) (fun i _ => s.size - (intOf i).toNat)
        case atStart => exact ⟨0, Nat.zero_le _, rfl, rfl, Below.refl _ _⟩
        case round =>
          obtain ⟨k, hk, rfl, HA, hB1⟩ := hrel
          by_cases hlt : k < s.size
          · by_cases hc : 48 ≤ s[k].toNat ∧ s[k].toNat ≤ 57
            · have HS : Hid ((s.data.toList.take (k + 1)).all isDig = true) := by
                show _ = _
                rw [take_snoc s k hlt, List.all_append, HA.out]
                simp [isDig, hc]
              obtain ⟨hc1, hc2⟩ := hc
              go_wp2
              go_roundw
              case rel =>
                first
                  | exact ⟨k + 1, by omega, by go_num, HS.out, hB1⟩
                  | ((repeat apply Exists.intro); exact ⟨⟨k + 1, by omega, by go_num, HS.out, hB1⟩, rfl⟩)
              case measure => simp [intOf]; omega
            · have hf := allDig_false s k hlt (by simp only [isDig, decide_eq_false_iff_not]; exact hc)
              have hb : wellDig s.data.toList = false := by rw [wellDig, hf]; rfl
              have HR := hide (HB.out hb)
              clear hb hf
              rcases (show s[k].toNat < 48 ∨ (48 ≤ s[k].toNat ∧ 57 < s[k].toNat) by omega) with h3 | ⟨h3, h4⟩
              all_goals
                clear hc
                go_wp2
                go_ret2
                exact ⟨by rw [HR.out]; rfl, hB1⟩
          · have hall : s.data.toList.all isDig = true := by
              have := HA.out
              rwa [List.take_of_length_le (by rw [bytes_len]; omega)] at this
            have hw := HW.out hall
            by_cases hlong : 400 < s.size
            · first
                | (exfalso; omega)
                | (have HR := hide (HL.out hw hlong); clear hw hall; go_wp2; go_ret2; exact ⟨by rw [HR.out]; rfl, hB1⟩)
            · have HR := hide (HG.out hw hlong)
              have HALL := hide hall
              clear hw hall HL HG HB HW
              go_wp2
              go_loopw [5, 6] (fun v i wr => ∃ k : Nat, k ≤ s.size ∧ i = .int .i64 k ∧ v = .string (B (dval (s.data.toList.take k))) ∧ Below w.heap.size w wr) (fun _ i _ => s.size - (intOf i).toNat)
              case atStart => exact ⟨0, Nat.zero_le _, rfl, by rw [List.take_zero, show dval [] = 0 from rfl, B_zero], hB1⟩
              case round =>
                obtain ⟨m, hm, rfl, rfl, hBr⟩ := hrel
                by_cases hmt : m < s.size
                · have hcd : 48 ≤ s[m].toNat ∧ s[m].toNat ≤ 57 := by
                    have := List.all_eq_true.1 HALL.out s[m] (by
                      have e : s.data.toList[m]'(by rw [bytes_len]; exact hmt) = s[m] := rfl
                      rw [← e]; exact List.getElem_mem _)
                    simpa [isDig] using this
                  have hsd := dval_size _ (all_take HALL.out m)
                  have hlen : (s.data.toList.take m).length ≤ 400 := by rw [List.length_take, bytes_len]; omega
                  have hdn : dval (s.data.toList.take (m + 1)) = dval (s.data.toList.take m) * 10 + (s[m].toNat - 48) := by rw [take_snoc s m hmt, dval_snoc]
                  have hs2 : (B (dval (s.data.toList.take m) * 10)).size ≤ 1000 := by
                    have := sz_mul (dval (s.data.toList.take m)) 10
                    have : (B 10).size ≤ 1 := by rw [B_size]; exact bn_fits 1 10 (by decide)
                    omega
                  have hmu := fun V => rMul_any (B (dval (s.data.toList.take m))) ⟨#[10]⟩ V (by omega) (by show 1 ≤ _; omega)
                  rw [N_B, show N ⟨#[10]⟩ = 10 from rfl] at hmu
                  have hof := fun V => rOf_any ((s[m].toNat : Int) - 48) V (by omega) (by omega)
                  rw [show ((s[m].toNat : Int) - 48).toNat = s[m].toNat - 48 by omega] at hof
                  have hs3 : (B (s[m].toNat - 48)).size ≤ 1 := by rw [B_size]; exact bn_fits 1 _ (by show _ < 256; omega)
                  have had := fun V => rAdd_any (B (dval (s.data.toList.take m) * 10)) (B (s[m].toNat - 48)) V (by omega) (by omega)
                  rw [N_B, N_B, ← hdn] at had
                  have HMU := hide hmu
                  have HOF := hide hof
                  have HAD := hide had
                  obtain ⟨hc1, hc2⟩ := hcd
                  clear hmu hof had hdn hsd hlen hs2 hs3
                  go_wp2_with fail
                  refine (HMU.out _).mono ?_
                  rintro e w2 ⟨rfl, hb2⟩
                  go_wp2_with fail
                  refine (HOF.out _).mono ?_
                  rintro e w3 ⟨rfl, hb3⟩
                  go_wp2_with fail
                  refine (HAD.out _).mono ?_
                  rintro e w4 ⟨rfl, hb4⟩
                  have hB2 := hBr.trans (hb2.mono hBr.size)
                  have hB3 := hB2.trans (hb3.mono hB2.size)
                  have hB4 := hB3.trans (hb4.mono hB3.size)
                  go_wp2
                  go_roundw
                  case rel =>
                    first
                      | exact ⟨m + 1, by omega, by go_num, rfl, hB4⟩
                      | ((repeat apply Exists.intro); exact ⟨⟨m + 1, by omega, by go_num, rfl, hB4⟩, rfl⟩)
                  case measure => simp [intOf]; omega
                · obtain rfl : m = s.size := by omega
                  rw [List.take_of_length_le (by rw [bytes_len]; exact Nat.le_refl _)]
                  go_wp2
                  go_ret2
                  exact ⟨by rw [HR.out]; rfl, hBr⟩
end Go.Proofs.YtghjhflfcambjaaGreatDoor
