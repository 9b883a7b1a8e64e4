/- The document's answer: NatParse; and what both parsers answer. -/
import Derived.Test.YtmkilmcmgdoiiaaGreatDoorRefLToParseB
import Derived.Test.YtmkilmcmgdoiiaaGreatDoorRefJToNumR
import Derived.Lib.CutLaws
namespace Go.Proofs.YtmkilmcmgdoiiaaGreatDoor
open Go.RowKit

/-- What is answered to a text. -/
def pres (s : ByteArray) : ByteArray × Int := if wellDig s.data.toList = true then (if 400 < s.size then (⟨#[]⟩, 2) else (B (dval s.data.toList), 0)) else (⟨#[]⟩, 1)
theorem pres_bad {s : ByteArray} (h : wellDig s.data.toList = false) : pres s = (⟨#[]⟩, 1) := by rw [pres, if_neg (by rw [h]; decide)]
theorem pres_long {s : ByteArray} (h : wellDig s.data.toList = true) (h1 : 400 < s.size) : pres s = (⟨#[]⟩, 2) := by rw [pres, if_pos h, if_pos h1]
theorem pres_good {s : ByteArray} (h : wellDig s.data.toList = true) (h1 : ¬ 400 < s.size) : pres s = (B (dval s.data.toList), 0) := by rw [pres, if_pos h, if_neg h1]

theorem Parse_pres (s : ByteArray) (w : World) (hs : s.size ≤ 140737488355328) :
    Calls Tryz.prog 26 #[.string s] w fun e w' => e = .returned (.tuple #[.string (pres s).1, .int .i64 (pres s).2]) ∧ Below w.heap.size w w' := by
  cases hw : wellDig s.data.toList with
  | false => rw [pres_bad hw]; exact Parse_bad s w hs hw
  | true =>
    by_cases h : 400 < s.size
    · rw [pres_long hw h]; exact Parse_long s w hs hw h
    · rw [pres_good hw h]; exact Parse_good s w hw (by omega)

theorem dval_lt (l : List UInt8) : l.all isDig = true → dval l < 10 ^ l.length := by
  induction l using snoc_ind with
  | h0 => intro _; decide
  | h1 l c ih =>
    intro h
    rw [List.all_append, Bool.and_eq_true] at h
    have h1 := ih h.1
    have h2 : 48 ≤ c.toNat ∧ c.toNat ≤ 57 := by simpa [isDig] using h.2
    rw [dval_snoc, List.length_append, List.length_singleton, Nat.pow_succ]
    omega
theorem dval_size (l : List UInt8) (h : l.all isDig = true) : (B (dval l)).size ≤ l.length := by
  rw [B_size]
  exact bn_fits _ _ (Nat.lt_of_lt_of_le (dval_lt l h) (Nat.pow_le_pow_left (by decide) _))
theorem all_take {l : List UInt8} (h : l.all isDig = true) (k : Nat) : (l.take k).all isDig = true := by
  rw [List.all_eq_true] at h ⊢
  exact fun x hx => h x (List.mem_of_mem_take hx)

set_option maxRecDepth 100000 in
set_option maxHeartbeats 2000000 in
theorem rParse_any (s : ByteArray) (w : World) (hs : s.size ≤ 1000000) :
    Calls Tryz.prog 27 #[.string s] w fun e w' => e = .returned (.tuple #[.string (pres s).1, .int .i64 (pres s).2]) ∧ Below w.heap.size w w' := by
  have HB := hide (fun h => pres_bad (s := s) h)
  have HL := hide (fun h h1 => pres_long (s := s) h h1)
  have HG := hide (fun h h1 => pres_good (s := s) h h1)
  generalize pres s = r at *
  by_cases h0 : s.size = 0
  · obtain rfl : s = ⟨#[]⟩ := by
      obtain ⟨⟨l⟩⟩ := s
      have : l = [] := List.eq_nil_of_length_eq_zero (by simpa [ByteArray.size] using h0)
      rw [this]
    rw [HB.out rfl]
    go_enter Tryz.func27, Tryz.ntmps27
    go_wp2
    go_ret2
    exact ⟨rfl, Below.refl _ _⟩
  · have hne : s.toList.isEmpty = false := by
      rw [toList_data]
      cases hl : s.data.toList with
      | nil => rw [← bytes_len, hl] at h0; exact absurd rfl h0
      | cons x r => rfl
    have hp : 0 < s.size := by omega
    have hg0 : s.data[0]?.getD 0 = s[0]'hp := by
      have e : s.data.toList[0]?.getD 0 = s[0]'hp := by rw [List.getElem?_eq_getElem (by rw [bytes_len]; exact hp)]; rfl
      simpa using e
    by_cases hlead : 1 < s.size ∧ (s[0]'hp).toNat = 48
    · obtain ⟨h1, h2⟩ := hlead
      have hb : wellDig s.data.toList = false := by
        have : s[0]'hp = 48 := UInt8.toNat_inj.1 h2
        simp [wellDig, hg0, this, h1]
      rw [HB.out hb]
      clear hb hg0
      go_enter Tryz.func27, Tryz.ntmps27
      go_wp2
      go_ret2
      exact ⟨rfl, Below.refl _ _⟩
    · have HW : Hid (s.data.toList.all isDig = true → wellDig s.data.toList = true) := by
        intro hall
        have hem : s.data.toList.isEmpty = false := by rw [← toList_data]; exact hne
        by_cases h1 : 1 < s.size
        · have h2 : ¬ s[0]'hp = 48 := fun e => hlead ⟨h1, by rw [e]; rfl⟩
          simp [wellDig, allDig, hall, hem, hg0, h2]
        · simp [wellDig, allDig, hall, hem]
          omega
      have hcase : ¬ 1 < s.size ∨ (1 < s.size ∧ ¬ (s[0]'hp).toNat = 48) := by
        by_cases h1 : 1 < s.size
        · exact .inr ⟨h1, fun e => hlead ⟨h1, e⟩⟩
        · exact .inl h1
      clear hlead hg0
      go_enter Tryz.func27, Tryz.ntmps27
      have hb48 : ∀ n : Nat, ¬ n = 48 → ¬ (n : Int) = 48 ∧ ((n : Int) == 48) = false := fun n hn => ⟨by omega, by simp; omega⟩
      rcases hcase with h1 | ⟨h1, h2⟩
      all_goals
        first
          | (obtain ⟨h2i, h2b⟩ := hb48 _ h2; clear hb48)
          | clear hb48
        go_wp2
        go_loopw [4] (fun i wr => ∃ k : Nat, k ≤ s.size ∧ i = .int .i64 k ∧ Hid ((s.data.toList.take k).all isDig = true) ∧ Below w.heap.size w wr) (fun i _ => s.size - (intOf i).toNat)
        case atStart => exact ⟨0, Nat.zero_le _, rfl, rfl, Below.refl _ _⟩
        case round =>
          obtain ⟨k, hk, rfl, HA, hB1⟩ := hrel
          by_cases hlt : k < s.size
          · by_cases hc : 48 ≤ s[k].toNat ∧ s[k].toNat ≤ 57
            · have HS : Hid ((s.data.toList.take (k + 1)).all isDig = true) := by
                show _ = _
                rw [take_snoc s k hlt, List.all_append, HA.out]
                simp [isDig, hc]
              obtain ⟨hc1, hc2⟩ := hc
              go_wp2
              go_roundw
              case rel =>
                first
                  | exact ⟨k + 1, by omega, by go_num, HS.out, hB1⟩
                  | ((repeat apply Exists.intro); exact ⟨⟨k + 1, by omega, by go_num, HS.out, hB1⟩, rfl⟩)
              case measure => simp [intOf]; omega
            · have hf := allDig_false s k hlt (by simp only [isDig, decide_eq_false_iff_not]; exact hc)
              have hb : wellDig s.data.toList = false := by rw [wellDig, hf]; rfl
              have HR := hide (HB.out hb)
              clear hb hf
              rcases (show s[k].toNat < 48 ∨ (48 ≤ s[k].toNat ∧ 57 < s[k].toNat) by omega) with h3 | ⟨h3, h4⟩
              all_goals
                clear hc
                go_wp2
                go_ret2
                exact ⟨by rw [HR.out]; rfl, hB1⟩
          · have hall : s.data.toList.all isDig = true := by
              have := HA.out
              rwa [List.take_of_length_le (by rw [bytes_len]; omega)] at this
            have hw := HW.out hall
            by_cases hlong : 400 < s.size
            · first
                | (exfalso; omega)
                | (have HR := hide (HL.out hw hlong); clear hw hall; go_wp2; go_ret2; exact ⟨by rw [HR.out]; rfl, hB1⟩)
            · have HR := hide (HG.out hw hlong)
              have HALL := hide hall
              clear hw hall HL HG HB HW
              go_wp2
              go_loopw [5, 6] (fun v i wr => ∃ k : Nat, k ≤ s.size ∧ i = .int .i64 k ∧ v = .string (B (dval (s.data.toList.take k))) ∧ Below w.heap.size w wr) (fun _ i _ => s.size - (intOf i).toNat)
              case atStart => exact ⟨0, Nat.zero_le _, rfl, by rw [List.take_zero, show dval [] = 0 from rfl, B_zero], hB1⟩
              case round =>
                obtain ⟨m, hm, rfl, rfl, hBr⟩ := hrel
                by_cases hmt : m < s.size
                · have hcd : 48 ≤ s[m].toNat ∧ s[m].toNat ≤ 57 := by
                    have := List.all_eq_true.1 HALL.out s[m] (by
                      have e : s.data.toList[m]'(by rw [bytes_len]; exact hmt) = s[m] := rfl
                      rw [← e]; exact List.getElem_mem _)
                    simpa [isDig] using this
                  have hsd := dval_size _ (all_take HALL.out m)
                  have hlen : (s.data.toList.take m).length ≤ 400 := by rw [List.length_take, bytes_len]; omega
                  have hdn : dval (s.data.toList.take (m + 1)) = dval (s.data.toList.take m) * 10 + (s[m].toNat - 48) := by rw [take_snoc s m hmt, dval_snoc]
                  have hs2 : (B (dval (s.data.toList.take m) * 10)).size ≤ 1000 := by
                    have := sz_mul (dval (s.data.toList.take m)) 10
                    have : (B 10).size ≤ 1 := by rw [B_size]; exact bn_fits 1 10 (by decide)
                    omega
                  have hmu := fun V => rMul_any (B (dval (s.data.toList.take m))) ⟨#[10]⟩ V (by omega) (by show 1 ≤ _; omega)
                  rw [N_B, show N ⟨#[10]⟩ = 10 from rfl] at hmu
                  have hof := fun V => rOf_any ((s[m].toNat : Int) - 48) V (by omega) (by omega)
                  rw [show ((s[m].toNat : Int) - 48).toNat = s[m].toNat - 48 by omega] at hof
                  have hs3 : (B (s[m].toNat - 48)).size ≤ 1 := by rw [B_size]; exact bn_fits 1 _ (by show _ < 256; omega)
                  have had := fun V => rAdd_any (B (dval (s.data.toList.take m) * 10)) (B (s[m].toNat - 48)) V (by omega) (by omega)
                  rw [N_B, N_B, ← hdn] at had
                  have HMU := hide hmu
                  have HOF := hide hof
                  have HAD := hide had
                  obtain ⟨hc1, hc2⟩ := hcd
                  clear hmu hof had hdn hsd hlen hs2 hs3
                  go_wp2_with fail
                  refine (HMU.out _).mono ?_
                  rintro e w2 ⟨rfl, hb2⟩
                  go_wp2_with fail
                  refine (HOF.out _).mono ?_
                  rintro e w3 ⟨rfl, hb3⟩
                  go_wp2_with fail
                  refine (HAD.out _).mono ?_
                  rintro e w4 ⟨rfl, hb4⟩
                  have hB2 := hBr.trans (hb2.mono hBr.size)
                  have hB3 := hB2.trans (hb3.mono hB2.size)
                  have hB4 := hB3.trans (hb4.mono hB3.size)
                  go_wp2
                  go_roundw
                  case rel =>
                    first
                      | exact ⟨m + 1, by omega, by go_num, rfl, hB4⟩
                      | ((repeat apply Exists.intro); exact ⟨⟨m + 1, by omega, by go_num, rfl, hB4⟩, rfl⟩)
                  case measure => simp [intOf]; omega
                · obtain rfl : m = s.size := by omega
                  rw [List.take_of_length_le (by rw [bytes_len]; exact Nat.le_refl _)]
                  go_wp2
                  go_ret2
                  exact ⟨by rw [HR.out]; rfl, hBr⟩
end Go.Proofs.YtmkilmcmgdoiiaaGreatDoor

/- What a text of a fraction stands for: plain facts. -/
namespace Go.Proofs.YtmkilmcmgdoiiaaGreatDoor
open Go.RowKit Go.Lib

theorem idx_cons (b c : UInt8) (l : List UInt8) : index (b :: l) [c] = if b = c then 0 else if index l [c] = -1 then -1 else index l [c] + 1 := by
  rw [index]
  have : List.isPrefixOf [c] (b :: l) = (c == b) := by simp [List.isPrefixOf]
  rw [this]
  by_cases h : b = c
  · subst h; simp
  · have h' : ¬ c = b := fun e => h e.symm
    simp [h, h']
theorem idx_skip (c : UInt8) (a b : List UInt8) : (∀ x ∈ a, ¬ x = c) → index (a ++ b) [c] = if index b [c] = -1 then -1 else a.length + index b [c] := by
  induction a with
  | nil => intro _; simp
  | cons x a ih =>
    intro h
    rw [List.cons_append, idx_cons, if_neg (h x (by simp)), ih fun y hy => h y (by simp [hy])]
    have := index_ge b [c]
    by_cases e : index b [c] = -1
    · simp [e]
    · rw [if_neg e, if_neg e, if_neg (by omega)]
      simp
      omega
theorem idx_hit (c : UInt8) (a b : List UInt8) (h : ∀ x ∈ a, ¬ x = c) : index (a ++ c :: b) [c] = a.length := by
  rw [idx_skip c a _ h, idx_cons, if_pos rfl, if_neg (by decide)]; simp
theorem idx_none (c : UInt8) (a : List UInt8) (h : ∀ x ∈ a, ¬ x = c) : index a [c] = -1 := by
  have := idx_skip c a [] h
  rw [List.append_nil] at this
  rw [this]; rfl
/-- Where a byte first stands in a text; -1. -/
def ix (s : ByteArray) (c : UInt8) : Int := index s.data.toList [c]
theorem ix_cases (s : ByteArray) (c : UInt8) : ix s c = -1 ∨ ∃ i : Nat, ix s c = i ∧ i + 1 ≤ s.size := indexB_cases s ⟨#[c]⟩

/-- What is answered to n/m, n.d, n: an error, or 0 and the number. -/
def pquo (a b : ByteArray) : Int × Rat :=
  if (pres a).2 ≠ 0 then ((pres a).2, 0) else if (pres b).2 ≠ 0 then ((pres b).2, 0) else if N (pres b).1 = 0 then (3, 0) else (0, val false (pres a).1 (pres b).1)
def pdec (a b : ByteArray) : Int × Rat :=
  if (pres a).2 ≠ 0 then ((pres a).2, 0) else if allDig b.data.toList = false then (1, 0) else if 400 ≤ b.size then (2, 0) else (0, val false (B (N (pres a).1 * 10 ^ b.size + dval b.data.toList)) (B (10 ^ b.size)))
def pone (a : ByteArray) : Int × Rat := if (pres a).2 ≠ 0 then ((pres a).2, 0) else (0, val false (pres a).1 (B 1))
def psz (s : ByteArray) : Int × Rat :=
  if 0 ≤ ix s 47 then pquo (s.extract 0 (ix s 47).toNat) (s.extract ((ix s 47).toNat + 1) s.size)
  else if 0 ≤ ix s 46 then pdec (s.extract 0 (ix s 46).toNat) (s.extract ((ix s 46).toNat + 1) s.size) else pone s
def fpar (s : ByteArray) : Int × Rat := if hasPrefix s.data.toList [45] = true then ((psz (s.extract 1 s.size)).1, -(psz (s.extract 1 s.size)).2) else psz s
def fval (r : Int × Rat) : Value := if r.1 = 0 then C r.2 else .agg #[.bool false, .string ⟨#[]⟩, .string ⟨#[]⟩]

theorem pres_size (s : ByteArray) : (pres s).1.size ≤ 400 := by
  rw [pres]
  split
  · split
    · show 0 ≤ _; omega
    · rename_i h1 h2
      have h3 : s.data.toList.all isDig = true := by
        have := h1
        simp only [wellDig, allDig, Bool.and_eq_true] at this
        exact this.1.2
      have := dval_size _ h3
      rw [bytes_len] at this
      show (B _).size ≤ _
      omega
  · show 0 ≤ _; omega
theorem pres_nonneg (s : ByteArray) : 0 ≤ (pres s).2 ∧ (pres s).2 ≤ 2 := by
  rw [pres]
  split
  · split <;> exact ⟨by simp, by simp⟩
  · exact ⟨by simp, by simp⟩
theorem dval_cons (c : UInt8) (l : List UInt8) : dval (c :: l) = (c.toNat - 48) * 10 ^ l.length + dval l := by
  induction l using snoc_ind with
  | h0 => simp [dval]
  | h1 l d ih =>
    rw [← List.cons_append, dval_snoc, ih, dval_snoc, List.length_append, List.length_singleton, Nat.pow_succ, Nat.add_mul, Nat.mul_assoc]
    omega
theorem dval_zeros (n : Nat) : dval (List.replicate n 48) = 0 := by
  induction n with
  | zero => rfl
  | succ n ih => rw [List.replicate_succ, dval_cons, ih]; simp
theorem cat_data (a b : ByteArray) : (a ++ b).data.toList = a.data.toList ++ b.data.toList := by rw [ByteArray.data_append, Array.toList_append]
theorem pres_mark (b : ByteArray) (hb : 0 < b.size) : pres (⟨#[49]⟩ ++ b) = if allDig b.data.toList = false then (⟨#[]⟩, 1) else if 400 ≤ b.size then (⟨#[]⟩, 2) else (B (10 ^ b.size + dval b.data.toList), 0) := by
  have hs : (⟨#[49]⟩ ++ b : ByteArray).size = b.size + 1 := by rw [ByteArray.size_append]; show 1 + _ = _; omega
  have hd : (⟨#[49]⟩ ++ b : ByteArray).data.toList = 49 :: b.data.toList := by rw [cat_data]; rfl
  have hne : b.data.toList.isEmpty = false := by
    cases hl : b.data.toList with
    | nil => rw [← bytes_len, hl] at hb; exact absurd hb (by decide)
    | cons x r => rfl
  have hw : wellDig (49 :: b.data.toList) = allDig b.data.toList := by
    simp [wellDig, allDig, hne, isDig]
  rw [pres, hd, hs, hw]
  cases h : allDig b.data.toList with
  | false => simp
  | true =>
    by_cases h4 : 400 ≤ b.size
    · rw [if_pos rfl, if_pos (show 400 < b.size + 1 by omega), if_neg (show ¬ true = false by decide), if_pos h4]
    · rw [if_pos rfl, if_neg (show ¬ 400 < b.size + 1 by omega), if_neg (show ¬ true = false by decide), if_neg h4, dval_cons, bytes_len]
      simp
theorem pres_ten (z : ByteArray) (n : Nat) (hz : z.data.toList = List.replicate n 48) (h0 : 0 < n) (h4 : n < 400) : pres (⟨#[49]⟩ ++ z) = (B (10 ^ n), 0) := by
  have hs : z.size = n := by rw [← bytes_len, hz, List.length_replicate]
  have ha : allDig z.data.toList = true := by
    rw [hz]
    simp [allDig, isDig]
    omega
  rw [pres_mark z (by omega), ha, if_neg (by decide), if_neg (by omega), hs, hz, dval_zeros, Nat.add_zero]
theorem repeat_zeros (n : Nat) : repeatL [48] n = List.replicate n 48 := by
  induction n with
  | zero => rfl
  | succ n ih => rw [repeatL, ih, List.replicate_succ]; rfl
theorem ten_size (n : Nat) : (B (10 ^ n)).size ≤ n + 1 := by
  rw [B_size]
  refine bn_fits _ _ ?_
  have : 10 ^ n ≤ 256 ^ n := Nat.pow_le_pow_left (by decide) n
  rw [Nat.pow_succ]
  have : 0 < 256 ^ n := Nat.pow_pos (by decide)
  omega
end Go.Proofs.YtmkilmcmgdoiiaaGreatDoor
