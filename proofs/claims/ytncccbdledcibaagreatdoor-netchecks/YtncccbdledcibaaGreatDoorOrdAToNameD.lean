/- Plain: the order of nodes, each behind its parents, the least first. -/
import Derived.Test.YtncccbdledcibaaGreatDoorTabP2ToSetC
import Derived.Test.YtncccbdledcibaaGreatDoorCore2bToReckC
namespace Go.Proofs.YtncccbdledcibaaGreatDoor

/-- May a node come next? -/
def freeB (P : List (List Nat)) (out : List Nat) (v : Nat) : Bool := !decide (v ∈ out) && decide (∀ u ∈ P.getD v [], u ∈ out)
/-- The least that may. -/
def nextV (P : List (List Nat)) (out : List Nat) : Option Nat := (List.range P.length).find? (freeB P out)
/-- Those that stand there behind k steps. -/
def ordN (P : List (List Nat)) : Nat → List Nat
  | 0 => []
  | k + 1 => match nextV P (ordN P k) with
    | some v => ordN P k ++ [v]
    | none => ordN P k
theorem find_range {p : Nat → Bool} : ∀ {n v : Nat}, v < n → p v = true → (∀ u, u < v → p u = false) → (List.range n).find? p = some v := by
  intro n
  induction n with
  | zero => intro v h; omega
  | succ n ih =>
    intro v hv hp hu
    rw [List.range_succ, List.find?_append]
    rcases Nat.lt_or_ge v n with h | h
    · rw [ih h hp hu]; rfl
    · obtain rfl : v = n := by omega
      have : (List.range v).find? p = none := List.find?_eq_none.2 fun u hu' => by rw [hu u (List.mem_range.1 hu')]; decide
      rw [this]
      simp [hp]
theorem next_some {P : List (List Nat)} {out : List Nat} {v : Nat} (hv : v < P.length) (hp : freeB P out v = true) (hu : ∀ u, u < v → freeB P out u = false) : nextV P out = some v := find_range hv hp hu
theorem next_none {P : List (List Nat)} {out : List Nat} (hu : ∀ u, u < P.length → freeB P out u = false) : nextV P out = none := List.find?_eq_none.2 fun u hu' => by rw [hu u (List.mem_range.1 hu')]; decide
theorem ord_some {P : List (List Nat)} {k v : Nat} (h : nextV P (ordN P k) = some v) : ordN P (k + 1) = ordN P k ++ [v] := by rw [ordN, h]
theorem ord_none {P : List (List Nat)} {k : Nat} (h : nextV P (ordN P k) = none) : ∀ j, ordN P (k + j) = ordN P k
  | 0 => rfl
  | j + 1 => by
    have ih := ord_none h j
    show ordN P (k + j + 1) = _
    rw [ordN, ih, h]
theorem ord_stuck {P : List (List Nat)} {k n : Nat} (h : nextV P (ordN P k) = none) (hk : k ≤ n) : ordN P n = ordN P k := by
  have := ord_none h (n - k)
  rwa [show k + (n - k) = n by omega] at this
theorem ord_len (P : List (List Nat)) : ∀ k, (ordN P k).length ≤ k
  | 0 => Nat.le_refl _
  | k + 1 => by
    have := ord_len P k
    rw [ordN]
    cases nextV P (ordN P k) with
    | none => show (ordN P k).length ≤ _; omega
    | some v => show (ordN P k ++ [v]).length ≤ _; rw [List.length_append]; simp; omega
theorem ord_lt (P : List (List Nat)) : ∀ k, ∀ v ∈ ordN P k, v < P.length
  | 0, v, hv => by cases hv
  | k + 1, v, hv => by
    rw [ordN] at hv
    cases e : nextV P (ordN P k) with
    | none => rw [e] at hv; exact ord_lt P k v hv
    | some u =>
      rw [e] at hv
      rcases List.mem_append.1 hv with h | h
      · exact ord_lt P k v h
      · obtain rfl := List.mem_singleton.1 h
        exact List.mem_range.1 (List.mem_of_find?_eq_some e)
theorem ord_full (P : List (List Nat)) {k : Nat} (h : nextV P (ordN P k) = none) (hk : k < P.length) : (ordN P P.length).length < P.length := by
  rw [ord_stuck h (Nat.le_of_lt hk)]
  have := ord_len P k
  omega
/-- The parents, as numbers. -/
def parN (L : List (List Int)) : List (List Nat) := L.map toN
theorem parN_length (L : List (List Int)) : (parN L).length = L.length := by simp [parN]
theorem parN_get {L : List (List Int)} {i : Nat} (h : i < L.length) : (parN L).getD i [] = toN L[i] := by simp [parN, List.getD_eq_getElem?_getD, h]
theorem masks_par (L : List (List Int)) : masks L = (parN L).map mskN := by simp [masks, parN]
theorem iL_append (a b : List Nat) : iL (a ++ b) = iL a ++ iL b := by simp [iL]
/-- What Check answers. -/
def gcE (L : List (List Int)) : Int := if gB L = true then (if (ordN (parN L) L.length).length < L.length then 10 else 0) else 11
end Go.Proofs.YtncccbdledcibaaGreatDoor

/- Names: packages net and the document's answer. -/
namespace Go.Proofs.YtncccbdledcibaaGreatDoor
open Go.RowKit

def letN (c : Nat) : Bool := decide (97 ≤ c ∧ c ≤ 122)
def figN (c : Nat) : Bool := decide (48 ≤ c ∧ c ≤ 57)
def worN (c : Nat) : Bool := letN c || figN c || decide (c = 95)
/-- Like a word. -/
def wordB (s : ByteArray) : Bool := (s.data.toList.all fun c => worN c.toNat) && letN (s.data.toList.headD 0).toNat
def isVar (s : ByteArray) : Bool := s.toList == [118, 97, 114]
def isElse (s : ByteArray) : Bool := s.toList == [101, 108, 115, 101]
/-- A name. -/
def nameB (s : ByteArray) : Bool := decide (s.size ≤ 12) && !isVar s && !isElse s && wordB s

theorem letN_eq (c : Nat) : letN c = decide (97 ≤ c ∧ c ≤ 122) := rfl
set_option maxRecDepth 100000 in
set_option maxHeartbeats 400000 in
theorem nLetter_any (c : Nat) (w : World) : Calls Tryz.prog 142 #[.int .u8 (c : Nat)] w fun e w' => e = .returned (.bool (letN c)) ∧ w' = w := by
  rw [letN]
  by_cases h1 : 97 ≤ c
  · have HE : Hid (decide ((c : Int) ≤ 122) = decide (97 ≤ c ∧ c ≤ 122)) := decide_eq_decide.2 ⟨fun h => ⟨h1, by omega⟩, fun h => by omega⟩
    have e1 : (97 : Int) ≤ (c : Int) := by omega
    go_enter Tryz.func142, Tryz.ntmps142
    go_wp2
    go_ret
    exact ⟨by rw [← HE.out]; rfl, rfl⟩
  · have HE : Hid (decide (97 ≤ c ∧ c ≤ 122) = false) := decide_eq_false fun h => h1 h.1
    rw [HE.out]
    have e1 : (c : Int) < 97 := by omega
    clear h1
    go_enter Tryz.func142, Tryz.ntmps142
    go_wp2
    go_ret
    exact ⟨rfl, rfl⟩
set_option maxRecDepth 100000 in
set_option maxHeartbeats 400000 in
theorem rLetter_any (c : Nat) (w : World) : Calls Tryz.prog 147 #[.int .u8 (c : Nat)] w fun e w' => e = .returned (.bool (letN c)) ∧ w' = w := by
  rw [letN]
  by_cases h1 : 97 ≤ c
  · have HE : Hid (decide ((c : Int) ≤ 122) = decide (97 ≤ c ∧ c ≤ 122)) := decide_eq_decide.2 ⟨fun h => ⟨h1, by omega⟩, fun h => by omega⟩
    have e1 : (97 : Int) ≤ (c : Int) := by omega
    go_enter Tryz.func147, Tryz.ntmps147
    go_wp2
    go_ret
    exact ⟨by rw [← HE.out]; rfl, rfl⟩
  · have HE : Hid (decide (97 ≤ c ∧ c ≤ 122) = false) := decide_eq_false fun h => h1 h.1
    rw [HE.out]
    have e1 : (c : Int) < 97 := by omega
    clear h1
    go_enter Tryz.func147, Tryz.ntmps147
    go_wp2
    go_ret
    exact ⟨rfl, rfl⟩
set_option maxRecDepth 100000 in
set_option maxHeartbeats 400000 in
theorem nDigit_any (c : Nat) (w : World) : Calls Tryz.prog 165 #[.int .u8 (c : Nat)] w fun e w' => e = .returned (.bool (figN c)) ∧ w' = w := by
  rw [figN]
  by_cases h1 : 48 ≤ c
  · have HE : Hid (decide ((c : Int) ≤ 57) = decide (48 ≤ c ∧ c ≤ 57)) := decide_eq_decide.2 ⟨fun h => ⟨h1, by omega⟩, fun h => by omega⟩
    have e1 : (48 : Int) ≤ (c : Int) := by omega
    go_enter Tryz.func165, Tryz.ntmps165
    go_wp2
    go_ret
    exact ⟨by rw [← HE.out]; rfl, rfl⟩
  · have HE : Hid (decide (48 ≤ c ∧ c ≤ 57) = false) := decide_eq_false fun h => h1 h.1
    rw [HE.out]
    have e1 : (c : Int) < 48 := by omega
    clear h1
    go_enter Tryz.func165, Tryz.ntmps165
    go_wp2
    go_ret
    exact ⟨rfl, rfl⟩
set_option maxRecDepth 100000 in
set_option maxHeartbeats 400000 in
theorem rFigure_any (c : Nat) (w : World) : Calls Tryz.prog 148 #[.int .u8 (c : Nat)] w fun e w' => e = .returned (.bool (figN c)) ∧ w' = w := by
  rw [figN]
  by_cases h1 : 48 ≤ c
  · have HE : Hid (decide ((c : Int) ≤ 57) = decide (48 ≤ c ∧ c ≤ 57)) := decide_eq_decide.2 ⟨fun h => ⟨h1, by omega⟩, fun h => by omega⟩
    have e1 : (48 : Int) ≤ (c : Int) := by omega
    go_enter Tryz.func148, Tryz.ntmps148
    go_wp2
    go_ret
    exact ⟨by rw [← HE.out]; rfl, rfl⟩
  · have HE : Hid (decide (48 ≤ c ∧ c ≤ 57) = false) := decide_eq_false fun h => h1 h.1
    rw [HE.out]
    have e1 : (c : Int) < 48 := by omega
    clear h1
    go_enter Tryz.func148, Tryz.ntmps148
    go_wp2
    go_ret
    exact ⟨rfl, rfl⟩
set_option maxRecDepth 100000 in
set_option maxHeartbeats 400000 in
theorem nGoes_any (c : Nat) (w : World) : Calls Tryz.prog 141 #[.int .u8 (c : Nat)] w fun e w' => e = .returned (.bool (worN c)) ∧ w' = w := by
  have HW : Hid (worN c = (letN c || figN c || decide (c = 95))) := rfl
  have HL := hid (nLetter_any c)
  have HF := hid (nDigit_any c)
  generalize worN c = r at *
  go_enter Tryz.func141, Tryz.ntmps141
  go_wp2_with fail
  refine (HL.out _).mono ?_
  rintro e w1 ⟨rfl, rfl⟩
  cases hl : letN c with
  | true =>
    rw [hl] at HW
    have HE : Hid (r = true) := HW.out
    clear hl
    go_wp2
    go_ret
    exact ⟨by rw [HE.out]; rfl, rfl⟩
  | false =>
    rw [hl] at HW
    go_wp2_with fail
    refine (HF.out _).mono ?_
    rintro e w2 ⟨rfl, rfl⟩
    cases hf : figN c with
    | true =>
      rw [hf] at HW
      have HE : Hid (r = true) := HW.out
      clear hl hf
      go_wp2
      go_ret
      exact ⟨by rw [HE.out]; rfl, rfl⟩
    | false =>
      rw [hf] at HW
      have HE : Hid (r = ((c : Int) == 95)) := by
        show _ = _
        rw [HW.out, Bool.false_or, Bool.false_or, Bool.eq_iff_iff, decide_eq_true_iff, beq_iff_eq]
        omega
      clear hl hf
      go_wp2
      go_ret
      exact ⟨by rw [HE.out]; rfl, rfl⟩
end Go.Proofs.YtncccbdledcibaaGreatDoor

/- Names: isName, of package net and of the document's answer. -/
namespace Go.Proofs.YtncccbdledcibaaGreatDoor
open Go.RowKit

theorem take_byte {s : ByteArray} {k : Nat} (h : k < s.size) : s.data.toList.take (k + 1) = s.data.toList.take k ++ [s[k]] := by
  have h' : k < s.data.toList.length := by simpa using h
  rw [List.take_succ_eq_append_getElem h']
  rfl
theorem word_bad {s : ByteArray} {k : Nat} (h : k < s.size) (e : worN s[k].toNat = false) : wordB s = false := by
  have hm : s[k] ∈ s.data.toList := by
    have : s.data.toList[k]'(by simpa using h) = s[k] := rfl
    rw [← this]; exact List.getElem_mem _
  have : (s.data.toList.all fun c => worN c.toNat) = false := by
    rw [List.all_eq_false]; exact ⟨_, hm, by rw [e]; decide⟩
  rw [wordB, this]; rfl
theorem head_zero {s : ByteArray} (h : 0 < s.size) : s.data.toList.headD 0 = s[0] := by
  obtain ⟨⟨l⟩⟩ := s
  cases l with
  | nil => exact absurd h (by decide)
  | cons c l => rfl
theorem word_full {s : ByteArray} (h : 0 < s.size) (e : (s.data.toList.take s.size).all (fun c => worN c.toNat) = true) : wordB s = letN s[0].toNat := by
  have e2 : s.data.toList.all (fun c => worN c.toNat) = true := by
    rwa [List.take_of_length_le (by simp)] at e
  rw [wordB, e2, Bool.true_and, head_zero h]
theorem wor_let {c : Nat} (h : letN c = true) : worN c = true := by rw [worN, h]; rfl

set_option maxRecDepth 100000 in
set_option maxHeartbeats 1000000 in
theorem nName_any (s : ByteArray) (w : World) (hs : s.size ≤ 140737488355328) :
    Calls Tryz.prog 107 #[.string s] w fun e w' => e = .returned (.bool (nameB s)) ∧ w' = w := by
  have HN : Hid (nameB s = (decide (s.size ≤ 12) && !isVar s && !isElse s && wordB s)) := rfl
  have HWB := hid (fun k h e => word_bad (s := s) (k := k) h e)
  have HWF := hid (fun h e => word_full (s := s) h e)
  have HW0 : Hid (s.size = 0 → wordB s = false) := fun h => by
    have : s.data.toList = [] := List.length_eq_zero_iff.1 (by rw [Array.length_toList]; exact h)
    rw [wordB, this]; rfl
  generalize nameB s = nb at *
  generalize wordB s = wb at *
  by_cases h0 : s.size = 0
  · have HE : Hid (nb = false) := by show _ = _; rw [HN.out, HW0.out h0]; simp
    have e1 : (s.size : Int) < 1 := by omega
    clear h0 HN
    go_enter Tryz.func107, Tryz.ntmps107
    go_wp2
    go_ret
    exact ⟨by rw [HE.out]; rfl, rfl⟩
  by_cases h12 : 12 < s.size
  · have HE : Hid (nb = false) := by show _ = _; rw [HN.out, decide_eq_false (show ¬ s.size ≤ 12 by omega)]; rfl
    have e1 : (1 : Int) ≤ (s.size : Int) := by omega
    have e2 : (12 : Int) < (s.size : Int) := by omega
    clear h0 HN
    go_enter Tryz.func107, Tryz.ntmps107
    go_wp2
    go_ret
    exact ⟨by rw [HE.out]; rfl, rfl⟩
  have e1 : (1 : Int) ≤ (s.size : Int) := by omega
  have e2 : (s.size : Int) ≤ 12 := by omega
  cases hv : isVar s with
  | true =>
    have HE : Hid (nb = false) := by show _ = _; rw [HN.out, hv]; simp
    rw [isVar] at hv
    clear HN h0 h12
    go_enter Tryz.func107, Tryz.ntmps107
    go_wp2
    go_ret
    exact ⟨by rw [HE.out]; rfl, rfl⟩
  | false =>
    cases he : isElse s with
    | true =>
      have HE : Hid (nb = false) := by show _ = _; rw [HN.out, he]; simp
      rw [isVar] at hv
      rw [isElse] at he
      clear HN h0 h12
      go_enter Tryz.func107, Tryz.ntmps107
      go_wp2
      go_ret
      exact ⟨by rw [HE.out]; rfl, rfl⟩
    | false =>
      have HE : Hid (nb = wb) := by show _ = _; rw [HN.out, hv, he, decide_eq_true (show s.size ≤ 12 by omega)]; simp
      rw [isVar] at hv
      rw [isElse] at he
      have h1 : 0 < s.size := by omega
      clear HN h0 h12
      go_enter Tryz.func107, Tryz.ntmps107
      go_wp2_with fail
      go_loopw [22] (fun iv wr => ∃ k : Nat, k ≤ s.size ∧ iv = .int .i64 k ∧ Hid ((s.data.toList.take k).all (fun c => worN c.toNat) = true) ∧ wr = w) (fun iv _ => s.size - (intOf iv).toNat)
      case atStart => exact ⟨0, Nat.zero_le _, rfl, rfl, rfl⟩
      case round =>
        obtain ⟨k, hk, rfl, HA, rfl⟩ := hrel
        by_cases hlt : k < s.size
        · have HB := hid (HWB.out k hlt)
          have HT : Hid (worN s[k].toNat = true → (s.data.toList.take (k + 1)).all (fun c => worN c.toNat) = true) := fun h => by
            rw [take_byte hlt, List.all_append, HA.out]
            simp [h]
          go_wp2_with fail
          refine (nGoes_any s[k].toNat _).mono ?_
          rintro e w1 ⟨rfl, rfl⟩
          cases hw : worN s[k].toNat with
          | false =>
            have HF := hid (HB.out hw)
            clear hw
            go_wp2
            go_ret
            exact ⟨by rw [HE.out, HF.out]; rfl, rfl⟩
          | true =>
            have HS := hid (HT.out hw)
            clear hw
            go_wp2
            go_roundw
            case rel => exact ⟨k + 1, by omega, by go_num, HS, trivial⟩
            case measure => simp [intOf]; omega
        · obtain rfl : k = s.size := by omega
          have HF := hid (HWF.out h1 HA.out)
          go_wp2_with fail
          refine (nLetter_any s[0].toNat _).mono ?_
          rintro e w1 ⟨rfl, rfl⟩
          go_wp2
          go_ret
          exact ⟨by rw [HE.out, HF.out]; rfl, rfl⟩

theorem word_head {s : ByteArray} (h : 0 < s.size) (e : letN s[0].toNat = false) : wordB s = false := by rw [wordB, head_zero h, e, Bool.and_false]
set_option maxRecDepth 100000 in
set_option maxHeartbeats 1000000 in
theorem rWord_any (s : ByteArray) (w : World) (hs : s.size ≤ 140737488355328) :
    Calls Tryz.prog 113 #[.string s] w fun e w' => e = .returned (.bool (wordB s)) ∧ w' = w := by
  have HWB := hid (fun k h e => word_bad (s := s) (k := k) h e)
  have HWH := hid (fun h e => word_head (s := s) h e)
  have HWF := hid (fun h e => word_full (s := s) h e)
  have HW0 : Hid (s.size = 0 → wordB s = false) := fun h => by
    have : s.data.toList = [] := List.length_eq_zero_iff.1 (by rw [Array.length_toList]; exact h)
    rw [wordB, this]; rfl
  generalize wordB s = wb at *
  go_enter Tryz.func113, Tryz.ntmps113
  go_wp2_with fail
  go_loopw [3] (fun iv wr => ∃ k : Nat, k ≤ s.size ∧ iv = .int .i64 k ∧ Hid ((s.data.toList.take k).all (fun c => worN c.toNat) = true ∧ (0 < k → ∀ h : 0 < s.size, letN s[0].toNat = true)) ∧ wr = w) (fun iv _ => s.size - (intOf iv).toNat)
  case atStart => exact ⟨0, Nat.zero_le _, rfl, ⟨rfl, fun h => absurd h (by omega)⟩, rfl⟩
  case round =>
    obtain ⟨k, hk, rfl, HA, rfl⟩ := hrel
    by_cases hlt : k < s.size
    · have HB := hid (HWB.out k hlt)
      have HT : Hid (worN s[k].toNat = true → (0 < k ∨ letN s[k].toNat = true) → (s.data.toList.take (k + 1)).all (fun c => worN c.toNat) = true ∧ (0 < k + 1 → ∀ h : 0 < s.size, letN s[0].toNat = true)) := fun h h' => ⟨by
        rw [take_byte hlt, List.all_append, HA.out.1]
        simp [h], fun _ h0 => h'.elim (fun h2 => HA.out.2 h2 h0) fun h2 => by
          by_cases e : k = 0
          · subst e; exact h2
          · exact HA.out.2 (by omega) h0⟩
      have HWk : Hid (worN s[k].toNat = (letN s[k].toNat || figN s[k].toNat || decide (s[k].toNat = 95))) := rfl
      go_wp2_with fail
      refine (rLetter_any s[k].toNat _).mono ?_
      rintro e w1 ⟨rfl, rfl⟩
      go_wp2_with fail
      refine (rFigure_any s[k].toNat _).mono ?_
      rintro e w2 ⟨rfl, rfl⟩
      cases hl : letN s[k].toNat with
      | true =>
        have HS := hid (HT.out (wor_let hl) (.inr hl))
        clear hl
        generalize figN s[k].toNat = q at *
        go_wp2
        go_roundw
        case rel => exact ⟨k + 1, by omega, by go_num, HS, trivial⟩
        case measure => simp [intOf]; omega
      | false =>
        rw [hl] at HWk
        by_cases hk0 : k = 0
        · subst hk0
          have HF := hid (HWH.out hlt hl)
          clear hl
          generalize figN s[0].toNat = q at *
          go_wp2
          go_ret
          exact ⟨by rw [HF.out]; rfl, rfl⟩
        · have hkb : ((k : Int) == 0) = false := by
            have : ¬ (k : Int) = 0 := by omega
            simpa using this
          have hk1 : 0 < k := by omega
          cases hf : figN s[k].toNat with
          | true =>
            rw [hf] at HWk
            have HS := hid (HT.out HWk.out (.inl hk1))
            clear hl hf hk0
            go_wp2
            go_roundw
            case rel => exact ⟨k + 1, by omega, by go_num, HS, trivial⟩
            case measure => simp [intOf]; omega
          | false =>
            rw [hf] at HWk
            by_cases h95 : s[k].toNat = 95
            · have HS := hid (HT.out (by rw [HWk.out, h95]; rfl) (.inl hk1))
              have h9 : (((s[k].toNat : Nat) : Int) != 95) = false := by rw [h95]; rfl
              clear hl hf hk0
              go_wp2
              go_roundw
              case rel => exact ⟨k + 1, by omega, by go_num, HS, trivial⟩
              case measure => simp [intOf]; omega
            · have HF := hid (HB.out (by rw [HWk.out, decide_eq_false h95]; rfl))
              have h9 : (((s[k].toNat : Nat) : Int) != 95) = true := by
                have : ¬ ((s[k].toNat : Nat) : Int) = 95 := by omega
                simpa using this
              clear hl hf hk0 h95
              go_wp2
              go_ret
              exact ⟨by rw [HF.out]; rfl, rfl⟩
    · obtain rfl : k = s.size := by omega
      by_cases h0 : s.size = 0
      · have HF := hid (HW0.out h0)
        have HI : Hid (s.toList.isEmpty = true) := by
          have : s.data.toList = [] := List.length_eq_zero_iff.1 (by rw [Array.length_toList]; exact h0)
          show _ = _
          rw [toList_data, this]; rfl
        clear h0 hlt
        go_wp2
        go_ret
        exact ⟨by rw [HF.out, HI.out]; rfl, rfl⟩
      · have HF := hid (HWF.out (by omega) HA.out.1)
        have HL := hid (HA.out.2 (by omega) (by omega))
        have HI : Hid (s.toList.isEmpty = false) := by
          have : ¬ s.data.toList = [] := fun e => h0 (by have := congrArg List.length e; rwa [Array.length_toList] at this)
          show _ = _
          rw [toList_data]
          simpa using this
        clear hlt
        go_wp2
        go_ret
        exact ⟨by rw [HF.out, HL.out, HI.out]; rfl, rfl⟩

set_option maxRecDepth 100000 in
set_option maxHeartbeats 1000000 in
theorem rName_any (s : ByteArray) (w : World) (hs : s.size ≤ 140737488355328) :
    Calls Tryz.prog 79 #[.string s] w fun e w' => e = .returned (.bool (nameB s)) ∧ w' = w := by
  have HN : Hid (nameB s = (decide (s.size ≤ 12) && !isVar s && !isElse s && wordB s)) := rfl
  have HW := hid (fun V : World => rWord_any s V hs)
  generalize nameB s = nb at *
  generalize wordB s = wb at *
  cases wb with
  | false =>
    have HE : Hid (nb = false) := by show _ = _; rw [HN.out, Bool.and_false]
    clear HN
    go_enter Tryz.func79, Tryz.ntmps79
    go_wp2_with fail
    refine (HW.out _).mono ?_
    rintro e w1 ⟨rfl, rfl⟩
    go_wp2
    go_ret
    exact ⟨by rw [HE.out]; rfl, rfl⟩
  | true =>
    by_cases h12 : 12 < s.size
    · have HE : Hid (nb = false) := by show _ = _; rw [HN.out, decide_eq_false (show ¬ s.size ≤ 12 by omega)]; rfl
      have e2 : (12 : Int) < (s.size : Int) := by omega
      clear HN
      go_enter Tryz.func79, Tryz.ntmps79
      go_wp2_with fail
      refine (HW.out _).mono ?_
      rintro e w1 ⟨rfl, rfl⟩
      go_wp2
      go_ret
      exact ⟨by rw [HE.out]; rfl, rfl⟩
    have e2 : (s.size : Int) ≤ 12 := by omega
    cases hv : isVar s with
    | true =>
      have HE : Hid (nb = false) := by show _ = _; rw [HN.out, hv]; simp
      rw [isVar] at hv
      have hv' : (s.toList != [118, 97, 114]) = false := by rw [bne, hv]; rfl
      clear HN h12
      go_enter Tryz.func79, Tryz.ntmps79
      go_wp2_with fail
      refine (HW.out _).mono ?_
      rintro e w1 ⟨rfl, rfl⟩
      go_wp2
      go_ret
      exact ⟨by rw [HE.out]; rfl, rfl⟩
    | false =>
      have HEL : Hid (nb = (s.toList != [101, 108, 115, 101])) := by show _ = _; rw [HN.out, hv, decide_eq_true (show s.size ≤ 12 by omega), Bool.and_true, bne, isElse]; simp
      rw [isVar] at hv
      have hv' : (s.toList != [118, 97, 114]) = true := by rw [bne, hv]; rfl
      clear HN h12
      go_enter Tryz.func79, Tryz.ntmps79
      go_wp2_with fail
      refine (HW.out _).mono ?_
      rintro e w1 ⟨rfl, rfl⟩
      go_wp2
      go_ret
      exact ⟨by rw [HEL.out]; rfl, rfl⟩
end Go.Proofs.YtncccbdledcibaaGreatDoor

/- Lists of names: checkNames of package net, namesOK of the document's answer. -/
namespace Go.Proofs.YtncccbdledcibaaGreatDoor
open Go.RowKit

/-- A list of texts in memory. -/
def StS (w : World) (a : Option Addr) (l : List ByteArray) : Prop := ∀ k (h : k < l.length), ∃ g o, a = some ⟨g, o, none⟩ ∧ g < w.heap.size ∧ w.cell? ⟨g, o + k, none⟩ = some (.string l[k])
theorem StS.below {w w' : World} {a : Option Addr} {l : List ByteArray} (h : StS w a l) (hb : Below w.heap.size w w') : StS w' a l := fun k hk => by
  obtain ⟨g, o, h1, h2, h3⟩ := h k hk
  exact ⟨g, o, h1, Nat.lt_of_lt_of_le h2 hb.size, (hb.cell (p := ⟨g, o + k, none⟩) h2).trans h3⟩
theorem StS.take {w : World} {a : Option Addr} {l : List ByteArray} (h : StS w a l) (i : Nat) : StS w a (l.take i) := fun k hk => by
  have hk' : k < l.length := by rw [List.length_take] at hk; omega
  obtain ⟨g, o, h1, h2, h3⟩ := h k hk'
  refine ⟨g, o, h1, h2, ?_⟩
  rw [List.getElem_take]
  exact h3
/-- The first error of so many. -/
def firstE (f : Nat → Int) : Nat → Int
  | 0 => 0
  | n + 1 => if firstE f n = 0 then f n else firstE f n
theorem firstE_none {f : Nat → Int} : ∀ {n : Nat}, (∀ j, j < n → f j = 0) → firstE f n = 0
  | 0, _ => rfl
  | n + 1, h => by rw [firstE, if_pos (firstE_none fun j hj => h j (by omega)), h n (by omega)]
theorem firstE_at {f : Nat → Int} {i : Nat} (h : ∀ j, j < i → f j = 0) (hi : f i ≠ 0) : ∀ {n : Nat}, i < n → firstE f n = f i
  | 0, hn => by omega
  | n + 1, hn => by
    rcases Nat.lt_or_ge i n with h1 | h1
    · rw [firstE, firstE_at h hi h1, if_neg hi]
    · obtain rfl : i = n := by omega
      rw [firstE, if_pos (firstE_none h)]
theorem zero_upto {f : Nat → Int} {i : Nat} (h : ∀ j, j < i → f j = 0) (hi : f i = 0) : ∀ j, j < i + 1 → f j = 0 := fun j hj => by
  rcases Nat.lt_or_ge j i with h1 | h1
  · exact h j h1
  · obtain rfl : j = i := by omega
    exact hi
/-- Is a text among these? -/
def memS (l : List ByteArray) (v : ByteArray) : Bool := l.any fun x => decide (x = v)
/-- What is wrong with a name. -/
def nameE (l : List ByteArray) (i : Nat) : Int := if nameB (l.getD i ⟨#[]⟩) = true then (if memS (l.take i) (l.getD i ⟨#[]⟩) = true then 7 else 0) else 4
/-- What is wrong with names. -/
def namesE (l : List ByteArray) : Int := firstE (nameE l) l.length
theorem getS {l : List ByteArray} {i : Nat} (h : i < l.length) : l.getD i ⟨#[]⟩ = l[i] := by rw [List.getD_eq_getElem?_getD, List.getElem?_eq_getElem h]; rfl
/-- The first place of a text. -/
def placeS (l : List ByteArray) (v : ByteArray) : Int := match l.findIdx? (fun x => decide (x = v)) with
  | some i => (i : Int)
  | none => -1
theorem bytes_eq {a b : ByteArray} : (a.toList == b.toList) = decide (a = b) := by
  rw [Bool.eq_iff_iff, beq_iff_eq, decide_eq_true_iff]
  constructor
  · intro h
    rw [toList_data, toList_data] at h
    obtain ⟨⟨x⟩⟩ := a
    obtain ⟨⟨y⟩⟩ := b
    simp only at h
    rw [h]
  · intro h; rw [h]
theorem place_at {l : List ByteArray} {v : ByteArray} {i : Nat} (h : i < l.length) (e : l[i] = v) (hn : ∀ j (hj : j < l.length), j < i → ¬ l[j] = v) : placeS l v = i := by
  have : l.findIdx? (fun x => decide (x = v)) = some i := List.findIdx?_eq_some_iff_getElem.2 ⟨h, decide_eq_true e, fun j hj => by
    rw [decide_eq_true_iff]
    exact hn j (by omega) hj⟩
  rw [placeS, this]
theorem place_no {l : List ByteArray} {v : ByteArray} (hn : ∀ j (hj : j < l.length), ¬ l[j] = v) : placeS l v = -1 := by
  have : l.findIdx? (fun x => decide (x = v)) = none := List.findIdx?_eq_none_iff.2 fun x hx => by
    obtain ⟨j, hj, rfl⟩ := List.getElem_of_mem hx
    exact decide_eq_false (hn j hj)
  rw [placeS, this]
theorem place_mem (l : List ByteArray) (v : ByteArray) : decide (0 ≤ placeS l v) = memS l v := by
  rw [Bool.eq_iff_iff, decide_eq_true_iff, memS, List.any_eq_true, placeS]
  cases e : l.findIdx? (fun x => decide (x = v)) with
  | some i =>
    obtain ⟨h, hp, _⟩ := List.findIdx?_eq_some_iff_getElem.1 e
    exact ⟨fun _ => ⟨l[i], List.getElem_mem h, hp⟩, fun _ => by show (0 : Int) ≤ (i : Int); omega⟩
  | none =>
    have := List.findIdx?_eq_none_iff.1 e
    exact ⟨fun h => by exact absurd (show (0 : Int) ≤ -1 from h) (by decide), fun ⟨x, hx, hp⟩ => by rw [this x hx] at hp; cases hp⟩
theorem place_lt {l : List ByteArray} {i : Nat} (h : i < l.length) : decide (placeS l l[i] < (i : Int)) = memS (l.take i) l[i] := by
  rw [Bool.eq_iff_iff, decide_eq_true_iff, memS, List.any_eq_true]
  have hex : ∃ k, l.findIdx? (fun x => decide (x = l[i])) = some k := by
    cases e : l.findIdx? (fun x => decide (x = l[i])) with
    | some k => exact ⟨k, rfl⟩
    | none => have := List.findIdx?_eq_none_iff.1 e l[i] (List.getElem_mem h); simp at this
  obtain ⟨k, hk⟩ := hex
  obtain ⟨h1, h2, h3⟩ := List.findIdx?_eq_some_iff_getElem.1 hk
  have e : placeS l l[i] = k := by rw [placeS, hk]
  rw [e]
  constructor
  · intro hlt
    have hki : k < i := by omega
    refine ⟨l[k], ?_, h2⟩
    rw [List.mem_take_iff_getElem]
    exact ⟨k, by omega, rfl⟩
  · rintro ⟨x, hx, hp⟩
    obtain ⟨j, hj, rfl⟩ := List.mem_take_iff_getElem.1 hx
    rcases Nat.lt_or_ge k i with h4 | h4
    · omega
    · exact absurd hp (h3 j (by omega))

set_option maxRecDepth 100000 in
set_option maxHeartbeats 1000000 in
theorem slIndexS_any (a : Option Addr) (ca : Nat) (l : List ByteArray) (v : ByteArray) (w : World) (h : StS w a l) (hn : l.length ≤ 140737488355328) :
    Calls Tryz.prog 143 #[.slice a l.length ca, .string v] w fun e w' => e = .returned (.int .i64 (placeS l v)) ∧ w' = w := by
  have HF := hid h
  have HP := hid (fun i h e hn => place_at (l := l) (v := v) (i := i) h e hn)
  have HQ := hid (fun hn => place_no (l := l) (v := v) hn)
  generalize placeS l v = r at *
  clear h
  go_enter Tryz.func143, Tryz.ntmps143
  go_wp2_with fail
  go_loopw [8] (fun iv wr => ∃ i : Nat, i ≤ l.length ∧ iv = .int .i64 i ∧ Hid (∀ j (hj : j < l.length), j < i → ¬ l[j] = v) ∧ wr = w) (fun iv _ => l.length - (intOf iv).toNat)
  case atStart => exact ⟨0, Nat.zero_le _, rfl, fun j _ h => absurd h (by omega), rfl⟩
  case round =>
    obtain ⟨i, hi, rfl, HN, rfl⟩ := hrel
    by_cases hlt : i < l.length
    · obtain ⟨g, o, rfl, hg, c0⟩ := HF.out i hlt
      have HPi := hid (fun e => HP.out i hlt e HN.out)
      have HNi : Hid (¬ l[i] = v → ∀ j (hj : j < l.length), j < i + 1 → ¬ l[j] = v) := fun h j hj hji => by
        rcases Nat.lt_or_ge j i with h2 | h2
        · exact HN.out j hj h2
        · obtain rfl : j = i := by omega
          exact h
      generalize l[i] = x at *
      by_cases e : x = v
      · have HE := hid (HPi.out e)
        subst e
        go_wp2
        go_ret
        exact ⟨by rw [HE.out]; rfl, rfl⟩
      · have HE := hid (HNi.out e)
        have e1 : (v.toList == x.toList) = false := by rw [bytes_eq]; exact decide_eq_false fun h => e h.symm
        clear e
        go_wp2
        go_roundw
        case rel => exact ⟨i + 1, by omega, by go_num, HE, trivial⟩
        case measure => simp [intOf]; omega
    · obtain rfl : i = l.length := by omega
      have HE := hid (HQ.out fun j hj => HN.out j hj hj)
      go_wp2
      go_ret
      exact ⟨by rw [HE.out]; rfl, rfl⟩

set_option maxRecDepth 100000 in
set_option maxHeartbeats 1000000 in
theorem slContainsS_any (a : Option Addr) (ca : Nat) (l : List ByteArray) (v : ByteArray) (w : World) (h : StS w a l) (hn : l.length ≤ 140737488355328) :
    Calls Tryz.prog 108 #[.slice a l.length ca, .string v] w fun e w' => e = .returned (.bool (memS l v)) ∧ w' = w := by
  have HF := hid h
  have HI := hid (fun (V : World) (hV : StS V a l) => slIndexS_any a ca l v V hV hn)
  have HM := hid (place_mem l v)
  generalize memS l v = m at *
  generalize placeS l v = r at *
  clear h
  go_enter Tryz.func108, Tryz.ntmps108
  go_wp2_with fail
  refine (HI.out _ HF.out).mono ?_
  rintro e w1 ⟨rfl, rfl⟩
  go_wp2
  go_ret
  exact ⟨by rw [← HM.out]; rfl, rfl⟩
set_option maxRecDepth 100000 in
set_option maxHeartbeats 1000000 in
theorem rHas_any (a : Option Addr) (ca : Nat) (l : List ByteArray) (v : ByteArray) (w : World) (h : StS w a l) (hn : l.length ≤ 140737488355328) :
    Calls Tryz.prog 80 #[.slice a l.length ca, .string v] w fun e w' => e = .returned (.int .i64 (placeS l v)) ∧ w' = w := by
  have HF := hid h
  have HP := hid (fun i h e hn => place_at (l := l) (v := v) (i := i) h e hn)
  have HQ := hid (fun hn => place_no (l := l) (v := v) hn)
  generalize placeS l v = r at *
  clear h
  go_enter Tryz.func80, Tryz.ntmps80
  go_wp2_with fail
  go_loopw [5] (fun iv wr => ∃ i : Nat, i ≤ l.length ∧ iv = .int .i64 i ∧ Hid (∀ j (hj : j < l.length), j < i → ¬ l[j] = v) ∧ wr = w) (fun iv _ => l.length - (intOf iv).toNat)
  case atStart => exact ⟨0, Nat.zero_le _, rfl, fun j _ h => absurd h (by omega), rfl⟩
  case round =>
    obtain ⟨i, hi, rfl, HN, rfl⟩ := hrel
    by_cases hlt : i < l.length
    · obtain ⟨g, o, rfl, hg, c0⟩ := HF.out i hlt
      have HPi := hid (fun e => HP.out i hlt e HN.out)
      have HNi : Hid (¬ l[i] = v → ∀ j (hj : j < l.length), j < i + 1 → ¬ l[j] = v) := fun h j hj hji => by
        rcases Nat.lt_or_ge j i with h2 | h2
        · exact HN.out j hj h2
        · obtain rfl : j = i := by omega
          exact h
      generalize l[i] = x at *
      by_cases e : x = v
      · have HE := hid (HPi.out e)
        subst e
        go_wp2
        go_ret
        exact ⟨by rw [HE.out]; rfl, rfl⟩
      · have HE := hid (HNi.out e)
        have e1 : (x.toList == v.toList) = false := by rw [bytes_eq]; exact decide_eq_false fun h => e h
        clear e
        go_wp2
        go_roundw
        case rel => exact ⟨i + 1, by omega, by go_num, HE, trivial⟩
        case measure => simp [intOf]; omega
    · obtain rfl : i = l.length := by omega
      have HE := hid (HQ.out fun j hj => HN.out j hj hj)
      go_wp2
      go_ret
      exact ⟨by rw [HE.out]; rfl, rfl⟩
end Go.Proofs.YtncccbdledcibaaGreatDoor

/- Lists of names: checkNames of package net, namesOK of the document's answer. -/
namespace Go.Proofs.YtncccbdledcibaaGreatDoor
open Go.RowKit

theorem nameE_word {l : List ByteArray} {i : Nat} (h : i < l.length) (e : nameB l[i] = false) : nameE l i = 4 := by rw [nameE, getS h, e, if_neg (by decide)]
theorem nameE_double {l : List ByteArray} {i : Nat} (h : i < l.length) (e : nameB l[i] = true) (e' : memS (l.take i) l[i] = true) : nameE l i = 7 := by rw [nameE, getS h, e, if_pos rfl, e', if_pos rfl]
theorem nameE_ok {l : List ByteArray} {i : Nat} (h : i < l.length) (e : nameB l[i] = true) (e' : memS (l.take i) l[i] = false) : nameE l i = 0 := by rw [nameE, getS h, e, if_pos rfl, e', if_neg (by decide)]

set_option maxRecDepth 100000 in
set_option maxHeartbeats 1000000 in
theorem checkNames_any (a : Option Addr) (ca : Nat) (l : List ByteArray) (w : World) (h : StS w a l) (hn : l.length ≤ 140737488355328) (hc : l.length ≤ ca) (hs : ∀ s ∈ l, s.size ≤ 140737488355328) :
    Calls Tryz.prog 74 #[.slice a l.length ca] w fun e w' => e = .returned (.int .i64 (namesE l)) ∧ w' = w := by
  have HF := hid h
  have HSZ := hid hs
  have HA : Hid (∀ i, i < l.length → (∀ j, j < i → nameE l j = 0) → ∀ k, nameE l i = k → k ≠ 0 → namesE l = k) := fun i hi hz k hk hk0 => by rw [namesE, firstE_at hz (by rw [hk]; exact hk0) hi, hk]
  have HZ : Hid ((∀ j, j < l.length → nameE l j = 0) → namesE l = 0) := fun h => firstE_none h
  have HW := hid (fun i h e => nameE_word (l := l) (i := i) h e)
  have HD := hid (fun i h e e' => nameE_double (l := l) (i := i) h e e')
  have HO := hid (fun i h e e' => nameE_ok (l := l) (i := i) h e e')
  generalize namesE l = r at *
  clear h hs
  go_enter Tryz.func74, Tryz.ntmps74
  go_wp2_with fail
  go_loopw [7] (fun iv wr => ∃ i : Nat, i ≤ l.length ∧ iv = .int .i64 i ∧ Hid (∀ j, j < i → nameE l j = 0) ∧ wr = w) (fun iv _ => l.length - (intOf iv).toNat)
  case atStart => exact ⟨0, Nat.zero_le _, rfl, fun j h => absurd h (by omega), rfl⟩
  case round =>
    obtain ⟨i, hi, rfl, HN, rfl⟩ := hrel
    by_cases hlt : i < l.length
    · obtain ⟨g, o, rfl, hg, c0⟩ := HF.out i hlt
      have hsz := HSZ.out l[i] (List.getElem_mem hlt)
      have HWi := hid (fun e => HA.out i hlt HN.out 4 (HW.out i hlt e) (by decide))
      have HDi := hid (fun e e' => HA.out i hlt HN.out 7 (HD.out i hlt e e') (by decide))
      have HOi := hid (fun e e' => zero_upto HN.out (HO.out i hlt e e'))
      have HTK := hid (HF.out.take i)
      have htl : (l.take i).length = i := by rw [List.length_take]; omega
      have HCO : Hid (∀ (v : ByteArray) (V : World), StS V (some ⟨g, o, none⟩) (l.take i) → Calls Tryz.prog 108 #[.slice (some ⟨g, o, none⟩) i ca, .string v] V fun e w' => e = .returned (.bool (memS (l.take i) v)) ∧ w' = V) := fun v V hV => by
        have := slContainsS_any (some ⟨g, o, none⟩) ca (l.take i) v V hV (by omega)
        rwa [htl] at this
      clear htl
      generalize l[i] = x at *
      go_wp2_with fail
      refine (nName_any x _ hsz).mono ?_
      rintro e w1 ⟨rfl, rfl⟩
      cases hnb : nameB x with
      | false =>
        have HE := hid (HWi.out hnb)
        clear hnb
        go_wp2
        go_ret
        exact ⟨by rw [HE.out]; rfl, rfl⟩
      | true =>
        go_wp2_with fail
        refine (HCO.out x _ HTK.out).mono ?_
        rintro e w2 ⟨rfl, rfl⟩
        cases hm : memS (l.take i) x with
        | true =>
          have HE := hid (HDi.out hnb hm)
          clear hnb hm
          go_wp2
          go_ret
          exact ⟨by rw [HE.out]; rfl, rfl⟩
        | false =>
          have HE := hid (HOi.out hnb hm)
          clear hnb hm
          go_wp2
          go_roundw
          case rel => exact ⟨i + 1, by omega, by go_num, HE, trivial⟩
          case measure => simp [intOf]; omega
    · obtain rfl : i = l.length := by omega
      have HE := hid (HZ.out HN.out)
      go_wp2
      go_ret
      exact ⟨by rw [HE.out]; rfl, rfl⟩
set_option maxRecDepth 100000 in
set_option maxHeartbeats 1000000 in
theorem rNamesOK_any (a : Option Addr) (ca : Nat) (l : List ByteArray) (w : World) (h : StS w a l) (hn : l.length ≤ 140737488355328) (hs : ∀ s ∈ l, s.size ≤ 140737488355328) :
    Calls Tryz.prog 44 #[.slice a l.length ca] w fun e w' => e = .returned (.int .i64 (namesE l)) ∧ w' = w := by
  have HF := hid h
  have HSZ := hid hs
  have HA : Hid (∀ i, i < l.length → (∀ j, j < i → nameE l j = 0) → ∀ k, nameE l i = k → k ≠ 0 → namesE l = k) := fun i hi hz k hk hk0 => by rw [namesE, firstE_at hz (by rw [hk]; exact hk0) hi, hk]
  have HZ : Hid ((∀ j, j < l.length → nameE l j = 0) → namesE l = 0) := fun h => firstE_none h
  have HW := hid (fun i h e => nameE_word (l := l) (i := i) h e)
  have HD := hid (fun i h e e' => nameE_double (l := l) (i := i) h e e')
  have HO := hid (fun i h e e' => nameE_ok (l := l) (i := i) h e e')
  have HPL := hid (fun i h => place_lt (l := l) (i := i) h)
  have HH := hid (fun (v : ByteArray) (V : World) (hV : StS V a l) => rHas_any a ca l v V hV hn)
  generalize namesE l = r at *
  clear h hs
  go_enter Tryz.func44, Tryz.ntmps44
  go_wp2_with fail
  go_loopw [3] (fun iv wr => ∃ i : Nat, i ≤ l.length ∧ iv = .int .i64 i ∧ Hid (∀ j, j < i → nameE l j = 0) ∧ wr = w) (fun iv _ => l.length - (intOf iv).toNat)
  case atStart => exact ⟨0, Nat.zero_le _, rfl, fun j h => absurd h (by omega), rfl⟩
  case round =>
    obtain ⟨i, hi, rfl, HN, rfl⟩ := hrel
    by_cases hlt : i < l.length
    · obtain ⟨g, o, rfl, hg, c0⟩ := HF.out i hlt
      have hsz := HSZ.out l[i] (List.getElem_mem hlt)
      have HWi := hid (fun e => HA.out i hlt HN.out 4 (HW.out i hlt e) (by decide))
      have HDi := hid (fun e e' => HA.out i hlt HN.out 7 (HD.out i hlt e e') (by decide))
      have HOi := hid (fun e e' => zero_upto HN.out (HO.out i hlt e e'))
      have HPi := hid (HPL.out i hlt)
      generalize l[i] = x at *
      go_wp2_with fail
      refine (rName_any x _ hsz).mono ?_
      rintro e w1 ⟨rfl, rfl⟩
      cases hnb : nameB x with
      | false =>
        have HE := hid (HWi.out hnb)
        clear hnb
        go_wp2
        go_ret
        exact ⟨by rw [HE.out]; rfl, rfl⟩
      | true =>
        go_wp2_with fail
        refine (HH.out x _ HF.out).mono ?_
        rintro e w2 ⟨rfl, rfl⟩
        cases hm : memS (l.take i) x with
        | true =>
          have HE := hid (HDi.out hnb hm)
          have hlt2 : placeS l x < (i : Int) := of_decide_eq_true (HPi.out.trans hm)
          clear hnb hm
          generalize placeS l x = q at *
          go_wp2
          go_ret
          exact ⟨by rw [HE.out]; rfl, rfl⟩
        | false =>
          have HE := hid (HOi.out hnb hm)
          have hlt2 : (i : Int) ≤ placeS l x := by
            have := of_decide_eq_false (HPi.out.trans hm)
            omega
          clear hnb hm
          generalize placeS l x = q at *
          go_wp2
          go_roundw
          case rel => exact ⟨i + 1, by omega, by go_num, HE, trivial⟩
          case measure => simp [intOf]; omega
    · obtain rfl : i = l.length := by omega
      have HE := hid (HZ.out HN.out)
      go_wp2
      go_ret
      exact ⟨by rw [HE.out]; rfl, rfl⟩
end Go.Proofs.YtncccbdledcibaaGreatDoor
