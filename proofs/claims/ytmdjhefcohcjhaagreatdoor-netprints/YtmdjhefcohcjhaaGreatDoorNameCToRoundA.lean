/- Lists of names: checkNames of package net, namesOK of the document's answer. -/
import Derived.Test.YtmdjhefcohcjhaaGreatDoorSetBToNameB
import Derived.Test.YtmdjhefcohcjhaaGreatDoorRefSToTabR5
import Derived.Test.YtmdjhefcohcjhaaGreatDoorCore1ToCore5
import Derived.Deep.RegionHeld3
namespace Go.Proofs.YtmdjhefcohcjhaaGreatDoor
open Go.RowKit

/-- A list of texts in memory. -/
def StS (w : World) (a : Option Addr) (l : List ByteArray) : Prop := ∀ k (h : k < l.length), ∃ g o, a = some ⟨g, o, none⟩ ∧ g < w.heap.size ∧ w.cell? ⟨g, o + k, none⟩ = some (.string l[k])
theorem StS.below {w w' : World} {a : Option Addr} {l : List ByteArray} (h : StS w a l) (hb : Below w.heap.size w w') : StS w' a l := fun k hk => by
  obtain ⟨g, o, h1, h2, h3⟩ := h k hk
  exact ⟨g, o, h1, Nat.lt_of_lt_of_le h2 hb.size, (hb.cell (p := ⟨g, o + k, none⟩) h2).trans h3⟩
theorem StS.take {w : World} {a : Option Addr} {l : List ByteArray} (h : StS w a l) (i : Nat) : StS w a (l.take i) := fun k hk => by
  have hk' : k < l.length := by rw [List.length_take] at hk; omega
  obtain ⟨g, o, h1, h2, h3⟩ := h k hk'
  refine ⟨g, o, h1, h2, ?_⟩
  rw [List.getElem_take]
  exact h3
/-- The first error of so many. -/
def firstE (f : Nat → Int) : Nat → Int
  | 0 => 0
  | n + 1 => if firstE f n = 0 then f n else firstE f n
theorem firstE_none {f : Nat → Int} : ∀ {n : Nat}, (∀ j, j < n → f j = 0) → firstE f n = 0
  | 0, _ => rfl
  | n + 1, h => by rw [firstE, if_pos (firstE_none fun j hj => h j (by omega)), h n (by omega)]
theorem firstE_at {f : Nat → Int} {i : Nat} (h : ∀ j, j < i → f j = 0) (hi : f i ≠ 0) : ∀ {n : Nat}, i < n → firstE f n = f i
  | 0, hn => by omega
  | n + 1, hn => by
    rcases Nat.lt_or_ge i n with h1 | h1
    · rw [firstE, firstE_at h hi h1, if_neg hi]
    · obtain rfl : i = n := by omega
      rw [firstE, if_pos (firstE_none h)]
theorem zero_upto {f : Nat → Int} {i : Nat} (h : ∀ j, j < i → f j = 0) (hi : f i = 0) : ∀ j, j < i + 1 → f j = 0 := fun j hj => by
  rcases Nat.lt_or_ge j i with h1 | h1
  · exact h j h1
  · obtain rfl : j = i := by omega
    exact hi
/-- Is a text among these? -/
def memS (l : List ByteArray) (v : ByteArray) : Bool := l.any fun x => decide (x = v)
/-- What is wrong with a name. -/
def nameE (l : List ByteArray) (i : Nat) : Int := if nameB (l.getD i ⟨#[]⟩) = true then (if memS (l.take i) (l.getD i ⟨#[]⟩) = true then 7 else 0) else 4
/-- What is wrong with names. -/
def namesE (l : List ByteArray) : Int := firstE (nameE l) l.length
theorem getS {l : List ByteArray} {i : Nat} (h : i < l.length) : l.getD i ⟨#[]⟩ = l[i] := by rw [List.getD_eq_getElem?_getD, List.getElem?_eq_getElem h]; rfl
/-- The first place of a text. -/
def placeS (l : List ByteArray) (v : ByteArray) : Int := match l.findIdx? (fun x => decide (x = v)) with
  | some i => (i : Int)
  | none => -1
theorem bytes_eq {a b : ByteArray} : (a.toList == b.toList) = decide (a = b) := by
  rw [Bool.eq_iff_iff, beq_iff_eq, decide_eq_true_iff]
  constructor
  · intro h
    rw [toList_data, toList_data] at h
    obtain ⟨⟨x⟩⟩ := a
    obtain ⟨⟨y⟩⟩ := b
    simp only at h
    rw [h]
  · intro h; rw [h]
theorem place_at {l : List ByteArray} {v : ByteArray} {i : Nat} (h : i < l.length) (e : l[i] = v) (hn : ∀ j (hj : j < l.length), j < i → ¬ l[j] = v) : placeS l v = i := by
  have : l.findIdx? (fun x => decide (x = v)) = some i := List.findIdx?_eq_some_iff_getElem.2 ⟨h, decide_eq_true e, fun j hj => by
    rw [decide_eq_true_iff]
    exact hn j (by omega) hj⟩
  rw [placeS, this]
theorem place_no {l : List ByteArray} {v : ByteArray} (hn : ∀ j (hj : j < l.length), ¬ l[j] = v) : placeS l v = -1 := by
  have : l.findIdx? (fun x => decide (x = v)) = none := List.findIdx?_eq_none_iff.2 fun x hx => by
    obtain ⟨j, hj, rfl⟩ := List.getElem_of_mem hx
    exact decide_eq_false (hn j hj)
  rw [placeS, this]
theorem place_mem (l : List ByteArray) (v : ByteArray) : decide (0 ≤ placeS l v) = memS l v := by
  rw [Bool.eq_iff_iff, decide_eq_true_iff, memS, List.any_eq_true, placeS]
  cases e : l.findIdx? (fun x => decide (x = v)) with
  | some i =>
    obtain ⟨h, hp, _⟩ := List.findIdx?_eq_some_iff_getElem.1 e
    exact ⟨fun _ => ⟨l[i], List.getElem_mem h, hp⟩, fun _ => by show (0 : Int) ≤ (i : Int); omega⟩
  | none =>
    have := List.findIdx?_eq_none_iff.1 e
    exact ⟨fun h => by exact absurd (show (0 : Int) ≤ -1 from h) (by decide), fun ⟨x, hx, hp⟩ => by rw [this x hx] at hp; cases hp⟩
theorem place_lt {l : List ByteArray} {i : Nat} (h : i < l.length) : decide (placeS l l[i] < (i : Int)) = memS (l.take i) l[i] := by
  rw [Bool.eq_iff_iff, decide_eq_true_iff, memS, List.any_eq_true]
  have hex : ∃ k, l.findIdx? (fun x => decide (x = l[i])) = some k := by
    cases e : l.findIdx? (fun x => decide (x = l[i])) with
    | some k => exact ⟨k, rfl⟩
    | none => have := List.findIdx?_eq_none_iff.1 e l[i] (List.getElem_mem h); simp at this
  obtain ⟨k, hk⟩ := hex
  obtain ⟨h1, h2, h3⟩ := List.findIdx?_eq_some_iff_getElem.1 hk
  have e : placeS l l[i] = k := by rw [placeS, hk]
  rw [e]
  constructor
  · intro hlt
    have hki : k < i := by omega
    refine ⟨l[k], ?_, h2⟩
    rw [List.mem_take_iff_getElem]
    exact ⟨k, by omega, rfl⟩
  · rintro ⟨x, hx, hp⟩
    obtain ⟨j, hj, rfl⟩ := List.mem_take_iff_getElem.1 hx
    rcases Nat.lt_or_ge k i with h4 | h4
    · omega
    · exact absurd hp (h3 j (by omega))

set_option maxRecDepth 100000 in
set_option maxHeartbeats 1000000 in
theorem slIndexS_any (a : Option Addr) (ca : Nat) (l : List ByteArray) (v : ByteArray) (w : World) (h : StS w a l) (hn : l.length ≤ 140737488355328) :
    Calls Tryz.prog 83 #[.slice a l.length ca, .string v] w fun e w' => e = .returned (.int .i64 (placeS l v)) ∧ w' = w := by
  have HF := hid h
  have HP := hid (fun i h e hn => place_at (l := l) (v := v) (i := i) h e hn)
  have HQ := hid (fun hn => place_no (l := l) (v := v) hn)
  generalize placeS l v = r at *
  clear h
  go_enter Tryz.func83, Tryz.ntmps83
  go_wp2_with fail
  go_loopw [8] (fun iv wr => ∃ i : Nat, i ≤ l.length ∧ iv = .int .i64 i ∧ Hid (∀ j (hj : j < l.length), j < i → ¬ l[j] = v) ∧ wr = w) (fun iv _ => l.length - (intOf iv).toNat)
  case atStart => exact ⟨0, Nat.zero_le _, rfl, fun j _ h => absurd h (by omega), rfl⟩
  case round =>
    obtain ⟨i, hi, rfl, HN, rfl⟩ := hrel
    by_cases hlt : i < l.length
    · obtain ⟨g, o, rfl, hg, c0⟩ := HF.out i hlt
      have HPi := hid (fun e => HP.out i hlt e HN.out)
      have HNi : Hid (¬ l[i] = v → ∀ j (hj : j < l.length), j < i + 1 → ¬ l[j] = v) := fun h j hj hji => by
        rcases Nat.lt_or_ge j i with h2 | h2
        · exact HN.out j hj h2
        · obtain rfl : j = i := by omega
          exact h
      generalize l[i] = x at *
      by_cases e : x = v
      · have HE := hid (HPi.out e)
        subst e
        go_wp2
        go_ret
        exact ⟨by rw [HE.out]; rfl, rfl⟩
      · have HE := hid (HNi.out e)
        have e1 : (v.toList == x.toList) = false := by rw [bytes_eq]; exact decide_eq_false fun h => e h.symm
        clear e
        go_wp2
        go_roundw
        case rel => exact ⟨i + 1, by omega, by go_num, HE, trivial⟩
        case measure => simp [intOf]; omega
    · obtain rfl : i = l.length := by omega
      have HE := hid (HQ.out fun j hj => HN.out j hj hj)
      go_wp2
      go_ret
      exact ⟨by rw [HE.out]; rfl, rfl⟩

set_option maxRecDepth 100000 in
set_option maxHeartbeats 1000000 in
theorem slContainsS_any (a : Option Addr) (ca : Nat) (l : List ByteArray) (v : ByteArray) (w : World) (h : StS w a l) (hn : l.length ≤ 140737488355328) :
    Calls Tryz.prog 50 #[.slice a l.length ca, .string v] w fun e w' => e = .returned (.bool (memS l v)) ∧ w' = w := by
  have HF := hid h
  have HI := hid (fun (V : World) (hV : StS V a l) => slIndexS_any a ca l v V hV hn)
  have HM := hid (place_mem l v)
  generalize memS l v = m at *
  generalize placeS l v = r at *
  clear h
  go_enter Tryz.func50, Tryz.ntmps50
  go_wp2_with fail
  refine (HI.out _ HF.out).mono ?_
  rintro e w1 ⟨rfl, rfl⟩
  go_wp2
  go_ret
  exact ⟨by rw [← HM.out]; rfl, rfl⟩
set_option maxRecDepth 100000 in
set_option maxHeartbeats 1000000 in
theorem rHas_any (a : Option Addr) (ca : Nat) (l : List ByteArray) (v : ByteArray) (w : World) (h : StS w a l) (hn : l.length ≤ 140737488355328) :
    Calls Tryz.prog 41 #[.slice a l.length ca, .string v] w fun e w' => e = .returned (.int .i64 (placeS l v)) ∧ w' = w := by
  have HF := hid h
  have HP := hid (fun i h e hn => place_at (l := l) (v := v) (i := i) h e hn)
  have HQ := hid (fun hn => place_no (l := l) (v := v) hn)
  generalize placeS l v = r at *
  clear h
  go_enter Tryz.func41, Tryz.ntmps41
  go_wp2_with fail
  go_loopw [5] (fun iv wr => ∃ i : Nat, i ≤ l.length ∧ iv = .int .i64 i ∧ Hid (∀ j (hj : j < l.length), j < i → ¬ l[j] = v) ∧ wr = w) (fun iv _ => l.length - (intOf iv).toNat)
  case atStart => exact ⟨0, Nat.zero_le _, rfl, fun j _ h => absurd h (by omega), rfl⟩
  case round =>
    obtain ⟨i, hi, rfl, HN, rfl⟩ := hrel
    by_cases hlt : i < l.length
    · obtain ⟨g, o, rfl, hg, c0⟩ := HF.out i hlt
      have HPi := hid (fun e => HP.out i hlt e HN.out)
      have HNi : Hid (¬ l[i] = v → ∀ j (hj : j < l.length), j < i + 1 → ¬ l[j] = v) := fun h j hj hji => by
        rcases Nat.lt_or_ge j i with h2 | h2
        · exact HN.out j hj h2
        · obtain rfl : j = i := by omega
          exact h
      generalize l[i] = x at *
      by_cases e : x = v
      · have HE := hid (HPi.out e)
        subst e
        go_wp2
        go_ret
        exact ⟨by rw [HE.out]; rfl, rfl⟩
      · have HE := hid (HNi.out e)
        have e1 : (x.toList == v.toList) = false := by rw [bytes_eq]; exact decide_eq_false fun h => e h
        clear e
        go_wp2
        go_roundw
        case rel => exact ⟨i + 1, by omega, by go_num, HE, trivial⟩
        case measure => simp [intOf]; omega
    · obtain rfl : i = l.length := by omega
      have HE := hid (HQ.out fun j hj => HN.out j hj hj)
      go_wp2
      go_ret
      exact ⟨by rw [HE.out]; rfl, rfl⟩
end Go.Proofs.YtmdjhefcohcjhaaGreatDoor


/- Lists of names: checkNames of package net, namesOK of the document's answer. -/
namespace Go.Proofs.YtmdjhefcohcjhaaGreatDoor
open Go.RowKit

theorem nameE_word {l : List ByteArray} {i : Nat} (h : i < l.length) (e : nameB l[i] = false) : nameE l i = 4 := by rw [nameE, getS h, e, if_neg (by decide)]
theorem nameE_double {l : List ByteArray} {i : Nat} (h : i < l.length) (e : nameB l[i] = true) (e' : memS (l.take i) l[i] = true) : nameE l i = 7 := by rw [nameE, getS h, e, if_pos rfl, e', if_pos rfl]
theorem nameE_ok {l : List ByteArray} {i : Nat} (h : i < l.length) (e : nameB l[i] = true) (e' : memS (l.take i) l[i] = false) : nameE l i = 0 := by rw [nameE, getS h, e, if_pos rfl, e', if_neg (by decide)]

set_option maxRecDepth 100000 in
set_option maxHeartbeats 1000000 in
theorem checkNames_any (a : Option Addr) (ca : Nat) (l : List ByteArray) (w : World) (h : StS w a l) (hn : l.length ≤ 140737488355328) (hc : l.length ≤ ca) (hs : ∀ s ∈ l, s.size ≤ 140737488355328) :
    Calls Tryz.prog 28 #[.slice a l.length ca] w fun e w' => e = .returned (.int .i64 (namesE l)) ∧ w' = w := by
  have HF := hid h
  have HSZ := hid hs
  have HA : Hid (∀ i, i < l.length → (∀ j, j < i → nameE l j = 0) → ∀ k, nameE l i = k → k ≠ 0 → namesE l = k) := fun i hi hz k hk hk0 => by rw [namesE, firstE_at hz (by rw [hk]; exact hk0) hi, hk]
  have HZ : Hid ((∀ j, j < l.length → nameE l j = 0) → namesE l = 0) := fun h => firstE_none h
  have HW := hid (fun i h e => nameE_word (l := l) (i := i) h e)
  have HD := hid (fun i h e e' => nameE_double (l := l) (i := i) h e e')
  have HO := hid (fun i h e e' => nameE_ok (l := l) (i := i) h e e')
  generalize namesE l = r at *
  clear h hs
  go_enter Tryz.func28, Tryz.ntmps28
  go_wp2_with fail
  go_loopw [7] (fun iv wr => ∃ i : Nat, i ≤ l.length ∧ iv = .int .i64 i ∧ Hid (∀ j, j < i → nameE l j = 0) ∧ wr = w) (fun iv _ => l.length - (intOf iv).toNat)
  case atStart => exact ⟨0, Nat.zero_le _, rfl, fun j h => absurd h (by omega), rfl⟩
  case round =>
    obtain ⟨i, hi, rfl, HN, rfl⟩ := hrel
    by_cases hlt : i < l.length
    · obtain ⟨g, o, rfl, hg, c0⟩ := HF.out i hlt
      have hsz := HSZ.out l[i] (List.getElem_mem hlt)
      have HWi := hid (fun e => HA.out i hlt HN.out 4 (HW.out i hlt e) (by decide))
      have HDi := hid (fun e e' => HA.out i hlt HN.out 7 (HD.out i hlt e e') (by decide))
      have HOi := hid (fun e e' => zero_upto HN.out (HO.out i hlt e e'))
      have HTK := hid (HF.out.take i)
      have htl : (l.take i).length = i := by rw [List.length_take]; omega
      have HCO : Hid (∀ (v : ByteArray) (V : World), StS V (some ⟨g, o, none⟩) (l.take i) → Calls Tryz.prog 50 #[.slice (some ⟨g, o, none⟩) i ca, .string v] V fun e w' => e = .returned (.bool (memS (l.take i) v)) ∧ w' = V) := fun v V hV => by
        have := slContainsS_any (some ⟨g, o, none⟩) ca (l.take i) v V hV (by omega)
        rwa [htl] at this
      clear htl
      generalize l[i] = x at *
      go_wp2_with fail
      refine (nName_any x _ hsz).mono ?_
      rintro e w1 ⟨rfl, rfl⟩
      cases hnb : nameB x with
      | false =>
        have HE := hid (HWi.out hnb)
        clear hnb
        go_wp2
        go_ret
        exact ⟨by rw [HE.out]; rfl, rfl⟩
      | true =>
        go_wp2_with fail
        refine (HCO.out x _ HTK.out).mono ?_
        rintro e w2 ⟨rfl, rfl⟩
        cases hm : memS (l.take i) x with
        | true =>
          have HE := hid (HDi.out hnb hm)
          clear hnb hm
          go_wp2
          go_ret
          exact ⟨by rw [HE.out]; rfl, rfl⟩
        | false =>
          have HE := hid (HOi.out hnb hm)
          clear hnb hm
          go_wp2
          go_roundw
          case rel => exact ⟨i + 1, by omega, by go_num, HE, trivial⟩
          case measure => simp [intOf]; omega
    · obtain rfl : i = l.length := by omega
      have HE := hid (HZ.out HN.out)
      go_wp2
      go_ret
      exact ⟨by rw [HE.out]; rfl, rfl⟩
set_option maxRecDepth 100000 in
set_option maxHeartbeats 1000000 in
theorem rNamesOK_any (a : Option Addr) (ca : Nat) (l : List ByteArray) (w : World) (h : StS w a l) (hn : l.length ≤ 140737488355328) (hs : ∀ s ∈ l, s.size ≤ 140737488355328) :
    Calls Tryz.prog 22 #[.slice a l.length ca] w fun e w' => e = .returned (.int .i64 (namesE l)) ∧ w' = w := by
  have HF := hid h
  have HSZ := hid hs
  have HA : Hid (∀ i, i < l.length → (∀ j, j < i → nameE l j = 0) → ∀ k, nameE l i = k → k ≠ 0 → namesE l = k) := fun i hi hz k hk hk0 => by rw [namesE, firstE_at hz (by rw [hk]; exact hk0) hi, hk]
  have HZ : Hid ((∀ j, j < l.length → nameE l j = 0) → namesE l = 0) := fun h => firstE_none h
  have HW := hid (fun i h e => nameE_word (l := l) (i := i) h e)
  have HD := hid (fun i h e e' => nameE_double (l := l) (i := i) h e e')
  have HO := hid (fun i h e e' => nameE_ok (l := l) (i := i) h e e')
  have HPL := hid (fun i h => place_lt (l := l) (i := i) h)
  have HH := hid (fun (v : ByteArray) (V : World) (hV : StS V a l) => rHas_any a ca l v V hV hn)
  generalize namesE l = r at *
  clear h hs
  go_enter Tryz.func22, Tryz.ntmps22
  go_wp2_with fail
  go_loopw [3] (fun iv wr => ∃ i : Nat, i ≤ l.length ∧ iv = .int .i64 i ∧ Hid (∀ j, j < i → nameE l j = 0) ∧ wr = w) (fun iv _ => l.length - (intOf iv).toNat)
  case atStart => exact ⟨0, Nat.zero_le _, rfl, fun j h => absurd h (by omega), rfl⟩
  case round =>
    obtain ⟨i, hi, rfl, HN, rfl⟩ := hrel
    by_cases hlt : i < l.length
    · obtain ⟨g, o, rfl, hg, c0⟩ := HF.out i hlt
      have hsz := HSZ.out l[i] (List.getElem_mem hlt)
      have HWi := hid (fun e => HA.out i hlt HN.out 4 (HW.out i hlt e) (by decide))
      have HDi := hid (fun e e' => HA.out i hlt HN.out 7 (HD.out i hlt e e') (by decide))
      have HOi := hid (fun e e' => zero_upto HN.out (HO.out i hlt e e'))
      have HPi := hid (HPL.out i hlt)
      generalize l[i] = x at *
      go_wp2_with fail
      refine (rName_any x _ hsz).mono ?_
      rintro e w1 ⟨rfl, rfl⟩
      cases hnb : nameB x with
      | false =>
        have HE := hid (HWi.out hnb)
        clear hnb
        go_wp2
        go_ret
        exact ⟨by rw [HE.out]; rfl, rfl⟩
      | true =>
        go_wp2_with fail
        refine (HH.out x _ HF.out).mono ?_
        rintro e w2 ⟨rfl, rfl⟩
        cases hm : memS (l.take i) x with
        | true =>
          have HE := hid (HDi.out hnb hm)
          have hlt2 : placeS l x < (i : Int) := of_decide_eq_true (HPi.out.trans hm)
          clear hnb hm
          generalize placeS l x = q at *
          go_wp2
          go_ret
          exact ⟨by rw [HE.out]; rfl, rfl⟩
        | false =>
          have HE := hid (HOi.out hnb hm)
          have hlt2 : (i : Int) ≤ placeS l x := by
            have := of_decide_eq_false (HPi.out.trans hm)
            omega
          clear hnb hm
          generalize placeS l x = q at *
          go_wp2
          go_roundw
          case rel => exact ⟨i + 1, by omega, by go_num, HE, trivial⟩
          case measure => simp [intOf]; omega
    · obtain rfl : i = l.length := by omega
      have HE := hid (HZ.out HN.out)
      go_wp2
      go_ret
      exact ⟨by rw [HE.out]; rfl, rfl⟩
end Go.Proofs.YtmdjhefcohcjhaaGreatDoor


/- slices.Backward over a slice of ints: what a loop over it may lean on. -/
namespace Go.Proofs.YtmdjhefcohcjhaaGreatDoor
open Go.RowKit Go.Shelf

attribute [local go_sem] Oper.semAt_some

/-- A list of ints, as a slice at a, in blocks below B. -/
def IntB (B : Nat) (w : World) (a : Option Addr) (l : List Int) : Prop := ∀ k (h : k < l.length), ∃ g o, a = some ⟨g, o, none⟩ ∧ g < B ∧ w.cell? ⟨g, o + k, none⟩ = some (.int .i64 l[k])
theorem IntB.below {B : Nat} {w w' : World} {a : Option Addr} {l : List Int} (h : IntB B w a l) (hb : Below B w w') : IntB B w' a l := fun k hk => by
  obtain ⟨g, o, h1, h2, h3⟩ := h k hk
  exact ⟨g, o, h1, h2, (hb.cell (p := ⟨g, _, none⟩) h2).trans h3⟩
theorem IntS.toB {w : World} {a : Option Addr} {l : List Int} (h : IntS w a l) : IntB w.heap.size w a l := h
theorem IntB.mono {B B' : Nat} {w : World} {a : Option Addr} {l : List Int} (h : IntB B w a l) (hB : B ≤ B') : IntB B' w a l := fun k hk => by
  obtain ⟨g, o, h1, h2, h3⟩ := h k hk
  exact ⟨g, o, h1, Nat.lt_of_lt_of_le h2 hB, h3⟩
/-- What a round must keep: the iterator's box, and all that lay below B. -/
def KeepsB (Bn B : Nat) (V V' : World) : Prop := KeepsBox Bn V V' ∧ Below B V V'
theorem KeepsB.t {Bn B : Nat} {X Y Z : World} (h : KeepsB Bn B X Y) (k : KeepsB Bn B Y Z) : KeepsB Bn B X Z := ⟨h.1.t k.1, h.2.trans k.2⟩
theorem KeepsB.b {Bn B : Nat} {w : World} (hn : Bn < w.heap.size) (hB : B ≤ w.heap.size) (V : World) (l : Nat) (o o' : Obj) (hl : w.heap.size ≤ l) (h1 : V.heap[l]? = some o) (h2 : o.isCells = false) (h3 : o.isWalk = false) : KeepsB Bn B V (V.putObj l o') :=
  ⟨KeepsBox.b hn V l o o' hl h1 h2 h3, belowK_b hB V l o o' hl h1 h2 h3⟩

/-- The places of a list, from the last on. -/
def backs (n k : Nat) : List Nat := (List.range k).map fun j => n - 1 - j
theorem backs_succ (n k : Nat) : backs n (k + 1) = backs n k ++ [n - 1 - k] := by simp [backs, List.range_succ]
theorem backs_length (n k : Nat) : (backs n k).length = k := by simp [backs]

abbrev At (l : List Int) : Type := { i : Nat // i < l.length }
abbrev atV (l : List Int) (x : At l) : Array Value := #[.int .i64 (x.1 : Nat), .int .i64 (l[x.1]'x.2)]

set_option maxRecDepth 100000 in
set_option maxHeartbeats 400000 in
theorem backward1_in (n : Nat) (hn : 1 ≤ n) (l Bn B : Nat) (a : Option Addr) (cap : Nat) (xs : List Int) (hl : xs.length ≤ 140737488355328) (J Jx : List (At xs) → World → Prop)
    (hY : ∀ pre x V, J pre V → pre.length < xs.length → YieldAt Fence.wide (n - 1) Tryz.prog l (atV xs x) V fun e V' =>
      (e = .returned (.bool true) ∧ J (pre ++ [x]) V' ∧ KeepsB Bn B V V') ∨ (e = .returned (.bool false) ∧ Jx (pre ++ [x]) V'))
    (V : World) (hBn : V.cell? ⟨Bn, 0, none⟩ = some (.slice a xs.length cap)) (hx : IntB B V a xs) (h0 : J [] V) :
    CallsIn Fence.wide n Tryz.prog 130 #[.func (.yield l) #[] #[], .pointer (some ⟨Bn, 0, none⟩)] V fun e V' => (∃ v, e = .returned v) ∧
      ((∃ ys : List (At xs), ys.map (·.1) = backs xs.length xs.length ∧ J ys V') ∨ (∃ pre : List (At xs), (∃ k, k ≤ xs.length ∧ pre.map (·.1) = backs xs.length k) ∧ Jx pre V')) := by
  have HX := hid hx
  clear hx
  refine callsIn_of_wp Tryz.func130 rfl trivial ?_ rfl
  simp only [Tryz.ntmps130, List.size_toArray, List.length_cons, List.length_nil, Nat.reduceAdd, Nat.reduceSub, Array.replicate_succ, Array.replicate_zero, List.push_toArray, List.append_toArray, List.nil_append, List.cons_append]
  gi_wp2
  gi_loopw [3] (fun i wr => ∃ (k : Nat) (pre : List (At xs)), k ≤ xs.length ∧ i = .int .i64 ((xs.length : Int) - 1 - (k : Int)) ∧ Hid (pre.map (·.1) = backs xs.length k) ∧ J pre wr ∧ wr.cell? ⟨Bn, 0, none⟩ = some (.slice a xs.length cap) ∧ Hid (IntB B wr a xs))
    (fun i _ => (intOf i + 1).toNat)
  case atStart => exact ⟨0, [], Nat.zero_le _, by simp, rfl, h0, hBn, HX⟩
  case round =>
    obtain ⟨k, pre, hk, rfl, HP, hJs, hbx, HB⟩ := hrel
    by_cases hlt : k < xs.length
    · have hpl : pre.length = k := by have := congrArg List.length HP.out; rwa [List.length_map, backs_length] at this
      have hi : xs.length - 1 - k < xs.length := by omega
      obtain ⟨fn, tmps, assign, body, hy, hR⟩ := hY pre ⟨xs.length - 1 - k, hi⟩ wr hJs (by omega)
      obtain ⟨g, o, rfl, hg, c0⟩ := HB.out (xs.length - 1 - k) hi
      have HS : Hid ((pre ++ [(⟨xs.length - 1 - k, hi⟩ : At xs)]).map (·.1) = backs xs.length (k + 1)) := by show _ = _; rw [List.map_append, HP.out, backs_succ]; rfl
      have HR := hid hR
      clear hR
      rw [atV] at hy
      simp only at hy
      have HEQ : Hid ((xs.length : Int) - 1 - ((k + 1 : Nat) : Int) = (xs.length : Int) - 1 - (k : Int) - 1) := by show _ = _; omega
      have hEe : (xs.length : Int) - 1 - (k : Int) = ((xs.length - 1 - k : Nat) : Int) := by omega
      rw [hEe]
      have HEE := hid hEe
      clear hEe
      have hE1 : xs.length - 1 - k < xs.length := hi
      generalize hEn : xs[xs.length - 1 - k] = xv at *
      generalize hEm : xs.length - 1 - k = E at *
      gi_wp2
      refine HR.out.mono ?_
      rintro e W3 (⟨rfl, hJ3, hk3⟩ | ⟨rfl, hJx3⟩)
      · have hbx3 := Eq.trans hk3.1 hbx
        have hB3 := HB.out.below hk3.2
        gi_wp2
        go_roundw
        case rel => exact ⟨k + 1, _, by omega, by rw [HEQ.out, HEE.out], HS, hJ3, hbx3, hB3⟩
        case measure => simp [intOf]
      · gi_wp2
        refine bodyPost_ret (results_none rfl _ _ _) rfl ?_
        exact ⟨⟨_, rfl⟩, .inr ⟨_, ⟨k + 1, by omega, HS.out⟩, hJx3⟩⟩
    · obtain rfl : k = xs.length := by omega
      have he : (xs.length : Int) - 1 - (xs.length : Int) = -1 := by omega
      rw [he]
      gi_wp2
      go_end0
      exact ⟨⟨_, rfl⟩, .inl ⟨_, HP.out, hJs⟩⟩

end Go.Proofs.YtmdjhefcohcjhaaGreatDoor


/- A region that draws its order, in a round of a range over a function: by the plain region's law. -/
namespace Go.Proofs.YtmdjhefcohcjhaaGreatDoor
open Go.RowKit Go.Shelf

/-- No operation of the region defers. -/
def plainOps (ops : Array Oper) : Bool := ops.all fun o => match o.op with | .defer _ => false | _ => true
theorem plainOps_at {ops : Array Oper} (h : plainOps ops = true) {i : Nat} {o : Oper} (ho : ops[i]? = some o) : ∀ c, o.op ≠ .defer c := by
  intro c e
  rw [plainOps, Array.all_eq_true] at h
  obtain ⟨hi, he⟩ := Array.getElem?_eq_some_iff.1 ho
  have := h i hi
  rw [he, e] at this
  cases this

theorem op_in {l n : Nat} {P : Program} {ops : Array Oper} {Q : Exit → Act → World → Prop} (hnd : plainOps ops = true) (hlo : ¬ LetsOut Q) {i : Nat} {K K' : Act → World → Prop} {a : Act} {w : World} (hK : ∀ a w, K a w → K' a w)
    (h : wpOp P ops Q i K a w) : wpOpIn (Fence.wide.inRound l) n P ops Q i K' a w := by
  unfold wpOp at h
  unfold wpOpIn
  cases ho : ops[i]? with
  | none => rw [ho] at h; exact hK _ _ h
  | some o =>
    rw [ho] at h
    simp only at h ⊢
    by_cases hw : Region.wanted o (yielded ops a.tmps) = true
    · rw [if_pos hw] at h ⊢
      rcases h with h | h
      · refine ⟨fun _ _ => trivial, ?_⟩
        rw [Oper.semAt_eq _ _ _ (plainOps_at hnd ho)]
        unfold Oper.wp at h
        generalize (execOp a.eval o).run P w = r at *
        cases r with
        | ok nx w' =>
          cases nx with
          | value v => exact hK _ _ h
          | skip => exact hK _ _ h
          | defer d => exact hK _ _ h
          | enter f args =>
            refine ⟨fun hd => absurd hd (show ¬ Fence.wide.depth.isSome = true by decide), (callsIn_wide (n := n - 1)).2 (Calls.mono h ?_)⟩
            intro e w'' he
            cases e with
            | returned v => exact hK _ _ he
            | panicked c => exact he
            | outgrown => exact he
          | row r args => exact ⟨fun hd => absurd hd (show ¬ Fence.wide.depth.isSome = true by decide), fun c cs _ => let ⟨v, w2, r, s⟩ := h c cs; ⟨v, w2, hK _ _ r, stepsIn_wide.2 s⟩⟩
          | _ => exact h.elim
        | halt hl w' =>
          cases hl with
          | panic v => exact h
          | _ => exact h.elim
      · exact absurd h.2 hlo
    · rw [if_neg hw] at h ⊢
      exact ⟨fun _ _ => trivial, hK _ _ h⟩
theorem any_in {l n : Nat} {P : Program} {md : Region.Mode} {ops : Array Oper} {Q : Exit → Act → World → Prop} (hnd : plainOps ops = true) (hlo : ¬ LetsOut Q) : ∀ (fuel : Nat) (listed : Array Bool) (a : Act) (w : World), wpAny P md ops Q fuel listed a w → wpAnyIn (Fence.wide.inRound l) n P md ops Q fuel listed a w
  | 0, _, _, _, h => h
  | fuel + 1, _, _, _, h => ⟨h.1, fun i hi => op_in hnd hlo (fun a w => any_in hnd hlo fuel _ a w) (h.2 i hi)⟩
theorem region_round {l n id : Nat} {P : Program} {ops : Array Oper} {Q : Exit → Act → World → Prop} {a : Act} {w : World} (S : World → Prop) (hm : P.follows .mixedOrders = true) (hnd : plainOps ops = true) (hlo : ¬ LetsOut Q) (hS : S w.drew)
    (h : S w.drew → wpAnyH P .any ops Q S ops.size (Array.replicate ops.size false) a w.drew) : (Code.region id ops true).wpIn (Fence.wide.inRound l) n P Q a w :=
  wpIn_region_any hm (any_in hnd hlo _ _ _ _ (wpAny_of_held _ _ _ _ (h hS)))
end Go.Proofs.YtmdjhefcohcjhaaGreatDoor

