/- Package graph: sets as bits. -/
import Derived.Test.YtnnfmfdjgdgdhaaDoorTabR3ToJoinB
import Derived.Laws.BitsAllLaws
import Derived.Laws.EntriesVeiled
import Derived.Test.YtnnfmfdjgdgdhaaDoorCore2bToReckC
import Derived.Test.YtnnfmfdjgdgdhaaDoorRefSToTabN
import Derived.Test.YtnnfmfdjgdgdhaaDoorRefCToRefG
namespace Go.Proofs.YtnnfmfdjgdgdhaaDoor
open Go.RowKit

/-- A set of numbers as bits. -/
def mskN : List Nat → Nat
  | [] => 0
  | v :: l => mskN l ||| 2 ^ v
theorem msk_bit (l : List Nat) (v : Nat) : (mskN l).testBit v = decide (v ∈ l) := by
  induction l with
  | nil => simp [mskN]
  | cons u l ih =>
    rw [mskN, Nat.testBit_or, ih, Nat.testBit_two_pow]
    by_cases h : u = v
    · subst h; simp
    · have h' : ¬ v = u := fun e => h e.symm
      simp [h, h']
theorem msk_ext {a b : List Nat} (h : ∀ x, x ∈ a ↔ x ∈ b) : mskN a = mskN b := by
  apply Nat.eq_of_testBit_eq
  intro i
  rw [msk_bit, msk_bit]
  exact decide_eq_decide.2 (h i)
theorem msk_lt : ∀ {l : List Nat}, (∀ v ∈ l, v < 8) → mskN l < 256
  | [], _ => by decide
  | v :: l, h => by
    have h1 := msk_lt (l := l) fun u hu => h u (List.mem_cons_of_mem _ hu)
    have h2 : 2 ^ v < 2 ^ 8 := Nat.pow_lt_pow_right (by decide) (h v List.mem_cons_self)
    exact Nat.or_lt_two_pow (n := 8) h1 h2
theorem bit_div (s v : Nat) : (s / 2 ^ v &&& 1 = 1) ↔ s.testBit v = true := by
  rw [Nat.testBit_eq_decide_div_mod_eq, decide_eq_true_iff, Nat.and_one_is_mod]
theorem holds_iff {s p : Nat} (hs : s < 256) (hp : p < 256) : (p &&& (4294967295 - s) = 0) ↔ ∀ v, p.testBit v = true → s.testBit v = true := by
  have e : 4294967295 - s = 2 ^ 32 - (s + 1) := by omega
  have hs' : s < 2 ^ 32 := by omega
  rw [e]
  constructor
  · intro h v hv
    have h1 : (p &&& (2 ^ 32 - (s + 1))).testBit v = false := by rw [h]; simp
    rw [Nat.testBit_and, hv, Nat.testBit_two_pow_sub_succ hs', Bool.true_and] at h1
    have hlt : v < 32 := by
      rcases Nat.lt_or_ge v 32 with h2 | h2
      · exact h2
      · have := Nat.testBit_lt_two_pow (x := p) (i := v) (Nat.lt_of_lt_of_le (show p < 2 ^ 32 by omega) (Nat.pow_le_pow_right (by decide) h2))
        rw [this] at hv
        cases hv
    simpa [hlt] using h1
  · intro h
    apply Nat.eq_of_testBit_eq
    intro i
    rw [Nat.testBit_and, Nat.testBit_two_pow_sub_succ hs', Nat.zero_testBit]
    cases hp' : p.testBit i
    · rfl
    · rw [h i hp']; simp

theorem toN_take (l : List Int) (i : Nat) : toN (l.take i) = (toN l).take i := by simp [toN, List.map_take]
theorem ris_small {l : List Int} {n i : Nat} (hn : n ≤ 8) (h : (List.range i).all (okAt l n) = true) (hi : i ≤ l.length) : ∀ u ∈ toN (l.take i), u < 8 := by
  intro u hu
  obtain ⟨x, hx, rfl⟩ := List.mem_map.1 hu
  obtain ⟨j, hj, rfl⟩ := List.getElem_of_mem hx
  rw [List.length_take] at hj
  have h1 := List.all_eq_true.1 h j (List.mem_range.2 (by omega))
  rw [okAt, decide_eq_true_iff, getD_eq (by omega)] at h1
  rw [List.getElem_take]
  omega
/-- What setOf answers. -/
def setA (l : List Int) (n : Nat) : Nat := if risB l n = true then mskN (toN l) else 0
end Go.Proofs.YtnnfmfdjgdgdhaaDoor


/- Package graph: lists of lists, and their sets. -/
namespace Go.Proofs.YtnnfmfdjgdgdhaaDoor
open Go.RowKit

/-- A list of lists of ints in memory. -/
def LsS (w : World) (a : Option Addr) (L : List (List Int)) : Prop := ∀ k (h : k < L.length), ∃ g o b c, a = some ⟨g, o, none⟩ ∧ g < w.heap.size ∧ w.cell? ⟨g, o + k, none⟩ = some (.slice b L[k].length c) ∧ IntS w b L[k]
theorem LsS.below {w w' : World} {a : Option Addr} {L : List (List Int)} (h : LsS w a L) (hb : Below w.heap.size w w') : LsS w' a L := fun k hk => by
  obtain ⟨g, o, b, c, h1, h2, h3, h4⟩ := h k hk
  exact ⟨g, o, b, c, h1, Nat.lt_of_lt_of_le h2 hb.size, (hb.cell (p := ⟨g, o + k, none⟩) h2).trans h3, h4.below hb⟩
/-- What is nil in a list of lists has no room. -/
def LsN (w : World) (a : Option Addr) (L : List (List Int)) : Prop := ∀ k, k < L.length → ∀ g o b n c, a = some ⟨g, o, none⟩ → w.cell? ⟨g, o + k, none⟩ = some (.slice b n c) → b = none → c = 0
theorem LsN.below {w w' : World} {a : Option Addr} {L : List (List Int)} (h : LsN w a L) (hl : LsS w a L) (hb : Below w.heap.size w w') : LsN w' a L := fun k hk g o b n c ha hc hn => by
  obtain ⟨g', o', _, _, e, hg, _⟩ := hl k hk
  rw [ha] at e
  cases e
  exact h k hk g o b n c ha ((hb.cell (p := ⟨g, o + k, none⟩) hg).symm.trans hc) hn
abbrev uv (x : Nat) : Value := .int .u32 (x : Int)
theorem made_sets (n : Nat) : (madeCells (Value.int .u32 0).cells (n * 1)).toList = (List.replicate n (0 : Nat)).map uv := by
  rw [show (Value.int .u32 0).cells = #[Value.int .u32 0] from rfl, toList_madeCells_one, Nat.mul_one, List.map_replicate]; rfl
/-- All lists rise. -/
def allRis (L : List (List Int)) (n : Nat) : Bool := L.all fun l => risB l n
/-- Their sets. -/
def masks (L : List (List Int)) : List Nat := L.map fun l => mskN (toN l)
theorem masks_length (L : List (List Int)) : (masks L).length = L.length := by simp [masks]
theorem allRis_bad {L : List (List Int)} {n i : Nat} (h : i < L.length) (e : risB L[i] n = false) : allRis L n = false := by
  rw [allRis, List.all_eq_false]; exact ⟨L[i], List.getElem_mem h, by rw [e]; decide⟩
theorem setA_yes {l : List Int} {n : Nat} (h : risB l n = true) : setA l n = mskN (toN l) := if_pos h

end Go.Proofs.YtnnfmfdjgdgdhaaDoor


/- Package graph: readOthers. -/
namespace Go.Proofs.YtnnfmfdjgdgdhaaDoor
open Go.RowKit

/-- No list has its own number. -/
def noSelf (L : List (List Int)) : Bool := (List.range L.length).all fun v => !decide (v ∈ toN (L.getD v []))
/-- Lists of other nodes. -/
def gB (L : List (List Int)) : Bool := decide (1 ≤ L.length ∧ L.length ≤ 8) && allRis L L.length && noSelf L

theorem ris_all {l : List Int} {n : Nat} (hn : n ≤ 8) (h : risB l n = true) : ∀ u ∈ toN l, u < 8 := by
  have := ris_small (l := l) (n := n) (i := l.length) hn h (Nat.le_refl _)
  rwa [List.take_length] at this
theorem allRis_at {L : List (List Int)} {n i : Nat} (h : allRis L n = true) (hi : i < L.length) : risB L[i] n = true := List.all_eq_true.1 h _ (List.getElem_mem hi)
theorem noSelf_bad {L : List (List Int)} {i : Nat} (h : i < L.length) (e : i ∈ toN L[i]) : noSelf L = false := by
  rw [noSelf, List.all_eq_false]
  refine ⟨i, List.mem_range.2 h, ?_⟩
  rw [List.getD_eq_getElem?_getD, List.getElem?_eq_getElem h]
  simpa using e
theorem noSelf_good {L : List (List Int)} (h : ∀ i (hi : i < L.length), ¬ i ∈ toN L[i]) : noSelf L = true := by
  rw [noSelf, List.all_eq_true]
  intro i hi
  have hi' := List.mem_range.1 hi
  rw [List.getD_eq_getElem?_getD, List.getElem?_eq_getElem hi']
  simpa using h i hi'

end Go.Proofs.YtnnfmfdjgdgdhaaDoor


/- Plain: the order of nodes, each behind its parents, the least first. -/
namespace Go.Proofs.YtnnfmfdjgdgdhaaDoor

/-- May a node come next? -/
def freeB (P : List (List Nat)) (out : List Nat) (v : Nat) : Bool := !decide (v ∈ out) && decide (∀ u ∈ P.getD v [], u ∈ out)
/-- The least that may. -/
def nextV (P : List (List Nat)) (out : List Nat) : Option Nat := (List.range P.length).find? (freeB P out)
/-- Those that stand there behind k steps. -/
def ordN (P : List (List Nat)) : Nat → List Nat
  | 0 => []
  | k + 1 => match nextV P (ordN P k) with
    | some v => ordN P k ++ [v]
    | none => ordN P k
theorem find_range {p : Nat → Bool} : ∀ {n v : Nat}, v < n → p v = true → (∀ u, u < v → p u = false) → (List.range n).find? p = some v := by
  intro n
  induction n with
  | zero => intro v h; omega
  | succ n ih =>
    intro v hv hp hu
    rw [List.range_succ, List.find?_append]
    rcases Nat.lt_or_ge v n with h | h
    · rw [ih h hp hu]; rfl
    · obtain rfl : v = n := by omega
      have : (List.range v).find? p = none := List.find?_eq_none.2 fun u hu' => by rw [hu u (List.mem_range.1 hu')]; decide
      rw [this]
      simp [hp]
theorem next_some {P : List (List Nat)} {out : List Nat} {v : Nat} (hv : v < P.length) (hp : freeB P out v = true) (hu : ∀ u, u < v → freeB P out u = false) : nextV P out = some v := find_range hv hp hu
theorem next_none {P : List (List Nat)} {out : List Nat} (hu : ∀ u, u < P.length → freeB P out u = false) : nextV P out = none := List.find?_eq_none.2 fun u hu' => by rw [hu u (List.mem_range.1 hu')]; decide
theorem ord_some {P : List (List Nat)} {k v : Nat} (h : nextV P (ordN P k) = some v) : ordN P (k + 1) = ordN P k ++ [v] := by rw [ordN, h]
theorem ord_none {P : List (List Nat)} {k : Nat} (h : nextV P (ordN P k) = none) : ∀ j, ordN P (k + j) = ordN P k
  | 0 => rfl
  | j + 1 => by
    have ih := ord_none h j
    show ordN P (k + j + 1) = _
    rw [ordN, ih, h]
theorem ord_stuck {P : List (List Nat)} {k n : Nat} (h : nextV P (ordN P k) = none) (hk : k ≤ n) : ordN P n = ordN P k := by
  have := ord_none h (n - k)
  rwa [show k + (n - k) = n by omega] at this
theorem ord_len (P : List (List Nat)) : ∀ k, (ordN P k).length ≤ k
  | 0 => Nat.le_refl _
  | k + 1 => by
    have := ord_len P k
    rw [ordN]
    cases nextV P (ordN P k) with
    | none => show (ordN P k).length ≤ _; omega
    | some v => show (ordN P k ++ [v]).length ≤ _; rw [List.length_append]; simp; omega
theorem ord_lt (P : List (List Nat)) : ∀ k, ∀ v ∈ ordN P k, v < P.length
  | 0, v, hv => by cases hv
  | k + 1, v, hv => by
    rw [ordN] at hv
    cases e : nextV P (ordN P k) with
    | none => rw [e] at hv; exact ord_lt P k v hv
    | some u =>
      rw [e] at hv
      rcases List.mem_append.1 hv with h | h
      · exact ord_lt P k v h
      · obtain rfl := List.mem_singleton.1 h
        exact List.mem_range.1 (List.mem_of_find?_eq_some e)
theorem ord_full (P : List (List Nat)) {k : Nat} (h : nextV P (ordN P k) = none) (hk : k < P.length) : (ordN P P.length).length < P.length := by
  rw [ord_stuck h (Nat.le_of_lt hk)]
  have := ord_len P k
  omega
/-- The parents, as numbers. -/
def parN (L : List (List Int)) : List (List Nat) := L.map toN
theorem parN_length (L : List (List Int)) : (parN L).length = L.length := by simp [parN]
theorem parN_get {L : List (List Int)} {i : Nat} (h : i < L.length) : (parN L).getD i [] = toN L[i] := by simp [parN, List.getD_eq_getElem?_getD, h]
theorem masks_par (L : List (List Int)) : masks L = (parN L).map mskN := by simp [masks, parN]
theorem iL_append (a b : List Nat) : iL (a ++ b) = iL a ++ iL b := by simp [iL]
/-- What Check answers. -/
def gcE (L : List (List Int)) : Int := if gB L = true then (if (ordN (parN L) L.length).length < L.length then 10 else 0) else 11
end Go.Proofs.YtnnfmfdjgdgdhaaDoor


/- Names: packages net and the document's answer. -/
namespace Go.Proofs.YtnnfmfdjgdgdhaaDoor
open Go.RowKit

def letN (c : Nat) : Bool := decide (97 ≤ c ∧ c ≤ 122)
def figN (c : Nat) : Bool := decide (48 ≤ c ∧ c ≤ 57)
def worN (c : Nat) : Bool := letN c || figN c || decide (c = 95)
/-- Like a word. -/
def wordB (s : ByteArray) : Bool := (s.data.toList.all fun c => worN c.toNat) && letN (s.data.toList.headD 0).toNat
def isVar (s : ByteArray) : Bool := s.toList == [118, 97, 114]
def isElse (s : ByteArray) : Bool := s.toList == [101, 108, 115, 101]
/-- A name. -/
def nameB (s : ByteArray) : Bool := decide (s.size ≤ 12) && !isVar s && !isElse s && wordB s

theorem letN_eq (c : Nat) : letN c = decide (97 ≤ c ∧ c ≤ 122) := rfl
end Go.Proofs.YtnnfmfdjgdgdhaaDoor


/- Names: isName, of package net and of the document's answer. -/
namespace Go.Proofs.YtnnfmfdjgdgdhaaDoor
open Go.RowKit

theorem take_byte {s : ByteArray} {k : Nat} (h : k < s.size) : s.data.toList.take (k + 1) = s.data.toList.take k ++ [s[k]] := by
  have h' : k < s.data.toList.length := by simpa using h
  rw [List.take_succ_eq_append_getElem h']
  rfl
theorem word_bad {s : ByteArray} {k : Nat} (h : k < s.size) (e : worN s[k].toNat = false) : wordB s = false := by
  have hm : s[k] ∈ s.data.toList := by
    have : s.data.toList[k]'(by simpa using h) = s[k] := rfl
    rw [← this]; exact List.getElem_mem _
  have : (s.data.toList.all fun c => worN c.toNat) = false := by
    rw [List.all_eq_false]; exact ⟨_, hm, by rw [e]; decide⟩
  rw [wordB, this]; rfl
theorem head_zero {s : ByteArray} (h : 0 < s.size) : s.data.toList.headD 0 = s[0] := by
  obtain ⟨⟨l⟩⟩ := s
  cases l with
  | nil => exact absurd h (by decide)
  | cons c l => rfl
theorem word_full {s : ByteArray} (h : 0 < s.size) (e : (s.data.toList.take s.size).all (fun c => worN c.toNat) = true) : wordB s = letN s[0].toNat := by
  have e2 : s.data.toList.all (fun c => worN c.toNat) = true := by
    rwa [List.take_of_length_le (by simp)] at e
  rw [wordB, e2, Bool.true_and, head_zero h]
theorem wor_let {c : Nat} (h : letN c = true) : worN c = true := by rw [worN, h]; rfl

theorem word_head {s : ByteArray} (h : 0 < s.size) (e : letN s[0].toNat = false) : wordB s = false := by rw [wordB, head_zero h, e, Bool.and_false]
end Go.Proofs.YtnnfmfdjgdgdhaaDoor


/- Lists of names: checkNames of package net, namesOK of the document's answer. -/
namespace Go.Proofs.YtnnfmfdjgdgdhaaDoor
open Go.RowKit

/-- A list of texts in memory. -/
def StS (w : World) (a : Option Addr) (l : List ByteArray) : Prop := ∀ k (h : k < l.length), ∃ g o, a = some ⟨g, o, none⟩ ∧ g < w.heap.size ∧ w.cell? ⟨g, o + k, none⟩ = some (.string l[k])
theorem StS.below {w w' : World} {a : Option Addr} {l : List ByteArray} (h : StS w a l) (hb : Below w.heap.size w w') : StS w' a l := fun k hk => by
  obtain ⟨g, o, h1, h2, h3⟩ := h k hk
  exact ⟨g, o, h1, Nat.lt_of_lt_of_le h2 hb.size, (hb.cell (p := ⟨g, o + k, none⟩) h2).trans h3⟩
theorem StS.take {w : World} {a : Option Addr} {l : List ByteArray} (h : StS w a l) (i : Nat) : StS w a (l.take i) := fun k hk => by
  have hk' : k < l.length := by rw [List.length_take] at hk; omega
  obtain ⟨g, o, h1, h2, h3⟩ := h k hk'
  refine ⟨g, o, h1, h2, ?_⟩
  rw [List.getElem_take]
  exact h3
/-- The first error of so many. -/
def firstE (f : Nat → Int) : Nat → Int
  | 0 => 0
  | n + 1 => if firstE f n = 0 then f n else firstE f n
theorem firstE_none {f : Nat → Int} : ∀ {n : Nat}, (∀ j, j < n → f j = 0) → firstE f n = 0
  | 0, _ => rfl
  | n + 1, h => by rw [firstE, if_pos (firstE_none fun j hj => h j (by omega)), h n (by omega)]
theorem firstE_at {f : Nat → Int} {i : Nat} (h : ∀ j, j < i → f j = 0) (hi : f i ≠ 0) : ∀ {n : Nat}, i < n → firstE f n = f i
  | 0, hn => by omega
  | n + 1, hn => by
    rcases Nat.lt_or_ge i n with h1 | h1
    · rw [firstE, firstE_at h hi h1, if_neg hi]
    · obtain rfl : i = n := by omega
      rw [firstE, if_pos (firstE_none h)]
theorem zero_upto {f : Nat → Int} {i : Nat} (h : ∀ j, j < i → f j = 0) (hi : f i = 0) : ∀ j, j < i + 1 → f j = 0 := fun j hj => by
  rcases Nat.lt_or_ge j i with h1 | h1
  · exact h j h1
  · obtain rfl : j = i := by omega
    exact hi
/-- Is a text among these? -/
def memS (l : List ByteArray) (v : ByteArray) : Bool := l.any fun x => decide (x = v)
/-- What is wrong with a name. -/
def nameE (l : List ByteArray) (i : Nat) : Int := if nameB (l.getD i ⟨#[]⟩) = true then (if memS (l.take i) (l.getD i ⟨#[]⟩) = true then 7 else 0) else 4
/-- What is wrong with names. -/
def namesE (l : List ByteArray) : Int := firstE (nameE l) l.length
theorem getS {l : List ByteArray} {i : Nat} (h : i < l.length) : l.getD i ⟨#[]⟩ = l[i] := by rw [List.getD_eq_getElem?_getD, List.getElem?_eq_getElem h]; rfl
/-- The first place of a text. -/
def placeS (l : List ByteArray) (v : ByteArray) : Int := match l.findIdx? (fun x => decide (x = v)) with
  | some i => (i : Int)
  | none => -1
theorem bytes_eq {a b : ByteArray} : (a.toList == b.toList) = decide (a = b) := by
  rw [Bool.eq_iff_iff, beq_iff_eq, decide_eq_true_iff]
  constructor
  · intro h
    rw [toList_data, toList_data] at h
    obtain ⟨⟨x⟩⟩ := a
    obtain ⟨⟨y⟩⟩ := b
    simp only at h
    rw [h]
  · intro h; rw [h]
theorem place_at {l : List ByteArray} {v : ByteArray} {i : Nat} (h : i < l.length) (e : l[i] = v) (hn : ∀ j (hj : j < l.length), j < i → ¬ l[j] = v) : placeS l v = i := by
  have : l.findIdx? (fun x => decide (x = v)) = some i := List.findIdx?_eq_some_iff_getElem.2 ⟨h, decide_eq_true e, fun j hj => by
    rw [decide_eq_true_iff]
    exact hn j (by omega) hj⟩
  rw [placeS, this]
theorem place_no {l : List ByteArray} {v : ByteArray} (hn : ∀ j (hj : j < l.length), ¬ l[j] = v) : placeS l v = -1 := by
  have : l.findIdx? (fun x => decide (x = v)) = none := List.findIdx?_eq_none_iff.2 fun x hx => by
    obtain ⟨j, hj, rfl⟩ := List.getElem_of_mem hx
    exact decide_eq_false (hn j hj)
  rw [placeS, this]
theorem place_mem (l : List ByteArray) (v : ByteArray) : decide (0 ≤ placeS l v) = memS l v := by
  rw [Bool.eq_iff_iff, decide_eq_true_iff, memS, List.any_eq_true, placeS]
  cases e : l.findIdx? (fun x => decide (x = v)) with
  | some i =>
    obtain ⟨h, hp, _⟩ := List.findIdx?_eq_some_iff_getElem.1 e
    exact ⟨fun _ => ⟨l[i], List.getElem_mem h, hp⟩, fun _ => by show (0 : Int) ≤ (i : Int); omega⟩
  | none =>
    have := List.findIdx?_eq_none_iff.1 e
    exact ⟨fun h => by exact absurd (show (0 : Int) ≤ -1 from h) (by decide), fun ⟨x, hx, hp⟩ => by rw [this x hx] at hp; cases hp⟩
theorem place_lt {l : List ByteArray} {i : Nat} (h : i < l.length) : decide (placeS l l[i] < (i : Int)) = memS (l.take i) l[i] := by
  rw [Bool.eq_iff_iff, decide_eq_true_iff, memS, List.any_eq_true]
  have hex : ∃ k, l.findIdx? (fun x => decide (x = l[i])) = some k := by
    cases e : l.findIdx? (fun x => decide (x = l[i])) with
    | some k => exact ⟨k, rfl⟩
    | none => have := List.findIdx?_eq_none_iff.1 e l[i] (List.getElem_mem h); simp at this
  obtain ⟨k, hk⟩ := hex
  obtain ⟨h1, h2, h3⟩ := List.findIdx?_eq_some_iff_getElem.1 hk
  have e : placeS l l[i] = k := by rw [placeS, hk]
  rw [e]
  constructor
  · intro hlt
    have hki : k < i := by omega
    refine ⟨l[k], ?_, h2⟩
    rw [List.mem_take_iff_getElem]
    exact ⟨k, by omega, rfl⟩
  · rintro ⟨x, hx, hp⟩
    obtain ⟨j, hj, rfl⟩ := List.mem_take_iff_getElem.1 hx
    rcases Nat.lt_or_ge k i with h4 | h4
    · omega
    · exact absurd hp (h3 j (by omega))

end Go.Proofs.YtnnfmfdjgdgdhaaDoor


/- Rows of chances: isRow of package net. -/
namespace Go.Proofs.YtnnfmfdjgdgdhaaDoor
open Go.RowKit Go.Shelf

/-- Chances: none below 0, 1 together. -/
def rowB (l : List Fr) : Bool := (l.all fun f => decide (¬ frQ f < 0)) && decide (fsum l = 1)
theorem cmp_below {p : Rat} : cmpQ p 0 < 0 ↔ p < 0 := by
  rw [cmpQ]
  by_cases h : p < 0
  · rw [if_pos h]; exact ⟨fun _ => h, fun _ => by decide⟩
  · rw [if_neg h]
    by_cases e : p = 0
    · rw [if_pos e]; exact ⟨fun h => absurd h (by decide), fun h' => absurd h' h⟩
    · rw [if_neg e]; exact ⟨fun h => absurd h (by decide), fun h' => absurd h' h⟩
theorem cmp_same {p : Rat} : (cmpQ p 1 == 0) = decide (p = 1) := by
  rw [Bool.eq_iff_iff, beq_iff_eq, decide_eq_true_iff, cmpQ]
  by_cases h : p < 1
  · rw [if_pos h]; exact ⟨fun h => absurd h (by decide), fun e => by rw [e] at h; exact absurd h (by decide)⟩
  · rw [if_neg h]
    by_cases e : p = 1
    · rw [if_pos e]; exact ⟨fun _ => e, fun _ => rfl⟩
    · rw [if_neg e]; exact ⟨fun h => absurd h (by decide), fun h' => absurd h' e⟩
theorem rowB_neg {l : List Fr} {i : Nat} (h : i < l.length) (e : frQ l[i] < 0) : rowB l = false := by
  have : (l.all fun f => decide (¬ frQ f < 0)) = false := by
    rw [List.all_eq_false]; exact ⟨l[i], List.getElem_mem h, by simpa using e⟩
  rw [rowB, this]; rfl
theorem rowB_all {l : List Fr} (h : ∀ i (hi : i < l.length), ¬ frQ l[i] < 0) : rowB l = decide (fsum l = 1) := by
  have : (l.all fun f => decide (¬ frQ f < 0)) = true := by
    rw [List.all_eq_true]
    intro f hf
    obtain ⟨i, hi, rfl⟩ := List.getElem_of_mem hf
    exact decide_eq_true (h i hi)
  rw [rowB, this, Bool.true_and]
theorem qw_one2 : qw 1 ≤ 2 := by
  show (B 1).size + (B 1).size ≤ 2
  have := B_one_size
  omega
theorem fw_each {l : List Fr} {i : Nat} (h : i < l.length) (hw : fw l ≤ 10000) : l[i].2.1.size + l[i].2.2.size ≤ 10000 := by have := fw_mem (List.getElem_mem h); omega

end Go.Proofs.YtnnfmfdjgdgdhaaDoor


/- slices.IndexFunc and slices.ContainsFunc of fractions, whatever is asked; the first number of which something holds. -/
namespace Go.Proofs.YtnnfmfdjgdgdhaaDoor
open Go.RowKit Go.Shelf

set_option maxRecDepth 100000 in
set_option maxHeartbeats 400000 in
/-- slices.IndexFunc of fractions, whatever is asked. -/
theorem idxFr_any (a : Option Addr) (ca f : Nat) (lb : Array Value) (F : List Fr) (p : Fr → Bool) (w : World) (h : FrS w a F) (hn : F.length ≤ 10000) (eF : ∀ args w, (callFunc f args).run Tryd.prog w = .ok (.enter f args) w)
    (hp : ∀ q ∈ F, ∀ U : World, Below w.heap.size w U → Calls Tryd.prog f (#[.agg #[.bool q.1, .string q.2.1, .string q.2.2]] ++ lb) U fun e w' => e = .returned (.bool (p q)) ∧ Below U.heap.size U w') :
    Calls Tryd.prog 37 #[.slice a F.length ca, .func (.func f) #[] lb] w fun e w' => ∃ j : Int, e = .returned (.int .i64 j) ∧ decide (0 ≤ j) = F.any p ∧ Below w.heap.size w w' := by
  have HF := hid h
  have HP := hid hp
  have HNO : Hid ((∀ i (hi : i < F.length), p F[i] = false) → F.any p = false) := fun hh => List.any_eq_false.2 fun q hq => by
    obtain ⟨i, hi, rfl⟩ := List.getElem_of_mem hq
    rw [hh i hi]; decide
  have HYE : Hid (∀ i (hi : i < F.length), p F[i] = true → F.any p = true) := fun i hi hh => List.any_eq_true.2 ⟨_, List.getElem_mem hi, hh⟩
  clear h hp
  generalize F.any p = R at *
  go_enter Tryd.func37, Tryd.ntmps37
  go_wp2_with fail
  go_loopw [8] (fun iv wr => ∃ i : Nat, i ≤ F.length ∧ iv = .int .i64 i ∧ Hid (∀ j (hj : j < F.length), j < i → p F[j] = false) ∧ Hid (Below w.heap.size w wr)) (fun iv _ => F.length - (intOf iv).toNat)
  case atStart => exact ⟨0, Nat.zero_le _, rfl, (fun j _ hj => absurd hj (by omega)), Below.refl _ _⟩
  case round =>
    obtain ⟨i, hi, rfl, HN, HB⟩ := hrel
    by_cases hlt : i < F.length
    · obtain ⟨g, o, rfl, hg, h0, h1, h2⟩ := HF.out i hlt
      have k0 := (HB.out.cell (p := ⟨g, _, none⟩) hg).trans h0
      have k1 := (HB.out.cell (p := ⟨g, _, none⟩) hg).trans h1
      have k2 := (HB.out.cell (p := ⟨g, _, none⟩) hg).trans h2
      have HC := hid (HP.out F[i] (List.getElem_mem hlt) wr HB.out)
      have HYi := hid (HYE.out i hlt)
      have HNX : Hid (p F[i] = false → ∀ j (hj : j < F.length), j < i + 1 → p F[j] = false) := fun e j hj hlt' => by
        rcases Nat.lt_or_ge j i with h2 | h2
        · exact HN.out j hj h2
        · obtain rfl : j = i := by omega
          exact e
      clear h0 h1 h2
      generalize p F[i] = q at *
      generalize F[i].1 = f1 at *
      generalize F[i].2.1 = f2 at *
      generalize F[i].2.2 = f3 at *
      go_wp2_with fail
      refine HC.out.mono ?_
      rintro e w2 ⟨rfl, hb2⟩
      have HB2 := hid (HB.out.trans (hb2.mono HB.out.size))
      clear hb2 HC
      cases q with
      | true =>
        have HE := hid (HYi.out rfl)
        go_wp2
        go_ret
        exact ⟨(i : Nat), rfl, by rw [HE.out]; simp, HB2.out⟩
      | false =>
        have HE := hid (HNX.out rfl)
        go_wp2
        go_roundw
        case rel => exact ⟨i + 1, by omega, by go_num, HE, HB2⟩
        case measure => simp [intOf]; omega
    · obtain rfl : i = F.length := by omega
      have HE := hid (HNO.out fun j hj => HN.out j hj hj)
      go_wp2
      go_ret
      exact ⟨-1, rfl, by rw [HE.out]; rfl, HB.out⟩

set_option maxRecDepth 100000 in
set_option maxHeartbeats 400000 in
theorem conFr_any (a : Option Addr) (ca f : Nat) (lb : Array Value) (F : List Fr) (p : Fr → Bool) (w : World) (h : FrS w a F) (hn : F.length ≤ 10000) (eF : ∀ args w, (callFunc f args).run Tryd.prog w = .ok (.enter f args) w)
    (hp : ∀ q ∈ F, ∀ U : World, Below w.heap.size w U → Calls Tryd.prog f (#[.agg #[.bool q.1, .string q.2.1, .string q.2.2]] ++ lb) U fun e w' => e = .returned (.bool (p q)) ∧ Below U.heap.size U w') :
    Calls Tryd.prog 22 #[.slice a F.length ca, .func (.func f) #[] lb] w fun e w' => e = .returned (.bool (F.any p)) ∧ Below w.heap.size w w' := by
  have HI := hid (idxFr_any a ca f lb F p w h hn eF hp)
  clear h hp
  generalize F.any p = R at *
  go_enter Tryd.func22, Tryd.ntmps22
  go_wp2_with fail
  refine HI.out.mono ?_
  rintro e w2 ⟨j, rfl, hj, hb2⟩
  have HB := hid hb2
  have HJ := hid hj
  clear hb2 hj
  go_wp2
  go_ret
  exact ⟨by rw [← HJ.out]; rfl, HB.out⟩


set_option maxRecDepth 100000 in
set_option maxHeartbeats 400000 in
/-- slices.IndexFunc of numbers, where it holds of one: the first one of which it does. -/
theorem idxFI_first (a : Option Addr) (ca f n : Nat) (lb : Array Value) (F : List Int) (hF : F.length = n) (p : Int → Bool) (w : World) (h : IntS w a F) (hn : F.length ≤ 10000) (hex : ∃ i, ∃ h : i < F.length, p F[i] = true) (eF : ∀ args w, (callFunc f args).run Tryd.prog w = .ok (.enter f args) w)
    (hp : ∀ q ∈ F, ∀ U : World, Below w.heap.size w U → Calls Tryd.prog f (#[.int .i64 q] ++ lb) U fun e w' => e = .returned (.bool (p q)) ∧ Below U.heap.size U w') :
    Calls Tryd.prog 27 #[.slice a n ca, .func (.func f) #[] lb] w fun e w' => ∃ j : Nat, e = .returned (.int .i64 (j : Nat)) ∧ (∃ h : j < F.length, p F[j] = true) ∧ (∀ i (h : i < F.length), i < j → p F[i] = false) ∧ Below w.heap.size w w' := by
  subst hF
  have HF := hid h
  have HP := hid hp
  have HEX := hid hex
  clear h hp hex
  go_enter Tryd.func27, Tryd.ntmps27
  go_wp2_with fail
  go_loopw [8] (fun iv wr => ∃ i : Nat, i ≤ F.length ∧ iv = .int .i64 i ∧ Hid (∀ j (hj : j < F.length), j < i → p F[j] = false) ∧ Hid (Below w.heap.size w wr)) (fun iv _ => F.length - (intOf iv).toNat)
  case atStart => exact ⟨0, Nat.zero_le _, rfl, (fun j _ hj => absurd hj (by omega)), Below.refl _ _⟩
  case round =>
    obtain ⟨i, hi, rfl, HN, HB⟩ := hrel
    by_cases hlt : i < F.length
    · obtain ⟨g, o, rfl, hg, h0⟩ := HF.out i hlt
      have k0 := (HB.out.cell (p := ⟨g, _, none⟩) hg).trans h0
      have HC := hid (HP.out F[i] (List.getElem_mem hlt) wr HB.out)
      have HYi : Hid (p F[i] = true → ∃ h : i < F.length, p F[i] = true) := fun e => ⟨hlt, e⟩
      have HNX : Hid (p F[i] = false → ∀ j (hj : j < F.length), j < i + 1 → p F[j] = false) := fun e j hj hlt' => by
        rcases Nat.lt_or_ge j i with h2 | h2
        · exact HN.out j hj h2
        · obtain rfl : j = i := by omega
          exact e
      clear h0
      obtain ⟨q, hq⟩ : ∃ q, p F[i] = q := ⟨_, rfl⟩
      rw [hq] at HC
      have HQ := hid hq
      clear hq
      generalize F[i] = f1 at *
      go_wp2_with fail
      refine HC.out.mono ?_
      rintro e w2 ⟨rfl, hb2⟩
      have HB2 := hid (HB.out.trans (hb2.mono HB.out.size))
      clear hb2 HC
      cases q with
      | true =>
        have HE := hid (HYi.out HQ.out)
        go_wp2
        go_ret
        exact ⟨i, rfl, HE.out, HN.out, HB2.out⟩
      | false =>
        have HE := hid (HNX.out HQ.out)
        go_wp2
        go_roundw
        case rel => exact ⟨i + 1, by omega, by go_num, HE, HB2⟩
        case measure => simp [intOf]; omega
    · obtain rfl : i = F.length := by omega
      obtain ⟨j, hj, h⟩ := HEX.out
      rw [HN.out j hj hj] at h
      cases h
end Go.Proofs.YtnnfmfdjgdgdhaaDoor


/- Rows of chances: Chances of the document's answer. -/
namespace Go.Proofs.YtnnfmfdjgdgdhaaDoor
open Go.RowKit Go.Shelf

theorem one_eq {α : Type} {s : Rat} {T F : α} : (if sgn s = sgn 1 then if (nu s).toList = (nu 1).toList then if (de s).toList = (de 1).toList then T else F else F else F) = if s = 1 then T else F := by
  by_cases h : s = 1
  · subst h; simp
  · rw [if_neg h]
    by_cases h1 : sgn s = sgn 1
    · by_cases h2 : (nu s).toList = (nu 1).toList
      · by_cases h3 : (de s).toList = (de 1).toList
        · exfalso
          apply h
          have e2 : nu s = nu 1 := of_decide_eq_true (bytes_eq.symm.trans (beq_iff_eq.2 h2))
          have e3 : de s = de 1 := of_decide_eq_true (bytes_eq.symm.trans (beq_iff_eq.2 h3))
          rw [← val_own s, h1, e2, e3, val_own]
        · rw [if_pos h1, if_pos h2, if_neg h3]
      · rw [if_pos h1, if_neg h2]
    · rw [if_neg h1]
theorem rOf_zero (w : World) : Calls Tryd.prog 9 #[.int .i64 0] w fun e w' => e = .returned (.agg #[.bool (sgn 0), .string (nu 0), .string (de 0)]) ∧ Below w.heap.size w w' := by
  have := rOfF_any 0 w (by omega) (by omega)
  exact this
theorem rOf_one (w : World) : Calls Tryd.prog 9 #[.int .i64 1] w fun e w' => e = .returned (.agg #[.bool (sgn 1), .string (nu 1), .string (de 1)]) ∧ Below w.heap.size w w' := by
  have := rOfF_any 1 w (by omega) (by omega)
  exact this
end Go.Proofs.YtnnfmfdjgdgdhaaDoor


/- Package nat: Int. -/
namespace Go.Proofs.YtnnfmfdjgdgdhaaDoor
open Go.RowKit

theorem Of_max (w : World) : Calls Tryd.prog 43 #[.int .i64 9223372036854775807] w fun e w' => e = .returned (.string (B 9223372036854775807)) ∧ Below w.heap.size w w' :=
  Of_any 9223372036854775807 w (by decide) (by decide)

set_option maxRecDepth 100000 in
set_option maxHeartbeats 1000000 in
theorem Int_no (s : ByteArray) (w : World) (h : 9223372036854775807 < N s) :
    Calls Tryd.prog 46 #[.string s] w fun e w' => e = .returned (.tuple #[.int .i64 0, .bool false]) ∧ Below w.heap.size w w' := by
  have HO := hide (Of_max w)
  have hc := fun V => Cmp_any s (B 9223372036854775807) V
  rw [N_B, cmpI_gt h] at hc
  have HC := hide hc
  clear hc h
  generalize B 9223372036854775807 = m at *
  go_enter Tryd.func46, Tryd.ntmps46
  go_wp2_with fail
  refine (HO.out).mono ?_
  rintro e w1 ⟨rfl, hb1⟩
  go_wp2_with fail
  refine (HC.out _).mono ?_
  rintro e w2 ⟨rfl, hw⟩
  subst hw
  go_wp2
  go_ret2
  exact ⟨rfl, hb1⟩

set_option maxRecDepth 100000 in
set_option maxHeartbeats 1000000 in
theorem Int_yes (s : ByteArray) (w : World) (hs : s.size ≤ 1000000) (h : N s ≤ 9223372036854775807) :
    Calls Tryd.prog 46 #[.string s] w fun e w' => e = .returned (.tuple #[.int .i64 (N s : Nat), .bool true]) ∧ Below w.heap.size w w' := by
  have HO := hide (Of_max w)
  have hc := fun V => Cmp_any s (B 9223372036854775807) V
  obtain ⟨r, hr, hr0⟩ : ∃ r : Int, cmpI (N s) (N (B 9223372036854775807)) = r ∧ ¬ 0 < r := ⟨_, rfl, by rw [N_B, cmpI]; by_cases h1 : N s < 9223372036854775807; (rw [if_pos h1]; decide); (rw [if_neg h1, if_pos (by omega)]; decide)⟩
  rw [hr] at hc
  have HC := hide hc
  have HS := hide (fun V => spread_some s V (by omega))
  have hwl : (words (N s)).length ≤ 2 := by
    rw [words_length]
    have := bn_fits 8 (N s) (by show _ < 18446744073709551616; omega)
    omega
  have HW := hide (fun (g cap : Nat) (V : World) (hl : Lies V g 0 (words (N s))) => wordOf_any g cap (words (N s)) V (words_small _) hwl hl)
  rw [nw_words] at HW
  generalize B 9223372036854775807 = m at *
  clear hc hr
  generalize words (N s) = ws at *
  generalize N s = n at *
  go_enter Tryd.func46, Tryd.ntmps46
  go_wp2_with fail
  refine (HO.out).mono ?_
  rintro e w1 ⟨rfl, hb1⟩
  go_wp2_with fail
  refine (HC.out _).mono ?_
  rintro e w2 ⟨rfl, hw⟩
  subst hw
  go_wp2_with fail
  refine (HS.out _).mono ?_
  rintro e w3 ⟨g, cap, rfl, hH, hb3⟩
  have hl := (own_lies hH).2.2.2
  have HW' := hide (HW.out g cap w3 hl)
  clear hH hl HW
  go_wp2_with fail
  refine (HW'.out).mono ?_
  rintro e w4 ⟨rfl, hw⟩
  subst hw
  go_wp2
  go_ret2
  exact ⟨rfl, hb1.trans (hb3.mono hb1.size)⟩
end Go.Proofs.YtnnfmfdjgdgdhaaDoor


/- Lists of names: checkNames of package net, namesOK of the document's answer. -/
namespace Go.Proofs.YtnnfmfdjgdgdhaaDoor
open Go.RowKit

theorem nameE_word {l : List ByteArray} {i : Nat} (h : i < l.length) (e : nameB l[i] = false) : nameE l i = 4 := by rw [nameE, getS h, e, if_neg (by decide)]
theorem nameE_double {l : List ByteArray} {i : Nat} (h : i < l.length) (e : nameB l[i] = true) (e' : memS (l.take i) l[i] = true) : nameE l i = 7 := by rw [nameE, getS h, e, if_pos rfl, e', if_pos rfl]
theorem nameE_ok {l : List ByteArray} {i : Nat} (h : i < l.length) (e : nameB l[i] = true) (e' : memS (l.take i) l[i] = false) : nameE l i = 0 := by rw [nameE, getS h, e, if_pos rfl, e', if_neg (by decide)]

end Go.Proofs.YtnnfmfdjgdgdhaaDoor


/- Package table: join of places. -/
namespace Go.Proofs.YtnnfmfdjgdgdhaaDoor
open Go.RowKit Go.Shelf

end Go.Proofs.YtnnfmfdjgdgdhaaDoor


/- Package table: the first place that has the greatest number. -/
namespace Go.Proofs.YtnnfmfdjgdgdhaaDoor
open Go.RowKit Go.Shelf

theorem heldF {w u : World} {Bc g o : Nat} {x : Value} {n m : Bool} {p q r s : ByteArray} {j k : Nat} (hb : Below w.heap.size w u) (hB : Bc < w.heap.size) (hg : g < w.heap.size) (h : w.cell? ⟨Bc, 0, none⟩ = some x)
    (a0 : w.cell? ⟨g, o + j * 3, none⟩ = some (.bool n)) (a1 : w.cell? ⟨g, o + j * 3 + 1, none⟩ = some (.string p)) (a2 : w.cell? ⟨g, o + j * 3 + 2, none⟩ = some (.string q)) (b0 : w.cell? ⟨g, o + k * 3, none⟩ = some (.bool m)) (b1 : w.cell? ⟨g, o + k * 3 + 1, none⟩ = some (.string r)) (b2 : w.cell? ⟨g, o + k * 3 + 2, none⟩ = some (.string s)) :
    (u.cell? ⟨Bc, 0, none⟩ = some x ∧ u.cell? ⟨g, o + j * 3, none⟩ = some (.bool n) ∧ u.cell? ⟨g, o + j * 3 + 1, none⟩ = some (.string p) ∧ u.cell? ⟨g, o + j * 3 + 2, none⟩ = some (.string q) ∧ u.cell? ⟨g, o + k * 3, none⟩ = some (.bool m) ∧ u.cell? ⟨g, o + k * 3 + 1, none⟩ = some (.string r) ∧ u.cell? ⟨g, o + k * 3 + 2, none⟩ = some (.string s)) ∧ Hid (Below w.heap.size w u) :=
  ⟨⟨(hb.cell (p := ⟨Bc, 0, none⟩) hB).trans h, (hb.cell (p := ⟨g, _, none⟩) hg).trans a0, (hb.cell (p := ⟨g, _, none⟩) hg).trans a1, (hb.cell (p := ⟨g, _, none⟩) hg).trans a2, (hb.cell (p := ⟨g, _, none⟩) hg).trans b0, (hb.cell (p := ⟨g, _, none⟩) hg).trans b1, (hb.cell (p := ⟨g, _, none⟩) hg).trans b2⟩, hb⟩

end Go.Proofs.YtnnfmfdjgdgdhaaDoor


/- Rows of fractions. -/
namespace Go.Proofs.YtnnfmfdjgdgdhaaDoor
open Go.RowKit Go.Shelf

/-- The cells of fractions. -/
def frC : List Fr → List Value
  | [] => []
  | f :: l => .bool f.1 :: .string f.2.1 :: .string f.2.2 :: frC l
theorem frC_length : ∀ l : List Fr, (frC l).length = 3 * l.length
  | [] => rfl
  | f :: l => by simp only [frC, List.length_cons, frC_length l]; omega
theorem frC_get : ∀ (l : List Fr) (k : Nat) (h : k < l.length), (frC l)[k * 3]? = some (.bool l[k].1) ∧ (frC l)[k * 3 + 1]? = some (.string l[k].2.1) ∧ (frC l)[k * 3 + 2]? = some (.string l[k].2.2)
  | [], _, h => absurd h (by simp)
  | f :: l, 0, _ => ⟨rfl, rfl, rfl⟩
  | f :: l, k + 1, h => by
    have h' : k < l.length := by simpa using h
    obtain ⟨h1, h2, h3⟩ := frC_get l k h'
    have e : (k + 1) * 3 = k * 3 + 1 + 1 + 1 := by omega
    refine ⟨?_, ?_, ?_⟩
    · rw [e]; exact h1
    · rw [show (k + 1) * 3 + 1 = (k * 3 + 1) + 1 + 1 + 1 by omega]; exact h2
    · rw [show (k + 1) * 3 + 2 = (k * 3 + 2) + 1 + 1 + 1 by omega]; exact h3
theorem frC_set : ∀ (l : List Fr) (k : Nat) (f : Fr), (((frC l).set (k * 3) (.bool f.1)).set (k * 3 + 1) (.string f.2.1)).set (k * 3 + 2) (.string f.2.2) = frC (l.set k f)
  | [], k, f => by simp [frC]
  | x :: l, 0, f => by simp [frC]
  | x :: l, k + 1, f => by
    rw [show (k + 1) * 3 = k * 3 + 1 + 1 + 1 by omega, show k * 3 + 1 + 1 + 1 + 1 = (k * 3 + 1) + 1 + 1 + 1 by omega, show k * 3 + 1 + 1 + 1 + 2 = (k * 3 + 2) + 1 + 1 + 1 by omega]
    simp only [frC, List.set_cons_succ, frC_set l k f]
/-- A row of fractions in a block of its own. -/
def RowF (w : World) (g : Nat) (l : List Fr) : Prop := w.heap[g]? = some (.cells (frC l).toArray 30 (0, 0))
theorem RowF.lt {w : World} {g : Nat} {l : List Fr} (h : RowF w g l) : g < w.heap.size := (Array.getElem?_eq_some_iff.1 h).1
theorem RowF.fz {w : World} {g : Nat} {l : List Fr} (h : RowF w g l) (j : Nat) : w.frozen? ⟨g, j, none⟩ = false := frozen_of_row w g j _ _ h
theorem RowF.below {w w' : World} {g b : Nat} {l : List Fr} (h : RowF w g l) (hb : Below b w w') (hg : g < b) : RowF w' g l := (hb.block g hg).trans h
theorem RowF.cells {w : World} {g : Nat} {l : List Fr} (h : RowF w g l) (k : Nat) (hk : k < l.length) : w.cell? ⟨g, k * 3, none⟩ = some (.bool l[k].1) ∧ w.cell? ⟨g, k * 3 + 1, none⟩ = some (.string l[k].2.1) ∧ w.cell? ⟨g, k * 3 + 2, none⟩ = some (.string l[k].2.2) := by
  obtain ⟨h1, h2, h3⟩ := frC_get l k hk
  refine ⟨?_, ?_, ?_⟩ <;> rw [cell_of_row w g _ _ _ (0, 0) h] <;> simpa using (by assumption)
theorem RowF.fr {w : World} {g : Nat} {l : List Fr} (h : RowF w g l) : FrS w (some ⟨g, 0, none⟩) l := fun k hk => by
  obtain ⟨h1, h2, h3⟩ := h.cells k hk
  refine ⟨g, 0, rfl, h.lt, ?_, ?_, ?_⟩
  · rw [Nat.zero_add]; exact h1
  · rw [Nat.zero_add]; exact h2
  · rw [Nat.zero_add]; exact h3
theorem RowF.put {w : World} {g : Nat} {l : List Fr} (h : RowF w g l) (k : Nat) (f : Fr) : RowF (((w.setCell ⟨g, k * 3, none⟩ (.bool f.1)).setCell ⟨g, k * 3 + 1, none⟩ (.string f.2.1)).setCell ⟨g, k * 3 + 2, none⟩ (.string f.2.2)) g (l.set k f) := by
  have h1 := heap_setCell_same w g (k * 3) _ _ (.bool f.1) h
  have h2 := heap_setCell_same _ g (k * 3 + 1) _ _ (.string f.2.1) h1
  have h3 := heap_setCell_same _ g (k * 3 + 2) _ _ (.string f.2.2) h2
  rw [RowF, h3, ← frC_set]
  simp
end Go.Proofs.YtnnfmfdjgdgdhaaDoor

