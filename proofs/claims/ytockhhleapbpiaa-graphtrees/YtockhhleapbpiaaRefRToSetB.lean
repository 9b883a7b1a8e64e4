/- The document's answer: sums, differences, products, quotients and comparisons of fractions. -/
import Derived.Test.YtockhhleapbpiaaRefCToRefQ
import Derived.BigQuiet
import Derived.Test.YtockhhleapbpiaaTabR4ToSetA
import Derived.Test.YtockhhleapbpiaaNumJToRefA
import Derived.Laws.EntriesVeiled
namespace Go.Proofs.Ytockhhleapbpiaa
open Go.RowKit

theorem N_nu (q : Rat) : N (nu q) = q.num.natAbs := N_B _
theorem N_de (q : Rat) : N (de q) = q.den := N_B _

theorem sum_same {p q : Rat} (h : sgn p = sgn q) : val (sgn p) (B (p.num.natAbs * q.den + q.num.natAbs * p.den)) (B (p.den * q.den)) = p + q := by
  have e := val_add (sgn p) (sgn q) (nu p) (de p) (nu q) (de q) (by rw [N_de]; exact p.den_nz) (by rw [N_de]; exact q.den_nz)
  rw [val_own, val_own, N_nu, N_nu, N_de, N_de, ← h, ← sg_add] at e
  rw [val, N_B, N_B, e]
theorem sum_gt {p q : Rat} (h : ¬ sgn p = sgn q) (hle : q.num.natAbs * p.den ≤ p.num.natAbs * q.den) : val (sgn p) (B (p.num.natAbs * q.den - q.num.natAbs * p.den)) (B (p.den * q.den)) = p + q := by
  have e := val_add (sgn p) (sgn q) (nu p) (de p) (nu q) (de q) (by rw [N_de]; exact p.den_nz) (by rw [N_de]; exact q.den_nz)
  rw [val_own, val_own, N_nu, N_nu, N_de, N_de, ← sg_sub h (k := p.num.natAbs * q.den - q.num.natAbs * p.den) (by omega)] at e
  rw [val, N_B, N_B, e]
theorem sum_lt {p q : Rat} (h : ¬ sgn p = sgn q) (hle : p.num.natAbs * q.den ≤ q.num.natAbs * p.den) : val (sgn q) (B (q.num.natAbs * p.den - p.num.natAbs * q.den)) (B (p.den * q.den)) = p + q := by
  have e := val_add (sgn p) (sgn q) (nu p) (de p) (nu q) (de q) (by rw [N_de]; exact p.den_nz) (by rw [N_de]; exact q.den_nz)
  rw [val_own, val_own, N_nu, N_nu, N_de, N_de, ← sg_sub' h (k := q.num.natAbs * p.den - p.num.natAbs * q.den) (by omega)] at e
  rw [val, N_B, N_B, e]

end Go.Proofs.Ytockhhleapbpiaa


/- The document's answer: differences, products, quotients, comparisons, whole numbers. -/
namespace Go.Proofs.Ytockhhleapbpiaa
open Go.RowKit

theorem nu_zero {q : Rat} (h : q = 0) : nu q = ⟨#[]⟩ := by subst h; exact B_zero
theorem nu_full {q : Rat} (h : ¬ q = 0) : (nu q).toList.isEmpty = false := B_full (by rw [Ne, Int.natAbs_eq_zero, Rat.num_eq_zero]; exact h)

theorem cmp_sub (p q : Rat) : cmpQ p q = if p - q = 0 then 0 else if sgn (p - q) = true then -1 else 1 := by
  have hs : sgn (p - q) = true ↔ p - q < 0 := by
    have h := Rat.num_nonneg (q := p - q)
    rw [sgn, decide_eq_true_iff]
    constructor
    · intro h1; have h2 : ¬ 0 ≤ p - q := fun e => absurd (h.2 e) (by omega)
      grind
    · intro h1; have h2 : ¬ 0 ≤ (p - q).num := fun e => absurd (h.1 e) (by grind)
      omega
  by_cases h : p - q = 0
  · rw [if_pos h, cmpQ, if_neg (by grind), if_pos (by grind)]
  · rw [if_neg h]
    by_cases h1 : p - q < 0
    · rw [if_pos (hs.2 h1), cmpQ, if_pos (by grind)]
    · rw [if_neg (fun e => h1 (hs.1 e)), cmpQ, if_neg (by grind), if_neg (by grind)]

theorem of_neg {k : Int} (h : k < 0) : C (mkRat k 1) = .agg #[.bool true, .string (B ((-(k + 1)).toNat + 1)), .string (B 1)] := by
  have e : k = sg true ((-(k + 1)).toNat + 1) := by simp only [sg, if_true]; omega
  have h1 := C_make true ((-(k + 1)).toNat + 1) 1 (by omega) (by decide)
  rw [← e, Nat.gcd_one_right, Nat.div_one, Nat.div_one] at h1
  exact h1
theorem of_pos (n : Nat) : C (mkRat (n : Int) 1) = .agg #[.bool false, .string (B n), .string (B 1)] := by
  by_cases h : n = 0
  · subst h; rw [show ((0 : Nat) : Int) = 0 from rfl, Rat.zero_mkRat, C_zero, B_zero]
  · have h1 := C_make false n 1 h (by decide)
    rw [Nat.gcd_one_right, Nat.div_one, Nat.div_one] at h1
    exact h1

end Go.Proofs.Ytockhhleapbpiaa


/- Sums of whole lists of fractions: package frac's and the document's answer. -/
namespace Go.Proofs.Ytockhhleapbpiaa
open Go.RowKit

/-- A number with numerator and denominator of at most m bytes. -/
def Fits (m : Nat) (q : Rat) : Prop := ∃ (A : Int) (D : Nat), D ≠ 0 ∧ q = mkRat A D ∧ D < 256 ^ m ∧ A.natAbs < 256 ^ m
theorem fits_qw {m : Nat} {q : Rat} (h : Fits m q) : qw q ≤ 2 * m := by
  obtain ⟨A, D, hD, rfl, h1, h2⟩ := h
  rw [mk_norm hD]
  have := qw_norm (n := A) hD
  have a1 : (B A.natAbs).size ≤ m := by rw [B_size]; exact bn_fits m _ h2
  have a2 : (B D).size ≤ m := by rw [B_size]; exact bn_fits m _ h1
  omega
theorem pow_mono {m n : Nat} (h : m ≤ n) : 256 ^ m ≤ 256 ^ n := Nat.pow_le_pow_right (by decide) h
theorem fits_val (n : Bool) (x y : ByteArray) : Fits (x.size + y.size + 1) (val n x y) := by
  by_cases h : N y = 0
  · refine ⟨0, 1, by decide, by rw [val_den0 h, Rat.zero_mkRat], ?_, ?_⟩
    · exact Nat.lt_of_lt_of_le (by decide : 1 < 256 ^ 1) (pow_mono (by omega))
    · exact Nat.pow_pos (by decide)
  · refine ⟨sg n (N x), N y, h, rfl, Nat.lt_of_lt_of_le (N_lt y) (pow_mono (by omega)), ?_⟩
    rw [sg_natAbs]
    exact Nat.lt_of_lt_of_le (N_lt x) (pow_mono (by omega))
theorem fits_add {m k : Nat} {p q : Rat} (hp : Fits m p) (hq : Fits k q) : Fits (m + k + 1) (p + q) := by
  obtain ⟨A, D, hD, rfl, h1, h2⟩ := hp
  obtain ⟨A', D', hD', rfl, h3, h4⟩ := hq
  refine ⟨A * D' + A' * D, D * D', Nat.mul_ne_zero hD hD', Rat.mkRat_add_mkRat _ _ hD hD', ?_, ?_⟩
  · have : D * D' < 256 ^ m * 256 ^ k := Nat.mul_lt_mul'' h1 h3
    rw [← Nat.pow_add] at this
    exact Nat.lt_of_lt_of_le this (pow_mono (by omega))
  · have e1 : A.natAbs * D' < 256 ^ m * 256 ^ k := Nat.mul_lt_mul'' h2 h3
    have e2 : A'.natAbs * D < 256 ^ k * 256 ^ m := Nat.mul_lt_mul'' h4 h1
    rw [Nat.mul_comm (256 ^ k)] at e2
    rw [← Nat.pow_add] at e1 e2
    have e3 : (A * D' + A' * D).natAbs ≤ A.natAbs * D' + A'.natAbs * D := by
      refine Nat.le_trans (Int.natAbs_add_le _ _) ?_
      rw [Int.natAbs_mul, Int.natAbs_mul]
      exact Nat.le_refl _
    rw [Nat.pow_succ]
    omega

abbrev Fr : Type := Bool × ByteArray × ByteArray
def frv (f : Fr) : Rat := val f.1 f.2.1 f.2.2
/-- How many bytes a list has, and two for each. -/
def fw : List Fr → Nat
  | [] => 0
  | f :: l => f.2.1.size + f.2.2.size + 2 + fw l
def fsum (l : List Fr) : Rat := l.foldl (fun s f => s + frv f) 0
theorem fsum_snoc (l : List Fr) (f : Fr) : fsum (l ++ [f]) = fsum l + frv f := by simp [fsum]
theorem fw_append (a b : List Fr) : fw (a ++ b) = fw a + fw b := by
  induction a with
  | nil => simp [fw]
  | cons f a ih => simp only [List.cons_append, fw, ih]; omega
theorem fw_take (l : List Fr) (k : Nat) : fw (l.take k) ≤ fw l := by
  have := fw_append (l.take k) (l.drop k)
  rw [List.take_append_drop] at this
  omega
theorem fw_mem {l : List Fr} {f : Fr} (h : f ∈ l) : f.2.1.size + f.2.2.size + 2 ≤ fw l := by
  induction l with
  | nil => cases h
  | cons g l ih =>
    rcases List.mem_cons.1 h with rfl | h
    · simp only [fw]; omega
    · have := ih h; simp only [fw]; omega
theorem fits_sum (l : List Fr) : Fits (fw l + 1) (fsum l) := by
  induction l using snoc_ind with
  | h0 => exact ⟨0, 1, by decide, (Rat.zero_mkRat _).symm, by decide, by decide⟩
  | h1 l f ih =>
    rw [fsum_snoc, fw_append]
    have := fits_add ih (fits_val f.1 f.2.1 f.2.2)
    have e : fw l + 1 + (f.2.1.size + f.2.2.size + 1) + 1 = fw l + fw [f] + 1 := by simp only [fw]; omega
    rwa [e] at this
theorem take_one {l : List Fr} {k : Nat} (h : k < l.length) : fsum (l.take (k + 1)) = fsum (l.take k) + frv l[k] := by
  rw [List.take_succ_eq_append_getElem h, fsum_snoc]

/-- A list of fractions, as a slice at a. -/
def FrS (w : World) (a : Option Addr) (l : List Fr) : Prop := ∀ k (h : k < l.length), ∃ g o, a = some ⟨g, o, none⟩ ∧ g < w.heap.size ∧ w.cell? ⟨g, o + k * 3, none⟩ = some (.bool l[k].1) ∧ w.cell? ⟨g, o + k * 3 + 1, none⟩ = some (.string l[k].2.1) ∧ w.cell? ⟨g, o + k * 3 + 2, none⟩ = some (.string l[k].2.2)
theorem FrS.below {w w' : World} {a : Option Addr} {l : List Fr} (h : FrS w a l) (hb : Below w.heap.size w w') : FrS w' a l := fun k hk => by
  obtain ⟨g, o, h1, h2, h3, h4, h5⟩ := h k hk
  exact ⟨g, o, h1, Nat.lt_of_lt_of_le h2 hb.size, (hb.cell (p := ⟨g, _, none⟩) h2).trans h3, (hb.cell (p := ⟨g, _, none⟩) h2).trans h4, (hb.cell (p := ⟨g, _, none⟩) h2).trans h5⟩

end Go.Proofs.Ytockhhleapbpiaa


/- Package table: the place of an assignment; whether a table may be, in both. -/
namespace Go.Proofs.Ytockhhleapbpiaa
open Go.RowKit

/-- What Check answers. -/
def checkA (sizes vars : List Int) (m : Nat) : Int := if countB sizes vars = true then (if m = cnt (toN sizes) (toN vars) then 0 else 8) else 11
theorem checkA_none {sizes vars : List Int} {m : Nat} (h : countB sizes vars = false) : checkA sizes vars m = 11 := if_neg (by rw [h]; decide)
theorem checkA_no {sizes vars : List Int} {m : Nat} (h : countB sizes vars = true) (h1 : ¬ m = cnt (toN sizes) (toN vars)) : checkA sizes vars m = 8 := by rw [checkA, if_pos h, if_neg h1]
theorem checkA_yes {sizes vars : List Int} {m : Nat} (h : countB sizes vars = true) (h1 : m = cnt (toN sizes) (toN vars)) : checkA sizes vars m = 0 := by rw [checkA, if_pos h, if_pos h1]
end Go.Proofs.Ytockhhleapbpiaa


/- The document's answer: the assignment of a place. -/
namespace Go.Proofs.Ytockhhleapbpiaa
open Go.RowKit

theorem cnt_drop_dvd (S vs : List Nat) (i : Nat) : cnt S (vs.drop i) ∣ cnt S vs := by
  have h := cnt_append S (vs.take i) (vs.drop i)
  rw [List.take_append_drop] at h
  exact ⟨_, by rw [h, Nat.mul_comm]⟩
theorem digs_get {S : List Nat} (hp : Pos S) : ∀ (vs : List Nat) (k i : Nat) (_ : k < cnt S vs) (h : i < vs.length), (digs S vs k)[i]'(by rw [digs_length]; exact h) = k % cnt S (vs.drop i) / cnt S (vs.drop (i + 1))
  | [], _, _, _, h => absurd h (by simp)
  | v :: vs, k, 0, hk, _ => by
    show k / cnt S vs = k % cnt S (v :: vs) / cnt S vs
    rw [Nat.mod_eq_of_lt hk]
  | v :: vs, k, i + 1, _, h => by
    have h' : i < vs.length := by simpa using h
    have := digs_get hp vs (k % cnt S vs) i (Nat.mod_lt _ (cnt_pos hp vs)) h'
    show (digs S vs (k % cnt S vs))[i]'_ = k % cnt S (vs.drop i) / cnt S (vs.drop (i + 1))
    rw [this, Nat.mod_mod_of_dvd _ (cnt_drop_dvd S vs i)]
theorem digs_at {S : List Nat} (hp : Pos S) (vs : List Nat) (k i : Nat) (hk : k < cnt S vs) (h : i < vs.length) : (digs S vs k)[i]? = some (k % cnt S (vs.drop i) / cnt S (vs.drop (i + 1))) := by
  rw [List.getElem?_eq_getElem (by rw [digs_length]; exact h), digs_get hp vs k i hk h]
theorem cnt_drop (S vs : List Nat) {i : Nat} (h : i < vs.length) : cnt S (vs.drop i) = sz S vs[i] * cnt S (vs.drop (i + 1)) := by
  rw [List.drop_eq_getElem_cons h, cnt]
/-- What is written when i values are told. -/
def partD (l : List Nat) (i : Nat) : List Nat := l.take i ++ List.replicate (l.length - i) 0
theorem partD_zero (l : List Nat) : partD l 0 = List.replicate l.length 0 := by simp [partD]
theorem partD_length (l : List Nat) {i : Nat} (h : i ≤ l.length) : (partD l i).length = l.length := by simp [partD]; omega
theorem partD_all (l : List Nat) : partD l l.length = l := by simp [partD]
theorem partD_set (l : List Nat) {i : Nat} (h : i < l.length) : (partD l i).set i l[i] = partD l (i + 1) := by
  rw [partD, partD, List.set_append_right _ _ (by simp; omega), List.take_succ_eq_append_getElem h]
  have e : l.length - i = (l.length - (i + 1)) + 1 := by omega
  rw [e, List.replicate_succ, List.length_take, Nat.min_eq_left (by omega), Nat.sub_self, List.set_cons_zero, List.append_assoc]
  rfl
/-- Natural numbers as ints. -/
def iL (l : List Nat) : List Int := l.map fun x : Nat => (x : Int)
theorem iL_length (l : List Nat) : (iL l).length = l.length := by simp [iL]
theorem toN_iL (l : List Nat) : toN (iL l) = l := by simp [toN, iL, Function.comp_def]
theorem RowI.ints {w : World} {g : Nat} {l : List Nat} (h : RowI w g l) : IntS w (some ⟨g, 0, none⟩) (iL l) := fun k hk => by
  rw [iL_length] at hk
  refine ⟨g, 0, rfl, h.lt, ?_⟩
  rw [Nat.zero_add, h.cell k hk]
  simp [iL]

theorem wrap_le (n : Nat) (h : n ≤ 65536) : wrap64 (n : Int) = (n : Int) := by
  rw [wrap64]
  omega

/-- What Where answers. -/
def whereL (sizes vars : List Int) (k : Int) : List Nat := if countB sizes vars = true ∧ 0 ≤ k ∧ k < (cnt (toN sizes) (toN vars) : Int) then digs (toN sizes) (toN vars) k.toNat else []
def whereE (sizes vars : List Int) (k : Int) : Int := if countB sizes vars = true then (if 0 ≤ k ∧ k < (cnt (toN sizes) (toN vars) : Int) then 0 else 15) else 11

end Go.Proofs.Ytockhhleapbpiaa


/- Package graph: lists of lists, and their sets. -/
namespace Go.Proofs.Ytockhhleapbpiaa
open Go.RowKit

/-- A list of lists of ints in memory. -/
def LsS (w : World) (a : Option Addr) (L : List (List Int)) : Prop := ∀ k (h : k < L.length), ∃ g o b c, a = some ⟨g, o, none⟩ ∧ g < w.heap.size ∧ w.cell? ⟨g, o + k, none⟩ = some (.slice b L[k].length c) ∧ IntS w b L[k]
theorem LsS.below {w w' : World} {a : Option Addr} {L : List (List Int)} (h : LsS w a L) (hb : Below w.heap.size w w') : LsS w' a L := fun k hk => by
  obtain ⟨g, o, b, c, h1, h2, h3, h4⟩ := h k hk
  exact ⟨g, o, b, c, h1, Nat.lt_of_lt_of_le h2 hb.size, (hb.cell (p := ⟨g, o + k, none⟩) h2).trans h3, h4.below hb⟩
/-- What is nil in a list of lists has no room. -/
def LsN (w : World) (a : Option Addr) (L : List (List Int)) : Prop := ∀ k, k < L.length → ∀ g o b n c, a = some ⟨g, o, none⟩ → w.cell? ⟨g, o + k, none⟩ = some (.slice b n c) → b = none → c = 0
theorem LsN.below {w w' : World} {a : Option Addr} {L : List (List Int)} (h : LsN w a L) (hl : LsS w a L) (hb : Below w.heap.size w w') : LsN w' a L := fun k hk g o b n c ha hc hn => by
  obtain ⟨g', o', _, _, e, hg, _⟩ := hl k hk
  rw [ha] at e
  cases e
  exact h k hk g o b n c ha ((hb.cell (p := ⟨g, o + k, none⟩) hg).symm.trans hc) hn
abbrev uv (x : Nat) : Value := .int .u32 (x : Int)
/-- The block g holds these sets. -/
def RowU (w : World) (g : Nat) (l : List Nat) : Prop := w.heap[g]? = some (.cells (l.map uv).toArray 57 (0, 0))
theorem RowU.cell {w : World} {g : Nat} {l : List Nat} (h : RowU w g l) (j : Nat) (hj : j < l.length) : w.cell? ⟨g, j, none⟩ = some (.int .u32 (l[j] : Nat)) := by
  rw [cell_of_row w g j _ _ (0, 0) h]
  simp [uv, hj]
theorem RowU.fz {w : World} {g : Nat} {l : List Nat} (h : RowU w g l) (j : Nat) : w.frozen? ⟨g, j, none⟩ = false := frozen_of_row w g j _ _ h
theorem RowU.lt {w : World} {g : Nat} {l : List Nat} (h : RowU w g l) : g < w.heap.size := (Array.getElem?_eq_some_iff.1 h).1
theorem RowU.below {w w' : World} {g b : Nat} {l : List Nat} (h : RowU w g l) (hb : Below b w w') (hg : g < b) : RowU w' g l := (hb.block g hg).trans h
theorem RowU.set {w : World} {g : Nat} {l : List Nat} (h : RowU w g l) (j y : Nat) : RowU (w.setCell ⟨g, j, none⟩ (.int .u32 (y : Int))) g (l.set j y) := by
  have h2 := heap_setCell_same w g j _ _ (.int .u32 (y : Int)) h
  rw [RowU, h2]
  simp [List.map_set, uv]
theorem made_sets (n : Nat) : (madeCells (Value.int .u32 0).cells (n * 1)).toList = (List.replicate n (0 : Nat)).map uv := by
  rw [show (Value.int .u32 0).cells = #[Value.int .u32 0] from rfl, toList_madeCells_one, Nat.mul_one, List.map_replicate]; rfl
theorem Try.infoSet : (Try.prog.info? 57).map (fun i => (i.zero, i.size, i.bytes)) = some (some (.int .u32 0), 1, 4) := by kernel_rfl

/-- All lists rise. -/
def allRis (L : List (List Int)) (n : Nat) : Bool := L.all fun l => risB l n
/-- Their sets. -/
def masks (L : List (List Int)) : List Nat := L.map fun l => mskN (toN l)
theorem masks_length (L : List (List Int)) : (masks L).length = L.length := by simp [masks]
theorem allRis_bad {L : List (List Int)} {n i : Nat} (h : i < L.length) (e : risB L[i] n = false) : allRis L n = false := by
  rw [allRis, List.all_eq_false]; exact ⟨L[i], List.getElem_mem h, by rw [e]; decide⟩
theorem setA_yes {l : List Int} {n : Nat} (h : risB l n = true) : setA l n = mskN (toN l) := if_pos h

set_option maxRecDepth 100000 in
set_option maxHeartbeats 1000000 in
theorem setsOf_any (a : Option Addr) (ca n : Nat) (L : List (List Int)) (w : World) (h : LsS w a L) (hL : L.length ≤ 8) (hn : n ≤ 8) (hl : ∀ l ∈ L, l.length ≤ 140737488355328) :
    Calls Try.prog 42 #[.slice a L.length ca, .int .i64 (n : Nat)] w fun e w' => Below w.heap.size w w' ∧
      ((allRis L n = true ∧ ∃ G, e = .returned (.tuple #[.slice (some ⟨G, 0, none⟩) L.length L.length, .bool true]) ∧ w.heap.size ≤ G ∧ RowU w' G (masks L)) ∨ (allRis L n = false ∧ e = .returned (.tuple #[.slice none 0 0, .bool false]))) := by
  obtain ⟨i0, hi0, hz0, hz1, hz2⟩ := info_parts Try.infoSet
  have HF := hid h
  have HB := hid (fun i h e => allRis_bad (L := L) (n := n) (i := i) h e)
  have HT : Hid ((∀ i (h : i < L.length), risB L[i] n = true) → allRis L n = true) := fun h => List.all_eq_true.2 fun l hl => by
    obtain ⟨i, hi, rfl⟩ := List.getElem_of_mem hl
    exact h i hi
  have HM : Hid (∀ i (h : i < L.length), (masks L)[i]? = some (mskN (toN L[i]))) := fun i h => by simp [masks, h]
  have HSZ := hid hl
  have hml := masks_length L
  generalize allRis L n = rb at *
  generalize masks L = ms at *
  clear h hl
  go_enter Try.func42, Try.ntmps42
  go_wp2_with (first
    | (at_make; refine wpList_make_full _ rfl _ _ 52 rfl w.heap.size 57 i0 (.int .u32 0) 1 Try.underlying52 hi0 hz0 hz1 .i64 .i64 _ _ L.length rfl rfl (by go_num) (by go_num) (by rw [hz2]; omega) (by unfold maxLen; omega) (Nat.le_refl _) ?_; intro w2 hown2 hgrow2))
  have hb2 := block_of_own hown2
  rw [made_sets] at hb2
  have HB2 : Hid (Below w.heap.size w w2) := (Below.refl _ w).grown hgrow2 (Nat.le_refl _) (fun k e => by cases e)
  have HI : Hid (RowU w2 w.heap.size (List.replicate L.length 0)) := hb2
  clear hown2 hgrow2 hb2
  go_wp2_with fail
  go_loopw [15] (fun iv wr => ∃ i : Nat, i ≤ L.length ∧ iv = .int .i64 i ∧ Hid (∀ j (h : j < L.length), j < i → risB L[j] n = true) ∧ Hid (RowU wr w.heap.size (partD ms i)) ∧ Hid (Below w.heap.size w wr)) (fun iv _ => L.length - (intOf iv).toNat)
  case atStart => exact ⟨0, Nat.zero_le _, rfl, fun j _ h => absurd h (by omega), by rw [partD_zero, hml]; exact HI, HB2⟩
  case round =>
    obtain ⟨i, hi, rfl, HR, HU, HBW⟩ := hrel
    clear HI HB2
    by_cases hlt : i < L.length
    · obtain ⟨g, o, b, c, rfl, hg, c0, hI⟩ := (HF.out.below HBW.out) i hlt
      have hll := HSZ.out L[i] (List.getElem_mem hlt)
      have HII := hid hI
      clear hI
      have HBi := hid (HB.out i hlt)
      have HMi := hid (HM.out i hlt)
      have HRi : Hid (risB L[i] n = true → ∀ j (h : j < L.length), j < i + 1 → risB L[j] n = true) := fun h j hj hji => by
        rcases Nat.lt_or_ge j i with h2 | h2
        · exact HR.out j hj h2
        · obtain rfl : j = i := by omega
          exact h
      have HSA : Hid (risB L[i] n = true → setA L[i] n = mskN (toN L[i])) := setA_yes
      generalize L[i] = l at *
      go_wp2_with fail
      refine (setOf_any b c l n _ HII.out hll hn).mono ?_
      rintro e w3 ⟨rfl, rfl⟩
      cases hr : risB l n with
      | false =>
        have HE := hid (HBi.out hr)
        generalize setA l n = s at *
        go_wp2
        go_ret2
        exact ⟨HBW.out, .inr ⟨HE.out, rfl⟩⟩
      | true =>
        rw [HSA.out hr]
        have HPR := hid (HRi.out hr)
        have k0 := HU.out.cell i (by rw [partD_length _ (by omega)]; omega)
        have f0 := HU.out.fz i
        have HSE := hid (HU.out.set i (mskN (toN l)))
        have HPS : Hid ((partD ms i).set i (mskN (toN l)) = partD ms (i + 1)) := by
          show _ = _
          obtain ⟨h1, h2⟩ := List.getElem?_eq_some_iff.1 HMi.out
          rw [← h2]
          exact partD_set ms h1
        rw [HPS.out] at HSE
        have HBS := hid (HBW.out.setCell (p := ⟨w.heap.size, i, none⟩) (Nat.le_refl _) (.int .u32 (mskN (toN l) : Nat)))
        clear hr
        generalize mskN (toN l) = s at *
        generalize (partD ms i)[i]'(by rw [partD_length _ (by omega)]; omega) = z at *
        go_wp2
        go_roundw
        case rel => exact ⟨i + 1, by omega, by go_num, HPR, HSE, HBS⟩
        case measure => simp [intOf]; omega
    · obtain rfl : i = L.length := by omega
      have HE := hid (HT.out fun j hj => HR.out j hj hj)
      have hU := HU.out
      rw [← hml, partD_all] at hU
      have HUU := hid hU
      clear hU
      go_wp2
      go_ret2
      exact ⟨HBW.out, .inl ⟨HE.out, _, rfl, Nat.le_refl _, HUU.out⟩⟩
end Go.Proofs.Ytockhhleapbpiaa

