/- The document's answer: sums, differences, products, quotients and comparisons of fractions. -/
import Derived.Test.YtockhhleapbpiaaRefCToRefQ
import Derived.BigQuiet
import Derived.Test.YtockhhleapbpiaaTabR4ToNum
import Derived.Test.YtockhhleapbpiaaNumJToRefA
import Derived.Test.YtockhhleapbpiaaCore1ToNumF
import Derived.Deep.RegionHeld3
import Derived.Deep.OwnRows
namespace Go.Proofs.Ytockhhleapbpiaa
open Go.RowKit

theorem N_nu (q : Rat) : N (nu q) = q.num.natAbs := N_B _
theorem N_de (q : Rat) : N (de q) = q.den := N_B _

theorem sum_same {p q : Rat} (h : sgn p = sgn q) : val (sgn p) (B (p.num.natAbs * q.den + q.num.natAbs * p.den)) (B (p.den * q.den)) = p + q := by
  have e := val_add (sgn p) (sgn q) (nu p) (de p) (nu q) (de q) (by rw [N_de]; exact p.den_nz) (by rw [N_de]; exact q.den_nz)
  rw [val_own, val_own, N_nu, N_nu, N_de, N_de, ← h, ← sg_add] at e
  rw [val, N_B, N_B, e]
theorem sum_gt {p q : Rat} (h : ¬ sgn p = sgn q) (hle : q.num.natAbs * p.den ≤ p.num.natAbs * q.den) : val (sgn p) (B (p.num.natAbs * q.den - q.num.natAbs * p.den)) (B (p.den * q.den)) = p + q := by
  have e := val_add (sgn p) (sgn q) (nu p) (de p) (nu q) (de q) (by rw [N_de]; exact p.den_nz) (by rw [N_de]; exact q.den_nz)
  rw [val_own, val_own, N_nu, N_nu, N_de, N_de, ← sg_sub h (k := p.num.natAbs * q.den - q.num.natAbs * p.den) (by omega)] at e
  rw [val, N_B, N_B, e]
theorem sum_lt {p q : Rat} (h : ¬ sgn p = sgn q) (hle : p.num.natAbs * q.den ≤ q.num.natAbs * p.den) : val (sgn q) (B (q.num.natAbs * p.den - p.num.natAbs * q.den)) (B (p.den * q.den)) = p + q := by
  have e := val_add (sgn p) (sgn q) (nu p) (de p) (nu q) (de q) (by rw [N_de]; exact p.den_nz) (by rw [N_de]; exact q.den_nz)
  rw [val_own, val_own, N_nu, N_nu, N_de, N_de, ← sg_sub' h (k := q.num.natAbs * p.den - p.num.natAbs * q.den) (by omega)] at e
  rw [val, N_B, N_B, e]

end Go.Proofs.Ytockhhleapbpiaa


/- The document's answer: differences, products, quotients, comparisons, whole numbers. -/
namespace Go.Proofs.Ytockhhleapbpiaa
open Go.RowKit

theorem nu_zero {q : Rat} (h : q = 0) : nu q = ⟨#[]⟩ := by subst h; exact B_zero
theorem nu_full {q : Rat} (h : ¬ q = 0) : (nu q).toList.isEmpty = false := B_full (by rw [Ne, Int.natAbs_eq_zero, Rat.num_eq_zero]; exact h)

theorem cmp_sub (p q : Rat) : cmpQ p q = if p - q = 0 then 0 else if sgn (p - q) = true then -1 else 1 := by
  have hs : sgn (p - q) = true ↔ p - q < 0 := by
    have h := Rat.num_nonneg (q := p - q)
    rw [sgn, decide_eq_true_iff]
    constructor
    · intro h1; have h2 : ¬ 0 ≤ p - q := fun e => absurd (h.2 e) (by omega)
      grind
    · intro h1; have h2 : ¬ 0 ≤ (p - q).num := fun e => absurd (h.1 e) (by grind)
      omega
  by_cases h : p - q = 0
  · rw [if_pos h, cmpQ, if_neg (by grind), if_pos (by grind)]
  · rw [if_neg h]
    by_cases h1 : p - q < 0
    · rw [if_pos (hs.2 h1), cmpQ, if_pos (by grind)]
    · rw [if_neg (fun e => h1 (hs.1 e)), cmpQ, if_neg (by grind), if_neg (by grind)]

theorem of_neg {k : Int} (h : k < 0) : C (mkRat k 1) = .agg #[.bool true, .string (B ((-(k + 1)).toNat + 1)), .string (B 1)] := by
  have e : k = sg true ((-(k + 1)).toNat + 1) := by simp only [sg, if_true]; omega
  have h1 := C_make true ((-(k + 1)).toNat + 1) 1 (by omega) (by decide)
  rw [← e, Nat.gcd_one_right, Nat.div_one, Nat.div_one] at h1
  exact h1
theorem of_pos (n : Nat) : C (mkRat (n : Int) 1) = .agg #[.bool false, .string (B n), .string (B 1)] := by
  by_cases h : n = 0
  · subst h; rw [show ((0 : Nat) : Int) = 0 from rfl, Rat.zero_mkRat, C_zero, B_zero]
  · have h1 := C_make false n 1 h (by decide)
    rw [Nat.gcd_one_right, Nat.div_one, Nat.div_one] at h1
    exact h1

end Go.Proofs.Ytockhhleapbpiaa


/- Sums of whole lists of fractions: package frac's and the document's answer. -/
namespace Go.Proofs.Ytockhhleapbpiaa
open Go.RowKit

/-- A number with numerator and denominator of at most m bytes. -/
def Fits (m : Nat) (q : Rat) : Prop := ∃ (A : Int) (D : Nat), D ≠ 0 ∧ q = mkRat A D ∧ D < 256 ^ m ∧ A.natAbs < 256 ^ m
theorem fits_qw {m : Nat} {q : Rat} (h : Fits m q) : qw q ≤ 2 * m := by
  obtain ⟨A, D, hD, rfl, h1, h2⟩ := h
  rw [mk_norm hD]
  have := qw_norm (n := A) hD
  have a1 : (B A.natAbs).size ≤ m := by rw [B_size]; exact bn_fits m _ h2
  have a2 : (B D).size ≤ m := by rw [B_size]; exact bn_fits m _ h1
  omega
theorem pow_mono {m n : Nat} (h : m ≤ n) : 256 ^ m ≤ 256 ^ n := Nat.pow_le_pow_right (by decide) h
theorem fits_val (n : Bool) (x y : ByteArray) : Fits (x.size + y.size + 1) (val n x y) := by
  by_cases h : N y = 0
  · refine ⟨0, 1, by decide, by rw [val_den0 h, Rat.zero_mkRat], ?_, ?_⟩
    · exact Nat.lt_of_lt_of_le (by decide : 1 < 256 ^ 1) (pow_mono (by omega))
    · exact Nat.pow_pos (by decide)
  · refine ⟨sg n (N x), N y, h, rfl, Nat.lt_of_lt_of_le (N_lt y) (pow_mono (by omega)), ?_⟩
    rw [sg_natAbs]
    exact Nat.lt_of_lt_of_le (N_lt x) (pow_mono (by omega))
theorem fits_add {m k : Nat} {p q : Rat} (hp : Fits m p) (hq : Fits k q) : Fits (m + k + 1) (p + q) := by
  obtain ⟨A, D, hD, rfl, h1, h2⟩ := hp
  obtain ⟨A', D', hD', rfl, h3, h4⟩ := hq
  refine ⟨A * D' + A' * D, D * D', Nat.mul_ne_zero hD hD', Rat.mkRat_add_mkRat _ _ hD hD', ?_, ?_⟩
  · have : D * D' < 256 ^ m * 256 ^ k := Nat.mul_lt_mul'' h1 h3
    rw [← Nat.pow_add] at this
    exact Nat.lt_of_lt_of_le this (pow_mono (by omega))
  · have e1 : A.natAbs * D' < 256 ^ m * 256 ^ k := Nat.mul_lt_mul'' h2 h3
    have e2 : A'.natAbs * D < 256 ^ k * 256 ^ m := Nat.mul_lt_mul'' h4 h1
    rw [Nat.mul_comm (256 ^ k)] at e2
    rw [← Nat.pow_add] at e1 e2
    have e3 : (A * D' + A' * D).natAbs ≤ A.natAbs * D' + A'.natAbs * D := by
      refine Nat.le_trans (Int.natAbs_add_le _ _) ?_
      rw [Int.natAbs_mul, Int.natAbs_mul]
      exact Nat.le_refl _
    rw [Nat.pow_succ]
    omega

abbrev Fr : Type := Bool × ByteArray × ByteArray
def frv (f : Fr) : Rat := val f.1 f.2.1 f.2.2
/-- How many bytes a list has, and two for each. -/
def fw : List Fr → Nat
  | [] => 0
  | f :: l => f.2.1.size + f.2.2.size + 2 + fw l
def fsum (l : List Fr) : Rat := l.foldl (fun s f => s + frv f) 0
theorem fsum_snoc (l : List Fr) (f : Fr) : fsum (l ++ [f]) = fsum l + frv f := by simp [fsum]
theorem fw_append (a b : List Fr) : fw (a ++ b) = fw a + fw b := by
  induction a with
  | nil => simp [fw]
  | cons f a ih => simp only [List.cons_append, fw, ih]; omega
theorem fw_take (l : List Fr) (k : Nat) : fw (l.take k) ≤ fw l := by
  have := fw_append (l.take k) (l.drop k)
  rw [List.take_append_drop] at this
  omega
theorem fw_mem {l : List Fr} {f : Fr} (h : f ∈ l) : f.2.1.size + f.2.2.size + 2 ≤ fw l := by
  induction l with
  | nil => cases h
  | cons g l ih =>
    rcases List.mem_cons.1 h with rfl | h
    · simp only [fw]; omega
    · have := ih h; simp only [fw]; omega
theorem fits_sum (l : List Fr) : Fits (fw l + 1) (fsum l) := by
  induction l using snoc_ind with
  | h0 => exact ⟨0, 1, by decide, (Rat.zero_mkRat _).symm, by decide, by decide⟩
  | h1 l f ih =>
    rw [fsum_snoc, fw_append]
    have := fits_add ih (fits_val f.1 f.2.1 f.2.2)
    have e : fw l + 1 + (f.2.1.size + f.2.2.size + 1) + 1 = fw l + fw [f] + 1 := by simp only [fw]; omega
    rwa [e] at this
theorem take_one {l : List Fr} {k : Nat} (h : k < l.length) : fsum (l.take (k + 1)) = fsum (l.take k) + frv l[k] := by
  rw [List.take_succ_eq_append_getElem h, fsum_snoc]

/-- A list of fractions, as a slice at a. -/
def FrS (w : World) (a : Option Addr) (l : List Fr) : Prop := ∀ k (h : k < l.length), ∃ g o, a = some ⟨g, o, none⟩ ∧ g < w.heap.size ∧ w.cell? ⟨g, o + k * 3, none⟩ = some (.bool l[k].1) ∧ w.cell? ⟨g, o + k * 3 + 1, none⟩ = some (.string l[k].2.1) ∧ w.cell? ⟨g, o + k * 3 + 2, none⟩ = some (.string l[k].2.2)
theorem FrS.below {w w' : World} {a : Option Addr} {l : List Fr} (h : FrS w a l) (hb : Below w.heap.size w w') : FrS w' a l := fun k hk => by
  obtain ⟨g, o, h1, h2, h3, h4, h5⟩ := h k hk
  exact ⟨g, o, h1, Nat.lt_of_lt_of_le h2 hb.size, (hb.cell (p := ⟨g, _, none⟩) h2).trans h3, (hb.cell (p := ⟨g, _, none⟩) h2).trans h4, (hb.cell (p := ⟨g, _, none⟩) h2).trans h5⟩

end Go.Proofs.Ytockhhleapbpiaa


/- Package table: the place of an assignment; whether a table may be, in both. -/
namespace Go.Proofs.Ytockhhleapbpiaa
open Go.RowKit

/-- What Check answers. -/
def checkA (sizes vars : List Int) (m : Nat) : Int := if countB sizes vars = true then (if m = cnt (toN sizes) (toN vars) then 0 else 8) else 11
theorem checkA_none {sizes vars : List Int} {m : Nat} (h : countB sizes vars = false) : checkA sizes vars m = 11 := if_neg (by rw [h]; decide)
theorem checkA_no {sizes vars : List Int} {m : Nat} (h : countB sizes vars = true) (h1 : ¬ m = cnt (toN sizes) (toN vars)) : checkA sizes vars m = 8 := by rw [checkA, if_pos h, if_neg h1]
theorem checkA_yes {sizes vars : List Int} {m : Nat} (h : countB sizes vars = true) (h1 : m = cnt (toN sizes) (toN vars)) : checkA sizes vars m = 0 := by rw [checkA, if_pos h, if_pos h1]
end Go.Proofs.Ytockhhleapbpiaa


/- The document's answer: the assignment of a place. -/
namespace Go.Proofs.Ytockhhleapbpiaa
open Go.RowKit

theorem cnt_drop_dvd (S vs : List Nat) (i : Nat) : cnt S (vs.drop i) ∣ cnt S vs := by
  have h := cnt_append S (vs.take i) (vs.drop i)
  rw [List.take_append_drop] at h
  exact ⟨_, by rw [h, Nat.mul_comm]⟩
theorem digs_get {S : List Nat} (hp : Pos S) : ∀ (vs : List Nat) (k i : Nat) (_ : k < cnt S vs) (h : i < vs.length), (digs S vs k)[i]'(by rw [digs_length]; exact h) = k % cnt S (vs.drop i) / cnt S (vs.drop (i + 1))
  | [], _, _, _, h => absurd h (by simp)
  | v :: vs, k, 0, hk, _ => by
    show k / cnt S vs = k % cnt S (v :: vs) / cnt S vs
    rw [Nat.mod_eq_of_lt hk]
  | v :: vs, k, i + 1, _, h => by
    have h' : i < vs.length := by simpa using h
    have := digs_get hp vs (k % cnt S vs) i (Nat.mod_lt _ (cnt_pos hp vs)) h'
    show (digs S vs (k % cnt S vs))[i]'_ = k % cnt S (vs.drop i) / cnt S (vs.drop (i + 1))
    rw [this, Nat.mod_mod_of_dvd _ (cnt_drop_dvd S vs i)]
theorem digs_at {S : List Nat} (hp : Pos S) (vs : List Nat) (k i : Nat) (hk : k < cnt S vs) (h : i < vs.length) : (digs S vs k)[i]? = some (k % cnt S (vs.drop i) / cnt S (vs.drop (i + 1))) := by
  rw [List.getElem?_eq_getElem (by rw [digs_length]; exact h), digs_get hp vs k i hk h]
theorem cnt_drop (S vs : List Nat) {i : Nat} (h : i < vs.length) : cnt S (vs.drop i) = sz S vs[i] * cnt S (vs.drop (i + 1)) := by
  rw [List.drop_eq_getElem_cons h, cnt]
/-- What is written when i values are told. -/
def partD (l : List Nat) (i : Nat) : List Nat := l.take i ++ List.replicate (l.length - i) 0
theorem partD_zero (l : List Nat) : partD l 0 = List.replicate l.length 0 := by simp [partD]
theorem partD_length (l : List Nat) {i : Nat} (h : i ≤ l.length) : (partD l i).length = l.length := by simp [partD]; omega
theorem partD_all (l : List Nat) : partD l l.length = l := by simp [partD]
theorem partD_set (l : List Nat) {i : Nat} (h : i < l.length) : (partD l i).set i l[i] = partD l (i + 1) := by
  rw [partD, partD, List.set_append_right _ _ (by simp; omega), List.take_succ_eq_append_getElem h]
  have e : l.length - i = (l.length - (i + 1)) + 1 := by omega
  rw [e, List.replicate_succ, List.length_take, Nat.min_eq_left (by omega), Nat.sub_self, List.set_cons_zero, List.append_assoc]
  rfl
/-- Natural numbers as ints. -/
def iL (l : List Nat) : List Int := l.map fun x : Nat => (x : Int)
theorem iL_length (l : List Nat) : (iL l).length = l.length := by simp [iL]
theorem toN_iL (l : List Nat) : toN (iL l) = l := by simp [toN, iL, Function.comp_def]
theorem RowI.ints {w : World} {g : Nat} {l : List Nat} (h : RowI w g l) : IntS w (some ⟨g, 0, none⟩) (iL l) := fun k hk => by
  rw [iL_length] at hk
  refine ⟨g, 0, rfl, h.lt, ?_⟩
  rw [Nat.zero_add, h.cell k hk]
  simp [iL]

theorem wrap_le (n : Nat) (h : n ≤ 65536) : wrap64 (n : Int) = (n : Int) := by
  rw [wrap64]
  omega

/-- What Where answers. -/
def whereL (sizes vars : List Int) (k : Int) : List Nat := if countB sizes vars = true ∧ 0 ≤ k ∧ k < (cnt (toN sizes) (toN vars) : Int) then digs (toN sizes) (toN vars) k.toNat else []
def whereE (sizes vars : List Int) (k : Int) : Int := if countB sizes vars = true then (if 0 ≤ k ∧ k < (cnt (toN sizes) (toN vars) : Int) then 0 else 15) else 11

end Go.Proofs.Ytockhhleapbpiaa


/- slices.Backward over a slice of ints: what a loop over it may lean on. -/
namespace Go.Proofs.Ytockhhleapbpiaa
open Go.RowKit Go.Shelf

attribute [local go_sem] Oper.semAt_some

/-- A list of ints, as a slice at a, in blocks below B. -/
def IntB (B : Nat) (w : World) (a : Option Addr) (l : List Int) : Prop := ∀ k (h : k < l.length), ∃ g o, a = some ⟨g, o, none⟩ ∧ g < B ∧ w.cell? ⟨g, o + k, none⟩ = some (.int .i64 l[k])
theorem IntB.below {B : Nat} {w w' : World} {a : Option Addr} {l : List Int} (h : IntB B w a l) (hb : Below B w w') : IntB B w' a l := fun k hk => by
  obtain ⟨g, o, h1, h2, h3⟩ := h k hk
  exact ⟨g, o, h1, h2, (hb.cell (p := ⟨g, _, none⟩) h2).trans h3⟩
theorem IntS.toB {w : World} {a : Option Addr} {l : List Int} (h : IntS w a l) : IntB w.heap.size w a l := h
theorem IntB.mono {B B' : Nat} {w : World} {a : Option Addr} {l : List Int} (h : IntB B w a l) (hB : B ≤ B') : IntB B' w a l := fun k hk => by
  obtain ⟨g, o, h1, h2, h3⟩ := h k hk
  exact ⟨g, o, h1, Nat.lt_of_lt_of_le h2 hB, h3⟩
/-- What a round must keep: the iterator's box, and all that lay below B. -/
def KeepsB (Bn B : Nat) (V V' : World) : Prop := KeepsBox Bn V V' ∧ Below B V V'
theorem KeepsB.t {Bn B : Nat} {X Y Z : World} (h : KeepsB Bn B X Y) (k : KeepsB Bn B Y Z) : KeepsB Bn B X Z := ⟨h.1.t k.1, h.2.trans k.2⟩
theorem KeepsB.b {Bn B : Nat} {w : World} (hn : Bn < w.heap.size) (hB : B ≤ w.heap.size) (V : World) (l : Nat) (o o' : Obj) (hl : w.heap.size ≤ l) (h1 : V.heap[l]? = some o) (h2 : o.isCells = false) (h3 : o.isWalk = false) : KeepsB Bn B V (V.putObj l o') :=
  ⟨KeepsBox.b hn V l o o' hl h1 h2 h3, belowK_b hB V l o o' hl h1 h2 h3⟩

/-- The places of a list, from the last on. -/
def backs (n k : Nat) : List Nat := (List.range k).map fun j => n - 1 - j
theorem backs_succ (n k : Nat) : backs n (k + 1) = backs n k ++ [n - 1 - k] := by simp [backs, List.range_succ]
theorem backs_length (n k : Nat) : (backs n k).length = k := by simp [backs]

abbrev At (l : List Int) : Type := { i : Nat // i < l.length }
abbrev atV (l : List Int) (x : At l) : Array Value := #[.int .i64 (x.1 : Nat), .int .i64 (l[x.1]'x.2)]

end Go.Proofs.Ytockhhleapbpiaa


/- A region that draws its order, in a round of a range over a function: by the plain region's law. -/
namespace Go.Proofs.Ytockhhleapbpiaa
open Go.RowKit Go.Shelf

/-- No operation of the region defers. -/
def plainOps (ops : Array Oper) : Bool := ops.all fun o => match o.op with | .defer _ => false | _ => true
theorem plainOps_at {ops : Array Oper} (h : plainOps ops = true) {i : Nat} {o : Oper} (ho : ops[i]? = some o) : ∀ c, o.op ≠ .defer c := by
  intro c e
  rw [plainOps, Array.all_eq_true] at h
  obtain ⟨hi, he⟩ := Array.getElem?_eq_some_iff.1 ho
  have := h i hi
  rw [he, e] at this
  cases this

theorem op_in {l n : Nat} {P : Program} {ops : Array Oper} {Q : Exit → Act → World → Prop} (hnd : plainOps ops = true) (hlo : ¬ LetsOut Q) {i : Nat} {K K' : Act → World → Prop} {a : Act} {w : World} (hK : ∀ a w, K a w → K' a w)
    (h : wpOp P ops Q i K a w) : wpOpIn (Fence.wide.inRound l) n P ops Q i K' a w := by
  unfold wpOp at h
  unfold wpOpIn
  cases ho : ops[i]? with
  | none => rw [ho] at h; exact hK _ _ h
  | some o =>
    rw [ho] at h
    simp only at h ⊢
    by_cases hw : Region.wanted o (yielded ops a.tmps) = true
    · rw [if_pos hw] at h ⊢
      rcases h with h | h
      · refine ⟨fun _ _ => trivial, ?_⟩
        rw [Oper.semAt_eq _ _ _ (plainOps_at hnd ho)]
        unfold Oper.wp at h
        generalize (execOp a.eval o).run P w = r at *
        cases r with
        | ok nx w' =>
          cases nx with
          | value v => exact hK _ _ h
          | skip => exact hK _ _ h
          | defer d => exact hK _ _ h
          | enter f args =>
            refine ⟨fun hd => absurd hd (show ¬ Fence.wide.depth.isSome = true by decide), (callsIn_wide (n := n - 1)).2 (Calls.mono h ?_)⟩
            intro e w'' he
            cases e with
            | returned v => exact hK _ _ he
            | panicked c => exact he
            | outgrown => exact he
          | row r args => exact ⟨fun hd => absurd hd (show ¬ Fence.wide.depth.isSome = true by decide), fun c cs _ => let ⟨v, w2, r, s⟩ := h c cs; ⟨v, w2, hK _ _ r, stepsIn_wide.2 s⟩⟩
          | _ => exact h.elim
        | halt hl w' =>
          cases hl with
          | panic v => exact h
          | _ => exact h.elim
      · exact absurd h.2 hlo
    · rw [if_neg hw] at h ⊢
      exact ⟨fun _ _ => trivial, hK _ _ h⟩
theorem any_in {l n : Nat} {P : Program} {md : Region.Mode} {ops : Array Oper} {Q : Exit → Act → World → Prop} (hnd : plainOps ops = true) (hlo : ¬ LetsOut Q) : ∀ (fuel : Nat) (listed : Array Bool) (a : Act) (w : World), wpAny P md ops Q fuel listed a w → wpAnyIn (Fence.wide.inRound l) n P md ops Q fuel listed a w
  | 0, _, _, _, h => h
  | fuel + 1, _, _, _, h => ⟨h.1, fun i hi => op_in hnd hlo (fun a w => any_in hnd hlo fuel _ a w) (h.2 i hi)⟩
theorem region_round {l n id : Nat} {P : Program} {ops : Array Oper} {Q : Exit → Act → World → Prop} {a : Act} {w : World} (S : World → Prop) (hm : P.follows .mixedOrders = true) (hnd : plainOps ops = true) (hlo : ¬ LetsOut Q) (hS : S w.drew)
    (h : S w.drew → wpAnyH P .any ops Q S ops.size (Array.replicate ops.size false) a w.drew) : (Code.region id ops true).wpIn (Fence.wide.inRound l) n P Q a w :=
  wpIn_region_any hm (any_in hnd hlo _ _ _ _ (wpAny_of_held _ _ _ _ (h hS)))
end Go.Proofs.Ytockhhleapbpiaa


/- Package table: the assignment of a place. -/
namespace Go.Proofs.Ytockhhleapbpiaa
open Go.RowKit Go.Shelf

attribute [local go_sem] Oper.semAt_some

/-- One step of telling an assignment from its end: what is left of the place, and the values. -/
def bst (S vs : List Nat) (st : Nat × List Nat) (i : Nat) : Nat × List Nat := (st.1 / sz S (vs.getD i 0), st.2.set i (st.1 % sz S (vs.getD i 0)))
def asgF (S vs : List Nat) (K n : Nat) (pre : List Nat) : Nat × List Nat := pre.foldl (bst S vs) (K, List.replicate n 0)
theorem asgF_snoc (S vs : List Nat) (K n : Nat) (pre : List Nat) (i : Nat) : asgF S vs K n (pre ++ [i]) = bst S vs (asgF S vs K n pre) i := by simp [asgF]
theorem asgF_le (S vs : List Nat) (K n : Nat) (pre : List Nat) : (asgF S vs K n pre).1 ≤ K ∧ (asgF S vs K n pre).2.length = n := by
  have key : ∀ (l : List Nat) (st : Nat × List Nat), st.1 ≤ K → st.2.length = n → (l.foldl (bst S vs) st).1 ≤ K ∧ (l.foldl (bst S vs) st).2.length = n := by
    intro l
    induction l with
    | nil => intro st h1 h2; exact ⟨h1, h2⟩
    | cons i l ih =>
      intro st h1 h2
      exact ih _ (Nat.le_trans (Nat.div_le_self _ _) h1) (by simp [bst, h2])
  exact key pre _ (Nat.le_refl _) (by simp)
theorem asgF_backs (S vs : List Nat) (K : Nat) : ∀ m, m ≤ vs.length → asgF S vs K vs.length (backs vs.length m) = (K / cnt S (vs.drop (vs.length - m)), List.replicate (vs.length - m) 0 ++ digs S (vs.drop (vs.length - m)) (K % cnt S (vs.drop (vs.length - m))))
  | 0, _ => by simp [asgF, backs, cnt, digs]
  | m + 1, h => by
    rw [backs_succ, asgF_snoc, asgF_backs S vs K m (by omega)]
    have hj : vs.length - 1 - m < vs.length := by omega
    have e1 : vs.length - (m + 1) = vs.length - 1 - m := by omega
    have e2 : vs.length - m = (vs.length - 1 - m) + 1 := by omega
    have hd : vs.drop (vs.length - 1 - m) = vs[vs.length - 1 - m] :: vs.drop ((vs.length - 1 - m) + 1) := List.drop_eq_getElem_cons hj
    rw [e1, e2, hd, bst, getN_eq hj]
    generalize vs.drop ((vs.length - 1 - m) + 1) = rest
    generalize vs[vs.length - 1 - m] = v
    generalize vs.length - 1 - m = j
    simp only [cnt, digs]
    rw [mod_div, mod_mod_c, Nat.div_div_eq_div_mul, Nat.mul_comm (cnt S rest), List.replicate_succ', List.append_assoc, List.set_append_right _ _ (by simp)]
    simp
theorem asgF_all {S vs : List Nat} {K : Nat} (h : K < cnt S vs) : asgF S vs K vs.length (backs vs.length vs.length) = (0, digs S vs K) := by
  rw [asgF_backs S vs K _ (Nat.le_refl _), Nat.sub_self]
  simp [Nat.mod_eq_of_lt h, Nat.div_eq_of_lt h]

theorem row_own {β : Type} (g : Nat) (f : β → List Nat) : Own (fun s W => RowI W g (f s)) := fun s X Y row hs hg hrow => by
  refine (hg.block g hs.lt fun e' => ?_).trans hs
  obtain ⟨o, ho, hc⟩ := hrow g e'.symm
  rw [show X.heap[g]? = _ from hs] at ho
  cases ho; cases hc
theorem made_row (w : World) (n : Nat) : RowI (w.alloc (.cells (madeCells #[Value.int .i64 0] n) 3)) w.heap.size (List.replicate n 0) := by
  have h : (madeCells #[Value.int .i64 0] n).toList = (List.replicate n (0 : Nat)).map iv := by
    have := made_ints n
    rwa [Nat.mul_one, show (Value.int .i64 0).cells = #[Value.int .i64 0] from rfl] at this
  have e : madeCells #[Value.int .i64 0] n = ((List.replicate n (0 : Nat)).map iv).toArray := by rw [← h]
  rw [RowI, ← e]
  exact heap_alloc_new _ _
theorem RowI.alloc {w : World} {g : Nat} {l : List Nat} (h : RowI w g l) (o : Obj) : RowI (w.alloc o) g l := (Below.heap_alloc w o g h.lt).trans h

theorem boxed_off {V : World} {k : Nat} {t : TypeId} {v : Value} (h : Boxed V k t v) (b j : Nat) (y : Value) (hne : k ≠ b) : Boxed (V.setCell ⟨b, j, none⟩ y) k t v := (Below.heap_setCell V ⟨b, j, none⟩ y k hne).trans h
theorem RowI.off {V : World} {g : Nat} {l : List Nat} (h : RowI V g l) (b j : Nat) (y : Value) (hne : g ≠ b) : RowI (V.setCell ⟨b, j, none⟩ y) g l := (Below.heap_setCell V ⟨b, j, none⟩ y g hne).trans h

end Go.Proofs.Ytockhhleapbpiaa


/- Package table: the assignment of a place. -/
namespace Go.Proofs.Ytockhhleapbpiaa
open Go.RowKit

end Go.Proofs.Ytockhhleapbpiaa


/- Package table: how far apart the values of the variables stand. -/
namespace Go.Proofs.Ytockhhleapbpiaa
open Go.RowKit Go.Shelf

attribute [local go_sem] Oper.semAt_some

/-- How far apart two values stand, variable by variable. -/
def stpL (S : List Nat) (n : Nat) (vs : List Nat) : List Nat := (List.range n).map (stp S vs)
theorem stpL_length (S : List Nat) (n : Nat) (vs : List Nat) : (stpL S n vs).length = n := by simp [stpL]
theorem stpL_nil (S : List Nat) (n : Nat) : stpL S n [] = List.replicate n 0 := by
  apply List.ext_getElem <;> simp [stpL, stp]
theorem stpL_cons (S : List Nat) (n u : Nat) (vs : List Nat) : (stpL S n vs).set u (cnt S vs) = stpL S n (u :: vs) := by
  apply List.ext_getElem
  · simp [stpL]
  · intro i h1 h2
    simp only [stpL, List.getElem_set, List.getElem_map, List.getElem_range, stp]
    by_cases e : u = i
    · rw [if_pos e, if_pos e.symm]
    · rw [if_neg e, if_neg (fun h => e h.symm)]
theorem stpL_get (S : List Nat) (n : Nat) (vs : List Nat) {v : Nat} (h : v < n) : (stpL S n vs)[v]'(by rw [stpL_length]; exact h) = stp S vs v := by simp [stpL]
/-- One step of telling them from the end: the step, and what is written. -/
def sst (S vs : List Nat) (st : Nat × List Nat) (i : Nat) : Nat × List Nat := (st.1 * sz S (vs.getD i 0), st.2.set (vs.getD i 0) st.1)
def stpF (S vs : List Nat) (n : Nat) (pre : List Nat) : Nat × List Nat := pre.foldl (sst S vs) (1, List.replicate n 0)
theorem stpF_snoc (S vs : List Nat) (n : Nat) (pre : List Nat) (i : Nat) : stpF S vs n (pre ++ [i]) = sst S vs (stpF S vs n pre) i := by simp [stpF]
theorem stpF_backs (S vs : List Nat) (n : Nat) : ∀ m, m ≤ vs.length → stpF S vs n (backs vs.length m) = (cnt S (vs.drop (vs.length - m)), stpL S n (vs.drop (vs.length - m)))
  | 0, _ => by simp [stpF, backs, cnt, stpL_nil]
  | m + 1, h => by
    rw [backs_succ, stpF_snoc, stpF_backs S vs n m (by omega)]
    have hj : vs.length - 1 - m < vs.length := by omega
    have e1 : vs.length - (m + 1) = vs.length - 1 - m := by omega
    have e2 : vs.length - m = (vs.length - 1 - m) + 1 := by omega
    have hd : vs.drop (vs.length - 1 - m) = vs[vs.length - 1 - m] :: vs.drop ((vs.length - 1 - m) + 1) := List.drop_eq_getElem_cons hj
    rw [e1, e2, hd, sst, getN_eq hj]
    simp only [cnt, stpL_cons]
    rw [Nat.mul_comm]
theorem stpF_le {S : List Nat} (hs : ∀ v, sz S v ≤ 4) (vs : List Nat) (n : Nat) (pre : List Nat) : (stpF S vs n pre).1 ≤ 4 ^ pre.length ∧ (stpF S vs n pre).2.length = n := by
  have key : ∀ (l : List Nat) (st : Nat × List Nat), st.2.length = n → (l.foldl (sst S vs) st).1 ≤ st.1 * 4 ^ l.length ∧ (l.foldl (sst S vs) st).2.length = n := by
    intro l
    induction l with
    | nil => intro st h2; exact ⟨by simp, h2⟩
    | cons i l ih =>
      intro st h2
      obtain ⟨h3, h4⟩ := ih (sst S vs st i) (by simp [sst, h2])
      refine ⟨Nat.le_trans h3 ?_, h4⟩
      show st.1 * sz S (vs.getD i 0) * 4 ^ l.length ≤ st.1 * 4 ^ (l.length + 1)
      rw [Nat.pow_succ, Nat.mul_comm (4 ^ l.length), ← Nat.mul_assoc]
      exact Nat.mul_le_mul_right _ (Nat.mul_le_mul_left _ (hs _))
  have h := key pre (1, List.replicate n 0) (by simp)
  rwa [Nat.one_mul] at h
theorem stpF_all (S vs : List Nat) (n : Nat) : stpF S vs n (backs vs.length vs.length) = (cnt S vs, stpL S n vs) := by
  rw [stpF_backs S vs n _ (Nat.le_refl _), Nat.sub_self, List.drop_zero]

end Go.Proofs.Ytockhhleapbpiaa

