/- Lists of ints in memory; the document's answer: what is in a list, sizes that may be, lists that rise. -/
import Derived.Test.YtockhhleapbpiaaProg
import Derived.WalkKit
import Derived.WalkSpells
import Derived.WalkLawsBesides
import Derived.Deep.QuietTactic
import Derived.BigQuiet
namespace Go.Proofs.Ytockhhleapbpiaa
open Go.RowKit

theorem hid {p : Prop} (h : p) : Hid p := h
/-- A list of ints, as a slice at a. -/
def IntS (w : World) (a : Option Addr) (l : List Int) : Prop := ∀ k (h : k < l.length), ∃ g o, a = some ⟨g, o, none⟩ ∧ g < w.heap.size ∧ w.cell? ⟨g, o + k, none⟩ = some (.int .i64 l[k])
theorem IntS.below {w w' : World} {a : Option Addr} {l : List Int} (h : IntS w a l) (hb : Below w.heap.size w w') : IntS w' a l := fun k hk => by
  obtain ⟨g, o, h1, h2, h3⟩ := h k hk
  exact ⟨g, o, h1, Nat.lt_of_lt_of_le h2 hb.size, (hb.cell (p := ⟨g, _, none⟩) h2).trans h3⟩
theorem IntS.drew {w : World} {a : Option Addr} {l : List Int} (h : IntS w a l) : IntS w.drew a l := h
theorem below_dn {B : Nat} {a b : World} (h : Below B a b) (k : Nat) : Below B a (b.drewN k) := ⟨h.os, h.tape, h.output, h.size, h.block⟩

def inB (k : Int) (l : List Int) : Bool := l.any (· == k)
theorem inB_take {k : Int} {l : List Int} {i : Nat} (h : i < l.length) : inB k (l.take (i + 1)) = (inB k (l.take i) || l[i] == k) := by
  rw [List.take_succ_eq_append_getElem h, inB, inB, List.any_append]; simp
theorem inB_hit {k : Int} {l : List Int} {i : Nat} (h : i < l.length) (e : l[i] = k) : inB k l = true := by
  rw [inB, List.any_eq_true]; exact ⟨l[i], List.getElem_mem h, by simp [e]⟩

set_option maxRecDepth 100000 in
set_option maxHeartbeats 1000000 in
theorem rIn_any (k : Int) (a : Option Addr) (cap : Nat) (l : List Int) (w : World) (h : IntS w a l) (hn : l.length ≤ 140737488355328) :
    Calls Try.prog 26 #[.int .i64 k, .slice a l.length cap] w fun e w' => e = .returned (.bool (inB k l)) ∧ w' = w := by
  have HF := hid h
  clear h
  go_enter Try.func26, Try.ntmps26
  go_wp2_with fail
  go_loop [5] (fun iv => ∃ i : Nat, i ≤ l.length ∧ iv = .int .i64 i ∧ Hid (inB k (l.take i) = false)) (fun iv => l.length - (intOf iv).toNat)
  case atStart => exact ⟨0, Nat.zero_le _, rfl, rfl⟩
  case round =>
    obtain ⟨i, hi, rfl, HI⟩ := hrel
    by_cases hlt : i < l.length
    · obtain ⟨g, o, rfl, hg, c0⟩ := HF.out i hlt
      by_cases e : l[i] = k
      · have HE := hid (inB_hit hlt e)
        go_wp2
        go_ret
        exact ⟨by rw [HE.out]; rfl, rfl⟩
      · have HS : Hid (inB k (l.take (i + 1)) = false) := by show _ = _; rw [inB_take hlt, HI.out]; simp [e]
        have eb : (l[i] == k) = false := by simp [e]
        generalize l[i] = x at *
        go_wp2
        go_round
        case rel => exact ⟨i + 1, by omega, by go_num, HS.out⟩
        case measure => simp [intOf]; omega
    · have HE : Hid (inB k l = false) := by
        show _ = _
        have := HI.out
        rwa [List.take_of_length_le (by omega)] at this
      go_wp2
      go_ret
      exact ⟨by rw [HE.out]; rfl, rfl⟩

/-- Sizes that may be. -/
def okSize (x : Int) : Bool := decide (1 ≤ x ∧ x ≤ 4)
def fitB (l : List Int) : Bool := decide (1 ≤ l.length ∧ l.length ≤ 8) && l.all okSize
theorem all_bad {l : List Int} {p : Int → Bool} {i : Nat} (h : i < l.length) (e : p l[i] = false) : l.all p = false := by
  rw [List.all_eq_false]; exact ⟨l[i], List.getElem_mem h, by rw [e]; decide⟩
theorem all_take_succ {l : List Int} {p : Int → Bool} {i : Nat} (h : i < l.length) (h0 : (l.take i).all p = true) (e : p l[i] = true) : (l.take (i + 1)).all p = true := by
  rw [List.take_succ_eq_append_getElem h, List.all_append, h0]; simp [e]

end Go.Proofs.Ytockhhleapbpiaa


/- The document's answer: lists that rise. -/
namespace Go.Proofs.Ytockhhleapbpiaa
open Go.RowKit

/-- Does the list rise, of numbers from 0 on below n? -/
def okAt (l : List Int) (n : Int) (i : Nat) : Bool := decide (0 ≤ l.getD i 0 ∧ l.getD i 0 < n ∧ (0 < i → l.getD (i - 1) 0 < l.getD i 0))
def risB (l : List Int) (n : Int) : Bool := (List.range l.length).all (okAt l n)
theorem risB_bad {l : List Int} {n : Int} {i : Nat} (h : i < l.length) (e : okAt l n i = false) : risB l n = false := by
  rw [risB, List.all_eq_false]; exact ⟨i, List.mem_range.2 h, by rw [e]; decide⟩
theorem ris_succ {l : List Int} {n : Int} {i : Nat} (h0 : (List.range i).all (okAt l n) = true) (e : okAt l n i = true) : (List.range (i + 1)).all (okAt l n) = true := by
  rw [List.range_succ, List.all_append, h0]; simp [e]
theorem getD_eq {l : List Int} {i : Nat} (h : i < l.length) : l.getD i 0 = l[i] := by simp [List.getD, h]

set_option maxRecDepth 100000 in
set_option maxHeartbeats 400000 in
theorem rRising_any (a : Option Addr) (cap : Nat) (l : List Int) (n : Int) (w : World) (h : IntS w a l) (hn : l.length ≤ 140737488355328) :
    Calls Try.prog 40 #[.slice a l.length cap, .int .i64 n] w fun e w' => e = .returned (.bool (risB l n)) ∧ Below w.heap.size w w' := by
  have HF := hid h
  clear h
  have HB := hid (fun i h e => risB_bad (l := l) (n := n) (i := i) h e)
  have HT : Hid ((List.range l.length).all (okAt l n) = true → risB l n = true) := id
  generalize risB l n = rb at *
  go_enter Try.func40, Try.ntmps40
  go_wp2_with fail
  go_loopw [5] (fun iv wr => ∃ i : Nat, i ≤ l.length ∧ iv = .int .i64 i ∧ Hid ((List.range i).all (okAt l n) = true) ∧ Below w.heap.size w wr) (fun iv _ => l.length - (intOf iv).toNat)
  case atStart => exact ⟨0, Nat.zero_le _, rfl, rfl, Below.refl _ _⟩
  case round =>
    obtain ⟨i, hi, rfl, HI, hB⟩ := hrel
    by_cases hlt : i < l.length
    · obtain ⟨g, o, rfl, hg, c0⟩ := (HF.out.below hB) i hlt
      have HO : Hid (okAt l n i = decide (0 ≤ l[i] ∧ l[i] < n ∧ (0 < i → l.getD (i - 1) 0 < l[i]))) := by show _ = _; rw [okAt, getD_eq hlt]
      by_cases e0 : l[i] < 0
      · have HE : Hid (rb = false) := HB.out i hlt (by rw [HO.out]; exact decide_eq_false (by omega))
        generalize l[i] = x at *
        have d0 : decide (x < 0) = true := decide_eq_true e0
        go_wp2_with fail
        go_quiet (fail)
        go_wp2
        go_ret
        exact ⟨by rw [HE.out]; rfl, below_dn hB _⟩
      · by_cases e1 : n ≤ l[i]
        · have HE : Hid (rb = false) := HB.out i hlt (by rw [HO.out]; exact decide_eq_false (by omega))
          generalize l[i] = x at *
          have d0 : decide (x < 0) = false := decide_eq_false e0
          have d1 : decide (n ≤ x) = true := decide_eq_true e1
          go_wp2_with fail
          go_quiet (fail)
          go_wp2
          go_ret
          exact ⟨by rw [HE.out]; rfl, below_dn hB _⟩
        · by_cases e2 : i = 0
          · have HS := hid (ris_succ HI.out (i := i) (by rw [HO.out]; exact decide_eq_true ⟨by omega, by omega, fun h => absurd h (by omega)⟩))
            clear HO
            generalize l[i] = x at *
            have d0 : decide (x < 0) = false := decide_eq_false e0
            have d1 : decide (n ≤ x) = false := decide_eq_false e1
            have d2 : decide (0 < i) = false := decide_eq_false (by omega)
            have e2' : ¬ 0 < (i : Int) := by omega
            have E2 := hid e2
            clear e2
            go_wp2_with fail
            go_quiet (fail)
            go_wp2
            go_roundw
            case rel => exact ⟨i + 1, by omega, by go_num, HS.out, below_dn hB _⟩
            case measure => simp [intOf]; omega
          · have hip : 0 < i := by omega
            obtain ⟨g', o', he', hg', c1⟩ := (HF.out.below hB) (i - 1) (by omega)
            simp only [Option.some.injEq, Addr.mk.injEq] at he'
            obtain ⟨rfl, rfl, -⟩ := he'
            have hgd : l.getD (i - 1) 0 = l[i - 1] := getD_eq (by omega)
            rw [hgd] at HO
            have hix : ((i : Int) - 1).toNat = i - 1 := by omega
            by_cases e3 : l[i] ≤ l[i - 1]
            · have HE : Hid (rb = false) := HB.out i hlt (by rw [HO.out]; exact decide_eq_false (fun h => absurd (h.2.2 hip) (by omega)))
              clear hgd HO
              generalize l[i] = x at *
              generalize l[i - 1] = y at *
              have d0 : decide (x < 0) = false := decide_eq_false e0
              have d1 : decide (n ≤ x) = false := decide_eq_false e1
              have d2 : decide (0 < (i : Int)) = true := decide_eq_true (by omega)
              have d3 : decide (x ≤ y) = true := decide_eq_true e3
              go_wp2_with fail
              go_quiet (fail)
              go_wp2
              go_ret
              exact ⟨by rw [HE.out]; rfl, below_dn hB _⟩
            · have HS := hid (ris_succ HI.out (i := i) (by rw [HO.out]; exact decide_eq_true ⟨by omega, by omega, fun _ => by omega⟩))
              clear hgd HO
              generalize l[i] = x at *
              generalize l[i - 1] = y at *
              have d0 : decide (x < 0) = false := decide_eq_false e0
              have d1 : decide (n ≤ x) = false := decide_eq_false e1
              have d2 : decide (0 < (i : Int)) = true := decide_eq_true (by omega)
              have d3 : decide (x ≤ y) = false := decide_eq_false e3
              go_wp2_with fail
              go_quiet (fail)
              go_wp2
              go_roundw
              case rel => exact ⟨i + 1, by omega, by go_num, HS.out, below_dn hB _⟩
              case measure => simp [intOf]; omega
    · obtain rfl : i = l.length := by omega
      have HE := hid (HT.out HI.out)
      go_wp2
      go_ret
      exact ⟨by rw [HE.out]; rfl, hB⟩
end Go.Proofs.Ytockhhleapbpiaa


/- Plain facts on assignments of variables and their places in tables; nothing of the program is named here. -/
namespace Go.Proofs.Ytockhhleapbpiaa

/-- How many values a variable has. -/
def sz (S : List Nat) (v : Nat) : Nat := S[v]?.getD 1
/-- How many assignments variables have. -/
def cnt (S : List Nat) : List Nat → Nat
  | [] => 1
  | v :: vs => sz S v * cnt S vs
theorem cnt_append (S a b : List Nat) : cnt S (a ++ b) = cnt S a * cnt S b := by
  induction a with
  | nil => simp [cnt]
  | cons v a ih => simp only [List.cons_append, cnt, ih, Nat.mul_assoc]
theorem cnt_snoc (S a : List Nat) (v : Nat) : cnt S (a ++ [v]) = cnt S a * sz S v := by rw [cnt_append]; simp [cnt]
/-- All sizes are at least 1. -/
def Pos (S : List Nat) : Prop := ∀ x ∈ S, 1 ≤ x
theorem sz_pos {S : List Nat} (h : Pos S) (v : Nat) : 1 ≤ sz S v := by
  rw [sz]
  cases e : S[v]? with
  | none => simp
  | some x => exact h x (List.mem_of_getElem? e)
theorem cnt_pos {S : List Nat} (h : Pos S) (vs : List Nat) : 1 ≤ cnt S vs := by
  induction vs with
  | nil => exact Nat.le_refl _
  | cons v vs ih => exact Nat.mul_le_mul (sz_pos h v) ih

/-- The assignment of a place. -/
def digs (S : List Nat) : List Nat → Nat → List Nat
  | [], _ => []
  | _ :: vs, k => (k / cnt S vs) :: digs S vs (k % cnt S vs)
theorem digs_length (S vs : List Nat) : ∀ k, (digs S vs k).length = vs.length := by
  induction vs with
  | nil => intro _; rfl
  | cons v vs ih => intro k; simp [digs, ih]
theorem mod_div (k c s : Nat) : k % (s * c) / c = k / c % s := by
  rw [Nat.mul_comm s c, Nat.mod_mul_right_div_self]
theorem mod_mod_c (k c s : Nat) : k % (s * c) % c = k % c := by
  rw [Nat.mul_comm s c, Nat.mod_mul_right_mod]
theorem digs_snoc {S : List Nat} (h : Pos S) (vs : List Nat) (v : Nat) : ∀ k, digs S (vs ++ [v]) k = digs S vs (k / sz S v) ++ [k % sz S v] ∨ ¬ k < cnt S (vs ++ [v]) := by
  induction vs with
  | nil =>
    intro k
    by_cases hk : k < cnt S ([] ++ [v])
    · left
      simp [digs, cnt] at hk ⊢
      exact (Nat.mod_eq_of_lt hk).symm
    · exact .inr hk
  | cons u vs ih =>
    intro k
    by_cases hk : k < cnt S ((u :: vs) ++ [v])
    · left
      have hs := sz_pos h v
      have hc := cnt_pos h vs
      have e : cnt S (vs ++ [v]) = cnt S vs * sz S v := cnt_snoc S vs v
      have hk2 : k % cnt S (vs ++ [v]) < cnt S (vs ++ [v]) := Nat.mod_lt _ (cnt_pos h _)
      rcases ih (k % cnt S (vs ++ [v])) with h1 | h1
      · show (k / cnt S (vs ++ [v])) :: digs S (vs ++ [v]) (k % cnt S (vs ++ [v])) = _
        rw [h1, e]
        show _ = (k / sz S v / cnt S vs) :: digs S vs (k / sz S v % cnt S vs) ++ [k % sz S v]
        rw [mod_div k _ _, mod_mod_c, Nat.div_div_eq_div_mul, Nat.mul_comm (sz S v)]
        rfl
      · exact absurd hk2 h1
    · exact .inr hk

/-- The assignment of a place, variable by variable: 0 for those that it hasn't. -/
def asg (S : List Nat) : List Nat → Nat → Nat → Nat
  | [], _, _ => 0
  | u :: vs, k, v => if v = u then k / cnt S vs else asg S vs (k % cnt S vs) v
theorem asg_out {S : List Nat} : ∀ {vs : List Nat} {k v : Nat}, ¬ v ∈ vs → asg S vs k v = 0
  | [], _, _, _ => rfl
  | u :: vs, k, v, h => by
    rw [asg, if_neg (fun e => h (by rw [e]; exact List.mem_cons_self))]
    exact asg_out fun e => h (List.mem_cons_of_mem _ e)
/-- How far apart two values of a variable stand. -/
def stp (S : List Nat) : List Nat → Nat → Nat
  | [], _ => 0
  | u :: vs, v => if v = u then cnt S vs else stp S vs v
theorem stp_out {S : List Nat} : ∀ {vs : List Nat} {v : Nat}, ¬ v ∈ vs → stp S vs v = 0
  | [], _, _ => rfl
  | u :: vs, v, h => by
    rw [stp, if_neg (fun e => h (by rw [e]; exact List.mem_cons_self))]
    exact stp_out fun e => h (List.mem_cons_of_mem _ e)
/-- The place of an assignment. -/
def pos (S : List Nat) (f : Nat → Nat) (vs : List Nat) : Nat := vs.foldl (fun k v => k * sz S v + f v) 0
theorem pos_snoc (S : List Nat) (f : Nat → Nat) (vs : List Nat) (v : Nat) : pos S f (vs ++ [v]) = pos S f vs * sz S v + f v := by simp [pos]

/-- A sum over some. -/
def sumL (g : Nat → Nat) : List Nat → Nat
  | [] => 0
  | v :: vs => g v + sumL g vs
theorem sumL_append (g : Nat → Nat) (a b : List Nat) : sumL g (a ++ b) = sumL g a + sumL g b := by
  induction a with
  | nil => simp [sumL]
  | cons v a ih => simp only [List.cons_append, sumL, ih]; omega
theorem sumL_congr {g h : Nat → Nat} : ∀ {l : List Nat}, (∀ v ∈ l, g v = h v) → sumL g l = sumL h l
  | [], _ => rfl
  | v :: l, e => by rw [sumL, sumL, e v List.mem_cons_self, sumL_congr fun u hu => e u (List.mem_cons_of_mem _ hu)]
theorem foldl_pos (S : List Nat) (f : Nat → Nat) : ∀ (vs : List Nat) (k : Nat), vs.foldl (fun k v => k * sz S v + f v) k = k * cnt S vs + pos S f vs
  | [], k => by simp [pos, cnt]
  | v :: vs, k => by
    have e : pos S f (v :: vs) = f v * cnt S vs + pos S f vs := by
      show vs.foldl (fun k v => k * sz S v + f v) (0 * sz S v + f v) = _
      rw [foldl_pos S f vs, Nat.zero_mul, Nat.zero_add]
    rw [List.foldl_cons, foldl_pos S f vs, e, cnt, Nat.add_mul, Nat.mul_assoc]
    omega
theorem pos_sum (S : List Nat) (f : Nat → Nat) : ∀ {vs : List Nat}, vs.Nodup → pos S f vs = sumL (fun v => f v * stp S vs v) vs
  | [], _ => rfl
  | u :: vs, h => by
    rw [List.nodup_cons] at h
    rw [pos, List.foldl_cons, foldl_pos, sumL, pos_sum S f h.2, Nat.zero_mul, Nat.zero_add]
    congr 1
    · rw [stp, if_pos rfl]
    · exact sumL_congr fun v hv => by rw [stp, if_neg (fun e => h.1 (by rw [← e]; exact hv))]
/-- A sum over some is a sum over all of what is 0 elsewhere. -/
theorem sumL_all (g : Nat → Nat) (n : Nat) : ∀ {vs : List Nat}, vs.Nodup → (∀ v ∈ vs, v < n) → (∀ v, ¬ v ∈ vs → g v = 0) → sumL g vs = sumL g (List.range n) := by
  intro vs hn hlt h0
  have key : ∀ {vs : List Nat}, vs.Nodup → (∀ v ∈ vs, v < n) → sumL g vs = sumL (fun v => if v ∈ vs then g v else 0) (List.range n) := by
    intro vs
    induction vs with
    | nil =>
      intro _ _
      have : ∀ l : List Nat, sumL (fun v => if v ∈ ([] : List Nat) then g v else 0) l = 0 := by
        intro l
        induction l with
        | nil => rfl
        | cons x l ih => rw [sumL, ih]; simp
      rw [this]; rfl
    | cons u vs ih =>
      intro hn hlt
      rw [List.nodup_cons] at hn
      rw [sumL, ih hn.2 fun v hv => hlt v (List.mem_cons_of_mem _ hv)]
      have hu := hlt u List.mem_cons_self
      have one : ∀ m, u < m → sumL (fun v => if v ∈ u :: vs then g v else 0) (List.range m) = g u + sumL (fun v => if v ∈ vs then g v else 0) (List.range m) := by
        intro m
        induction m with
        | zero => intro h; omega
        | succ m ihm =>
          intro h
          rw [List.range_succ, sumL_append, sumL_append]
          by_cases e : u = m
          · subst e
            have : sumL (fun v => if v ∈ u :: vs then g v else 0) (List.range u) = sumL (fun v => if v ∈ vs then g v else 0) (List.range u) := sumL_congr fun v hv => by
              have : ¬ v = u := by have := List.mem_range.1 hv; omega
              simp [this]
            rw [this]
            simp [sumL, hn.1]
            omega
          · rw [ihm (by omega)]
            have : ¬ m = u := fun h => e h.symm
            simp [sumL, this]
            omega
      rw [one n hu]
  rw [key hn hlt]
  exact sumL_congr fun v _ => by
    by_cases h : v ∈ vs
    · rw [if_pos h]
    · rw [if_neg h, h0 v h]
/-- The place in another table: a sum over the variables of the first. -/
theorem stand {S vs other : List Nat} (n k : Nat) (hv : vs.Nodup) (ho : other.Nodup) (hvl : ∀ v ∈ vs, v < n) (hol : ∀ v ∈ other, v < n) : sumL (fun v => asg S vs k v * stp S other v) vs = pos S (asg S vs k) other := by
  rw [pos_sum S _ ho, sumL_all _ n hv hvl, sumL_all _ n ho hol]
  · intro v h; rw [stp_out h, Nat.mul_zero]
  · intro v h; rw [asg_out h, Nat.zero_mul]
theorem asg_step {S : List Nat} (u : Nat) (suf : List Nat) (k v : Nat) : asg S (u :: suf) (k % cnt S (u :: suf)) v = if v = u then k / cnt S suf % sz S u else asg S suf (k % cnt S suf) v := by
  rw [asg, cnt, mod_div k _ _, mod_mod_c]
end Go.Proofs.Ytockhhleapbpiaa


/- Sizes and variables that may be, as natural numbers; the document's answer: how many assignments there are. -/
namespace Go.Proofs.Ytockhhleapbpiaa
open Go.RowKit

def toN (l : List Int) : List Nat := l.map Int.toNat
theorem toN_length (l : List Int) : (toN l).length = l.length := by simp [toN]
theorem toN_get {l : List Int} {i : Nat} (h : i < l.length) : (toN l)[i]'(by rw [toN_length]; exact h) = l[i].toNat := by simp [toN]

/-- Sizes that may be. -/
structure Fine (l : List Int) : Prop where
  one : 1 ≤ l.length
  eight : l.length ≤ 8
  each : ∀ i (h : i < l.length), 1 ≤ l[i] ∧ l[i] ≤ 4
theorem fit_fine {l : List Int} (h : fitB l = true) : Fine l := by
  rw [fitB, Bool.and_eq_true, decide_eq_true_iff] at h
  exact ⟨h.1.1, h.1.2, fun i hi => by
    have := List.all_eq_true.1 h.2 l[i] (List.getElem_mem hi)
    simpa [okSize] using this⟩
theorem Fine.pos {l : List Int} (h : Fine l) : Pos (toN l) := by
  intro x hx
  obtain ⟨i, hi, rfl⟩ := List.mem_iff_getElem.1 hx
  rw [toN_length] at hi
  rw [toN_get hi]
  have := h.each i hi
  omega
theorem Fine.sz_le {l : List Int} (h : Fine l) (v : Nat) : sz (toN l) v ≤ 4 := by
  rw [sz]
  by_cases hv : v < l.length
  · rw [List.getElem?_eq_getElem (by rw [toN_length]; exact hv), Option.getD_some, toN_get hv]
    have := h.each v hv
    omega
  · rw [List.getElem?_eq_none (by rw [toN_length]; omega)]; simp
theorem Fine.sz_eq {l : List Int} (h : Fine l) {v : Nat} (hv : v < l.length) : (sz (toN l) v : Int) = l[v] := by
  rw [sz, List.getElem?_eq_getElem (by rw [toN_length]; exact hv), Option.getD_some, toN_get hv]
  have := h.each v hv
  omega

/-- A list that rises, of numbers from 0 on below n. -/
structure Up (l : List Int) (n : Nat) : Prop where
  each : ∀ i (h : i < l.length), 0 ≤ l[i] ∧ l[i] < n
  lt : ∀ i j (hj : j < l.length) (hi : i < j), l[i] < l[j]
theorem ris_up {l : List Int} {n : Nat} (h : risB l n = true) : Up l n := by
  have hok : ∀ i (hi : i < l.length), 0 ≤ l[i] ∧ l[i] < (n : Int) ∧ (0 < i → l.getD (i - 1) 0 < l[i]) := fun i hi => by
    have := List.all_eq_true.1 h i (List.mem_range.2 hi)
    rw [okAt, decide_eq_true_iff, getD_eq hi] at this
    exact this
  refine ⟨fun i hi => ⟨(hok i hi).1, (hok i hi).2.1⟩, ?_⟩
  intro i j
  induction j with
  | zero => intro _ h; omega
  | succ j ih =>
    intro hj hi
    have h1 := (hok (j + 1) hj).2.2 (by omega)
    rw [Nat.add_sub_cancel, getD_eq (by omega)] at h1
    rcases Nat.lt_or_ge i j with h2 | h2
    · have := ih (by omega) h2
      omega
    · obtain rfl : i = j := by omega
      exact h1
theorem Up.nat {l : List Int} {n : Nat} (h : Up l n) {i : Nat} (hi : i < l.length) : ((l[i].toNat : Nat) : Int) = l[i] ∧ l[i].toNat < n := by
  have := h.each i hi
  constructor <;> omega
theorem Up.below {l : List Int} {n : Nat} (h : Up l n) : ∀ v ∈ toN l, v < n := by
  intro v hv
  obtain ⟨i, hi, rfl⟩ := List.mem_iff_getElem.1 hv
  rw [toN_length] at hi
  rw [toN_get hi]
  exact (h.nat hi).2
theorem Up.nodup {l : List Int} {n : Nat} (h : Up l n) : (toN l).Nodup := by
  rw [List.Nodup, List.pairwise_iff_getElem]
  intro i j hi hj hij
  rw [toN_length] at hi hj
  rw [toN_get hi, toN_get hj]
  have h1 := h.lt i j hj hij
  have h2 := h.each i hi
  omega
theorem Up.ge {l : List Int} {n : Nat} (h : Up l n) : ∀ i (hi : i < l.length), (i : Int) ≤ l[i] := by
  intro i
  induction i with
  | zero => intro hi; exact (h.each 0 hi).1
  | succ i ih =>
    intro hi
    have := ih (by omega)
    have := h.lt i (i + 1) hi (by omega)
    omega
theorem Up.length {l : List Int} {n : Nat} (h : Up l n) : l.length ≤ n := by
  rcases Nat.eq_zero_or_pos l.length with h0 | h0
  · omega
  · have h1 := h.ge (l.length - 1) (by omega)
    have h2 := (h.each (l.length - 1) (by omega)).2
    omega
theorem cnt_le {S : List Nat} (h : ∀ v, sz S v ≤ 4) : ∀ vs : List Nat, cnt S vs ≤ 4 ^ vs.length
  | [] => Nat.le_refl _
  | v :: vs => by
    rw [cnt, List.length_cons, Nat.pow_succ, Nat.mul_comm (4 ^ _)]
    exact Nat.mul_le_mul (h v) (cnt_le h vs)
theorem cnt_small {S : List Nat} (h : ∀ v, sz S v ≤ 4) {vs : List Nat} (hv : vs.length ≤ 8) : cnt S vs ≤ 65536 := by
  have h1 := cnt_le h vs
  have h2 : 4 ^ vs.length ≤ 4 ^ 8 := Nat.pow_le_pow_right (by decide) hv
  have h3 : (4 : Nat) ^ 8 = 65536 := by decide
  omega
theorem cnt_take (S vs : List Nat) {i : Nat} (h : i < vs.length) : cnt S (vs.take (i + 1)) = cnt S (vs.take i) * sz S vs[i] := by
  rw [List.take_succ_eq_append_getElem h, cnt_snoc]

/-- What Count answers. -/
def countB (sizes vars : List Int) : Bool := fitB sizes && risB vars sizes.length
def countA (sizes vars : List Int) : Int × Int := if countB sizes vars = true then (((cnt (toN sizes) (toN vars) : Nat) : Int), 0) else (0, 11)
theorem countA_yes {sizes vars : List Int} (h : countB sizes vars = true) : countA sizes vars = (((cnt (toN sizes) (toN vars) : Nat) : Int), 0) := if_pos h
theorem countA_no {sizes vars : List Int} (h : countB sizes vars = false) : countA sizes vars = (0, 11) := if_neg (by rw [h]; decide)

end Go.Proofs.Ytockhhleapbpiaa

