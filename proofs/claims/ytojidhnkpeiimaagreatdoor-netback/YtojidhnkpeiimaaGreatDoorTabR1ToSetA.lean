/- Lists of ints in memory; the document's answer: what is in a list, sizes that may be, lists that rise. -/
import Derived.Test.YtojidhnkpeiimaaGreatDoorProg
import Derived.WalkKit
import Derived.WalkSpells
import Derived.WalkLawsBesides
import Derived.Deep.QuietTactic
import Derived.BigQuiet
import Derived.Laws.BitsAllLaws
namespace Go.Proofs.YtojidhnkpeiimaaGreatDoor
open Go.RowKit
theorem hid {p : Prop} (h : p) : Hid p := h
def IntS (w : World) (a : Option Addr) (l : List Int) : Prop := ∀ k (h : k < l.length), ∃ g o, a = some ⟨g, o, none⟩ ∧ g < w.heap.size ∧ w.cell? ⟨g, o + k, none⟩ = some (.int .i64 l[k])
theorem IntS.below {w w' : World} {a : Option Addr} {l : List Int} (h : IntS w a l) (hb : Below w.heap.size w w') : IntS w' a l := fun k hk => by
  obtain ⟨g, o, h1, h2, h3⟩ := h k hk
  exact ⟨g, o, h1, Nat.lt_of_lt_of_le h2 hb.size, (hb.cell (p := ⟨g, _, none⟩) h2).trans h3⟩
theorem below_dn {B : Nat} {a b : World} (h : Below B a b) (k : Nat) : Below B a (b.drewN k) := ⟨h.os, h.tape, h.output, h.size, h.block⟩
def okSize (x : Int) : Bool := decide (1 ≤ x ∧ x ≤ 4)
def fitB (l : List Int) : Bool := decide (1 ≤ l.length ∧ l.length ≤ 8) && l.all okSize
theorem all_bad {l : List Int} {p : Int → Bool} {i : Nat} (h : i < l.length) (e : p l[i] = false) : l.all p = false := by
  rw [List.all_eq_false]; exact ⟨l[i], List.getElem_mem h, by rw [e]; decide⟩
theorem all_take_succ {l : List Int} {p : Int → Bool} {i : Nat} (h : i < l.length) (h0 : (l.take i).all p = true) (e : p l[i] = true) : (l.take (i + 1)).all p = true := by
  rw [List.take_succ_eq_append_getElem h, List.all_append, h0]; simp [e]
set_option maxRecDepth 100000 in
set_option maxHeartbeats 1000000 in
theorem rFit_any (a : Option Addr) (cap : Nat) (l : List Int) (w : World) (h : IntS w a l) (hn : l.length ≤ 140737488355328) :
    Calls Tryz.prog 29 #[.slice a l.length cap] w fun e w' => e = .returned (.bool (fitB l)) ∧ Below w.heap.size w w' := by
  have HF := hid h
  clear h
  by_cases hl : 1 ≤ l.length ∧ l.length ≤ 8
  · have HB : Hid (fitB l = l.all okSize) := by show _ = _; rw [fitB, decide_eq_true hl]; rfl
    obtain ⟨hl1, hl2⟩ := hl
    generalize fitB l = fb at *
    go_enter Tryz.func29, Tryz.ntmps29
    go_wp2_with fail
    go_loopw [3] (fun iv wr => ∃ i : Nat, i ≤ l.length ∧ iv = .int .i64 i ∧ Hid ((l.take i).all okSize = true) ∧ Below w.heap.size w wr) (fun iv _ => l.length - (intOf iv).toNat)
    case atStart => exact ⟨0, Nat.zero_le _, rfl, rfl, Below.refl _ _⟩
    case round =>
      obtain ⟨i, hi, rfl, HI, hB⟩ := hrel
      by_cases hlt : i < l.length
      · obtain ⟨g, o, rfl, hg, c0⟩ := (HF.out.below hB) i hlt
        by_cases e : 1 ≤ l[i] ∧ l[i] ≤ 4
        · have HS := hid (all_take_succ hlt HI.out (p := okSize) (decide_eq_true e))
          obtain ⟨e1, e2⟩ := e
          generalize l[i] = x at *
          go_wp2
          go_roundw
          case rel => exact ⟨i + 1, by omega, by go_num, HS.out, hB⟩
          case measure => simp [intOf]; omega
        · have HE : Hid (fb = false) := by show _ = _; rw [HB.out]; exact all_bad hlt (decide_eq_false e)
          rcases (show l[i] < 1 ∨ (1 ≤ l[i] ∧ 4 < l[i]) by omega) with h3 | ⟨h3, h4⟩
          all_goals
            clear e
            generalize l[i] = x at *
            go_wp2
            go_ret
            exact ⟨by rw [HE.out]; rfl, hB⟩
      · have HE : Hid (fb = true) := by
          show _ = _
          rw [HB.out]
          have := HI.out
          rwa [List.take_of_length_le (by omega)] at this
        go_wp2
        go_ret
        exact ⟨by rw [HE.out]; rfl, hB⟩
  · have HE : Hid (fitB l = false) := by show _ = _; rw [fitB, decide_eq_false hl]; rfl
    generalize fitB l = fb at *
    go_enter Tryz.func29, Tryz.ntmps29
    rcases (show l.length < 1 ∨ (1 ≤ l.length ∧ 8 < l.length) by omega) with h3 | ⟨h3, h4⟩
    all_goals
      go_wp2
      go_ret
      exact ⟨by rw [HE.out]; rfl, Below.refl _ _⟩
end Go.Proofs.YtojidhnkpeiimaaGreatDoor

/- The document's answer: lists that rise. -/
namespace Go.Proofs.YtojidhnkpeiimaaGreatDoor
open Go.RowKit
def okAt (l : List Int) (n : Int) (i : Nat) : Bool := decide (0 ≤ l.getD i 0 ∧ l.getD i 0 < n ∧ (0 < i → l.getD (i - 1) 0 < l.getD i 0))
def risB (l : List Int) (n : Int) : Bool := (List.range l.length).all (okAt l n)
theorem risB_bad {l : List Int} {n : Int} {i : Nat} (h : i < l.length) (e : okAt l n i = false) : risB l n = false := by
  rw [risB, List.all_eq_false]; exact ⟨i, List.mem_range.2 h, by rw [e]; decide⟩
theorem ris_succ {l : List Int} {n : Int} {i : Nat} (h0 : (List.range i).all (okAt l n) = true) (e : okAt l n i = true) : (List.range (i + 1)).all (okAt l n) = true := by
  rw [List.range_succ, List.all_append, h0]; simp [e]
theorem getD_eq {l : List Int} {i : Nat} (h : i < l.length) : l.getD i 0 = l[i] := by simp [List.getD, h]
set_option maxRecDepth 100000 in
set_option maxHeartbeats 400000 in
theorem rRising_any (a : Option Addr) (cap : Nat) (l : List Int) (n : Int) (w : World) (h : IntS w a l) (hn : l.length ≤ 140737488355328) :
    Calls Tryz.prog 30 #[.slice a l.length cap, .int .i64 n] w fun e w' => e = .returned (.bool (risB l n)) ∧ Below w.heap.size w w' := by
  have HF := hid h
  clear h
  have HB := hid (fun i h e => risB_bad (l := l) (n := n) (i := i) h e)
  have HT : Hid ((List.range l.length).all (okAt l n) = true → risB l n = true) := id
  generalize risB l n = rb at *
  go_enter Tryz.func30, Tryz.ntmps30
  go_wp2_with fail
  go_loopw [5] (fun iv wr => ∃ i : Nat, i ≤ l.length ∧ iv = .int .i64 i ∧ Hid ((List.range i).all (okAt l n) = true) ∧ Below w.heap.size w wr) (fun iv _ => l.length - (intOf iv).toNat)
  case atStart => exact ⟨0, Nat.zero_le _, rfl, rfl, Below.refl _ _⟩
  case round =>
    obtain ⟨i, hi, rfl, HI, hB⟩ := hrel
    by_cases hlt : i < l.length
    · obtain ⟨g, o, rfl, hg, c0⟩ := (HF.out.below hB) i hlt
      have HO : Hid (okAt l n i = decide (0 ≤ l[i] ∧ l[i] < n ∧ (0 < i → l.getD (i - 1) 0 < l[i]))) := by show _ = _; rw [okAt, getD_eq hlt]
      by_cases e0 : l[i] < 0
      · have HE : Hid (rb = false) := HB.out i hlt (by rw [HO.out]; exact decide_eq_false (by omega))
        generalize l[i] = x at *
        have d0 : decide (x < 0) = true := decide_eq_true e0
        go_wp2_with fail
        go_quiet (fail)
        go_wp2
        go_ret
        exact ⟨by rw [HE.out]; rfl, below_dn hB _⟩
      · by_cases e1 : n ≤ l[i]
        · have HE : Hid (rb = false) := HB.out i hlt (by rw [HO.out]; exact decide_eq_false (by omega))
          generalize l[i] = x at *
          have d0 : decide (x < 0) = false := decide_eq_false e0
          have d1 : decide (n ≤ x) = true := decide_eq_true e1
          go_wp2_with fail
          go_quiet (fail)
          go_wp2
          go_ret
          exact ⟨by rw [HE.out]; rfl, below_dn hB _⟩
        · by_cases e2 : i = 0
          · have HS := hid (ris_succ HI.out (i := i) (by rw [HO.out]; exact decide_eq_true ⟨by omega, by omega, fun h => absurd h (by omega)⟩))
            clear HO
            generalize l[i] = x at *
            have d0 : decide (x < 0) = false := decide_eq_false e0
            have d1 : decide (n ≤ x) = false := decide_eq_false e1
            have d2 : decide (0 < i) = false := decide_eq_false (by omega)
            have e2' : ¬ 0 < (i : Int) := by omega
            have E2 := hid e2
            clear e2
            go_wp2_with fail
            go_quiet (fail)
            go_wp2
            go_roundw
            case rel => exact ⟨i + 1, by omega, by go_num, HS.out, below_dn hB _⟩
            case measure => simp [intOf]; omega
          · have hip : 0 < i := by omega
            obtain ⟨g', o', he', hg', c1⟩ := (HF.out.below hB) (i - 1) (by omega)
            simp only [Option.some.injEq, Addr.mk.injEq] at he'
            obtain ⟨rfl, rfl, -⟩ := he'
            have hgd : l.getD (i - 1) 0 = l[i - 1] := getD_eq (by omega)
            rw [hgd] at HO
            have hix : ((i : Int) - 1).toNat = i - 1 := by omega
            by_cases e3 : l[i] ≤ l[i - 1]
            · have HE : Hid (rb = false) := HB.out i hlt (by rw [HO.out]; exact decide_eq_false (fun h => absurd (h.2.2 hip) (by omega)))
              clear hgd HO
              generalize l[i] = x at *
              generalize l[i - 1] = y at *
              have d0 : decide (x < 0) = false := decide_eq_false e0
              have d1 : decide (n ≤ x) = false := decide_eq_false e1
              have d2 : decide (0 < (i : Int)) = true := decide_eq_true (by omega)
              have d3 : decide (x ≤ y) = true := decide_eq_true e3
              go_wp2_with fail
              go_quiet (fail)
              go_wp2
              go_ret
              exact ⟨by rw [HE.out]; rfl, below_dn hB _⟩
            · have HS := hid (ris_succ HI.out (i := i) (by rw [HO.out]; exact decide_eq_true ⟨by omega, by omega, fun _ => by omega⟩))
              clear hgd HO
              generalize l[i] = x at *
              generalize l[i - 1] = y at *
              have d0 : decide (x < 0) = false := decide_eq_false e0
              have d1 : decide (n ≤ x) = false := decide_eq_false e1
              have d2 : decide (0 < (i : Int)) = true := decide_eq_true (by omega)
              have d3 : decide (x ≤ y) = false := decide_eq_false e3
              go_wp2_with fail
              go_quiet (fail)
              go_wp2
              go_roundw
              case rel => exact ⟨i + 1, by omega, by go_num, HS.out, below_dn hB _⟩
              case measure => simp [intOf]; omega
    · obtain rfl : i = l.length := by omega
      have HE := hid (HT.out HI.out)
      go_wp2
      go_ret
      exact ⟨by rw [HE.out]; rfl, hB⟩
end Go.Proofs.YtojidhnkpeiimaaGreatDoor

/- Plain facts on assignments of variables and their places in tables; nothing of the program is named here. -/
namespace Go.Proofs.YtojidhnkpeiimaaGreatDoor
def sz (S : List Nat) (v : Nat) : Nat := S[v]?.getD 1
def cnt (S : List Nat) : List Nat → Nat
  | [] => 1
  | v :: vs => sz S v * cnt S vs
theorem cnt_append (S a b : List Nat) : cnt S (a ++ b) = cnt S a * cnt S b := by
  induction a with
  | nil => simp [cnt]
  | cons v a ih => simp only [List.cons_append, cnt, ih, Nat.mul_assoc]
theorem cnt_snoc (S a : List Nat) (v : Nat) : cnt S (a ++ [v]) = cnt S a * sz S v := by rw [cnt_append]; simp [cnt]
def Pos (S : List Nat) : Prop := ∀ x ∈ S, 1 ≤ x
theorem sz_pos {S : List Nat} (h : Pos S) (v : Nat) : 1 ≤ sz S v := by
  rw [sz]
  cases e : S[v]? with
  | none => simp
  | some x => exact h x (List.mem_of_getElem? e)
theorem cnt_pos {S : List Nat} (h : Pos S) (vs : List Nat) : 1 ≤ cnt S vs := by
  induction vs with
  | nil => exact Nat.le_refl _
  | cons v vs ih => exact Nat.mul_le_mul (sz_pos h v) ih
def digs (S : List Nat) : List Nat → Nat → List Nat
  | [], _ => []
  | _ :: vs, k => (k / cnt S vs) :: digs S vs (k % cnt S vs)
theorem digs_length (S vs : List Nat) : ∀ k, (digs S vs k).length = vs.length := by
  induction vs with
  | nil => intro _; rfl
  | cons v vs ih => intro k; simp [digs, ih]
theorem mod_div (k c s : Nat) : k % (s * c) / c = k / c % s := by
  rw [Nat.mul_comm s c, Nat.mod_mul_right_div_self]
theorem mod_mod_c (k c s : Nat) : k % (s * c) % c = k % c := by
  rw [Nat.mul_comm s c, Nat.mod_mul_right_mod]
def asg (S : List Nat) : List Nat → Nat → Nat → Nat
  | [], _, _ => 0
  | u :: vs, k, v => if v = u then k / cnt S vs else asg S vs (k % cnt S vs) v
theorem asg_out {S : List Nat} : ∀ {vs : List Nat} {k v : Nat}, ¬ v ∈ vs → asg S vs k v = 0
  | [], _, _, _ => rfl
  | u :: vs, k, v, h => by
    rw [asg, if_neg (fun e => h (by rw [e]; exact List.mem_cons_self))]
    exact asg_out fun e => h (List.mem_cons_of_mem _ e)
def stp (S : List Nat) : List Nat → Nat → Nat
  | [], _ => 0
  | u :: vs, v => if v = u then cnt S vs else stp S vs v
theorem stp_out {S : List Nat} : ∀ {vs : List Nat} {v : Nat}, ¬ v ∈ vs → stp S vs v = 0
  | [], _, _ => rfl
  | u :: vs, v, h => by
    rw [stp, if_neg (fun e => h (by rw [e]; exact List.mem_cons_self))]
    exact stp_out fun e => h (List.mem_cons_of_mem _ e)
def pos (S : List Nat) (f : Nat → Nat) (vs : List Nat) : Nat := vs.foldl (fun k v => k * sz S v + f v) 0
def sumL (g : Nat → Nat) : List Nat → Nat
  | [] => 0
  | v :: vs => g v + sumL g vs
theorem sumL_append (g : Nat → Nat) (a b : List Nat) : sumL g (a ++ b) = sumL g a + sumL g b := by
  induction a with
  | nil => simp [sumL]
  | cons v a ih => simp only [List.cons_append, sumL, ih]; omega
theorem sumL_congr {g h : Nat → Nat} : ∀ {l : List Nat}, (∀ v ∈ l, g v = h v) → sumL g l = sumL h l
  | [], _ => rfl
  | v :: l, e => by rw [sumL, sumL, e v List.mem_cons_self, sumL_congr fun u hu => e u (List.mem_cons_of_mem _ hu)]
theorem foldl_pos (S : List Nat) (f : Nat → Nat) : ∀ (vs : List Nat) (k : Nat), vs.foldl (fun k v => k * sz S v + f v) k = k * cnt S vs + pos S f vs
  | [], k => by simp [pos, cnt]
  | v :: vs, k => by
    have e : pos S f (v :: vs) = f v * cnt S vs + pos S f vs := by
      show vs.foldl (fun k v => k * sz S v + f v) (0 * sz S v + f v) = _
      rw [foldl_pos S f vs, Nat.zero_mul, Nat.zero_add]
    rw [List.foldl_cons, foldl_pos S f vs, e, cnt, Nat.add_mul, Nat.mul_assoc]
    omega
theorem pos_sum (S : List Nat) (f : Nat → Nat) : ∀ {vs : List Nat}, vs.Nodup → pos S f vs = sumL (fun v => f v * stp S vs v) vs
  | [], _ => rfl
  | u :: vs, h => by
    rw [List.nodup_cons] at h
    rw [pos, List.foldl_cons, foldl_pos, sumL, pos_sum S f h.2, Nat.zero_mul, Nat.zero_add]
    congr 1
    · rw [stp, if_pos rfl]
    · exact sumL_congr fun v hv => by rw [stp, if_neg (fun e => h.1 (by rw [← e]; exact hv))]
theorem sumL_all (g : Nat → Nat) (n : Nat) : ∀ {vs : List Nat}, vs.Nodup → (∀ v ∈ vs, v < n) → (∀ v, ¬ v ∈ vs → g v = 0) → sumL g vs = sumL g (List.range n) := by
  intro vs hn hlt h0
  have key : ∀ {vs : List Nat}, vs.Nodup → (∀ v ∈ vs, v < n) → sumL g vs = sumL (fun v => if v ∈ vs then g v else 0) (List.range n) := by
    intro vs
    induction vs with
    | nil =>
      intro _ _
      have : ∀ l : List Nat, sumL (fun v => if v ∈ ([] : List Nat) then g v else 0) l = 0 := by
        intro l
        induction l with
        | nil => rfl
        | cons x l ih => rw [sumL, ih]; simp
      rw [this]; rfl
    | cons u vs ih =>
      intro hn hlt
      rw [List.nodup_cons] at hn
      rw [sumL, ih hn.2 fun v hv => hlt v (List.mem_cons_of_mem _ hv)]
      have hu := hlt u List.mem_cons_self
      have one : ∀ m, u < m → sumL (fun v => if v ∈ u :: vs then g v else 0) (List.range m) = g u + sumL (fun v => if v ∈ vs then g v else 0) (List.range m) := by
        intro m
        induction m with
        | zero => intro h; omega
        | succ m ihm =>
          intro h
          rw [List.range_succ, sumL_append, sumL_append]
          by_cases e : u = m
          · subst e
            have : sumL (fun v => if v ∈ u :: vs then g v else 0) (List.range u) = sumL (fun v => if v ∈ vs then g v else 0) (List.range u) := sumL_congr fun v hv => by
              have : ¬ v = u := by have := List.mem_range.1 hv; omega
              simp [this]
            rw [this]
            simp [sumL, hn.1]
            omega
          · rw [ihm (by omega)]
            have : ¬ m = u := fun h => e h.symm
            simp [sumL, this]
            omega
      rw [one n hu]
  rw [key hn hlt]
  exact sumL_congr fun v _ => by
    by_cases h : v ∈ vs
    · rw [if_pos h]
    · rw [if_neg h, h0 v h]
theorem stand {S vs other : List Nat} (n k : Nat) (hv : vs.Nodup) (ho : other.Nodup) (hvl : ∀ v ∈ vs, v < n) (hol : ∀ v ∈ other, v < n) : sumL (fun v => asg S vs k v * stp S other v) vs = pos S (asg S vs k) other := by
  rw [pos_sum S _ ho, sumL_all _ n hv hvl, sumL_all _ n ho hol]
  · intro v h; rw [stp_out h, Nat.mul_zero]
  · intro v h; rw [asg_out h, Nat.zero_mul]
end Go.Proofs.YtojidhnkpeiimaaGreatDoor

/- Sizes and variables that may be, as natural numbers; the document's answer: how many assignments there are. -/
namespace Go.Proofs.YtojidhnkpeiimaaGreatDoor
open Go.RowKit
def toN (l : List Int) : List Nat := l.map Int.toNat
theorem toN_length (l : List Int) : (toN l).length = l.length := by simp [toN]
theorem toN_get {l : List Int} {i : Nat} (h : i < l.length) : (toN l)[i]'(by rw [toN_length]; exact h) = l[i].toNat := by simp [toN]
structure Fine (l : List Int) : Prop where
  one : 1 ≤ l.length
  eight : l.length ≤ 8
  each : ∀ i (h : i < l.length), 1 ≤ l[i] ∧ l[i] ≤ 4
theorem fit_fine {l : List Int} (h : fitB l = true) : Fine l := by
  rw [fitB, Bool.and_eq_true, decide_eq_true_iff] at h
  exact ⟨h.1.1, h.1.2, fun i hi => by
    have := List.all_eq_true.1 h.2 l[i] (List.getElem_mem hi)
    simpa [okSize] using this⟩
theorem Fine.pos {l : List Int} (h : Fine l) : Pos (toN l) := by
  intro x hx
  obtain ⟨i, hi, rfl⟩ := List.mem_iff_getElem.1 hx
  rw [toN_length] at hi
  rw [toN_get hi]
  have := h.each i hi
  omega
theorem Fine.sz_le {l : List Int} (h : Fine l) (v : Nat) : sz (toN l) v ≤ 4 := by
  rw [sz]
  by_cases hv : v < l.length
  · rw [List.getElem?_eq_getElem (by rw [toN_length]; exact hv), Option.getD_some, toN_get hv]
    have := h.each v hv
    omega
  · rw [List.getElem?_eq_none (by rw [toN_length]; omega)]; simp
theorem Fine.sz_eq {l : List Int} (h : Fine l) {v : Nat} (hv : v < l.length) : (sz (toN l) v : Int) = l[v] := by
  rw [sz, List.getElem?_eq_getElem (by rw [toN_length]; exact hv), Option.getD_some, toN_get hv]
  have := h.each v hv
  omega
structure Up (l : List Int) (n : Nat) : Prop where
  each : ∀ i (h : i < l.length), 0 ≤ l[i] ∧ l[i] < n
  lt : ∀ i j (hj : j < l.length) (hi : i < j), l[i] < l[j]
theorem ris_up {l : List Int} {n : Nat} (h : risB l n = true) : Up l n := by
  have hok : ∀ i (hi : i < l.length), 0 ≤ l[i] ∧ l[i] < (n : Int) ∧ (0 < i → l.getD (i - 1) 0 < l[i]) := fun i hi => by
    have := List.all_eq_true.1 h i (List.mem_range.2 hi)
    rw [okAt, decide_eq_true_iff, getD_eq hi] at this
    exact this
  refine ⟨fun i hi => ⟨(hok i hi).1, (hok i hi).2.1⟩, ?_⟩
  intro i j
  induction j with
  | zero => intro _ h; omega
  | succ j ih =>
    intro hj hi
    have h1 := (hok (j + 1) hj).2.2 (by omega)
    rw [Nat.add_sub_cancel, getD_eq (by omega)] at h1
    rcases Nat.lt_or_ge i j with h2 | h2
    · have := ih (by omega) h2
      omega
    · obtain rfl : i = j := by omega
      exact h1
theorem Up.nat {l : List Int} {n : Nat} (h : Up l n) {i : Nat} (hi : i < l.length) : ((l[i].toNat : Nat) : Int) = l[i] ∧ l[i].toNat < n := by
  have := h.each i hi
  constructor <;> omega
theorem Up.ge {l : List Int} {n : Nat} (h : Up l n) : ∀ i (hi : i < l.length), (i : Int) ≤ l[i] := by
  intro i
  induction i with
  | zero => intro hi; exact (h.each 0 hi).1
  | succ i ih =>
    intro hi
    have := ih (by omega)
    have := h.lt i (i + 1) hi (by omega)
    omega
theorem Up.length {l : List Int} {n : Nat} (h : Up l n) : l.length ≤ n := by
  rcases Nat.eq_zero_or_pos l.length with h0 | h0
  · omega
  · have h1 := h.ge (l.length - 1) (by omega)
    have h2 := (h.each (l.length - 1) (by omega)).2
    omega
theorem cnt_le {S : List Nat} (h : ∀ v, sz S v ≤ 4) : ∀ vs : List Nat, cnt S vs ≤ 4 ^ vs.length
  | [] => Nat.le_refl _
  | v :: vs => by
    rw [cnt, List.length_cons, Nat.pow_succ, Nat.mul_comm (4 ^ _)]
    exact Nat.mul_le_mul (h v) (cnt_le h vs)
theorem cnt_small {S : List Nat} (h : ∀ v, sz S v ≤ 4) {vs : List Nat} (hv : vs.length ≤ 8) : cnt S vs ≤ 65536 := by
  have h1 := cnt_le h vs
  have h2 : 4 ^ vs.length ≤ 4 ^ 8 := Nat.pow_le_pow_right (by decide) hv
  have h3 : (4 : Nat) ^ 8 = 65536 := by decide
  omega
theorem cnt_take (S vs : List Nat) {i : Nat} (h : i < vs.length) : cnt S (vs.take (i + 1)) = cnt S (vs.take i) * sz S vs[i] := by
  rw [List.take_succ_eq_append_getElem h, cnt_snoc]
def countB (sizes vars : List Int) : Bool := fitB sizes && risB vars sizes.length
def countA (sizes vars : List Int) : Int × Int := if countB sizes vars = true then (((cnt (toN sizes) (toN vars) : Nat) : Int), 0) else (0, 11)
theorem countA_yes {sizes vars : List Int} (h : countB sizes vars = true) : countA sizes vars = (((cnt (toN sizes) (toN vars) : Nat) : Int), 0) := if_pos h
theorem countA_no {sizes vars : List Int} (h : countB sizes vars = false) : countA sizes vars = (0, 11) := if_neg (by rw [h]; decide)
set_option maxRecDepth 100000 in
set_option maxHeartbeats 1000000 in
theorem rCount_any (a b : Option Addr) (ca cb : Nat) (sizes vars : List Int) (w : World) (hs : IntS w a sizes) (hv : IntS w b vars) (hn : sizes.length ≤ 140737488355328) (hm : vars.length ≤ 140737488355328) :
    Calls Tryz.prog 15 #[.slice a sizes.length ca, .slice b vars.length cb] w fun e w' => e = .returned (.tuple #[.int .i64 (countA sizes vars).1, .int .i64 (countA sizes vars).2]) ∧ Below w.heap.size w w' := by
  have HS := hid hs
  have HV := hid hv
  clear hs hv
  have HFIT := hid (fun V h => rFit_any a ca sizes V h hn)
  have HRIS := hid (fun V h => rRising_any b cb vars sizes.length V h hm)
  cases hf : fitB sizes with
  | false =>
    have HA := hid (countA_no (sizes := sizes) (vars := vars) (by rw [countB, hf]; rfl))
    rw [hf] at HFIT
    generalize countA sizes vars = r at *
    generalize risB vars sizes.length = rb at *
    go_enter Tryz.func15, Tryz.ntmps15
    go_wp2_with fail
    refine (HFIT.out _ HS.out).mono ?_
    rintro e w1 ⟨rfl, hb1⟩
    go_wp2_with fail
    refine (HRIS.out _ (HV.out.below hb1)).mono ?_
    rintro e w2 ⟨rfl, hb2⟩
    have hB2 := hb1.trans (hb2.mono hb1.size)
    go_wp2
    go_ret2
    exact ⟨by rw [HA.out]; rfl, hB2⟩
  | true =>
    rw [hf] at HFIT
    cases hr : risB vars sizes.length with
    | false =>
      have HA := hid (countA_no (sizes := sizes) (vars := vars) (by rw [countB, hr, Bool.and_false]))
      rw [hr] at HRIS
      generalize countA sizes vars = r at *
      go_enter Tryz.func15, Tryz.ntmps15
      go_wp2_with fail
      refine (HFIT.out _ HS.out).mono ?_
      rintro e w1 ⟨rfl, hb1⟩
      go_wp2_with fail
      refine (HRIS.out _ (HV.out.below hb1)).mono ?_
      rintro e w2 ⟨rfl, hb2⟩
      have hB2 := hb1.trans (hb2.mono hb1.size)
      go_wp2
      go_ret2
      exact ⟨by rw [HA.out]; rfl, hB2⟩
    | true =>
      have HA := hid (countA_yes (sizes := sizes) (vars := vars) (by rw [countB, hf, hr]; rfl))
      rw [hr] at HRIS
      have hfine := fit_fine hf
      have hup := ris_up hr
      have hl8 := hfine.eight
      have hvl := hup.length
      have HFI := hid hfine
      have HUP := hid hup
      clear hf hr hfine hup
      generalize countA sizes vars = r at *
      go_enter Tryz.func15, Tryz.ntmps15
      go_wp2_with fail
      refine (HFIT.out _ HS.out).mono ?_
      rintro e w1 ⟨rfl, hb1⟩
      go_wp2_with fail
      refine (HRIS.out _ (HV.out.below hb1)).mono ?_
      rintro e w2 ⟨rfl, hb2⟩
      have hB2 := hb1.trans (hb2.mono hb1.size)
      clear hb1 hb2
      go_wp2_with fail
      go_loopw [8, 9] (fun nv iv wr => ∃ i : Nat, i ≤ vars.length ∧ iv = .int .i64 i ∧ nv = .int .i64 (cnt (toN sizes) ((toN vars).take i) : Nat) ∧ Below w.heap.size w wr) (fun _ iv _ => vars.length - (intOf iv).toNat)
      case atStart => exact ⟨0, Nat.zero_le _, rfl, rfl, hB2⟩
      case round =>
        obtain ⟨i, hi, rfl, rfl, hB⟩ := hrel
        by_cases hlt : i < vars.length
        · obtain ⟨g, o, rfl, hg, c0⟩ := (HV.out.below hB) i hlt
          obtain ⟨hvi, hvn⟩ := HUP.out.nat hlt
          have hst : cnt (toN sizes) ((toN vars).take (i + 1)) = cnt (toN sizes) ((toN vars).take i) * sz (toN sizes) vars[i].toNat := by
            rw [cnt_take _ _ (by rw [toN_length]; exact hlt), toN_get hlt]
          have hsm : cnt (toN sizes) ((toN vars).take (i + 1)) ≤ 65536 := cnt_small HFI.out.sz_le (by rw [List.length_take, toN_length]; omega)
          generalize hV : vars[i].toNat = v at *
          rw [← hvi] at c0
          obtain ⟨g', o', rfl, hg', c1⟩ := (HS.out.below hB) v hvn
          rw [← HFI.out.sz_eq hvn] at c1
          rw [hst] at hsm
          have hpi : ((cnt (toN sizes) ((toN vars).take i) : Nat) : Int) * ((sz (toN sizes) v : Nat) : Int) = ((cnt (toN sizes) ((toN vars).take i) * sz (toN sizes) v : Nat) : Int) := (Int.natCast_mul _ _).symm
          have HST := hid hst
          clear hst hvi hV
          generalize cnt (toN sizes) ((toN vars).take i) = X at *
          generalize sz (toN sizes) v = Y at *
          have hp0 : 0 ≤ (X : Int) * (Y : Int) := by rw [hpi]; omega
          have hp1 : (X : Int) * (Y : Int) ≤ 65536 := by rw [hpi]; omega
          have HPI := hid hpi
          clear hpi
          go_wp2
          go_roundw
          case rel => exact ⟨i + 1, by omega, by go_num, by rw [HST.out, ← HPI.out], hB⟩
          case measure => simp [intOf]; omega
        · obtain rfl : i = vars.length := by omega
          rw [List.take_of_length_le (by rw [toN_length]; exact Nat.le_refl _)]
          go_wp2
          go_ret2
          exact ⟨by rw [HA.out]; rfl, hB⟩
end Go.Proofs.YtojidhnkpeiimaaGreatDoor

/- The document's answer: the place of an assignment. -/
namespace Go.Proofs.YtojidhnkpeiimaaGreatDoor
open Go.RowKit
def valB (S vs : List Nat) (l : List Int) (i : Nat) : Bool := decide (0 ≤ l.getD i 0 ∧ l.getD i 0 < (sz S (vs.getD i 0) : Int))
def idxN (S vs l : List Nat) (n : Nat) : Nat := (List.range n).foldl (fun k i => k * sz S (vs.getD i 0) + l.getD i 0) 0
theorem idxN_succ (S vs l : List Nat) (n : Nat) : idxN S vs l (n + 1) = idxN S vs l n * sz S (vs.getD n 0) + l.getD n 0 := by
  rw [idxN, List.range_succ, List.foldl_append]; rfl
theorem getN_eq {l : List Nat} {i : Nat} (h : i < l.length) : l.getD i 0 = l[i] := by simp [List.getD, h]
theorem idxN_lt {S vs : List Nat} {l : List Int} : ∀ (n : Nat), n ≤ vs.length → n ≤ l.length → (List.range n).all (valB S vs l) = true → idxN S vs (toN l) n < cnt S (vs.take n)
  | 0, _, _, _ => by simp [idxN, cnt]
  | n + 1, h1, h2, h => by
    rw [List.range_succ, List.all_append, Bool.and_eq_true] at h
    have ih := idxN_lt n (by omega) (by omega) h.1
    have hv : valB S vs l n = true := by simpa using h.2
    rw [valB, decide_eq_true_iff, getD_eq (by omega), getN_eq (by omega)] at hv
    rw [idxN_succ, cnt_take S vs (by omega), getN_eq (show n < vs.length by omega), getN_eq (by rw [toN_length]; omega), toN_get (by omega)]
    have : (idxN S vs (toN l) n + 1) * sz S vs[n] ≤ cnt S (vs.take n) * sz S vs[n] := Nat.mul_le_mul_right _ ih
    rw [Nat.add_mul, Nat.one_mul] at this
    omega
def indexA (sizes vars l : List Int) : Int × Int :=
  if countB sizes vars = true then (if l.length = vars.length then (if (List.range vars.length).all (valB (toN sizes) (toN vars) l) = true then (((idxN (toN sizes) (toN vars) (toN l) vars.length : Nat) : Int), 0) else (0, 12)) else (0, 8)) else (0, 11)
theorem indexA_none {sizes vars l : List Int} (h : countB sizes vars = false) : indexA sizes vars l = (0, 11) := if_neg (by rw [h]; decide)
theorem indexA_len {sizes vars l : List Int} (h : countB sizes vars = true) (h1 : ¬ l.length = vars.length) : indexA sizes vars l = (0, 8) := by rw [indexA, if_pos h, if_neg h1]
theorem indexA_val {sizes vars l : List Int} (h : countB sizes vars = true) (h1 : l.length = vars.length) {i : Nat} (hi : i < vars.length) (h2 : valB (toN sizes) (toN vars) l i = false) : indexA sizes vars l = (0, 12) := by
  rw [indexA, if_pos h, if_pos h1, if_neg]
  rw [Bool.not_eq_true, List.all_eq_false]
  exact ⟨i, List.mem_range.2 hi, by rw [h2]; decide⟩
theorem indexA_ok {sizes vars l : List Int} (h : countB sizes vars = true) (h1 : l.length = vars.length) (h2 : (List.range vars.length).all (valB (toN sizes) (toN vars) l) = true) : indexA sizes vars l = (((idxN (toN sizes) (toN vars) (toN l) vars.length : Nat) : Int), 0) := by
  rw [indexA, if_pos h, if_pos h1, if_pos h2]
theorem val_succ {S vs : List Nat} {l : List Int} {i : Nat} (h0 : (List.range i).all (valB S vs l) = true) (e : valB S vs l i = true) : (List.range (i + 1)).all (valB S vs l) = true := by
  rw [List.range_succ, List.all_append, h0]; simp [e]
theorem countB_parts {sizes vars : List Int} (h : countB sizes vars = true) : Fine sizes ∧ Up vars sizes.length := by
  rw [countB, Bool.and_eq_true] at h
  exact ⟨fit_fine h.1, ris_up h.2⟩
end Go.Proofs.YtojidhnkpeiimaaGreatDoor

/- Package table: how many assignments there are, and the place of one. -/
namespace Go.Proofs.YtojidhnkpeiimaaGreatDoor
open Go.RowKit
set_option maxRecDepth 100000 in
set_option maxHeartbeats 1000000 in
theorem maySize_any (a : Option Addr) (cap : Nat) (l : List Int) (w : World) (h : IntS w a l) (hn : l.length ≤ 140737488355328) :
    Calls Tryz.prog 68 #[.slice a l.length cap] w fun e w' => e = .returned (.bool (fitB l)) ∧ Below w.heap.size w w' := by
  have HF := hid h
  clear h
  by_cases hl : 1 ≤ l.length ∧ l.length ≤ 8
  · have HB : Hid (fitB l = l.all okSize) := by show _ = _; rw [fitB, decide_eq_true hl]; rfl
    obtain ⟨hl1, hl2⟩ := hl
    generalize fitB l = fb at *
    go_enter Tryz.func68, Tryz.ntmps68
    go_wp2_with fail
    go_loopw [15] (fun iv wr => ∃ i : Nat, i ≤ l.length ∧ iv = .int .i64 i ∧ Hid ((l.take i).all okSize = true) ∧ Below w.heap.size w wr) (fun iv _ => l.length - (intOf iv).toNat)
    case atStart => exact ⟨0, Nat.zero_le _, rfl, rfl, Below.refl _ _⟩
    case round =>
      obtain ⟨i, hi, rfl, HI, hB⟩ := hrel
      by_cases hlt : i < l.length
      · obtain ⟨g, o, rfl, hg, c0⟩ := (HF.out.below hB) i hlt
        by_cases e : 1 ≤ l[i] ∧ l[i] ≤ 4
        · have HS := hid (all_take_succ hlt HI.out (p := okSize) (decide_eq_true e))
          obtain ⟨e1, e2⟩ := e
          generalize l[i] = x at *
          go_wp2
          go_roundw
          case rel => exact ⟨i + 1, by omega, by go_num, HS.out, hB⟩
          case measure => simp [intOf]; omega
        · have HE : Hid (fb = false) := by show _ = _; rw [HB.out]; exact all_bad hlt (decide_eq_false e)
          rcases (show l[i] < 1 ∨ (1 ≤ l[i] ∧ 4 < l[i]) by omega) with h3 | ⟨h3, h4⟩
          all_goals
            clear e
            generalize l[i] = x at *
            go_wp2
            go_ret
            exact ⟨by rw [HE.out]; rfl, hB⟩
      · have HE : Hid (fb = true) := by
          show _ = _
          rw [HB.out]
          have := HI.out
          rwa [List.take_of_length_le (by omega)] at this
        go_wp2
        go_ret
        exact ⟨by rw [HE.out]; rfl, hB⟩
  · have HE : Hid (fitB l = false) := by show _ = _; rw [fitB, decide_eq_false hl]; rfl
    generalize fitB l = fb at *
    go_enter Tryz.func68, Tryz.ntmps68
    rcases (show l.length < 1 ∨ (1 ≤ l.length ∧ 8 < l.length) by omega) with h3 | ⟨h3, h4⟩
    all_goals
      go_wp2
      go_ret
      exact ⟨by rw [HE.out]; rfl, Below.refl _ _⟩
def least (l : List Int) (i : Nat) : Int := if i = 0 then 0 else l.getD (i - 1) 0 + 1
theorem least_succ {l : List Int} {i : Nat} (h : i < l.length) : least l (i + 1) = l[i] + 1 := by
  rw [least, if_neg (by omega), Nat.add_sub_cancel, getD_eq h]
theorem okAt_least {l : List Int} {n : Int} {i : Nat} (hi : i < l.length) (h : (List.range i).all (okAt l n) = true) : okAt l n i = decide (least l i ≤ l[i] ∧ l[i] < n) ∧ 0 ≤ least l i := by
  rw [okAt, getD_eq hi, least]
  by_cases h0 : i = 0
  · subst h0
    refine ⟨?_, by simp⟩
    simp
  · have hp := List.all_eq_true.1 h (i - 1) (List.mem_range.2 (by omega))
    rw [okAt, decide_eq_true_iff, getD_eq (by omega)] at hp
    rw [if_neg h0, getD_eq (by omega)]
    refine ⟨?_, by omega⟩
    rw [decide_eq_decide]
    constructor
    · intro ⟨_, h2, h3⟩; have := h3 (by omega); exact ⟨by omega, h2⟩
    · intro ⟨h1, h2⟩; exact ⟨by omega, h2, fun _ => by omega⟩
set_option maxRecDepth 100000 in
set_option maxHeartbeats 1000000 in
theorem rises_any (a : Option Addr) (cap : Nat) (l : List Int) (n : Int) (w : World) (h : IntS w a l) (hn : l.length ≤ 140737488355328) (hnn : n ≤ 140737488355328) :
    Calls Tryz.prog 69 #[.slice a l.length cap, .int .i64 n] w fun e w' => e = .returned (.bool (risB l n)) ∧ Below w.heap.size w w' := by
  have HF := hid h
  clear h
  have HB := hid (fun i h e => risB_bad (l := l) (n := n) (i := i) h e)
  have HT : Hid ((List.range l.length).all (okAt l n) = true → risB l n = true) := id
  generalize risB l n = rb at *
  go_enter Tryz.func69, Tryz.ntmps69
  go_wp2_with fail
  go_loopw [5, 10] (fun lv iv wr => ∃ i : Nat, i ≤ l.length ∧ iv = .int .i64 i ∧ lv = .int .i64 (least l i) ∧ Hid ((List.range i).all (okAt l n) = true) ∧ Below w.heap.size w wr) (fun _ iv _ => l.length - (intOf iv).toNat)
  case atStart => exact ⟨0, Nat.zero_le _, rfl, rfl, rfl, Below.refl _ _⟩
  case round =>
    obtain ⟨i, hi, rfl, rfl, HI, hB⟩ := hrel
    by_cases hlt : i < l.length
    · obtain ⟨g, o, rfl, hg, c0⟩ := (HF.out.below hB) i hlt
      obtain ⟨hok, hl0⟩ := okAt_least hlt HI.out
      have HLS := hid (least_succ hlt)
      have HOK := hid hok
      clear hok
      generalize least l i = m at *
      generalize l[i] = x at *
      by_cases e : m ≤ x ∧ x < n
      · have HS := hid (ris_succ HI.out (by rw [HOK.out]; exact decide_eq_true e))
        obtain ⟨e1, e2⟩ := e
        go_wp2
        go_roundw
        case rel => exact ⟨i + 1, by omega, by go_num, by rw [HLS.out], HS.out, hB⟩
        case measure => simp [intOf]; omega
      · have HE := hid (HB.out i hlt (by rw [HOK.out]; exact decide_eq_false e))
        rcases (show x < m ∨ (m ≤ x ∧ n ≤ x) by omega) with h3 | ⟨h3, h4⟩
        all_goals
          clear e
          go_wp2
          go_ret
          exact ⟨by rw [HE.out]; rfl, hB⟩
    · obtain rfl : i = l.length := by omega
      have HE := hid (HT.out HI.out)
      go_wp2
      go_ret
      exact ⟨by rw [HE.out]; rfl, hB⟩
set_option maxRecDepth 100000 in
set_option maxHeartbeats 1000000 in
theorem countOf_any (a b : Option Addr) (ca cb : Nat) (sizes vars : List Int) (w : World) (hs : IntS w a sizes) (hv : IntS w b vars) (hfi : Fine sizes) (hup : Up vars sizes.length) :
    Calls Tryz.prog 70 #[.slice a sizes.length ca, .slice b vars.length cb] w fun e w' => e = .returned (.int .i64 (cnt (toN sizes) (toN vars) : Nat)) ∧ Below w.heap.size w w' := by
  have HS := hid hs
  have HV := hid hv
  have hl8 := hfi.eight
  have hvl := hup.length
  have HFI := hid hfi
  have HUP := hid hup
  clear hs hv hfi hup
  have HFIN : Hid (cnt (toN sizes) ((toN vars).take vars.length) = cnt (toN sizes) (toN vars)) := by show _ = _; rw [List.take_of_length_le (by rw [toN_length]; exact Nat.le_refl _)]
  go_enter Tryz.func70, Tryz.ntmps70
  go_wp2_with fail
  go_loopw [5, 10] (fun nv iv wr => ∃ i : Nat, i ≤ vars.length ∧ iv = .int .i64 i ∧ nv = .int .i64 (cnt (toN sizes) ((toN vars).take i) : Nat) ∧ Below w.heap.size w wr) (fun _ iv _ => vars.length - (intOf iv).toNat)
  case atStart => exact ⟨0, Nat.zero_le _, rfl, rfl, Below.refl _ _⟩
  case round =>
    obtain ⟨i, hi, rfl, rfl, hB⟩ := hrel
    by_cases hlt : i < vars.length
    · obtain ⟨g, o, rfl, hg, c0⟩ := (HV.out.below hB) i hlt
      obtain ⟨hvi, hvn⟩ := HUP.out.nat hlt
      have hst : cnt (toN sizes) ((toN vars).take (i + 1)) = cnt (toN sizes) ((toN vars).take i) * sz (toN sizes) vars[i].toNat := by
        rw [cnt_take _ _ (by rw [toN_length]; exact hlt), toN_get hlt]
      have hsm : cnt (toN sizes) ((toN vars).take (i + 1)) ≤ 65536 := cnt_small HFI.out.sz_le (by rw [List.length_take, toN_length]; omega)
      generalize hV : vars[i].toNat = v at *
      rw [← hvi] at c0
      obtain ⟨g', o', rfl, hg', c1⟩ := (HS.out.below hB) v hvn
      rw [← HFI.out.sz_eq hvn] at c1
      rw [hst] at hsm
      have hpi : ((cnt (toN sizes) ((toN vars).take i) : Nat) : Int) * ((sz (toN sizes) v : Nat) : Int) = ((cnt (toN sizes) ((toN vars).take i) * sz (toN sizes) v : Nat) : Int) := (Int.natCast_mul _ _).symm
      have HST := hid hst
      clear hst hvi hV
      generalize cnt (toN sizes) ((toN vars).take i) = X at *
      generalize sz (toN sizes) v = Y at *
      have hp0 : 0 ≤ (X : Int) * (Y : Int) := by rw [hpi]; omega
      have hp1 : (X : Int) * (Y : Int) ≤ 65536 := by rw [hpi]; omega
      have HPI := hid hpi
      clear hpi
      go_wp2
      go_roundw
      case rel => exact ⟨i + 1, by omega, by go_num, by rw [HST.out, ← HPI.out], hB⟩
      case measure => simp [intOf]; omega
    · obtain rfl : i = vars.length := by omega
      rw [HFIN.out]
      go_wp2
      go_ret
      exact ⟨rfl, hB⟩
set_option maxRecDepth 100000 in
set_option maxHeartbeats 1000000 in
theorem tCount_any (a b : Option Addr) (ca cb : Nat) (sizes vars : List Int) (w : World) (hs : IntS w a sizes) (hv : IntS w b vars) (hn : sizes.length ≤ 140737488355328) (hm : vars.length ≤ 140737488355328) :
    Calls Tryz.prog 46 #[.slice a sizes.length ca, .slice b vars.length cb] w fun e w' => e = .returned (.tuple #[.int .i64 (countA sizes vars).1, .int .i64 (countA sizes vars).2]) ∧ Below w.heap.size w w' := by
  have HS := hid hs
  have HV := hid hv
  clear hs hv
  have HFIT := hid (fun V h => maySize_any a ca sizes V h hn)
  have HRIS := hid (fun V h => rises_any b cb vars sizes.length V h hm (by omega))
  cases hf : fitB sizes with
  | false =>
    have HA := hid (countA_no (sizes := sizes) (vars := vars) (by rw [countB, hf]; rfl))
    rw [hf] at HFIT
    generalize countA sizes vars = r at *
    go_enter Tryz.func46, Tryz.ntmps46
    go_wp2_with fail
    refine (HFIT.out _ HS.out).mono ?_
    rintro e w1 ⟨rfl, hb1⟩
    go_wp2
    go_ret2
    exact ⟨by rw [HA.out]; rfl, hb1⟩
  | true =>
    rw [hf] at HFIT
    cases hr : risB vars sizes.length with
    | false =>
      have HA := hid (countA_no (sizes := sizes) (vars := vars) (by rw [countB, hr, Bool.and_false]))
      rw [hr] at HRIS
      generalize countA sizes vars = r at *
      go_enter Tryz.func46, Tryz.ntmps46
      go_wp2_with fail
      refine (HFIT.out _ HS.out).mono ?_
      rintro e w1 ⟨rfl, hb1⟩
      go_wp2_with fail
      refine (HRIS.out _ (HV.out.below hb1)).mono ?_
      rintro e w2 ⟨rfl, hb2⟩
      have hB2 := hb1.trans (hb2.mono hb1.size)
      go_wp2
      go_ret2
      exact ⟨by rw [HA.out]; rfl, hB2⟩
    | true =>
      have HA := hid (countA_yes (sizes := sizes) (vars := vars) (by rw [countB, hf, hr]; rfl))
      rw [hr] at HRIS
      have HCO := hid (fun V h1 h2 => countOf_any a b ca cb sizes vars V h1 h2 (fit_fine hf) (ris_up hr))
      generalize countA sizes vars = r at *
      go_enter Tryz.func46, Tryz.ntmps46
      go_wp2_with fail
      refine (HFIT.out _ HS.out).mono ?_
      rintro e w1 ⟨rfl, hb1⟩
      go_wp2_with fail
      refine (HRIS.out _ (HV.out.below hb1)).mono ?_
      rintro e w2 ⟨rfl, hb2⟩
      have hB2 := hb1.trans (hb2.mono hb1.size)
      go_wp2_with fail
      refine (HCO.out _ (HS.out.below hB2) (HV.out.below hB2)).mono ?_
      rintro e w3 ⟨rfl, hb3⟩
      go_wp2
      go_ret2
      exact ⟨by rw [HA.out]; rfl, hB2.trans (hb3.mono hB2.size)⟩
set_option maxRecDepth 100000 in
set_option maxHeartbeats 1000000 in
theorem isValue_any (a : Option Addr) (ca : Nat) (sizes : List Int) (v : Nat) (x : Int) (w : World) (hs : IntS w a sizes) (hfi : Fine sizes) (hv : v < sizes.length) :
    Calls Tryz.prog 193 #[.slice a sizes.length ca, .int .i64 (v : Nat), .int .i64 x] w fun e w' => e = .returned (.bool (decide (0 ≤ x ∧ x < (sz (toN sizes) v : Int)))) ∧ Below w.heap.size w w' := by
  obtain ⟨g, o, rfl, hg, c0⟩ := hs v hv
  rw [← hfi.sz_eq hv] at c0
  have hl8 := hfi.eight
  generalize sz (toN sizes) v = Y at *
  by_cases e : 0 ≤ x ∧ x < (Y : Int)
  · rw [decide_eq_true e]
    obtain ⟨e1, e2⟩ := e
    go_enter Tryz.func193, Tryz.ntmps193
    go_wp2
    go_ret
    exact ⟨rfl, Below.refl _ _⟩
  · rw [decide_eq_false e]
    rcases (show x < 0 ∨ (0 ≤ x ∧ (Y : Int) ≤ x) by omega) with h3 | ⟨h3, h4⟩
    all_goals
      clear e
      go_enter Tryz.func193, Tryz.ntmps193
      go_wp2
      go_ret
      first
        | exact ⟨rfl, Below.refl _ _⟩
        | exact ⟨congrArg (fun b => Ending.returned (Value.bool b)) (decide_eq_false (by omega)), Below.refl _ _⟩
end Go.Proofs.YtojidhnkpeiimaaGreatDoor

/- Package graph: sets as bits. -/
namespace Go.Proofs.YtojidhnkpeiimaaGreatDoor
open Go.RowKit
def mskN : List Nat → Nat
  | [] => 0
  | v :: l => mskN l ||| 2 ^ v
theorem msk_bit (l : List Nat) (v : Nat) : (mskN l).testBit v = decide (v ∈ l) := by
  induction l with
  | nil => simp [mskN]
  | cons u l ih =>
    rw [mskN, Nat.testBit_or, ih, Nat.testBit_two_pow]
    by_cases h : u = v
    · subst h; simp
    · have h' : ¬ v = u := fun e => h e.symm
      simp [h, h']
theorem msk_ext {a b : List Nat} (h : ∀ x, x ∈ a ↔ x ∈ b) : mskN a = mskN b := by
  apply Nat.eq_of_testBit_eq
  intro i
  rw [msk_bit, msk_bit]
  exact decide_eq_decide.2 (h i)
theorem msk_lt : ∀ {l : List Nat}, (∀ v ∈ l, v < 8) → mskN l < 256
  | [], _ => by decide
  | v :: l, h => by
    have h1 := msk_lt (l := l) fun u hu => h u (List.mem_cons_of_mem _ hu)
    have h2 : 2 ^ v < 2 ^ 8 := Nat.pow_lt_pow_right (by decide) (h v List.mem_cons_self)
    exact Nat.or_lt_two_pow (n := 8) h1 h2
theorem bit_div (s v : Nat) : (s / 2 ^ v &&& 1 = 1) ↔ s.testBit v = true := by
  rw [Nat.testBit_eq_decide_div_mod_eq, decide_eq_true_iff, Nat.and_one_is_mod]
theorem holds_iff {s p : Nat} (hs : s < 256) (hp : p < 256) : (p &&& (4294967295 - s) = 0) ↔ ∀ v, p.testBit v = true → s.testBit v = true := by
  have e : 4294967295 - s = 2 ^ 32 - (s + 1) := by omega
  have hs' : s < 2 ^ 32 := by omega
  rw [e]
  constructor
  · intro h v hv
    have h1 : (p &&& (2 ^ 32 - (s + 1))).testBit v = false := by rw [h]; simp
    rw [Nat.testBit_and, hv, Nat.testBit_two_pow_sub_succ hs', Bool.true_and] at h1
    have hlt : v < 32 := by
      rcases Nat.lt_or_ge v 32 with h2 | h2
      · exact h2
      · have := Nat.testBit_lt_two_pow (x := p) (i := v) (Nat.lt_of_lt_of_le (show p < 2 ^ 32 by omega) (Nat.pow_le_pow_right (by decide) h2))
        rw [this] at hv
        cases hv
    simpa [hlt] using h1
  · intro h
    apply Nat.eq_of_testBit_eq
    intro i
    rw [Nat.testBit_and, Nat.testBit_two_pow_sub_succ hs', Nat.zero_testBit]
    cases hp' : p.testBit i
    · rfl
    · rw [h i hp']; simp
set_option maxRecDepth 100000 in
set_option maxHeartbeats 400000 in
theorem sWith_any (l : List Nat) (v : Nat) (w : World) (hl : ∀ u ∈ l, u < 8) (hv : v < 8) :
    Calls Tryz.prog 101 #[.int .u32 (mskN l : Nat), .int .i64 (v : Nat)] w fun e w' => e = .returned (.int .u32 (mskN (v :: l) : Nat)) ∧ w' = w := by
  have hs := msk_lt hl
  have h2 : 2 ^ v < 256 := show 2 ^ v < 2 ^ 8 from Nat.pow_lt_pow_right (by decide) hv
  have HE : Hid (bits BinOp.or IntKind.u32 (mskN l : Nat) (2 ^ v % 4294967296) = ((mskN (v :: l) : Nat) : Int)) := by
    show _ = _
    have e : ((2 : Int) ^ v % 4294967296) = ((2 ^ v : Nat) : Int) := by
      have e2 : ((2 : Int) ^ v) = ((2 ^ v : Nat) : Int) := by rw [Int.natCast_pow]; rfl
      rw [e2]
      generalize (2 ^ v : Nat) = q at *
      omega
    rw [e, u32_or_nat _ _ (by omega) (by omega)]
    rfl
  generalize mskN (v :: l) = r at *
  generalize mskN l = s at *
  go_enter Tryz.func101, Tryz.ntmps101
  go_wp2
  go_ret
  exact ⟨by rw [HE.out]; rfl, rfl⟩
set_option maxRecDepth 100000 in
set_option maxHeartbeats 400000 in
theorem sHas_any (l : List Nat) (v : Nat) (w : World) (hl : ∀ u ∈ l, u < 8) (hv : v < 8) :
    Calls Tryz.prog 99 #[.int .u32 (mskN l : Nat), .int .i64 (v : Nat)] w fun e w' => e = .returned (.bool (decide (v ∈ l))) ∧ w' = w := by
  have hs := msk_lt hl
  have HE : Hid ((bits BinOp.and IntKind.u32 ((mskN l : Nat) / 2 ^ v) 1 == 1) = decide (v ∈ l)) := by
    show _ = _
    have e : (((mskN l : Nat) : Int) / 2 ^ v) = ((mskN l / 2 ^ v : Nat) : Int) := by rw [Int.natCast_ediv, Int.natCast_pow]; rfl
    have hle : mskN l / 2 ^ v ≤ mskN l := Nat.div_le_self _ _
    rw [e, show (1 : Int) = ((1 : Nat) : Int) from rfl, u32_and_nat _ _ (by omega) (by omega), ← msk_bit, Bool.eq_iff_iff, ← bit_div, beq_iff_eq]
    omega
  generalize decide (v ∈ l) = r at *
  generalize mskN l = s at *
  go_enter Tryz.func99, Tryz.ntmps99
  go_wp2
  go_ret
  exact ⟨by rw [HE.out]; rfl, rfl⟩
set_option maxRecDepth 100000 in
set_option maxHeartbeats 400000 in
theorem sHolds_any (l p : List Nat) (w : World) (hl : ∀ u ∈ l, u < 8) (hp : ∀ u ∈ p, u < 8) :
    Calls Tryz.prog 100 #[.int .u32 (mskN l : Nat), .int .u32 (mskN p : Nat)] w fun e w' => e = .returned (.bool (decide (∀ v ∈ p, v ∈ l))) ∧ w' = w := by
  have hs := msk_lt hl
  have hq := msk_lt hp
  have HE : Hid ((bits BinOp.andNot IntKind.u32 (mskN p : Nat) (mskN l : Nat) == 0) = decide (∀ v ∈ p, v ∈ l)) := by
    show _ = _
    have hi := holds_iff hs hq
    simp only [msk_bit, decide_eq_true_eq] at hi
    rw [u32_andNot_nat _ _ (by omega) (by omega), Bool.eq_iff_iff, beq_iff_eq, decide_eq_true_iff, ← hi]
    omega
  generalize decide (∀ v ∈ p, v ∈ l) = r at *
  generalize mskN l = s at *
  generalize mskN p = t at *
  go_enter Tryz.func100, Tryz.ntmps100
  go_wp2
  go_ret
  exact ⟨by rw [HE.out]; rfl, rfl⟩
theorem ris_small {l : List Int} {n i : Nat} (hn : n ≤ 8) (h : (List.range i).all (okAt l n) = true) (hi : i ≤ l.length) : ∀ u ∈ toN (l.take i), u < 8 := by
  intro u hu
  obtain ⟨x, hx, rfl⟩ := List.mem_map.1 hu
  obtain ⟨j, hj, rfl⟩ := List.getElem_of_mem hx
  rw [List.length_take] at hj
  have h1 := List.all_eq_true.1 h j (List.mem_range.2 (by omega))
  rw [okAt, decide_eq_true_iff, getD_eq (by omega)] at h1
  rw [List.getElem_take]
  omega
def setA (l : List Int) (n : Nat) : Nat := if risB l n = true then mskN (toN l) else 0
set_option maxRecDepth 100000 in
set_option maxHeartbeats 1000000 in
theorem setOf_any (a : Option Addr) (cap : Nat) (l : List Int) (n : Nat) (w : World) (h : IntS w a l) (hn : l.length ≤ 140737488355328) (hnn : n ≤ 8) :
    Calls Tryz.prog 138 #[.slice a l.length cap, .int .i64 (n : Nat)] w fun e w' => e = .returned (.tuple #[.int .u32 (setA l n : Nat), .bool (risB l n)]) ∧ w' = w := by
  have HF := hid h
  clear h
  have HB := hid (fun i h e => risB_bad (l := l) (n := n) (i := i) h e)
  have HT : Hid ((List.range l.length).all (okAt l n) = true → risB l n = true) := id
  have HA1 : Hid (risB l n = true → setA l n = mskN (toN l)) := fun h => if_pos h
  have HA2 : Hid (risB l n = false → setA l n = 0) := fun h => if_neg (by rw [h]; decide)
  generalize risB l n = rb at *
  generalize setA l n = ra at *
  go_enter Tryz.func138, Tryz.ntmps138
  go_wp2_with fail
  go_loopw [6, 7, 12] (fun sv lv iv wr => ∃ i : Nat, i ≤ l.length ∧ iv = .int .i64 i ∧ lv = .int .i64 (least l i) ∧ sv = .int .u32 (mskN (toN (l.take i)) : Nat) ∧ Hid ((List.range i).all (okAt l n) = true) ∧ wr = w) (fun _ _ iv _ => l.length - (intOf iv).toNat)
  case atStart => exact ⟨0, Nat.zero_le _, rfl, rfl, rfl, rfl, rfl⟩
  case round =>
    obtain ⟨i, hi, rfl, rfl, rfl, HI, rfl⟩ := hrel
    by_cases hlt : i < l.length
    · obtain ⟨g, o, rfl, hg, c0⟩ := HF.out i hlt
      obtain ⟨hok, hl0⟩ := okAt_least hlt HI.out
      have HLS := hid (least_succ hlt)
      have HOK := hid hok
      have HSM := hid (ris_small hnn HI.out hi)
      have HST : Hid (∀ x : Nat, (x : Int) = l[i] → mskN (x :: toN (l.take i)) = mskN (toN (l.take (i + 1)))) := fun x hx => msk_ext fun z => by
        rw [List.take_succ_eq_append_getElem hlt, ← hx, toN, toN, List.map_append]
        simp only [List.mem_cons, List.mem_append, List.map_cons, List.map_nil, List.not_mem_nil, or_false, Int.toNat_natCast]
        exact or_comm
      clear hok
      generalize hs1 : mskN (toN (l.take (i + 1))) = s1 at *
      have HS1 := hid hs1
      clear hs1
      generalize toN (l.take i) = pre at *
      generalize least l i = m at *
      generalize l[i] = x at *
      by_cases e : m ≤ x ∧ x < n
      · have HS := hid (ris_succ HI.out (by rw [HOK.out]; exact decide_eq_true e))
        obtain ⟨e1, e2⟩ := e
        obtain ⟨X, rfl⟩ : ∃ X : Nat, x = X := ⟨x.toNat, by omega⟩
        have hst := HST.out X rfl
        go_wp2_with fail
        refine (sWith_any pre X _ HSM.out (by omega)).mono ?_
        rintro e w1 ⟨rfl, rfl⟩
        rw [hst]
        go_wp2
        go_roundw
        case rel => exact ⟨i + 1, by omega, by go_num, by rw [HLS.out], by rw [HS1.out], HS.out, trivial⟩
        case measure => simp [intOf]; omega
      · have HE := hid (HB.out i hlt (by rw [HOK.out]; exact decide_eq_false e))
        rcases (show x < m ∨ (m ≤ x ∧ (n : Int) ≤ x) by omega) with h3 | ⟨h3, h4⟩
        all_goals
          clear e
          go_wp2
          go_ret2
          exact ⟨by rw [HA2.out HE.out, HE.out]; rfl, rfl⟩
    · obtain rfl : i = l.length := by omega
      have HE := hid (HT.out HI.out)
      have HA := hid (HA1.out HE.out)
      rw [List.take_length]
      go_wp2
      go_ret2
      exact ⟨by rw [HA.out, HE.out]; rfl, rfl⟩
end Go.Proofs.YtojidhnkpeiimaaGreatDoor
