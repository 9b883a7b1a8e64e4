/- slices.Backward over a slice of ints: what a loop over it may lean on. -/
import Derived.Test.YtojidhnkpeiimaaGreatDoorSumAToNameD
import Derived.Test.YtojidhnkpeiimaaGreatDoorCore1ToTextB
import Derived.Deep.RegionHeld3
import Derived.Deep.OwnRows
import Derived.Laws.EntriesVeiled
import Derived.Test.YtojidhnkpeiimaaGreatDoorShelfOwn
import Derived.Sort.OwnSortedInts
import Derived.Lib.AppendZerosOnto
import Derived.Laws.AppendOwnNone
import Derived.WalkMore
namespace Go.Proofs.YtojidhnkpeiimaaGreatDoor
open Go.RowKit Go.Shelf
attribute [local go_sem] Oper.semAt_some
def IntB (B : Nat) (w : World) (a : Option Addr) (l : List Int) : Prop := ∀ k (h : k < l.length), ∃ g o, a = some ⟨g, o, none⟩ ∧ g < B ∧ w.cell? ⟨g, o + k, none⟩ = some (.int .i64 l[k])
theorem IntB.below {B : Nat} {w w' : World} {a : Option Addr} {l : List Int} (h : IntB B w a l) (hb : Below B w w') : IntB B w' a l := fun k hk => by
  obtain ⟨g, o, h1, h2, h3⟩ := h k hk
  exact ⟨g, o, h1, h2, (hb.cell (p := ⟨g, _, none⟩) h2).trans h3⟩
theorem IntS.toB {w : World} {a : Option Addr} {l : List Int} (h : IntS w a l) : IntB w.heap.size w a l := h
def KeepsB (Bn B : Nat) (V V' : World) : Prop := KeepsBox Bn V V' ∧ Below B V V'
theorem KeepsB.t {Bn B : Nat} {X Y Z : World} (h : KeepsB Bn B X Y) (k : KeepsB Bn B Y Z) : KeepsB Bn B X Z := ⟨h.1.t k.1, h.2.trans k.2⟩
theorem KeepsB.b {Bn B : Nat} {w : World} (hn : Bn < w.heap.size) (hB : B ≤ w.heap.size) (V : World) (l : Nat) (o o' : Obj) (hl : w.heap.size ≤ l) (h1 : V.heap[l]? = some o) (h2 : o.isCells = false) (h3 : o.isWalk = false) : KeepsB Bn B V (V.putObj l o') :=
  ⟨KeepsBox.b hn V l o o' hl h1 h2 h3, belowK_b hB V l o o' hl h1 h2 h3⟩
def backs (n k : Nat) : List Nat := (List.range k).map fun j => n - 1 - j
theorem backs_succ (n k : Nat) : backs n (k + 1) = backs n k ++ [n - 1 - k] := by simp [backs, List.range_succ]
theorem backs_length (n k : Nat) : (backs n k).length = k := by simp [backs]
abbrev At (l : List Int) : Type := { i : Nat // i < l.length }
abbrev atV (l : List Int) (x : At l) : Array Value := #[.int .i64 (x.1 : Nat), .int .i64 (l[x.1]'x.2)]
set_option maxRecDepth 100000 in
set_option maxHeartbeats 400000 in
theorem backward1_in (n : Nat) (hn : 1 ≤ n) (l Bn B : Nat) (a : Option Addr) (cap : Nat) (xs : List Int) (hl : xs.length ≤ 140737488355328) (J Jx : List (At xs) → World → Prop)
    (hY : ∀ pre x V, J pre V → pre.length < xs.length → YieldAt Fence.wide (n - 1) Tryz.prog l (atV xs x) V fun e V' =>
      (e = .returned (.bool true) ∧ J (pre ++ [x]) V' ∧ KeepsB Bn B V V') ∨ (e = .returned (.bool false) ∧ Jx (pre ++ [x]) V'))
    (V : World) (hBn : V.cell? ⟨Bn, 0, none⟩ = some (.slice a xs.length cap)) (hx : IntB B V a xs) (h0 : J [] V) :
    CallsIn Fence.wide n Tryz.prog 157 #[.func (.yield l) #[] #[], .pointer (some ⟨Bn, 0, none⟩)] V fun e V' => (∃ v, e = .returned v) ∧
      ((∃ ys : List (At xs), ys.map (·.1) = backs xs.length xs.length ∧ J ys V') ∨ (∃ pre : List (At xs), (∃ k, k ≤ xs.length ∧ pre.map (·.1) = backs xs.length k) ∧ Jx pre V')) := by
  have HX := hid hx
  clear hx
  refine callsIn_of_wp Tryz.func157 rfl trivial ?_ rfl
  simp only [Tryz.ntmps157, List.size_toArray, List.length_cons, List.length_nil, Nat.reduceAdd, Nat.reduceSub, Array.replicate_succ, Array.replicate_zero, List.push_toArray, List.append_toArray, List.nil_append, List.cons_append]
  gi_wp2
  gi_loopw [3] (fun i wr => ∃ (k : Nat) (pre : List (At xs)), k ≤ xs.length ∧ i = .int .i64 ((xs.length : Int) - 1 - (k : Int)) ∧ Hid (pre.map (·.1) = backs xs.length k) ∧ J pre wr ∧ wr.cell? ⟨Bn, 0, none⟩ = some (.slice a xs.length cap) ∧ Hid (IntB B wr a xs))
    (fun i _ => (intOf i + 1).toNat)
  case atStart => exact ⟨0, [], Nat.zero_le _, by simp, rfl, h0, hBn, HX⟩
  case round =>
    obtain ⟨k, pre, hk, rfl, HP, hJs, hbx, HB⟩ := hrel
    by_cases hlt : k < xs.length
    · have hpl : pre.length = k := by have := congrArg List.length HP.out; rwa [List.length_map, backs_length] at this
      have hi : xs.length - 1 - k < xs.length := by omega
      obtain ⟨fn, tmps, assign, body, hy, hR⟩ := hY pre ⟨xs.length - 1 - k, hi⟩ wr hJs (by omega)
      obtain ⟨g, o, rfl, hg, c0⟩ := HB.out (xs.length - 1 - k) hi
      have HS : Hid ((pre ++ [(⟨xs.length - 1 - k, hi⟩ : At xs)]).map (·.1) = backs xs.length (k + 1)) := by show _ = _; rw [List.map_append, HP.out, backs_succ]; rfl
      have HR := hid hR
      clear hR
      rw [atV] at hy
      simp only at hy
      have HEQ : Hid ((xs.length : Int) - 1 - ((k + 1 : Nat) : Int) = (xs.length : Int) - 1 - (k : Int) - 1) := by show _ = _; omega
      have hEe : (xs.length : Int) - 1 - (k : Int) = ((xs.length - 1 - k : Nat) : Int) := by omega
      rw [hEe]
      have HEE := hid hEe
      clear hEe
      have hE1 : xs.length - 1 - k < xs.length := hi
      generalize hEn : xs[xs.length - 1 - k] = xv at *
      generalize hEm : xs.length - 1 - k = E at *
      gi_wp2
      refine HR.out.mono ?_
      rintro e W3 (⟨rfl, hJ3, hk3⟩ | ⟨rfl, hJx3⟩)
      · have hbx3 := Eq.trans hk3.1 hbx
        have hB3 := HB.out.below hk3.2
        gi_wp2
        go_roundw
        case rel => exact ⟨k + 1, _, by omega, by rw [HEQ.out, HEE.out], HS, hJ3, hbx3, hB3⟩
        case measure => simp [intOf]
      · gi_wp2
        refine bodyPost_ret (results_none rfl _ _ _) rfl ?_
        exact ⟨⟨_, rfl⟩, .inr ⟨_, ⟨k + 1, by omega, HS.out⟩, hJx3⟩⟩
    · obtain rfl : k = xs.length := by omega
      have he : (xs.length : Int) - 1 - (xs.length : Int) = -1 := by omega
      rw [he]
      gi_wp2
      go_end0
      exact ⟨⟨_, rfl⟩, .inl ⟨_, HP.out, hJs⟩⟩
end Go.Proofs.YtojidhnkpeiimaaGreatDoor

/- A region that draws its order, in a round of a range over a function: by the plain region's law. -/
namespace Go.Proofs.YtojidhnkpeiimaaGreatDoor
open Go.RowKit Go.Shelf
def plainOps (ops : Array Oper) : Bool := ops.all fun o => match o.op with | .defer _ => false | _ => true
theorem plainOps_at {ops : Array Oper} (h : plainOps ops = true) {i : Nat} {o : Oper} (ho : ops[i]? = some o) : ∀ c, o.op ≠ .defer c := by
  intro c e
  rw [plainOps, Array.all_eq_true] at h
  obtain ⟨hi, he⟩ := Array.getElem?_eq_some_iff.1 ho
  have := h i hi
  rw [he, e] at this
  cases this
theorem op_in {l n : Nat} {P : Program} {ops : Array Oper} {Q : Exit → Act → World → Prop} (hnd : plainOps ops = true) (hlo : ¬ LetsOut Q) {i : Nat} {K K' : Act → World → Prop} {a : Act} {w : World} (hK : ∀ a w, K a w → K' a w)
    (h : wpOp P ops Q i K a w) : wpOpIn (Fence.wide.inRound l) n P ops Q i K' a w := by
  unfold wpOp at h
  unfold wpOpIn
  cases ho : ops[i]? with
  | none => rw [ho] at h; exact hK _ _ h
  | some o =>
    rw [ho] at h
    simp only at h ⊢
    by_cases hw : Region.wanted o (yielded ops a.tmps) = true
    · rw [if_pos hw] at h ⊢
      rcases h with h | h
      · refine ⟨fun _ _ => trivial, ?_⟩
        rw [Oper.semAt_eq _ _ _ (plainOps_at hnd ho)]
        unfold Oper.wp at h
        generalize (execOp a.eval o).run P w = r at *
        cases r with
        | ok nx w' =>
          cases nx with
          | value v => exact hK _ _ h
          | skip => exact hK _ _ h
          | defer d => exact hK _ _ h
          | enter f args =>
            refine ⟨fun hd => absurd hd (show ¬ Fence.wide.depth.isSome = true by decide), (callsIn_wide (n := n - 1)).2 (Calls.mono h ?_)⟩
            intro e w'' he
            cases e with
            | returned v => exact hK _ _ he
            | panicked c => exact he
            | outgrown => exact he
          | row r args => exact ⟨fun hd => absurd hd (show ¬ Fence.wide.depth.isSome = true by decide), fun c cs _ => let ⟨v, w2, r, s⟩ := h c cs; ⟨v, w2, hK _ _ r, stepsIn_wide.2 s⟩⟩
          | _ => exact h.elim
        | halt hl w' =>
          cases hl with
          | panic v => exact h
          | _ => exact h.elim
      · exact absurd h.2 hlo
    · rw [if_neg hw] at h ⊢
      exact ⟨fun _ _ => trivial, hK _ _ h⟩
theorem any_in {l n : Nat} {P : Program} {md : Region.Mode} {ops : Array Oper} {Q : Exit → Act → World → Prop} (hnd : plainOps ops = true) (hlo : ¬ LetsOut Q) : ∀ (fuel : Nat) (listed : Array Bool) (a : Act) (w : World), wpAny P md ops Q fuel listed a w → wpAnyIn (Fence.wide.inRound l) n P md ops Q fuel listed a w
  | 0, _, _, _, h => h
  | fuel + 1, _, _, _, h => ⟨h.1, fun i hi => op_in hnd hlo (fun a w => any_in hnd hlo fuel _ a w) (h.2 i hi)⟩
theorem region_round {l n id : Nat} {P : Program} {ops : Array Oper} {Q : Exit → Act → World → Prop} {a : Act} {w : World} (S : World → Prop) (hm : P.follows .mixedOrders = true) (hnd : plainOps ops = true) (hlo : ¬ LetsOut Q) (hS : S w.drew)
    (h : S w.drew → wpAnyH P .any ops Q S ops.size (Array.replicate ops.size false) a w.drew) : (Code.region id ops true).wpIn (Fence.wide.inRound l) n P Q a w :=
  wpIn_region_any hm (any_in hnd hlo _ _ _ _ (wpAny_of_held _ _ _ _ (h hS)))
end Go.Proofs.YtojidhnkpeiimaaGreatDoor

/- Package table: the assignment of a place. -/
namespace Go.Proofs.YtojidhnkpeiimaaGreatDoor
open Go.RowKit Go.Shelf
attribute [local go_sem] Oper.semAt_some
def bst (S vs : List Nat) (st : Nat × List Nat) (i : Nat) : Nat × List Nat := (st.1 / sz S (vs.getD i 0), st.2.set i (st.1 % sz S (vs.getD i 0)))
def asgF (S vs : List Nat) (K n : Nat) (pre : List Nat) : Nat × List Nat := pre.foldl (bst S vs) (K, List.replicate n 0)
theorem asgF_snoc (S vs : List Nat) (K n : Nat) (pre : List Nat) (i : Nat) : asgF S vs K n (pre ++ [i]) = bst S vs (asgF S vs K n pre) i := by simp [asgF]
theorem asgF_le (S vs : List Nat) (K n : Nat) (pre : List Nat) : (asgF S vs K n pre).1 ≤ K ∧ (asgF S vs K n pre).2.length = n := by
  have key : ∀ (l : List Nat) (st : Nat × List Nat), st.1 ≤ K → st.2.length = n → (l.foldl (bst S vs) st).1 ≤ K ∧ (l.foldl (bst S vs) st).2.length = n := by
    intro l
    induction l with
    | nil => intro st h1 h2; exact ⟨h1, h2⟩
    | cons i l ih =>
      intro st h1 h2
      exact ih _ (Nat.le_trans (Nat.div_le_self _ _) h1) (by simp [bst, h2])
  exact key pre _ (Nat.le_refl _) (by simp)
theorem asgF_backs (S vs : List Nat) (K : Nat) : ∀ m, m ≤ vs.length → asgF S vs K vs.length (backs vs.length m) = (K / cnt S (vs.drop (vs.length - m)), List.replicate (vs.length - m) 0 ++ digs S (vs.drop (vs.length - m)) (K % cnt S (vs.drop (vs.length - m))))
  | 0, _ => by simp [asgF, backs, cnt, digs]
  | m + 1, h => by
    rw [backs_succ, asgF_snoc, asgF_backs S vs K m (by omega)]
    have hj : vs.length - 1 - m < vs.length := by omega
    have e1 : vs.length - (m + 1) = vs.length - 1 - m := by omega
    have e2 : vs.length - m = (vs.length - 1 - m) + 1 := by omega
    have hd : vs.drop (vs.length - 1 - m) = vs[vs.length - 1 - m] :: vs.drop ((vs.length - 1 - m) + 1) := List.drop_eq_getElem_cons hj
    rw [e1, e2, hd, bst, getN_eq hj]
    generalize vs.drop ((vs.length - 1 - m) + 1) = rest
    generalize vs[vs.length - 1 - m] = v
    generalize vs.length - 1 - m = j
    simp only [cnt, digs]
    rw [mod_div, mod_mod_c, Nat.div_div_eq_div_mul, Nat.mul_comm (cnt S rest), List.replicate_succ', List.append_assoc, List.set_append_right _ _ (by simp)]
    simp
theorem asgF_all {S vs : List Nat} {K : Nat} (h : K < cnt S vs) : asgF S vs K vs.length (backs vs.length vs.length) = (0, digs S vs K) := by
  rw [asgF_backs S vs K _ (Nat.le_refl _), Nat.sub_self]
  simp [Nat.mod_eq_of_lt h, Nat.div_eq_of_lt h]
set_option maxHeartbeats 400000 in
theorem backward_in (n : Nat) (a : Option Addr) (len cap : Nat) (w : World) :
    CallsIn Fence.wide n Tryz.prog 120 #[.slice a len cap] w fun e w' => e = .returned (.func (.func 157) #[] #[.pointer (some ⟨w.heap.size, 0, none⟩)]) ∧ w' = w.alloc (.cells #[.slice a len cap] 22) := by
  refine callsIn_of_wp Tryz.func120 rfl trivial ?_ rfl
  simp only [Tryz.ntmps120, List.size_toArray, List.length_cons, List.length_nil, Nat.reduceAdd, Nat.reduceSub, Array.replicate_succ, Array.replicate_zero, List.push_toArray, List.append_toArray, List.nil_append, List.cons_append]
  gi_wp2
  go_ret
  exact ⟨rfl, rfl⟩
theorem backward_stops (n : Nat) (hn : 1 ≤ n) (Bn B : Nat) (a : Option Addr) (cap : Nat) (xs : List Int) (hl : xs.length ≤ 140737488355328) (w : World) (hBn : Bn < w.heap.size) (hB : B ≤ w.heap.size) (hc : w.cell? ⟨Bn, 0, none⟩ = some (.slice a xs.length cap)) (hx : IntB B w a xs) :
    SeqStopsK Fence.wide n Tryz.prog 157 #[.pointer (some ⟨Bn, 0, none⟩)] (atV xs) (KeepsB Bn B) (fun ys => ys.map (·.1) = backs xs.length xs.length) (fun pre => ∃ k, k ≤ xs.length ∧ pre.map (·.1) = backs xs.length k) xs.length w := fun l J Jx V hV _ _ hY h0 =>
  backward1_in n hn l Bn B a cap xs hl J Jx hY V ((hV.cell (p := ⟨Bn, 0, none⟩) hBn).trans hc) (hx.below (hV.mono hB)) h0
theorem row_own {β : Type} (g : Nat) (f : β → List Nat) : Own (fun s W => RowI W g (f s)) := fun s X Y row hs hg hrow => by
  refine (hg.block g hs.lt fun e' => ?_).trans hs
  obtain ⟨o, ho, hc⟩ := hrow g e'.symm
  rw [show X.heap[g]? = _ from hs] at ho
  cases ho; cases hc
theorem made_row (w : World) (n : Nat) : RowI (w.alloc (.cells (madeCells #[Value.int .i64 0] n) 3)) w.heap.size (List.replicate n 0) := by
  have h : (madeCells #[Value.int .i64 0] n).toList = (List.replicate n (0 : Nat)).map iv := by
    have := made_ints n
    rwa [Nat.mul_one, show (Value.int .i64 0).cells = #[Value.int .i64 0] from rfl] at this
  have e : madeCells #[Value.int .i64 0] n = ((List.replicate n (0 : Nat)).map iv).toArray := by rw [← h]
  rw [RowI, ← e]
  exact heap_alloc_new _ _
theorem RowI.alloc {w : World} {g : Nat} {l : List Nat} (h : RowI w g l) (o : Obj) : RowI (w.alloc o) g l := (Below.heap_alloc w o g h.lt).trans h
theorem boxed_off {V : World} {k : Nat} {t : TypeId} {v : Value} (h : Boxed V k t v) (b j : Nat) (y : Value) (hne : k ≠ b) : Boxed (V.setCell ⟨b, j, none⟩ y) k t v := (Below.heap_setCell V ⟨b, j, none⟩ y k hne).trans h
theorem RowI.off {V : World} {g : Nat} {l : List Nat} (h : RowI V g l) (b j : Nat) (y : Value) (hne : g ≠ b) : RowI (V.setCell ⟨b, j, none⟩ y) g l := (Below.heap_setCell V ⟨b, j, none⟩ y g hne).trans h
end Go.Proofs.YtojidhnkpeiimaaGreatDoor

/- Package table: join. -/
namespace Go.Proofs.YtojidhnkpeiimaaGreatDoor
open Go.RowKit Go.Shelf
abbrev frV (f : Fr) : Value := .agg #[.bool f.1, .string f.2.1, .string f.2.2]
end Go.Proofs.YtojidhnkpeiimaaGreatDoor

/- Package table: the ways of joining. -/
namespace Go.Proofs.YtojidhnkpeiimaaGreatDoor
open Go.RowKit Go.Shelf
abbrev frQ (f : Fr) : Rat := val f.1 f.2.1 f.2.2
def great (f g : Fr) : Fr := if cmpQ (frQ f) (frQ g) < 0 then g else f
end Go.Proofs.YtojidhnkpeiimaaGreatDoor

/- Rows of fractions. -/
namespace Go.Proofs.YtojidhnkpeiimaaGreatDoor
open Go.RowKit Go.Shelf
def frC : List Fr → List Value
  | [] => []
  | f :: l => .bool f.1 :: .string f.2.1 :: .string f.2.2 :: frC l
theorem frC_length : ∀ l : List Fr, (frC l).length = 3 * l.length
  | [] => rfl
  | f :: l => by simp only [frC, List.length_cons, frC_length l]; omega
theorem frC_get : ∀ (l : List Fr) (k : Nat) (h : k < l.length), (frC l)[k * 3]? = some (.bool l[k].1) ∧ (frC l)[k * 3 + 1]? = some (.string l[k].2.1) ∧ (frC l)[k * 3 + 2]? = some (.string l[k].2.2)
  | [], _, h => absurd h (by simp)
  | f :: l, 0, _ => ⟨rfl, rfl, rfl⟩
  | f :: l, k + 1, h => by
    have h' : k < l.length := by simpa using h
    obtain ⟨h1, h2, h3⟩ := frC_get l k h'
    have e : (k + 1) * 3 = k * 3 + 1 + 1 + 1 := by omega
    refine ⟨?_, ?_, ?_⟩
    · rw [e]; exact h1
    · rw [show (k + 1) * 3 + 1 = (k * 3 + 1) + 1 + 1 + 1 by omega]; exact h2
    · rw [show (k + 1) * 3 + 2 = (k * 3 + 2) + 1 + 1 + 1 by omega]; exact h3
end Go.Proofs.YtojidhnkpeiimaaGreatDoor

/- Package table: fill. -/
namespace Go.Proofs.YtojidhnkpeiimaaGreatDoor
open Go.RowKit Go.Shelf
theorem Tryz.infoFrac : (Tryz.prog.info? 58).map (fun i => (i.zero, i.size, i.bytes)) = some (some (.agg #[.bool false, .string ⟨#[]⟩, .string ⟨#[]⟩]), 3, 40) := by kernel_rfl
end Go.Proofs.YtojidhnkpeiimaaGreatDoor

/- What the calls on tables answer, as plain functions of lists. -/
namespace Go.Proofs.YtojidhnkpeiimaaGreatDoor
open Go.RowKit Go.Shelf
def qF (q : Rat) : Fr := (sgn q, nu q, de q)
theorem frQ_qF (q : Rat) : frQ (qF q) = q := val_own q
end Go.Proofs.YtojidhnkpeiimaaGreatDoor

/- Lists of ints: clones, what is in them, lists without one. -/
namespace Go.Proofs.YtojidhnkpeiimaaGreatDoor
open Go.RowKit Go.Shelf Go.Sort Go.Lib
def RwI (w : World) (B : Nat) (v : Value) (l : List Int) : Prop := w.ownsRow B 3 1 v l.length (l.map (Value.int .i64))
theorem RwI.cases {w : World} {B : Nat} {v : Value} {l : List Int} (h : RwI w B v l) : (v = .slice none 0 0 ∧ l = []) ∨ ∃ g cap, v = .slice (some ⟨g, 0, none⟩) l.length cap ∧ B ≤ g ∧ g < w.heap.size ∧ l.length ≤ cap ∧ cap ≤ maxLen ∧ Holds (Value.int .i64) w g 0 l.toArray := by
  rcases h.2 with ⟨h1, h2⟩ | ⟨g, cap, cur, h1, h2, h3, h4, h5, h6, h7⟩
  · exact .inl ⟨h1, List.length_eq_zero_iff.1 h2⟩
  · refine .inr ⟨g, cap, h1, h2, (Array.getElem?_eq_some_iff.1 h3).1, h4, h5, fun j hj => ?_⟩
    have hj' : j < l.length := by simpa using hj
    refine ⟨?_, frozen_of_row w g _ _ _ h3⟩
    rw [Nat.zero_add, cell_of_row w g j _ _ (0, 0) h3]
    have e : cur[j]? = (cur.toList.take (l.length * 1))[j]? := by
      rw [List.getElem?_take, if_pos (by omega), Array.getElem?_toList]
    rw [e, h7, List.getElem?_map, List.getElem?_eq_getElem hj']
    simp [hj']
theorem holds_ints {w : World} {g : Nat} {d : Array Int} {l : List Int} (h : Holds (Value.int .i64) w g 0 d) (hg : g < w.heap.size) (hl : ∀ j (hj : j < l.length), ∃ hd : j < d.size, d[j] = l[j]) : IntS w (some ⟨g, 0, none⟩) l := fun k hk => by
  obtain ⟨hd, e⟩ := hl k hk
  refine ⟨g, 0, rfl, hg, ?_⟩
  have := (h k hd).1
  rw [getElem!_pos d k hd, e] at this
  exact this
theorem RwI.ints {w : World} {B : Nat} {v : Value} {l : List Int} (h : RwI w B v l) : ∃ d cd, v = .slice d l.length cd ∧ IntS w d l := by
  rcases h.cases with ⟨rfl, rfl⟩ | ⟨g, cap, rfl, _, hg, _, _, hh⟩
  · exact ⟨none, 0, rfl, fun k hk => absurd hk (by simp)⟩
  · exact ⟨_, _, rfl, holds_ints hh hg fun j hj => ⟨by simpa using hj, by simp⟩⟩
theorem intS_cells {w : World} {b o : Nat} {l : List Int} (h : IntS w (some ⟨b, o, none⟩) l) : ∀ j, j < l.length → w.cell? ⟨b, o + j, none⟩ = some (.int .i64 (l.getD j 0)) := fun j hj => by
  obtain ⟨g, o', e, _, hc⟩ := h j hj
  cases e
  rw [hc, List.getD_eq_getElem?_getD, List.getElem?_eq_getElem hj]
  rfl
theorem slClone_any (b : Option Addr) (cb : Nat) (l : List Int) (w : World) (h : IntS w b l) (hn : l.length ≤ 1000000) :
    Calls Tryz.prog 128 #[.slice b l.length cb] w fun e w' => ∃ v, e = .returned v ∧ RwI w' w.heap.size v l ∧ Below w.heap.size w w' := by
  cases b with
  | none =>
    have hl : l = [] := by
      cases l with
      | nil => rfl
      | cons x l => obtain ⟨g, o, e, _⟩ := h 0 (by simp); cases e
    subst hl
    refine (Tryz.slices_Clone_int_nil 0 cb w).mono ?_
    rintro e w' ⟨rfl, rfl⟩
    exact ⟨_, rfl, ⟨rfl, .inl ⟨rfl, rfl⟩⟩, Below.refl _ _⟩
  | some a =>
    cases l with
    | nil =>
      refine (Tryz.slices_Clone_int_zero a cb w).mono ?_
      rintro e w' ⟨v, rfl, hr, _, hb⟩
      exact ⟨v, rfl, hr, hb⟩
    | cons x l =>
      obtain ⟨g, o, e, _⟩ := h 0 (by simp)
      cases e
      refine (Tryz.slices_Clone_int g o (x :: l).length cb (x :: l) w (Nat.le_refl _) (by omega) (intS_cells h)).mono ?_
      rintro e w' ⟨v, rfl, hr, _, hb⟩
      rw [List.take_length] at hr
      exact ⟨v, rfl, hr, hb⟩
theorem slContains_any (b : Option Addr) (cb : Nat) (l : List Int) (x : Int) (w : World) (h : IntS w b l) (hn : l.length ≤ 140737488355328) :
    Calls Tryz.prog 161 #[.slice b l.length cb, .int .i64 x] w fun e w' => e = .returned (.bool (l.contains x)) ∧ Below w.heap.size w w' := by
  cases l with
  | nil =>
    refine (Tryz.slices_Contains_int_empty b cb x w).mono ?_
    rintro e w' ⟨rfl, rfl⟩
    exact ⟨rfl, Below.refl _ _⟩
  | cons y l =>
    obtain ⟨g, o, rfl, _⟩ := h 0 (by simp)
    refine (Tryz.slices_Contains_int g o (y :: l).length cb (y :: l) x w (Nat.le_refl _) (by omega) (intS_cells h)).mono ?_
    rintro e w' ⟨rfl, rfl⟩
    rw [List.take_length]
    exact ⟨rfl, Below.refl _ _⟩
end Go.Proofs.YtojidhnkpeiimaaGreatDoor

/- Tables as answers. -/
namespace Go.Proofs.YtojidhnkpeiimaaGreatDoor
open Go.RowKit Go.Shelf
def SlV (v : Value) : Prop := ∃ a n c, v = Value.slice a n c
end Go.Proofs.YtojidhnkpeiimaaGreatDoor

/- Lists of ints: slices.Grow of nothing, slices.Concat of two. -/
namespace Go.Proofs.YtojidhnkpeiimaaGreatDoor
open Go.RowKit Go.Shelf
theorem wpList_append_ints {w : World} {ops : Array Oper} {rest : List Oper} {o : Oper} {a : Act} {Q : Exit → Act → World → Prop} (hgd : o.guard = none) (s x : Operand)
    (ho : o.op = .call { callee := .builtin .append, args := #[s, x], argTypes := #[22, 22] }) (base : Nat) (v : Value) (xs la : List Int) (hs : a.eval s = v) (hown : RwI w base v xs) (p : Option Addr) (ca : Nat) (hx : a.eval x = .slice p la.length ca) (hi : IntS w p la) (hp : p = none → ca = 0) (hlen : xs.length + la.length ≤ 100000) (hbase : base ≤ w.heap.size)
    (h : ∀ v' w', RwI w' base v' (xs ++ la) → w.grownBy w' v.ownBlock → wpList Tryz.prog ops Q rest (a.put o.dst v') w') : wpList Tryz.prog ops Q (o :: rest) a w := by
  obtain ⟨i0, hi0, hz0, hz1, hz2⟩ := info_parts Tryz.infoInt
  cases p with
  | none =>
    have hl : la = [] := by
      cases la with
      | nil => rfl
      | cons x l => obtain ⟨g, o, e, _⟩ := hi 0 (by simp); cases e
    subst hl
    have h0 := hp rfl
    subst h0
    have h1 := h v w (by rw [List.append_nil]; exact hown) ⟨rfl, rfl, rfl, Nat.le_refl _, fun _ _ _ => rfl⟩
    exact wpList_append_own_none hgd s x 22 ho base 3 i0 1 Tryz.underlying22 hi0 v xs.length _ hs hown hx h1
  | some ad =>
    refine wpList_append_own _ hgd s x 22 ho base 3 i0 (.int .i64 0) 1 8 Tryz.underlying22 hi0 hz0 hz1 hz2 rfl (by decide) v xs.length _ hs hown ad la.length ca (la.map (Value.int .i64)) hx (by simp) ?_ ?_ (by unfold maxLen; omega) (by omega) hbase ?_
    · intro j u hj
      rw [List.getElem?_map] at hj
      cases hq : la[j]? with
      | none => rw [hq] at hj; cases hj
      | some z =>
        rw [hq] at hj
        cases hj
        obtain ⟨hj1, hj2⟩ := List.getElem?_eq_some_iff.1 hq
        obtain ⟨g, o', e, _, hc⟩ := hi j hj1
        cases e
        rw [← hj2]
        rw [Addr.add]
        by_cases h0 : j = 0
        · subst h0; simpa using hc
        · simpa [h0] using hc
    · intro u hu
      obtain ⟨z, _, rfl⟩ := List.mem_map.1 hu
      rfl
    · intro v' w' h1 h2 _
      refine h v' w' ?_ h2
      rw [RwI, List.length_append, List.map_append]
      exact h1
theorem RwI.own {w : World} {B : Nat} {v : Value} {l : List Int} (h : RwI w B v l) : ∀ k, v.ownBlock = some k → B ≤ k := by
  intro k hk
  rcases h.2 with ⟨rfl, _⟩ | ⟨g, cap, cur, rfl, h2, _⟩
  · cases hk
  · cases hk
    exact h2
end Go.Proofs.YtojidhnkpeiimaaGreatDoor

/- Package graph: order, read, Check. -/
namespace Go.Proofs.YtojidhnkpeiimaaGreatDoor
open Go.RowKit Go.Shelf
theorem one_int (w : World) (u : Int) : IntS (w.alloc (.cells #[.int .i64 u] 3)) (some ⟨w.heap.size, 0, none⟩) [u] := fun k hk => by
  obtain rfl : k = 0 := by simp at hk; omega
  exact ⟨w.heap.size, 0, rfl, by simp, (Boxed.new w _ _).cell⟩
theorem free_out {P : List (List Nat)} {out : List Nat} {v : Nat} (h : v ∈ out) : freeB P out v = false := by simp [freeB, h]
theorem free_par {P : List (List Nat)} {out p : List Nat} {v : Nat} (hp : P.getD v [] = p) (h : ¬ ∀ u ∈ p, u ∈ out) : freeB P out v = false := by rw [freeB, hp, decide_eq_false h, Bool.and_false]
theorem free_yes {P : List (List Nat)} {out p : List Nat} {v : Nat} (hp : P.getD v [] = p) (h : ¬ v ∈ out) (h' : ∀ u ∈ p, u ∈ out) : freeB P out v = true := by rw [freeB, hp, decide_eq_true h', decide_eq_false h]; rfl
set_option maxRecDepth 100000 in
set_option maxHeartbeats 1000000 in
theorem order_any (G c : Nat) (P : List (List Nat)) (w : World) (hU : RowU w G (P.map mskN)) (hn : P.length ≤ 8) (hP : ∀ p ∈ P, ∀ u ∈ p, u < 8) :
    Calls Tryz.prog 65 #[.slice (some ⟨G, 0, none⟩) P.length c] w fun e w' => ∃ x, e = .returned x ∧ RwI w' w.heap.size x (iL (ordN P P.length)) ∧ Below w.heap.size w w' := by
  obtain ⟨i0, hi0, hz0, hz1, hz2⟩ := info_parts Tryz.infoInt
  have HU := hid hU
  have HP : Hid (∀ i, i < P.length → (∀ u ∈ P.getD i [], u < 8) ∧ ∃ h : i < (P.map mskN).length, (P.map mskN)[i] = mskN (P.getD i [])) := fun i hi => by
    have e : P.getD i [] = P[i] := by rw [List.getD_eq_getElem?_getD, List.getElem?_eq_getElem hi]; rfl
    rw [e]
    exact ⟨hP _ (List.getElem_mem hi), by simpa using hi, by simp⟩
  have HOL : Hid (∀ k, ∀ u ∈ ordN P k, u < 8) := fun k u hu => Nat.lt_of_lt_of_le (ord_lt P k u hu) hn
  have HLN := hid (ord_len P)
  have HSO : Hid (∀ k v, v < P.length → freeB P (ordN P k) v = true → (∀ u, u < v → freeB P (ordN P k) u = false) → ordN P (k + 1) = ordN P k ++ [v]) := fun k v h1 h2 h3 => ord_some (next_some h1 h2 h3)
  have HST : Hid (∀ k, k ≤ P.length → (∀ u, u < P.length → freeB P (ordN P k) u = false) → ordN P P.length = ordN P k) := fun k h1 h2 => ord_stuck (next_none h2) h1
  have HO0 : Hid (ordN P 0 = []) := rfl
  generalize hF : ordN P = F at *
  clear hU hP hF
  go_enter Tryz.func65, Tryz.ntmps65
  go_wp2_with fail
  go_step3
  go_wp2_with (first
    | (at_make; refine wpList_make_own _ rfl _ _ 22 rfl w.heap.size 3 i0 (.int .i64 0) 1 Tryz.underlying22 hi0 hz0 hz1 .i64 .i64 _ P.length rfl rfl (by go_num) (by rw [hz2]; omega) (by unfold maxLen; omega) (Nat.le_refl _) ?_; intro w2 hown2 hgrow2))
  have HI : Hid (RwI w2 w.heap.size (.slice (some ⟨w.heap.size, 0, none⟩) 0 P.length) []) := hown2
  have HB2 : Hid (Below w.heap.size w w2) := (Below.refl _ w).grown hgrow2 (Nat.le_refl _) (fun k e => by cases e)
  clear hown2 hgrow2
  go_wp2_with fail
  go_step3
  go_wp2_with fail
  go_loopw [3, 4, 12] (fun sv lv iv wr => ∃ k : Nat, k ≤ P.length ∧ iv = .int .i64 k ∧ sv = .int .u32 (mskN (F k) : Nat) ∧ Hid (RwI wr w.heap.size lv (iL (F k))) ∧ Hid (Below w.heap.size w wr)) (fun _ _ iv _ => P.length - (intOf iv).toNat)
  case atStart => exact ⟨0, Nat.zero_le _, rfl, by rw [HO0.out]; rfl, by rw [HO0.out]; exact HI, HB2⟩
  case round =>
    obtain ⟨k, hk, rfl, rfl, HR, HB⟩ := hrel
    clear HI HB2
    by_cases hlt : k < P.length
    · have HUW := hid (HU.out.below HB.out HU.out.lt)
      go_wp2_with fail
      go_loopw [3, 4, 16] (fun sv lv jv wq => ∃ v : Nat, v ≤ P.length ∧ jv = .int .i64 v ∧ sv = .int .u32 (mskN (F k) : Nat) ∧ lv = u4 ∧ Hid (∀ u, u < v → freeB P (F k) u = false) ∧ wq = wr) (fun _ _ jv _ => P.length - (intOf jv).toNat)
      case atStart => exact ⟨0, Nat.zero_le _, rfl, rfl, rfl, fun u h => absurd h (by omega), rfl⟩
      case round =>
        obtain ⟨v, hv, rfl, rfl, rfl, HN, rfl⟩ := hrel
        by_cases hvl : v < P.length
        · obtain ⟨hp8, hm1, hm2⟩ := HP.out v hvl
          have c0 := HUW.out.cell v hm1
          rw [hm2] at c0
          have HP8 := hid hp8
          have HFO : Hid (v ∈ F k → freeB P (F k) v = false) := free_out
          have HFP : Hid (¬ (∀ u ∈ P.getD v [], u ∈ F k) → freeB P (F k) v = false) := free_par rfl
          have HFY : Hid (¬ v ∈ F k → (∀ u ∈ P.getD v [], u ∈ F k) → freeB P (F k) v = true) := free_yes rfl
          have HNX : Hid (freeB P (F k) v = false → ∀ u, u < v + 1 → freeB P (F k) u = false) := fun h u hu => by
            rcases Nat.lt_or_ge u v with h2 | h2
            · exact HN.out u h2
            · obtain rfl : u = v := by omega
              exact h
          clear hp8 hm1 hm2
          generalize P.getD v [] = p at *
          go_wp2_with fail
          refine (sHas_any (F k) v _ (HOL.out k) (by omega)).mono ?_
          rintro e w3 ⟨rfl, rfl⟩
          by_cases hin : v ∈ F k
          · rw [decide_eq_true hin]
            have HE := hid (HNX.out (HFO.out hin))
            clear hin
            go_wp2
            go_roundw
            case rel => exact ⟨v + 1, by omega, by go_num, rfl, rfl, HE, trivial⟩
            case measure => simp [intOf]; omega
          · rw [decide_eq_false hin]
            have HIN := hid hin
            clear hin
            go_wp2_with fail
            refine (sHolds_any (F k) p _ (HOL.out k) HP8.out).mono ?_
            rintro e w4 ⟨rfl, rfl⟩
            by_cases hh : ∀ u ∈ p, u ∈ F k
            · rw [decide_eq_true hh]
              have hS := HSO.out k v hvl (HFY.out HIN.out hh) HN.out
              have HM : Hid (mskN (v :: F k) = mskN (F (k + 1))) := msk_ext fun z => by rw [hS, List.mem_cons, List.mem_append, List.mem_singleton]; exact or_comm
              have HIL : Hid (iL (F (k + 1)) = iL (F k) ++ [(v : Int)]) := by show _ = _; rw [hS, iL_append]; rfl
              have HLK : Hid ((iL (F k)).length ≤ 8) := by
                have := HLN.out k
                show (iL (F k)).length ≤ 8
                rw [iL_length]
                omega
              clear hh hS
              have HOWN := hid HR.out.own
              have HRA : Hid (RwI (w4.alloc (.cells #[.int .i64 (v : Nat)] 3)) w.heap.size _ (iL (F k))) := World.ownsRow.alloc HR.out _
              have HBA := hid (HB.out.alloc HB.out.size (.cells #[.int .i64 (v : Nat)] 3))
              have HIA := hid (one_int w4 (v : Nat))
              go_wp2_with (at_builtin; refine wpList_append_ints rfl _ _ rfl w.heap.size _ (iL (F k)) [((v : Nat) : Int)] rfl HRA.out (some ⟨w4.heap.size, 0, none⟩) 1 rfl HIA.out (fun e => by cases e) (by have := HLK.out; simp; omega) HBA.out.size ?_; intro v' w5 hr5 hg5)
              have HR5 := hid hr5
              have HB5 := hid (HBA.out.grown hg5 HBA.out.size HOWN.out)
              clear hr5 hg5
              refine (sWith_any (F k) v _ (HOL.out k) (by omega)).mono ?_
              rintro e w6 ⟨rfl, rfl⟩
              rw [HM.out]
              go_wp2
              go_roundw
              case rel => exact ⟨k + 1, by omega, by go_num, rfl, by rw [HIL.out]; exact HR5, HB5⟩
              case measure => simp [intOf]; omega
            · rw [decide_eq_false hh]
              have HE := hid (HNX.out (HFP.out hh))
              clear hh
              go_wp2
              go_roundw
              case rel => exact ⟨v + 1, by omega, by go_num, rfl, rfl, HE, trivial⟩
              case measure => simp [intOf]; omega
        · obtain rfl : v = P.length := by omega
          have HE := hid (HST.out k hk HN.out)
          go_wp2
          try rw [Exit.noGoto_ret]
          go_ret
          exact ⟨_, rfl, by rw [HE.out]; exact HR.out, HB.out⟩
    · obtain rfl : k = P.length := by omega
      go_wp2
      try rw [Exit.noGoto_ret]
      go_ret
      exact ⟨_, rfl, HR.out, HB.out⟩
end Go.Proofs.YtojidhnkpeiimaaGreatDoor

/- Nets in memory; their sizes and names. -/
namespace Go.Proofs.YtojidhnkpeiimaaGreatDoor
open Go.RowKit Go.Shelf
abbrev Vr : Type := ByteArray × List ByteArray
def VsS (w : World) (a : Option Addr) (V : List Vr) : Prop := ∀ k (h : k < V.length), ∃ g o b c, a = some ⟨g, o, none⟩ ∧ g < w.heap.size ∧ w.cell? ⟨g, o + k * 2, none⟩ = some (.string V[k].1) ∧ w.cell? ⟨g, o + k * 2 + 1, none⟩ = some (.slice b V[k].2.length c) ∧ StS w b V[k].2 ∧ V[k].2.length ≤ c
theorem VsS.below {w w' : World} {a : Option Addr} {V : List Vr} (h : VsS w a V) (hb : Below w.heap.size w w') : VsS w' a V := fun k hk => by
  obtain ⟨g, o, b, c, h1, h2, h3, h4, h5, h6⟩ := h k hk
  exact ⟨g, o, b, c, h1, Nat.lt_of_lt_of_le h2 hb.size, (hb.cell (p := ⟨g, o + k * 2, none⟩) h2).trans h3, (hb.cell (p := ⟨g, o + k * 2 + 1, none⟩) h2).trans h4, h5.below hb, h6⟩
abbrev NC (x y z : Value) : Obj := .cells #[x, y, z] 29
abbrev VC (x y : Value) : Obj := .cells #[x, y] 47
def NBox (w : World) (g : Nat) (x y z : Value) : Prop := w.heap[g]? = some (.cells #[x, y, z] 29 (0, 0))
theorem NBox.at {w : World} {g : Nat} (hg : w.heap.size = g) (x y z : Value) : NBox (w.alloc (NC x y z)) g x y z := by subst hg; exact heap_alloc_new w _
theorem NBox.lt {w : World} {g : Nat} {x y z : Value} (h : NBox w g x y z) : g < w.heap.size := (Array.getElem?_eq_some_iff.1 h).1
theorem NBox.below {w w' : World} {g b : Nat} {x y z : Value} (h : NBox w g x y z) (hb : Below b w w') (hg : g < b) : NBox w' g x y z := (hb.block g hg).trans h
theorem NBox.cells {w : World} {g : Nat} {x y z : Value} (h : NBox w g x y z) : w.cell? ⟨g, 0, none⟩ = some x ∧ w.cell? ⟨g, 1, none⟩ = some y ∧ w.cell? ⟨g, 2, none⟩ = some z := by
  refine ⟨?_, ?_, ?_⟩ <;> (rw [cell_of_row w g _ _ _ (0, 0) h]; rfl)
theorem vbox_new (w : World) (x y : Value) : (w.alloc (VC x y)).cell? ⟨w.heap.size, 0, none⟩ = some x ∧ (w.alloc (VC x y)).cell? ⟨w.heap.size, 1, none⟩ = some y := by
  have h : (w.alloc (VC x y)).heap[w.heap.size]? = some (.cells #[x, y] 47 (0, 0)) := heap_alloc_new w _
  exact ⟨by rw [cell_of_row _ _ _ _ _ (0, 0) h]; rfl, by rw [cell_of_row _ _ _ _ _ (0, 0) h]; rfl⟩
def sizesN (V : List Vr) : List Nat := V.map fun x => x.2.length
theorem sizesN_length (V : List Vr) : (sizesN V).length = V.length := by simp [sizesN]
theorem sizesN_get {V : List Vr} {i : Nat} (h : i < V.length) : (sizesN V)[i]? = some V[i].2.length := by simp [sizesN, h]
set_option maxRecDepth 100000 in
set_option maxHeartbeats 1000000 in
theorem nSizes_any (a b c : Option Addr) (ca cb cc n m : Nat) (V : List Vr) (w : World) (h : VsS w a V) (hV : V.length ≤ 5000) :
    Calls Tryz.prog 45 #[.agg #[.slice a V.length ca, .slice b n cb, .slice c m cc]] w fun e w' => ∃ G, e = .returned (.slice (some ⟨G, 0, none⟩) V.length V.length) ∧ w.heap.size ≤ G ∧ RowI w' G (sizesN V) ∧ Below w.heap.size w w' := by
  obtain ⟨i0, hi0, hz0, hz1, hz2⟩ := info_parts Tryz.infoInt
  have HF := hid h
  have HG : Hid (∀ i (h : i < V.length), (sizesN V)[i]? = some V[i].2.length) := fun i h => sizesN_get h
  have hsl := sizesN_length V
  generalize sizesN V = ds at *
  clear h
  have hN := NBox.at (w := w) rfl (.slice a V.length ca) (.slice b n cb) (.slice c m cc)
  have hB0 := (Below.refl _ w).alloc (Nat.le_refl _) (NC (.slice a V.length ca) (.slice b n cb) (.slice c m cc))
  obtain ⟨c0, -, -⟩ := hN.cells
  have hlt0 := hN.lt
  go_enter Tryz.func45, Tryz.ntmps45
  go_upto_region 1 with fail
  generalize (w.alloc (NC (.slice a V.length ca) (.slice b n cb) (.slice c m cc))) = w1 at *
  go_wp2_with (first
    | (at_make; refine wpList_make_full _ rfl _ _ 22 rfl w1.heap.size 3 i0 (.int .i64 0) 1 Tryz.underlying22 hi0 hz0 hz1 .i64 .i64 _ _ V.length rfl rfl (by go_num) (by go_num) (by rw [hz2]; omega) (by unfold maxLen; omega) (Nat.le_refl _) ?_; intro w2 hown2 hgrow2; have hB2 : Below w1.heap.size w1 w2 := (Below.refl _ w1).grown hgrow2 (Nat.le_refl _) (fun k e => by cases e); have c0' := (hN.below hB2 hlt0).cells.1; clear c0))
  have hb2 := block_of_own hown2
  rw [made_ints] at hb2
  have HI : Hid (RowI w2 w1.heap.size (List.replicate V.length 0)) := hb2
  have HB2 : Hid (Below w.heap.size w w2) := hB0.trans (hB2.mono hB0.size)
  have hG := hB0.size
  clear hown2 hgrow2 hb2 hB2
  clear c0'
  go_loopw [13] (fun iv wr => ∃ i : Nat, i ≤ V.length ∧ iv = .int .i64 i ∧ Hid (RowI wr w1.heap.size (partD ds i)) ∧ Hid (Below w.heap.size w wr)) (fun iv _ => V.length - (intOf iv).toNat)
  case atStart => exact ⟨0, Nat.zero_le _, rfl, by rw [partD_zero, hsl]; exact HI, HB2⟩
  case round =>
    obtain ⟨i, hi, rfl, HR, HB⟩ := hrel
    clear HI HB2
    by_cases hlt : i < V.length
    · obtain ⟨g, o, b', c', rfl, hg, c0, c1, -, -⟩ := (HF.out.below HB.out) i hlt
      obtain ⟨hd1, hd2⟩ := List.getElem?_eq_some_iff.1 (HG.out i hlt)
      have HPS := hid (partD_set ds hd1)
      rw [hd2] at HPS
      generalize V[i] = v at *
      obtain ⟨nm, vs⟩ := v
      simp only at c0 c1 HPS
      obtain ⟨d0, d1⟩ := vbox_new wr (.string nm) (.slice b' vs.length c')
      have hbA := (Below.refl _ wr).alloc (Nat.le_refl _) (VC (.string nm) (.slice b' vs.length c'))
      have hRA := HR.out.below hbA HR.out.lt
      have k0 := hRA.cell i (by rw [partD_length _ (by omega)]; omega)
      have f0 := hRA.fz i
      have hS := hRA.set i vs.length
      rw [HPS.out] at hS
      have HS := hid hS
      have HBS := hid ((HB.out.trans (hbA.mono HB.out.size)).setCell (p := ⟨w1.heap.size, i, none⟩) hG (.int .i64 (vs.length : Nat)))
      generalize (partD ds i)[i]'(by rw [partD_length _ (by omega)]; omega) = z at *
      clear hd1 hd2 hbA hRA hS
      go_wp2
      go_roundw
      case rel => exact ⟨i + 1, by omega, by go_num, HS, HBS⟩
      case measure => simp [intOf]; omega
    · obtain rfl : i = V.length := by omega
      have hfin := HR.out
      rw [← hsl, partD_all] at hfin
      have HFI := hid hfin
      clear hfin
      go_wp2
      go_ret
      exact ⟨w1.heap.size, rfl, hG, HFI.out, HB.out⟩
end Go.Proofs.YtojidhnkpeiimaaGreatDoor

/- Nets: the answer's Sizes; namesOf, checkVars. -/
namespace Go.Proofs.YtojidhnkpeiimaaGreatDoor
open Go.RowKit Go.Shelf
theorem iL_take_succ {l : List Nat} {i x : Nat} (h : l[i]? = some x) : iL (l.take (i + 1)) = iL (l.take i) ++ [(x : Int)] := by
  obtain ⟨h1, h2⟩ := List.getElem?_eq_some_iff.1 h
  rw [List.take_succ_eq_append_getElem h1, h2, iL_append]; rfl
set_option maxRecDepth 100000 in
set_option maxHeartbeats 1000000 in
theorem rSizes_any (a b c : Option Addr) (ca cb cc n m : Nat) (V : List Vr) (w : World) (h : VsS w a V) (hV : V.length ≤ 5000) :
    Calls Tryz.prog 14 #[.agg #[.slice a V.length ca, .slice b n cb, .slice c m cc]] w fun e w' => ∃ x, e = .returned x ∧ RwI w' w.heap.size x (iL (sizesN V)) ∧ Below w.heap.size w w' := by
  obtain ⟨i0, hi0, hz0, hz1, hz2⟩ := info_parts Tryz.infoInt
  have HF := hid h
  have HG : Hid (∀ i (h : i < V.length), (sizesN V)[i]? = some V[i].2.length) := fun i h => sizesN_get h
  have hsl := sizesN_length V
  generalize sizesN V = ds at *
  clear h
  have hN := NBox.at (w := w) rfl (.slice a V.length ca) (.slice b n cb) (.slice c m cc)
  have HB0 := hid ((Below.refl _ w).alloc (Nat.le_refl _) (NC (.slice a V.length ca) (.slice b n cb) (.slice c m cc)))
  go_enter Tryz.func14, Tryz.ntmps14
  go_wp2_with fail
  generalize (w.alloc (NC (.slice a V.length ca) (.slice b n cb) (.slice c m cc))) = w1 at *
  have HN := hid hN
  clear hN
  go_loopw [3, 4] (fun xv iv wr => ∃ i : Nat, i ≤ V.length ∧ iv = .int .i64 i ∧ Hid (RwI wr (w.heap.size + 1) xv (iL (ds.take i))) ∧ Hid (Below (w.heap.size + 1) w1 wr)) (fun _ iv _ => V.length - (intOf iv).toNat)
  case atStart => exact ⟨0, Nat.zero_le _, rfl, ⟨rfl, .inl ⟨rfl, rfl⟩⟩, Below.refl _ _⟩
  case round =>
    obtain ⟨i, hi, rfl, HR, HB⟩ := hrel
    have hN1 := HN.out.below HB.out (by omega)
    obtain ⟨c0, -, -⟩ := hN1.cells
    have hw1 := HN.out.lt
    have HBW : Hid (Below w.heap.size w wr) := HB0.out.trans (HB.out.mono (by omega))
    by_cases hlt : i < V.length
    · obtain ⟨g, o, b', c', rfl, hg, -, c1, -, -⟩ := (HF.out.below HBW.out) i hlt
      have HTS := hid (iL_take_succ (HG.out i hlt))
      have HLE : Hid ((iL (ds.take i)).length ≤ 5000) := by
        show (iL (ds.take i)).length ≤ 5000
        rw [iL_length, List.length_take]; omega
      generalize V[i] = v at *
      obtain ⟨nm, vs⟩ := v
      simp only at c1 HTS
      have HOWN := hid HR.out.own
      have HRA : Hid (RwI (wr.alloc (.cells #[.int .i64 (vs.length : Nat)] 3)) (w.heap.size + 1) _ (iL (ds.take i))) := World.ownsRow.alloc HR.out _
      have hsz : w.heap.size + 1 ≤ wr.heap.size := hN1.lt
      have HBA := hid (HB.out.alloc hsz (.cells #[.int .i64 (vs.length : Nat)] 3))
      have HIA := hid (one_int wr (vs.length : Nat))
      have hsz2 : w.heap.size + 1 ≤ (wr.alloc (.cells #[.int .i64 (vs.length : Nat)] 3)).heap.size := by simp; omega
      clear hN1
      go_wp2_with (at_builtin; refine wpList_append_ints rfl _ _ rfl (w.heap.size + 1) _ (iL (ds.take i)) [((vs.length : Nat) : Int)] rfl HRA.out (some ⟨wr.heap.size, 0, none⟩) 1 rfl HIA.out (fun e => by cases e) (by have := HLE.out; simp; omega) hsz2 ?_; intro v' w3 hr3 hg3)
      have HR3 := hid hr3
      have HB3 := hid (HBA.out.grown hg3 hsz2 HOWN.out)
      clear hr3 hg3
      go_roundw
      case rel => exact ⟨i + 1, by omega, by go_num, by rw [HTS.out]; exact HR3, HB3⟩
      case measure => simp [intOf]; omega
    · obtain rfl : i = V.length := by omega
      have hfin := HR.out
      rw [List.take_of_length_le (by omega)] at hfin
      have HFI := hid (show RwI wr w.heap.size _ (iL ds) from ⟨hfin.1, hfin.2.imp id fun ⟨g, cap, cur, h1, h2, h3⟩ => ⟨g, cap, cur, h1, by omega, h3⟩⟩)
      clear hfin hN1
      go_wp2
      go_ret
      exact ⟨_, rfl, HFI.out, HBW.out⟩
def RowS (w : World) (g : Nat) (l : List ByteArray) : Prop := w.heap[g]? = some (.cells (l.map Value.string).toArray 9 (0, 0))
theorem RowS.cell {w : World} {g : Nat} {l : List ByteArray} (h : RowS w g l) (j : Nat) (hj : j < l.length) : w.cell? ⟨g, j, none⟩ = some (.string l[j]) := by
  rw [cell_of_row w g j _ _ (0, 0) h]
  simp [hj]
theorem RowS.fz {w : World} {g : Nat} {l : List ByteArray} (h : RowS w g l) (j : Nat) : w.frozen? ⟨g, j, none⟩ = false := frozen_of_row w g j _ _ h
theorem RowS.lt {w : World} {g : Nat} {l : List ByteArray} (h : RowS w g l) : g < w.heap.size := (Array.getElem?_eq_some_iff.1 h).1
theorem RowS.below {w w' : World} {g b : Nat} {l : List ByteArray} (h : RowS w g l) (hb : Below b w w') (hg : g < b) : RowS w' g l := (hb.block g hg).trans h
theorem RowS.set {w : World} {g : Nat} {l : List ByteArray} (h : RowS w g l) (j : Nat) (y : ByteArray) : RowS (w.setCell ⟨g, j, none⟩ (.string y)) g (l.set j y) := by
  have h2 := heap_setCell_same w g j _ _ (.string y) h
  rw [RowS, h2]
  simp [List.map_set]
theorem RowS.st {w : World} {g : Nat} {l : List ByteArray} (h : RowS w g l) : StS w (some ⟨g, 0, none⟩) l := fun k hk => ⟨g, 0, rfl, h.lt, by rw [Nat.zero_add]; exact h.cell k hk⟩
theorem made_strs (n : Nat) : (madeCells (Value.string ⟨#[]⟩).cells (n * 1)).toList = (List.replicate n (⟨#[]⟩ : ByteArray)).map Value.string := by
  rw [show (Value.string ⟨#[]⟩).cells = #[Value.string ⟨#[]⟩] from rfl, toList_madeCells_one, Nat.mul_one, List.map_replicate]
theorem Tryz.infoStr : (Tryz.prog.info? 9).map (fun i => (i.zero, i.size, i.bytes)) = some (some (.string ⟨#[]⟩), 1, 16) := by kernel_rfl
def partS (l : List ByteArray) (i : Nat) : List ByteArray := l.take i ++ List.replicate (l.length - i) ⟨#[]⟩
theorem partS_zero (l : List ByteArray) : partS l 0 = List.replicate l.length ⟨#[]⟩ := by simp [partS]
theorem partS_length (l : List ByteArray) {i : Nat} (h : i ≤ l.length) : (partS l i).length = l.length := by simp [partS]; omega
theorem partS_all (l : List ByteArray) : partS l l.length = l := by simp [partS]
theorem partS_set (l : List ByteArray) {i : Nat} (h : i < l.length) : (partS l i).set i l[i] = partS l (i + 1) := by
  have h1 : l.length - i = (l.length - (i + 1)) + 1 := by omega
  have h2 : (l.take i).length = i := by rw [List.length_take]; omega
  rw [partS, partS, h1, List.replicate_succ, List.set_append_right _ _ (by omega), h2, Nat.sub_self, List.set_cons_zero, List.take_succ_eq_append_getElem h, List.append_assoc]
  rfl
def namesV (V : List Vr) : List ByteArray := V.map fun x => x.1
theorem namesV_length (V : List Vr) : (namesV V).length = V.length := by simp [namesV]
theorem namesV_get {V : List Vr} {i : Nat} (h : i < V.length) : (namesV V)[i]? = some V[i].1 := by simp [namesV, h]
set_option maxRecDepth 100000 in
set_option maxHeartbeats 1000000 in
theorem namesOf_any (a : Option Addr) (ca : Nat) (V : List Vr) (w : World) (h : VsS w a V) (hV : V.length ≤ 5000) :
    Calls Tryz.prog 44 #[.slice a V.length ca] w fun e w' => ∃ G, e = .returned (.slice (some ⟨G, 0, none⟩) V.length V.length) ∧ RowS w' G (namesV V) ∧ Below w.heap.size w w' := by
  obtain ⟨i0, hi0, hz0, hz1, hz2⟩ := info_parts Tryz.infoStr
  have HF := hid h
  have HG : Hid (∀ i (h : i < V.length), (namesV V)[i]? = some V[i].1) := fun i h => namesV_get h
  have hsl := namesV_length V
  generalize namesV V = ds at *
  clear h
  go_enter Tryz.func44, Tryz.ntmps44
  go_wp2_with (first
    | (at_make; refine wpList_make_full _ rfl _ _ 44 rfl w.heap.size 9 i0 (.string ⟨#[]⟩) 1 Tryz.underlying44 hi0 hz0 hz1 .i64 .i64 _ _ V.length rfl rfl (by go_num) (by go_num) (by rw [hz2]; omega) (by unfold maxLen; omega) (Nat.le_refl _) ?_; intro w2 hown2 hgrow2))
  have hb2 := block_of_own hown2
  rw [made_strs] at hb2
  have HB2 : Hid (Below w.heap.size w w2) := (Below.refl _ w).grown hgrow2 (Nat.le_refl _) (fun k e => by cases e)
  have HI : Hid (RowS w2 w.heap.size (List.replicate V.length ⟨#[]⟩)) := hb2
  clear hown2 hgrow2 hb2
  go_wp2_with fail
  go_loopw [11] (fun iv wr => ∃ i : Nat, i ≤ V.length ∧ iv = .int .i64 i ∧ Hid (RowS wr w.heap.size (partS ds i)) ∧ Hid (Below w.heap.size w wr)) (fun iv _ => V.length - (intOf iv).toNat)
  case atStart => exact ⟨0, Nat.zero_le _, rfl, by rw [partS_zero, hsl]; exact HI, HB2⟩
  case round =>
    obtain ⟨i, hi, rfl, HR, HB⟩ := hrel
    clear HI HB2
    by_cases hlt : i < V.length
    · obtain ⟨g, o, b', c', rfl, hg, c0, c1, -, -⟩ := (HF.out.below HB.out) i hlt
      obtain ⟨hd1, hd2⟩ := List.getElem?_eq_some_iff.1 (HG.out i hlt)
      have HPS := hid (partS_set ds hd1)
      rw [hd2] at HPS
      generalize V[i] = v at *
      obtain ⟨nm, vs⟩ := v
      simp only at c0 c1 HPS
      obtain ⟨d0, d1⟩ := vbox_new wr (.string nm) (.slice b' vs.length c')
      have hbA := (Below.refl _ wr).alloc (Nat.le_refl _) (VC (.string nm) (.slice b' vs.length c'))
      have hRA := HR.out.below hbA HR.out.lt
      have k0 := hRA.cell i (by rw [partS_length _ (by omega)]; omega)
      have f0 := hRA.fz i
      have hS := hRA.set i nm
      rw [HPS.out] at hS
      have HS := hid hS
      have HBS := hid ((HB.out.trans (hbA.mono HB.out.size)).setCell (p := ⟨w.heap.size, i, none⟩) (Nat.le_refl _) (.string nm))
      generalize (partS ds i)[i]'(by rw [partS_length _ (by omega)]; omega) = z at *
      clear hd1 hd2 hbA hRA hS
      go_wp2
      go_roundw
      case rel => exact ⟨i + 1, by omega, by go_num, HS, HBS⟩
      case measure => simp [intOf]; omega
    · obtain rfl : i = V.length := by omega
      have hfin := HR.out
      rw [← hsl, partS_all] at hfin
      have HFI := hid hfin
      clear hfin
      go_wp2
      go_ret
      exact ⟨w.heap.size, rfl, HFI.out, HB.out⟩
end Go.Proofs.YtojidhnkpeiimaaGreatDoor

/- Nets: checkVars. -/
namespace Go.Proofs.YtojidhnkpeiimaaGreatDoor
open Go.RowKit Go.Shelf
def varE (V : List Vr) (i : Nat) : Int := if 1 ≤ (V.getD i (⟨#[]⟩, [])).2.length ∧ (V.getD i (⟨#[]⟩, [])).2.length ≤ 4 then namesE (V.getD i (⟨#[]⟩, [])).2 else 2
def varsE (V : List Vr) : Int := if namesE (namesV V) = 0 then firstE (varE V) V.length else namesE (namesV V)
theorem getV {V : List Vr} {i : Nat} (h : i < V.length) : V.getD i (⟨#[]⟩, []) = V[i] := by rw [List.getD_eq_getElem?_getD, List.getElem?_eq_getElem h]; rfl
def VSm (V : List Vr) : Prop := V.length ≤ 5000 ∧ ∀ x ∈ V, x.1.size ≤ 5000 ∧ x.2.length ≤ 5000 ∧ ∀ s ∈ x.2, s.size ≤ 5000
theorem varE_lim {V : List Vr} {i : Nat} (h : i < V.length) (e : ¬ (1 ≤ V[i].2.length ∧ V[i].2.length ≤ 4)) : varE V i = 2 := by rw [varE, getV h, if_neg e]
theorem varE_names {V : List Vr} {i : Nat} (h : i < V.length) (e : 1 ≤ V[i].2.length ∧ V[i].2.length ≤ 4) : varE V i = namesE V[i].2 := by rw [varE, getV h, if_pos e]
set_option maxRecDepth 100000 in
set_option maxHeartbeats 1000000 in
theorem checkVars_any (a : Option Addr) (ca : Nat) (V : List Vr) (w : World) (h : VsS w a V) (hs : VSm V) :
    Calls Tryz.prog 24 #[.slice a V.length ca] w fun e w' => e = .returned (.int .i64 (varsE V)) ∧ Below w.heap.size w w' := by
  have HF := hid h
  have HSM := hid hs
  have hV := hs.1
  have HE1 : Hid (namesE (namesV V) ≠ 0 → varsE V = namesE (namesV V)) := fun h => if_neg h
  have HE2 : Hid (namesE (namesV V) = 0 → varsE V = firstE (varE V) V.length) := fun h => if_pos h
  have hnl := namesV_length V
  have HNS : Hid (∀ s ∈ namesV V, s.size ≤ 140737488355328) := fun s hs' => by
    obtain ⟨x, hx, rfl⟩ := List.mem_map.1 hs'
    have := (hs.2 x hx).1
    omega
  have HNO := hid (fun (V' : World) (hV' : VsS V' a V) => namesOf_any a ca V V' hV' hV)
  have HCN : Hid (∀ (G : Nat) (V' : World), RowS V' G (namesV V) → Calls Tryz.prog 43 #[.slice (some ⟨G, 0, none⟩) V.length V.length] V' fun e w' => e = .returned (.int .i64 (namesE (namesV V))) ∧ w' = V') := fun G V' hR => by
    have := checkNames_any (some ⟨G, 0, none⟩) V.length (namesV V) V' hR.st (by omega) (by omega) HNS.out
    rwa [hnl] at this
  generalize varsE V = ve at *
  generalize namesE (namesV V) = ne at *
  clear h hs hnl HNS
  go_enter Tryz.func24, Tryz.ntmps24
  go_wp2_with fail
  refine (HNO.out _ HF.out).mono ?_
  rintro e w1 ⟨G, rfl, hR, hb1⟩
  have HR := hid hR
  have HB1 := hid hb1
  clear hR hb1 HNO
  go_wp2_with fail
  refine (HCN.out G _ HR.out).mono ?_
  rintro e w2 ⟨rfl, rfl⟩
  by_cases h0 : ne = 0
  · subst h0
    have HE := hid (HE2.out rfl)
    clear HE1 HE2 HCN HR
    have HA : Hid (∀ i, i < V.length → (∀ j, j < i → varE V j = 0) → ∀ k, varE V i = k → k ≠ 0 → ve = k) := fun i hi hz k hk hk0 => by rw [HE.out, firstE_at hz (by rw [hk]; exact hk0) hi, hk]
    have HZ : Hid ((∀ j, j < V.length → varE V j = 0) → ve = 0) := fun h => by rw [HE.out]; exact firstE_none h
    have HL := hid (fun i h e => varE_lim (V := V) (i := i) h e)
    have HN := hid (fun i h e => varE_names (V := V) (i := i) h e)
    go_wp2_with fail
    go_loopw [15] (fun iv wr => ∃ i : Nat, i ≤ V.length ∧ iv = .int .i64 i ∧ Hid (∀ j, j < i → varE V j = 0) ∧ Hid (Below w.heap.size w wr)) (fun iv _ => V.length - (intOf iv).toNat)
    case atStart => exact ⟨0, Nat.zero_le _, rfl, fun j h => absurd h (by omega), HB1⟩
    case round =>
      obtain ⟨i, hi, rfl, HZI, HB⟩ := hrel
      clear HB1
      by_cases hlt : i < V.length
      · obtain ⟨g, o, b', c', rfl, hg, c0, c1, hSt, hcap⟩ := (HF.out.below HB.out) i hlt
        have hsm := HSM.out.2 V[i] (List.getElem_mem hlt)
        have HLi := hid (fun e => HA.out i hlt HZI.out 2 (HL.out i hlt e) (by decide))
        have HNi := hid (fun e k hk hk0 => HA.out i hlt HZI.out k ((HN.out i hlt e).trans hk) hk0)
        have HZi := hid (fun e (hk : namesE V[i].2 = 0) => zero_upto HZI.out ((HN.out i hlt e).trans hk))
        generalize V[i] = v at *
        obtain ⟨nm, vs⟩ := v
        simp only at c0 c1 hSt hcap hsm HLi HNi HZi
        obtain ⟨d0, d1⟩ := vbox_new wr (.string nm) (.slice b' vs.length c')
        have hbA := (Below.refl _ wr).alloc (Nat.le_refl _) (VC (.string nm) (.slice b' vs.length c'))
        have HBA := hid (HB.out.trans (hbA.mono HB.out.size))
        have HST := hid (hSt.below hbA)
        have HVS := hid hsm.2.2
        have hvl := hsm.2.1
        clear hbA hsm hSt
        by_cases h1 : 1 ≤ vs.length
        · by_cases h4 : vs.length ≤ 4
          · have e1 : (1 : Int) ≤ (vs.length : Int) := by omega
            have e2 : (vs.length : Int) ≤ 4 := by omega
            have HNN := hid (HNi.out ⟨h1, h4⟩)
            have HZZ := hid (HZi.out ⟨h1, h4⟩)
            clear HLi HNi HZi
            go_wp2_with fail
            refine (checkNames_any b' c' vs _ HST.out (by omega) hcap (fun s hs' => by have := HVS.out s hs'; omega)).mono ?_
            rintro e w3 ⟨rfl, rfl⟩
            generalize namesE vs = q at *
            by_cases hq : q = 0
            · subst hq
              have HZ2 := hid (HZZ.out rfl)
              go_wp2
              go_roundw
              case rel => exact ⟨i + 1, by omega, by go_num, HZ2, HBA⟩
              case measure => simp [intOf]; omega
            · have HQ := hid (HNN.out q rfl hq)
              have hqb : (q == 0) = false := by simpa using hq
              clear hq
              go_wp2
              go_ret
              exact ⟨by rw [HQ.out]; rfl, HBA.out⟩
          · have HQ := hid (HLi.out fun h => h4 h.2)
            have e1 : (1 : Int) ≤ (vs.length : Int) := by omega
            have e2 : (4 : Int) < (vs.length : Int) := by omega
            clear h4 HLi HNi HZi
            go_wp2
            go_ret
            exact ⟨by rw [HQ.out]; rfl, HBA.out⟩
        · have HQ := hid (HLi.out fun h => h1 h.1)
          have e1 : (vs.length : Int) < 1 := by omega
          clear h1 HLi HNi HZi
          go_wp2
          go_ret
          exact ⟨by rw [HQ.out]; rfl, HBA.out⟩
      · obtain rfl : i = V.length := by omega
        have HQ := hid (HZ.out HZI.out)
        go_wp2
        go_ret
        exact ⟨by rw [HQ.out]; rfl, HB.out⟩
  · have HE := hid (HE1.out h0)
    have hnb : (ne == 0) = false := by simpa using h0
    clear h0 HE1 HE2
    go_wp2
    go_ret
    exact ⟨by rw [HE.out]; rfl, HB1.out⟩
end Go.Proofs.YtojidhnkpeiimaaGreatDoor
