/- Lists of ints: clones, what is in them, lists without one. -/
import Derived.Test.YtockhhleapbpiaaStandAToBestA
import Derived.Test.YtockhhleapbpiaaShelf
import Derived.Sort.OwnSortedInts
import Derived.Lib.AppendZerosOnto
import Derived.Laws.AppendOwnNone
import Derived.Laws.EntriesVeiled
import Derived.Shelf.Slices.CompactI
namespace Go.Proofs.Ytockhhleapbpiaa
open Go.RowKit Go.Shelf Go.Sort Go.Lib

/-- A list's place is new, and an empty one has no room. -/
def NewS (B : Nat) (b : Option Addr) (cb : Nat) : Prop := (b = none → cb = 0) ∧ ∀ g o, b = some ⟨g, o, none⟩ → B ≤ g
theorem NewS.up {B C : Nat} {b : Option Addr} {cb : Nat} (h : NewS B b cb) (hC : C ≤ B) : NewS C b cb := ⟨h.1, fun g o e => Nat.le_trans hC (h.2 g o e)⟩
theorem NewS.nil (B : Nat) : NewS B Option.none 0 := ⟨fun _ => rfl, fun g o e => by cases e⟩
theorem NewS.at {B G cb : Nat} (h : B ≤ G) : NewS B (Option.some ⟨G, 0, Option.none⟩) cb := ⟨(fun e => by cases e), fun g o e => by cases e; exact h⟩
/-- A list of ints in memory of its own. -/
def RwI (w : World) (B : Nat) (v : Value) (l : List Int) : Prop := w.ownsRow B 3 1 v l.length (l.map (Value.int .i64))
theorem RwI.cases {w : World} {B : Nat} {v : Value} {l : List Int} (h : RwI w B v l) : (v = .slice none 0 0 ∧ l = []) ∨ ∃ g cap, v = .slice (some ⟨g, 0, none⟩) l.length cap ∧ B ≤ g ∧ g < w.heap.size ∧ l.length ≤ cap ∧ cap ≤ maxLen ∧ Holds (Value.int .i64) w g 0 l.toArray := by
  rcases h.2 with ⟨h1, h2⟩ | ⟨g, cap, cur, h1, h2, h3, h4, h5, h6, h7⟩
  · exact .inl ⟨h1, List.length_eq_zero_iff.1 h2⟩
  · refine .inr ⟨g, cap, h1, h2, (Array.getElem?_eq_some_iff.1 h3).1, h4, h5, fun j hj => ?_⟩
    have hj' : j < l.length := by simpa using hj
    refine ⟨?_, frozen_of_row w g _ _ _ h3⟩
    rw [Nat.zero_add, cell_of_row w g j _ _ (0, 0) h3]
    have e : cur[j]? = (cur.toList.take (l.length * 1))[j]? := by
      rw [List.getElem?_take, if_pos (by omega), Array.getElem?_toList]
    rw [e, h7, List.getElem?_map, List.getElem?_eq_getElem hj']
    simp [hj']
theorem holds_ints {w : World} {g : Nat} {d : Array Int} {l : List Int} (h : Holds (Value.int .i64) w g 0 d) (hg : g < w.heap.size) (hl : ∀ j (hj : j < l.length), ∃ hd : j < d.size, d[j] = l[j]) : IntS w (some ⟨g, 0, none⟩) l := fun k hk => by
  obtain ⟨hd, e⟩ := hl k hk
  refine ⟨g, 0, rfl, hg, ?_⟩
  have := (h k hd).1
  rw [getElem!_pos d k hd, e] at this
  exact this
theorem RwI.ints {w : World} {B : Nat} {v : Value} {l : List Int} (h : RwI w B v l) : ∃ d cd, v = .slice d l.length cd ∧ IntS w d l := by
  rcases h.cases with ⟨rfl, rfl⟩ | ⟨g, cap, rfl, _, hg, _, _, hh⟩
  · exact ⟨none, 0, rfl, fun k hk => absurd hk (by simp)⟩
  · exact ⟨_, _, rfl, holds_ints hh hg fun j hj => ⟨by simpa using hj, by simp⟩⟩
theorem intS_cells {w : World} {b o : Nat} {l : List Int} (h : IntS w (some ⟨b, o, none⟩) l) : ∀ j, j < l.length → w.cell? ⟨b, o + j, none⟩ = some (.int .i64 (l.getD j 0)) := fun j hj => by
  obtain ⟨g, o', e, _, hc⟩ := h j hj
  cases e
  rw [hc, List.getD_eq_getElem?_getD, List.getElem?_eq_getElem hj]
  rfl
theorem slClone_any (b : Option Addr) (cb : Nat) (l : List Int) (w : World) (h : IntS w b l) (hn : l.length ≤ 1000000) :
    Calls Try.prog 83 #[.slice b l.length cb] w fun e w' => ∃ v, e = .returned v ∧ RwI w' w.heap.size v l ∧ Below w.heap.size w w' := by
  cases b with
  | none =>
    have hl : l = [] := by
      cases l with
      | nil => rfl
      | cons x l => obtain ⟨g, o, e, _⟩ := h 0 (by simp); cases e
    subst hl
    refine (Try.slices_Clone_int_nil 0 cb w).mono ?_
    rintro e w' ⟨rfl, rfl⟩
    exact ⟨_, rfl, ⟨rfl, .inl ⟨rfl, rfl⟩⟩, Below.refl _ _⟩
  | some a =>
    cases l with
    | nil =>
      refine (Try.slices_Clone_int_zero a cb w).mono ?_
      rintro e w' ⟨v, rfl, hr, _, hb⟩
      exact ⟨v, rfl, hr, hb⟩
    | cons x l =>
      obtain ⟨g, o, e, _⟩ := h 0 (by simp)
      cases e
      refine (Try.slices_Clone_int g o (x :: l).length cb (x :: l) w (Nat.le_refl _) (by omega) (intS_cells h)).mono ?_
      rintro e w' ⟨v, rfl, hr, _, hb⟩
      rw [List.take_length] at hr
      exact ⟨v, rfl, hr, hb⟩

theorem slContains_any (b : Option Addr) (cb : Nat) (l : List Int) (x : Int) (w : World) (h : IntS w b l) (hn : l.length ≤ 140737488355328) :
    Calls Try.prog 85 #[.slice b l.length cb, .int .i64 x] w fun e w' => e = .returned (.bool (l.contains x)) ∧ Below w.heap.size w w' := by
  cases l with
  | nil =>
    refine (Try.slices_Contains_int_empty b cb x w).mono ?_
    rintro e w' ⟨rfl, rfl⟩
    exact ⟨rfl, Below.refl _ _⟩
  | cons y l =>
    obtain ⟨g, o, rfl, _⟩ := h 0 (by simp)
    refine (Try.slices_Contains_int g o (y :: l).length cb (y :: l) x w (Nat.le_refl _) (by omega) (intS_cells h)).mono ?_
    rintro e w' ⟨rfl, rfl⟩
    rw [List.take_length]
    exact ⟨rfl, Below.refl _ _⟩

set_option maxRecDepth 100000 in
theorem slDelete_none (fv : Value) (w : World) : Calls Try.prog 82 #[.slice none 0 0, fv] w fun e w' => e = .returned (.slice none 0 0) ∧ Below w.heap.size w w' := by
  go_enter Try.func82, Try.ntmps82
  go_wp2_with fail
  refine (Try.slices_IndexFunc_empty (α := Int) none 0 fv w).mono ?_
  rintro e w1 ⟨rfl, rfl⟩
  go_wp2
  go_ret
  exact ⟨rfl, Below.refl _ _⟩
theorem below_sorted {B g n : Nat} {a w : World} {os : Array Obj} (d : Array Int) (h : Below B a w) (hw : B ≤ w.heap.size) (hg : B ≤ g) : Below B a (grow (putRow (Value.int .i64) (Sort.ahead w n) g 0 d) os) :=
  h.grown (grownBy_sortedI d) hw fun k e => by cases e; exact hg
theorem below_put_row {B g n : Nat} {a w : World} (d : Array Int) (h : Below B a w) (hw : B ≤ w.heap.size) (hg : B ≤ g) : Below B a (putRow (Value.int .i64) (Sort.ahead w n) g 0 d) := by
  have := below_sorted (n := n) (os := #[]) d h hw hg
  rwa [grow_empty] at this

end Go.Proofs.Ytockhhleapbpiaa


/- Tables as answers. -/
namespace Go.Proofs.Ytockhhleapbpiaa
open Go.RowKit Go.Shelf

/-- A table and an error are answered. -/
def TabA (vars : List Int) (l : List Fr) (k : Int) (e : Ending) (w' : World) : Prop := ∃ (b c : Option Addr) (cb cc : Nat), e = .returned (.tuple #[.agg #[.slice b vars.length cb, .slice c l.length cc], .int .i64 k]) ∧ IntS w' b vars ∧ FrS w' c l
/-- A table that may be handed on: its lists are new. -/
def TabA2 (B : Nat) (vars : List Int) (l : List Fr) (k : Int) (e : Ending) (w' : World) : Prop := ∃ (b c : Option Addr) (cb cc : Nat), e = .returned (.tuple #[.agg #[.slice b vars.length cb, .slice c l.length cc], .int .i64 k]) ∧ IntS w' b vars ∧ FrS w' c l ∧ NewS B b cb ∧ NewS B c cc
theorem TabA2.weak {B : Nat} {vars : List Int} {l : List Fr} {k : Int} {e : Ending} {w' : World} (h : TabA2 B vars l k e w') : TabA vars l k e w' := by
  obtain ⟨b, c, cb, cc, h1, h2, h3, _⟩ := h
  exact ⟨b, c, cb, cc, h1, h2, h3⟩
theorem TabA.empty (k : Int) (w : World) : TabA [] [] k (.returned (.tuple #[.agg #[.slice none 0 0, .slice none 0 0], .int .i64 k])) w := ⟨none, none, 0, 0, rfl, fun k hk => absurd hk (by simp), fun k hk => absurd hk (by simp)⟩
/-- Neither ints nor fractions lie in a table's block. -/
def SlV (v : Value) : Prop := ∃ a n c, v = Value.slice a n c
theorem slv (a : Option Addr) (n c : Nat) : SlV (.slice a n c) := ⟨a, n, c, rfl⟩
theorem below_put2 {B : Nat} {a w : World} (h : Below B a w) {g : Nat} (hg : B ≤ g) (u v : Value) : Below B a ((w.setCell ⟨g, 0, none⟩ u).setCell ⟨g, 1, none⟩ v) := (h.setCell hg u).setCell hg v

end Go.Proofs.Ytockhhleapbpiaa


/- Lists of ints: slices.Grow of nothing, slices.Concat of two. -/
namespace Go.Proofs.Ytockhhleapbpiaa
open Go.RowKit Go.Shelf

set_option maxRecDepth 100000 in
set_option maxHeartbeats 400000 in
theorem slGrow_nil (n : Nat) (hn : n ≤ 100000) (w : World) :
    Calls Try.prog 93 #[.slice none 0 0, .int .i64 (n : Nat)] w fun e w' => ∃ v, e = .returned v ∧ RwI w' w.heap.size v [] ∧ Below w.heap.size w w' := by
  obtain ⟨i0, hi0, hz0, hz1, hz2⟩ := info_parts Try.infoInt
  by_cases h : n = 0
  · subst h
    go_enter Try.func93, Try.ntmps93
    go_wp2
    go_ret
    exact ⟨_, rfl, ⟨rfl, .inl ⟨rfl, rfl⟩⟩, Below.refl _ _⟩
  · have hold : (Builtin.firstCells i0.size 0 (.slice none 0 0)).run Try.prog w.drew = .ok ([] : List Value).toArray w.drew := run_firstCells_none w.drew i0.size 0 0 0
    have hrz : ∀ ty, (Builtin.append_ #[23, 3] ty #[.slice none 0 0, .int .i64 (n : Int)]).run Try.prog w = .ok (.slice (some ⟨w.heap.size, 0, none⟩) (0 + n) (grownCap w (0 + n) 0 3)) (w.drew.alloc (.cells (([] : List Value).toArray ++ Builtin.zeroCells (Value.int .i64 0).cells n ++ Builtin.zeroCells (Value.int .i64 0).cells (grownCap w (0 + n) 0 3 - (0 + n))) 3)) := fun ty =>
      Lib.run_append_grow_zeros w 23 3 ty 3 i0 (.int .i64 0) .i64 .i64 Try.underlying23 Try.underlying3 hi0 hz0 none 0 0 [] hold n (by omega) (by omega) (by omega) (by omega) (by rw [hz2]; omega) (growslice_fits (by omega) (by rw [hz2]; omega))
    have hGn : 0 + n ≤ grownCap w (0 + n) 0 3 := grownCap_ge w _ _ _
    have hGm := grownCap_le_maxLen w (0 + n) 0 3 (by unfold maxLen; omega)
    rw [Nat.zero_add] at hrz hGn hGm
    obtain ⟨G, hG⟩ : ∃ G, G = grownCap w n 0 3 := ⟨_, rfl⟩
    rw [← hG] at hrz hGn hGm
    have HGM := hid hGm
    have hG63 : G ≤ 9223372036854775807 := by unfold maxLen at hGm; omega
    have hn0 : (0 : Int) < (n : Int) := by omega
    clear hold hG hGm
    go_enter Try.func93, Try.ntmps93
    go_wp2_with (at_builtin; refine Lib.wpList_append_run _ rfl _ _ _ _ rfl _ _ rfl rfl _ _ (hrz _) ?_)
    go_ret
    refine ⟨_, rfl, ⟨rfl, .inr ⟨w.heap.size, G, _, rfl, Nat.le_refl _, heap_alloc_new w.drew _, Nat.zero_le _, HGM.out, ?_, by simp⟩⟩, ((Below.refl _ w).drew).alloc (Nat.le_refl _) _⟩
    simp [size_zeroCells]
    omega
theorem wpList_append_ints {w : World} {ops : Array Oper} {rest : List Oper} {o : Oper} {a : Act} {Q : Exit → Act → World → Prop} (hgd : o.guard = none) (s x : Operand)
    (ho : o.op = .call { callee := .builtin .append, args := #[s, x], argTypes := #[23, 23] }) (base : Nat) (v : Value) (xs la : List Int) (hs : a.eval s = v) (hown : RwI w base v xs) (p : Option Addr) (ca : Nat) (hx : a.eval x = .slice p la.length ca) (hi : IntS w p la) (hp : p = none → ca = 0) (hlen : xs.length + la.length ≤ 100000) (hbase : base ≤ w.heap.size)
    (h : ∀ v' w', RwI w' base v' (xs ++ la) → w.grownBy w' v.ownBlock → wpList Try.prog ops Q rest (a.put o.dst v') w') : wpList Try.prog ops Q (o :: rest) a w := by
  obtain ⟨i0, hi0, hz0, hz1, hz2⟩ := info_parts Try.infoInt
  cases p with
  | none =>
    have hl : la = [] := by
      cases la with
      | nil => rfl
      | cons x l => obtain ⟨g, o, e, _⟩ := hi 0 (by simp); cases e
    subst hl
    have h0 := hp rfl
    subst h0
    have h1 := h v w (by rw [List.append_nil]; exact hown) ⟨rfl, rfl, rfl, Nat.le_refl _, fun _ _ _ => rfl⟩
    exact wpList_append_own_none hgd s x 23 ho base 3 i0 1 Try.underlying23 hi0 v xs.length _ hs hown hx h1
  | some ad =>
    refine wpList_append_own _ hgd s x 23 ho base 3 i0 (.int .i64 0) 1 8 Try.underlying23 hi0 hz0 hz1 hz2 rfl (by decide) v xs.length _ hs hown ad la.length ca (la.map (Value.int .i64)) hx (by simp) ?_ ?_ (by unfold maxLen; omega) (by omega) hbase ?_
    · intro j u hj
      rw [List.getElem?_map] at hj
      cases hq : la[j]? with
      | none => rw [hq] at hj; cases hj
      | some z =>
        rw [hq] at hj
        cases hj
        obtain ⟨hj1, hj2⟩ := List.getElem?_eq_some_iff.1 hq
        obtain ⟨g, o', e, _, hc⟩ := hi j hj1
        cases e
        rw [← hj2]
        rw [Addr.add]
        by_cases h0 : j = 0
        · subst h0; simpa using hc
        · simpa [h0] using hc
    · intro u hu
      obtain ⟨z, _, rfl⟩ := List.mem_map.1 hu
      rfl
    · intro v' w' h1 h2 _
      refine h v' w' ?_ h2
      rw [RwI, List.length_append, List.map_append]
      exact h1

/-- The first so many of two lists. -/
def firstOf (la lb : List Int) (i : Nat) : List Int := if i = 0 then [] else if i = 1 then la else la ++ lb
theorem RwI.own {w : World} {B : Nat} {v : Value} {l : List Int} (h : RwI w B v l) : ∀ k, v.ownBlock = some k → B ≤ k := by
  intro k hk
  rcases h.2 with ⟨rfl, _⟩ | ⟨g, cap, cur, rfl, h2, _⟩
  · cases hk
  · cases hk
    exact h2

theorem firstOf_len {la lb : List Int} (hla : la.length ≤ 1000) (hlb : lb.length ≤ 1000) (i : Nat) : (firstOf la lb i).length ≤ 2000 := by
  rw [firstOf]
  by_cases h : i = 0
  · rw [if_pos h]; simp
  · rw [if_neg h]
    by_cases h1 : i = 1
    · rw [if_pos h1]; omega
    · rw [if_neg h1, List.length_append]; omega

set_option maxRecDepth 100000 in
set_option maxHeartbeats 800000 in
theorem slConcat_any (R : Nat) (a b : Option Addr) (ca cb : Nat) (la lb : List Int) (w : World) (hR : R < w.heap.size) (r0 : w.cell? ⟨R, 0, none⟩ = some (.slice a la.length ca)) (r1 : w.cell? ⟨R, 1, none⟩ = some (.slice b lb.length cb)) (ha : IntS w a la) (hb : IntS w b lb) (ha0 : a = none → ca = 0) (hb0 : b = none → cb = 0) (hla : la.length ≤ 1000) (hlb : lb.length ≤ 1000) :
    Calls Try.prog 86 #[.slice (some ⟨R, 0, none⟩) 2 2] w fun e w' => ∃ v, e = .returned v ∧ RwI w' w.heap.size v (la ++ lb) ∧ Below w.heap.size w w' := by
  have one : ∀ i, i < 2 → ∃ (p : Option Addr) (c : Nat) (l : List Int), w.cell? ⟨R, i, none⟩ = some (.slice p l.length c) ∧ IntS w p l ∧ (p = none → c = 0) ∧ l.length ≤ 1000 ∧ firstOf la lb (i + 1) = firstOf la lb i ++ l := by
    intro i hi
    by_cases h : i = 0
    · subst h
      exact ⟨a, ca, la, r0, ha, ha0, hla, by simp [firstOf]⟩
    · obtain rfl : i = 1 := by omega
      exact ⟨b, cb, lb, r1, hb, hb0, hlb, by simp [firstOf]⟩
  have HONE := hid one
  have HFL := hid (fun i => firstOf_len hla hlb i)
  have h2 : firstOf la lb 2 = la ++ lb := by simp [firstOf]
  rw [← h2]
  have hz : firstOf la lb 0 = [] := rfl
  clear one r0 r1 ha hb ha0 hb0 h2 hla hlb
  generalize firstOf la lb = F at *
  go_enter Try.func86, Try.ntmps86
  go_wp2_with fail
  go_loopw [3, 11] (fun sv iv wr => ∃ i : Nat, i ≤ 2 ∧ iv = .int .i64 i ∧ sv = .int .i64 ((F i).length : Nat) ∧ Hid (Below w.heap.size w wr)) (fun _ iv _ => 2 - (intOf iv).toNat)
  case atStart => exact ⟨0, by omega, rfl, by rw [hz]; rfl, Below.refl _ _⟩
  case round =>
    obtain ⟨i, hi, rfl, rfl, HW⟩ := hrel
    by_cases hlt : i < 2
    · obtain ⟨p, c, l, hc, hI, hp, hl, hf⟩ := HONE.out i hlt
      have hcw := (HW.out.cell (p := ⟨R, i, none⟩) hR).trans hc
      have hfl := HFL.out i
      have hw1 : IntKind.i64.wrap (((F i).length : Int) + (l.length : Int)) = ((F i).length : Int) + (l.length : Int) := by rw [IntKind.wrap_i64]; omega
      have HE : Hid (((F (i + 1)).length : Int) = ((F i).length : Int) + (l.length : Int)) := by show _ = _; rw [hf, List.length_append]; exact Int.natCast_add _ _
      have hnn : (0 : Int) ≤ ((F i).length : Int) + (l.length : Int) := by omega
      clear hf hc hp hI
      go_wp2
      go_roundw
      case rel => exact ⟨i + 1, by omega, by go_num, by rw [HE.out], HW⟩
      case measure => simp [intOf]; omega
    · obtain rfl : i = 2 := by omega
      have hfl := HFL.out 2
      go_wp2_with fail
      refine (slGrow_nil (F 2).length (by omega) _).mono ?_
      rintro e w1 ⟨v1, rfl, hr1, hb1⟩
      have HB1 := hid (HW.out.trans (hb1.mono HW.out.size))
      have HR1 : Hid (∀ b, b ≤ wr.heap.size → RwI w1 b v1 []) := fun b hb => ⟨hr1.1, hr1.2.imp id (fun ⟨g, cap, cur, h1, h2, h3⟩ => ⟨g, cap, cur, h1, Nat.le_trans hb h2, h3⟩)⟩
      have HR := hid (HR1.out w.heap.size HW.out.size)
      clear hr1 hb1 HR1
      go_wp2_with fail
      go_loopw [6, 27] (fun sv iv wr => ∃ i : Nat, i ≤ 2 ∧ iv = .int .i64 i ∧ Hid (RwI wr w.heap.size sv (F i)) ∧ Hid (Below w.heap.size w wr)) (fun _ iv _ => 2 - (intOf iv).toNat)
      case atStart => exact ⟨0, by omega, rfl, by rw [hz]; exact HR, HB1⟩
      case round =>
        obtain ⟨i, hi, rfl, HRR, HWW⟩ := hrel
        by_cases hlt : i < 2
        · obtain ⟨p, c, l, hc, hI, hp, hl, hf⟩ := HONE.out i hlt
          have hcw := (HWW.out.cell (p := ⟨R, i, none⟩) hR).trans hc
          have hfl := HFL.out i
          have HI := hid (hI.below HWW.out)
          have HP := hid hp
          have HE := hid hf
          have HOWN := hid HRR.out.own
          clear hf hc hp hI
          go_wp2_with (at_builtin; refine wpList_append_ints rfl _ _ rfl w.heap.size _ (F i) l rfl HRR.out p c rfl HI.out HP.out (by omega) HWW.out.size ?_; intro v' w2 hr2 hg2)
          have HR2 := hid hr2
          have HB2 := hid (HWW.out.grown hg2 HWW.out.size HOWN.out)
          clear hr2 hg2
          go_roundw
          case rel => exact ⟨i + 1, by omega, by go_num, by rw [HE.out]; exact HR2, HB2⟩
          case measure => simp [intOf]; omega
        · obtain rfl : i = 2 := by omega
          go_wp2
          go_ret
          exact ⟨_, rfl, HRR.out, HWW.out⟩
end Go.Proofs.Ytockhhleapbpiaa


/- Package table: the closures of Fix and Out. -/
namespace Go.Proofs.Ytockhhleapbpiaa
open Go.RowKit Go.Shelf

end Go.Proofs.Ytockhhleapbpiaa


/- Package table: Fix. -/
namespace Go.Proofs.Ytockhhleapbpiaa
open Go.RowKit Go.Shelf

theorem up_iff {l : List Int} {n : Nat} : Up l n ↔ (∀ x ∈ l, 0 ≤ x ∧ x < n) ∧ l.Pairwise (· < ·) := by
  constructor
  · intro h
    refine ⟨fun x hx => ?_, List.pairwise_iff_getElem.2 fun i j hi hj hij => h.lt i j hj hij⟩
    obtain ⟨i, hi, rfl⟩ := List.getElem_of_mem hx
    exact h.each i hi
  · rintro ⟨h1, h2⟩
    exact ⟨fun i hi => h1 _ (List.getElem_mem hi), fun i j hj hi => List.pairwise_iff_getElem.1 h2 i j (by omega) hj hi⟩
theorem lessN_up {vars : List Int} {n : Nat} (h : Up vars n) (v : Int) : Up (lessN vars v) n := by
  rw [up_iff] at h ⊢
  exact ⟨fun x hx => h.1 x (List.mem_filter.1 hx).1, h.2.filter _⟩
theorem lessN_out {vars : List Int} {n v : Nat} (h : Up vars n) : ¬ v ∈ toN (lessN vars (v : Int)) := fun hm => by
  obtain ⟨x, hx, e⟩ := List.mem_map.1 hm
  have h1 := (up_iff.1 (lessN_up h v)).1 x hx
  have h2 := (List.mem_filter.1 hx).2
  simp at h2
  omega
theorem fixL_length (S vars rest : List Nat) (v x : Nat) (l : List Fr) : (fixL S vars rest v x l).length = cnt S rest := by simp [fixL]
theorem fixL_get (S vars rest : List Nat) (v x : Nat) (l : List Fr) {k : Nat} (h : k < (fixL S vars rest v x l).length) : (fixL S vars rest v x l)[k] = qF (frQ (celF l (pos S (withV (asg S rest k) v x) vars))) := by simp [fixL]
/-- The place of an assignment with one more value is a place. -/
theorem with_lt {sizes vars rest : List Int} {v x K m : Nat} (hk : checkA sizes vars m = 0) (hK : K < cnt (toN sizes) (toN rest)) (hx : x < sz (toN sizes) v) : pos (toN sizes) (withV (asg (toN sizes) (toN rest) K) v x) (toN vars) < m := by
  obtain ⟨h1, h2, h3⟩ := checkA_parts hk
  rw [h3]
  exact pos_lt _ (withV_lt (fun u => asg_lt h1.pos _ _ u hK) hx) _
end Go.Proofs.Ytockhhleapbpiaa


/- The variables of two tables together. -/
namespace Go.Proofs.Ytockhhleapbpiaa
open Go.RowKit Go.Shelf Go.Sort Go.Lib

theorem rise_extI : ∀ {a b : List Int}, a.Pairwise (· < ·) → b.Pairwise (· < ·) → (∀ x, x ∈ a ↔ x ∈ b) → a = b
  | [], [], _, _, _ => rfl
  | [], y :: b, _, _, h => absurd ((h y).2 List.mem_cons_self) (by simp)
  | x :: a, [], _, _, h => absurd ((h x).1 List.mem_cons_self) (by simp)
  | x :: a, y :: b, ha, hb, h => by
    rw [List.pairwise_cons] at ha hb
    have e : x = y := by
      have h1 := (h x).1 List.mem_cons_self
      have h2 := (h y).2 List.mem_cons_self
      rw [List.mem_cons] at h1 h2
      rcases h1 with h1 | h1
      · exact h1
      · rcases h2 with h2 | h2
        · exact h2.symm
        · have := hb.1 x h1
          have := ha.1 y h2
          omega
    subst e
    rw [rise_extI ha.2 hb.2 fun z => ?_]
    constructor
    · intro hz
      have h1 := (h z).1 (List.mem_cons_of_mem _ hz)
      have := ha.1 z hz
      rw [List.mem_cons] at h1
      rcases h1 with h1 | h1
      · omega
      · exact h1
    · intro hz
      have h1 := (h z).2 (List.mem_cons_of_mem _ hz)
      have := hb.1 z hz
      rw [List.mem_cons] at h1
      rcases h1 with h1 | h1
      · omega
      · exact h1
theorem compact_upto {d : Array Int} (hs : ∀ i j, i ≤ j → j < d.size → d[i]! ≤ d[j]!) : ∀ m, m ≤ d.size → (compactUpTo d m).Pairwise (· < ·) ∧ ∀ x, x ∈ compactUpTo d m ↔ ∃ j, j < m ∧ d[j]! = x
  | 0, _ => ⟨by simp [compactUpTo], fun x => by simp [compactUpTo]⟩
  | m + 1, hm => by
    obtain ⟨h1, h2⟩ := compact_upto hs m (by omega)
    rw [compactUpTo_succ]
    by_cases hk : keeps d m = true
    · rw [if_pos hk]
      constructor
      · rw [List.pairwise_append]
        refine ⟨h1, by simp, fun x hx y hy => ?_⟩
        obtain ⟨j, hj, rfl⟩ := (h2 x).1 hx
        rw [List.mem_singleton] at hy
        subst hy
        rw [keeps, decide_eq_true_iff] at hk
        rcases hk with hk | hk
        · omega
        · have e1 := hs j (m - 1) (by omega) (by omega)
          have e2 := hs (m - 1) m (by omega) (by omega)
          omega
      · intro x
        rw [List.mem_append, h2, List.mem_singleton]
        constructor
        · rintro (⟨j, hj, rfl⟩ | rfl)
          · exact ⟨j, by omega, rfl⟩
          · exact ⟨m, by omega, rfl⟩
        · rintro ⟨j, hj, rfl⟩
          by_cases e : j = m
          · exact .inr (by rw [e])
          · exact .inl ⟨j, by omega, rfl⟩
    · rw [if_neg hk, List.append_nil]
      refine ⟨h1, fun x => ?_⟩
      rw [h2]
      have hk' : ¬ (m = 0 ∨ d[m]! ≠ d[m - 1]!) := fun h => hk (by rw [keeps, decide_eq_true_iff]; exact h)
      have hm0 : m ≠ 0 := fun h => hk' (.inl h)
      have hmm : d[m]! = d[m - 1]! := Classical.byContradiction fun h => hk' (.inr h)
      constructor
      · rintro ⟨j, hj, rfl⟩
        exact ⟨j, by omega, rfl⟩
      · rintro ⟨j, hj, rfl⟩
        by_cases e : j = m
        · exact ⟨m - 1, by omega, by rw [e, hmm]⟩
        · exact ⟨j, by omega, rfl⟩
/-- What together answers. -/
def togL (la lb : List Int) : List Int := Lib.compact ((la ++ lb).mergeSort fun x y => decide (x ≤ y))
theorem togL_rise (la lb : List Int) : (togL la lb).Pairwise (· < ·) ∧ ∀ x, x ∈ togL la lb ↔ x ∈ la ∨ x ∈ lb := by
  have hp : ((la ++ lb).mergeSort fun x y => decide (x ≤ y)).Pairwise (fun x y => decide (x ≤ y) = true) := List.pairwise_mergeSort (fun a b c h1 h2 => by simp at h1 h2 ⊢; omega) (fun a b => by simp; omega) _
  have hm : ∀ x, x ∈ ((la ++ lb).mergeSort fun x y => decide (x ≤ y)) ↔ x ∈ la ∨ x ∈ lb := fun x => by rw [List.mem_mergeSort, List.mem_append]
  rw [togL]
  generalize ((la ++ lb).mergeSort fun x y => decide (x ≤ y)) = zs at hp hm
  have hs : ∀ i j, i ≤ j → j < zs.toArray.size → zs.toArray[i]! ≤ zs.toArray[j]! := fun i j hij hj => by
    have hj' : j < zs.length := by simpa using hj
    rw [getElem!_pos zs.toArray i (by omega), getElem!_pos zs.toArray j hj]
    by_cases e : i = j
    · subst e; exact Int.le_refl _
    · have := List.pairwise_iff_getElem.1 hp i j (by omega) hj' (by omega)
      simpa using this
  obtain ⟨h1, h2⟩ := compact_upto hs zs.toArray.size (Nat.le_refl _)
  have e : Lib.compact zs = compactUpTo zs.toArray zs.toArray.size := by rw [Lib.compact]; simp
  rw [e]
  refine ⟨h1, fun x => ?_⟩
  rw [h2, ← hm]
  constructor
  · rintro ⟨j, hj, rfl⟩
    rw [getElem!_pos zs.toArray j hj]
    simp
  · intro hx
    obtain ⟨j, hj, rfl⟩ := List.getElem_of_mem hx
    exact ⟨j, by simpa using hj, by rw [getElem!_pos zs.toArray j (by simpa using hj)]; simp⟩
theorem togL_nil : togL [] [] = [] := List.eq_nil_iff_forall_not_mem.2 fun x hx => by have := ((togL_rise [] []).2 x).1 hx; simp at this
theorem inB_iff {k : Int} {l : List Int} : inB k l = true ↔ k ∈ l := by simp [inB]
theorem togL_both {la lb : List Int} {n : Nat} (ha : Up la n) (hb : Up lb n) : togL la lb = iL (bothN n la lb) := by
  obtain ⟨h1, h2⟩ := togL_rise la lb
  have ha' := (up_iff.1 ha).1
  have hb' := (up_iff.1 hb).1
  refine rise_extI h1 ?_ fun x => ?_
  · rw [iL, List.pairwise_map]
    exact ((range_rise n).filter _).imp fun h => by omega
  · rw [h2, iL, List.mem_map]
    constructor
    · intro hx
      have hr : 0 ≤ x ∧ x < n := hx.elim (ha' x) (hb' x)
      refine ⟨x.toNat, List.mem_filter.2 ⟨List.mem_range.2 (by omega), ?_⟩, by omega⟩
      rw [Bool.or_eq_true, inB_iff, inB_iff, Int.toNat_of_nonneg hr.1]
      exact hx
    · rintro ⟨v, hv, rfl⟩
      have := (List.mem_filter.1 hv).2
      rw [Bool.or_eq_true, inB_iff, inB_iff] at this
      exact this
theorem togL_up {la lb : List Int} {n : Nat} (ha : Up la n) (hb : Up lb n) : Up (togL la lb) n := by
  obtain ⟨h1, h2⟩ := togL_rise la lb
  exact up_iff.2 ⟨fun x hx => ((h2 x).1 hx).elim ((up_iff.1 ha).1 x) ((up_iff.1 hb).1 x), h1⟩
end Go.Proofs.Ytockhhleapbpiaa

