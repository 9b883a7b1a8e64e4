/- Package table: what Best holds, and its join. -/
import Derived.Test.YtncccbdledcibaaGreatDoorTabP3ToBytesA
import Derived.Test.YtncccbdledcibaaGreatDoorShelf
import Derived.Sort.OwnSortedInts
import Derived.Lib.AppendZerosOnto
import Derived.Laws.AppendOwnNone
import Derived.Test.YtncccbdledcibaaGreatDoorOrdAToNameD
import Derived.WalkMore
namespace Go.Proofs.YtncccbdledcibaaGreatDoor
open Go.RowKit Go.Shelf

theorem results_tmp_cell_tmp {w : World} {g : Nat} {neg : Bool} {num den : ByteArray} (h : Box w g neg num den) {fn : Func} {t p u : Tmp} (hr : fn.results = #[.tmp t, .cell p 37, .tmp u]) (tmps : Array Value) (hp : tmps.getD p undef = .pointer (some ⟨g, 0, none⟩)) :
    (results fn tmps).run Tryz.prog w = .ok (.tuple #[tmps.getD t undef, .agg #[.bool neg, .string num, .string den], tmps.getD u undef]) w := by
  have hp' : tmps[p]?.getD undef = .pointer (some ⟨g, 0, none⟩) := by simpa using hp
  simp [results, hr, hp', asAddr, run_loadVar_row w g _ 37 _ _ _ h Tryz.underlying37 rfl (by kernel_rfl)]
/-- A list of ints does not lie in a fraction's block. -/
theorem IntS.far3 {V : World} {c : Option Addr} {l : List Int} {g : Nat} {n : Bool} {x y : ByteArray} (h : IntS V c l) (hb : Box V g n x y) (j : Nat) (u : Value) : IntS (V.setCell ⟨g, j, none⟩ u) c l := fun k hk => by
  obtain ⟨g', o, rfl, hlt, hc⟩ := h k hk
  have hne : ¬ g' = g := fun e => by
    subst e
    rw [cell_of_row V g' (o + k) _ _ (0, 0) hb] at hc
    match hm : o + k with
    | 0 => rw [hm] at hc; simp at hc
    | 1 => rw [hm] at hc; simp at hc
    | 2 => rw [hm] at hc; simp at hc
    | m + 3 => rw [hm] at hc; simp at hc
  exact ⟨g', o, rfl, Nat.lt_of_lt_of_le hlt (KeepsOthers.setCell V _ _).size, (World.cell?_setCell_other _ _ _ _ (fun e => hne (congrArg Addr.block e).symm)).trans hc⟩
theorem IntS.put3 {V : World} {c : Option Addr} {l : List Int} {g : Nat} {n : Bool} {x y : ByteArray} (h : IntS V c l) (hb : Box V g n x y) (n' : Bool) (x' y' : ByteArray) : IntS (((V.setCell ⟨g, 0, none⟩ (.bool n')).setCell ⟨g, 1, none⟩ (.string x')).setCell ⟨g, 2, none⟩ (.string y')) c l := by
  have h1 : Box (V.setCell ⟨g, 0, none⟩ (.bool n')) g n' x y := heap_setCell_same V g 0 _ _ (.bool n') hb
  have h2 : Box ((V.setCell ⟨g, 0, none⟩ (.bool n')).setCell ⟨g, 1, none⟩ (.string x')) g n' x' y := heap_setCell_same _ g 1 _ _ (.string x') h1
  exact ((h.far3 hb 0 _).far3 h1 1 _).far3 h2 2 _

/-- What Best holds: the table, its result's block. -/
def BH (w V : World) (u v : Value) : Prop := TBox V w.heap.size u v ∧ Box V (w.heap.size + 1) false ⟨#[]⟩ ⟨#[]⟩ ∧ Below w.heap.size w V
theorem BH.step {w V V' : World} {u v : Value} (h : BH w V u v) (hb : Below V.heap.size V V') : BH w V' u v := ⟨h.1.below hb h.1.lt, h.2.1.below hb h.2.1.lt, h.2.2.trans (hb.mono h.2.2.size)⟩
theorem BH.drew {w V : World} {u v : Value} (h : BH w V u v) : BH w V.drew u v := ⟨h.1, h.2.1.drew, h.2.2.drew⟩
theorem BH.of {w V : World} {u v : Value} (h : BH w V u v) : (V.cell? ⟨w.heap.size, 0, none⟩ = some u ∧ V.cell? ⟨w.heap.size, 1, none⟩ = some v) ∧ Hid (BH w V u v) := ⟨⟨h.1.c0, h.1.c1⟩, h⟩
theorem BH.ofF {w V : World} {u v : Value} (h : BH w V u v) {g i : Nat} {n : Bool} {x y : ByteArray} (hg : g < w.heap.size) (a0 : w.cell? ⟨g, i, none⟩ = some (.bool n)) (a1 : w.cell? ⟨g, i + 1, none⟩ = some (.string x)) (a2 : w.cell? ⟨g, i + 2, none⟩ = some (.string y)) : (V.cell? ⟨w.heap.size, 0, none⟩ = some u ∧ V.cell? ⟨w.heap.size, 1, none⟩ = some v ∧ V.cell? ⟨g, i, none⟩ = some (.bool n) ∧ V.cell? ⟨g, i + 1, none⟩ = some (.string x) ∧ V.cell? ⟨g, i + 2, none⟩ = some (.string y)) ∧ Hid (BH w V u v) :=
  ⟨⟨h.1.c0, h.1.c1, (h.2.2.cell (p := ⟨g, i, none⟩) hg).trans a0, (h.2.2.cell (p := ⟨g, i + 1, none⟩) hg).trans a1, (h.2.2.cell (p := ⟨g, i + 2, none⟩) hg).trans a2⟩, h⟩

theorem TBox.off {w : World} {g : Nat} {u v : Value} (h : TBox w g u v) (b j : Nat) (y : Value) (hne : g ≠ b) : TBox (w.setCell ⟨b, j, none⟩ y) g u v := (Below.heap_setCell w ⟨b, j, none⟩ y g hne).trans h
/-- What Best answers. -/
def bestV (sizes vars : List Int) (l : List Fr) : List Nat := if checkA sizes vars l.length = 0 then digs (toN sizes) (toN vars) (bestN l (l.length - 1)) else []
def bestF (sizes vars : List Int) (l : List Fr) : Fr := if checkA sizes vars l.length = 0 then qF (frQ (celF l (bestN l (l.length - 1)))) else frZ
theorem checkA_parts {sizes vars : List Int} {m : Nat} (h : checkA sizes vars m = 0) : Fine sizes ∧ Up vars sizes.length ∧ m = cnt (toN sizes) (toN vars) := by
  rw [checkA] at h
  by_cases h1 : countB sizes vars = true
  · rw [if_pos h1] at h
    by_cases h2 : m = cnt (toN sizes) (toN vars)
    · exact ⟨(countB_parts h1).1, (countB_parts h1).2, h2⟩
    · rw [if_neg h2] at h; omega
  · rw [if_neg h1] at h; omega
theorem checkA_pos {sizes vars : List Int} {m : Nat} (h : checkA sizes vars m = 0) : 1 ≤ m := by
  obtain ⟨h1, h2, h3⟩ := checkA_parts h
  rw [h3]
  exact cnt_pos h1.pos _
end Go.Proofs.YtncccbdledcibaaGreatDoor

/- Lists of ints: clones, what is in them, lists without one. -/
namespace Go.Proofs.YtncccbdledcibaaGreatDoor
open Go.RowKit Go.Shelf Go.Sort Go.Lib

/-- A list of ints in memory of its own. -/
def RwI (w : World) (B : Nat) (v : Value) (l : List Int) : Prop := w.ownsRow B 3 1 v l.length (l.map (Value.int .i64))
theorem RwI.cases {w : World} {B : Nat} {v : Value} {l : List Int} (h : RwI w B v l) : (v = .slice none 0 0 ∧ l = []) ∨ ∃ g cap, v = .slice (some ⟨g, 0, none⟩) l.length cap ∧ B ≤ g ∧ g < w.heap.size ∧ l.length ≤ cap ∧ cap ≤ maxLen ∧ Holds (Value.int .i64) w g 0 l.toArray := by
  rcases h.2 with ⟨h1, h2⟩ | ⟨g, cap, cur, h1, h2, h3, h4, h5, h6, h7⟩
  · exact .inl ⟨h1, List.length_eq_zero_iff.1 h2⟩
  · refine .inr ⟨g, cap, h1, h2, (Array.getElem?_eq_some_iff.1 h3).1, h4, h5, fun j hj => ?_⟩
    have hj' : j < l.length := by simpa using hj
    refine ⟨?_, frozen_of_row w g _ _ _ h3⟩
    rw [Nat.zero_add, cell_of_row w g j _ _ (0, 0) h3]
    have e : cur[j]? = (cur.toList.take (l.length * 1))[j]? := by
      rw [List.getElem?_take, if_pos (by omega), Array.getElem?_toList]
    rw [e, h7, List.getElem?_map, List.getElem?_eq_getElem hj']
    simp [hj']
theorem holds_ints {w : World} {g : Nat} {d : Array Int} {l : List Int} (h : Holds (Value.int .i64) w g 0 d) (hg : g < w.heap.size) (hl : ∀ j (hj : j < l.length), ∃ hd : j < d.size, d[j] = l[j]) : IntS w (some ⟨g, 0, none⟩) l := fun k hk => by
  obtain ⟨hd, e⟩ := hl k hk
  refine ⟨g, 0, rfl, hg, ?_⟩
  have := (h k hd).1
  rw [getElem!_pos d k hd, e] at this
  exact this
theorem RwI.ints {w : World} {B : Nat} {v : Value} {l : List Int} (h : RwI w B v l) : ∃ d cd, v = .slice d l.length cd ∧ IntS w d l := by
  rcases h.cases with ⟨rfl, rfl⟩ | ⟨g, cap, rfl, _, hg, _, _, hh⟩
  · exact ⟨none, 0, rfl, fun k hk => absurd hk (by simp)⟩
  · exact ⟨_, _, rfl, holds_ints hh hg fun j hj => ⟨by simpa using hj, by simp⟩⟩
theorem intS_cells {w : World} {b o : Nat} {l : List Int} (h : IntS w (some ⟨b, o, none⟩) l) : ∀ j, j < l.length → w.cell? ⟨b, o + j, none⟩ = some (.int .i64 (l.getD j 0)) := fun j hj => by
  obtain ⟨g, o', e, _, hc⟩ := h j hj
  cases e
  rw [hc, List.getD_eq_getElem?_getD, List.getElem?_eq_getElem hj]
  rfl
theorem below_sorted {B g n : Nat} {a w : World} {os : Array Obj} (d : Array Int) (h : Below B a w) (hw : B ≤ w.heap.size) (hg : B ≤ g) : Below B a (grow (putRow (Value.int .i64) (Sort.ahead w n) g 0 d) os) :=
  h.grown (grownBy_sortedI d) hw fun k e => by cases e; exact hg
theorem below_put_row {B g n : Nat} {a w : World} (d : Array Int) (h : Below B a w) (hw : B ≤ w.heap.size) (hg : B ≤ g) : Below B a (putRow (Value.int .i64) (Sort.ahead w n) g 0 d) := by
  have := below_sorted (n := n) (os := #[]) d h hw hg
  rwa [grow_empty] at this

end Go.Proofs.YtncccbdledcibaaGreatDoor

/- Tables as answers. -/
namespace Go.Proofs.YtncccbdledcibaaGreatDoor
open Go.RowKit Go.Shelf

/-- A table and an error are answered. -/
def TabA (vars : List Int) (l : List Fr) (k : Int) (e : Ending) (w' : World) : Prop := ∃ (b c : Option Addr) (cb cc : Nat), e = .returned (.tuple #[.agg #[.slice b vars.length cb, .slice c l.length cc], .int .i64 k]) ∧ IntS w' b vars ∧ FrS w' c l
theorem TabA.empty (k : Int) (w : World) : TabA [] [] k (.returned (.tuple #[.agg #[.slice none 0 0, .slice none 0 0], .int .i64 k])) w := ⟨none, none, 0, 0, rfl, fun k hk => absurd hk (by simp), fun k hk => absurd hk (by simp)⟩
theorem TBox.result2 {w : World} {g : Nat} {x y : Value} (h : TBox w g x y) {fn : Func} {p u : Tmp} (hr : fn.results = #[.cell p 31, .tmp u]) (tmps : Array Value) (hp : tmps.getD p undef = .pointer (some ⟨g, 0, none⟩)) :
    (results fn tmps).run Tryz.prog w = .ok (.tuple #[.agg #[x, y], tmps.getD u undef]) w := by
  rw [results_cell_tmp hr, hp]
  simp only [asAddr, Sem.run_pure, Result.andThen_ok]
  rw [run_loadVar_row w g _ 31 _ _ _ h Tryz.underlying31 rfl (by kernel_rfl)]
  simp only [Result.andThen_ok]
/-- Neither ints nor fractions lie in a table's block. -/
def SlV (v : Value) : Prop := ∃ a n c, v = Value.slice a n c
theorem IntS.farT {V : World} {c : Option Addr} {l : List Int} {g : Nat} {x y : Value} (h : IntS V c l) (hb : TBox V g x y) (hx : SlV x) (hy : SlV y) (j : Nat) (u : Value) : IntS (V.setCell ⟨g, j, none⟩ u) c l := fun k hk => by
  obtain ⟨g', o, rfl, hlt, hc⟩ := h k hk
  obtain ⟨a1, n1, c1, rfl⟩ := hx
  obtain ⟨a2, n2, c2, rfl⟩ := hy
  have hne : ¬ g' = g := fun e => by
    subst e
    rw [cell_of_row V g' (o + k) _ _ (0, 0) hb] at hc
    match hm : o + k with
    | 0 => rw [hm] at hc; simp at hc
    | 1 => rw [hm] at hc; simp at hc
    | m + 2 => rw [hm] at hc; simp at hc
  exact ⟨g', o, rfl, Nat.lt_of_lt_of_le hlt (KeepsOthers.setCell V _ _).size, (World.cell?_setCell_other _ _ _ _ (fun e => hne (congrArg Addr.block e).symm)).trans hc⟩
theorem IntS.putT {V : World} {c : Option Addr} {l : List Int} {g : Nat} {x y : Value} (h : IntS V c l) (hb : TBox V g x y) (hx : SlV x) (hy : SlV y) {x' : Value} (hx' : SlV x') (y' : Value) : IntS ((V.setCell ⟨g, 0, none⟩ x').setCell ⟨g, 1, none⟩ y') c l := by
  have h1 : TBox (V.setCell ⟨g, 0, none⟩ x') g x' y := heap_setCell_same V g 0 _ _ x' hb
  exact (h.farT hb hx hy 0 _).farT h1 hx' hy 1 _
theorem slv (a : Option Addr) (n c : Nat) : SlV (.slice a n c) := ⟨a, n, c, rfl⟩
theorem TBox.facts {w : World} {g : Nat} {x y : Value} (h : TBox w g x y) : w.cell? ⟨g, 0, none⟩ = some x ∧ w.cell? ⟨g, 1, none⟩ = some y ∧ w.frozen? ⟨g, 0, none⟩ = false ∧ w.frozen? ⟨g, 1, none⟩ = false := ⟨h.c0, h.c1, frozen_of_row w g 0 _ _ h, frozen_of_row w g 1 _ _ h⟩
theorem below_put2 {B : Nat} {a w : World} (h : Below B a w) {g : Nat} (hg : B ≤ g) (u v : Value) : Below B a ((w.setCell ⟨g, 0, none⟩ u).setCell ⟨g, 1, none⟩ v) := (h.setCell hg u).setCell hg v

/-- What a call on one table holds: the table, and its result's block. -/
def NH (w V : World) (u v : Value) : Prop := TBox V w.heap.size u v ∧ TBox V (w.heap.size + 1) (.slice none 0 0) (.slice none 0 0) ∧ Below w.heap.size w V
theorem NH.step {w V V' : World} {u v : Value} (h : NH w V u v) (hb : Below V.heap.size V V') : NH w V' u v := ⟨h.1.below hb h.1.lt, h.2.1.below hb h.2.1.lt, h.2.2.trans (hb.mono h.2.2.size)⟩
theorem NH.drew {w V : World} {u v : Value} (h : NH w V u v) : NH w V.drew u v := ⟨h.1, h.2.1, h.2.2.drew⟩
theorem NH.new (w : World) (u v : Value) : NH w ((w.alloc (TC u v)).alloc (TC (.slice none 0 0) (.slice none 0 0))) u v := ⟨(TBox.at (w := w) rfl _ _).alloc _, TBox.at (w := w.alloc (TC u v)) (by simp) _ _, ((Below.refl _ w).alloc (Nat.le_refl _) _).alloc (by simp) _⟩
theorem NH.off {w V : World} {u v : Value} (h : NH w V u v) (B j : Nat) (y : Value) (hB : w.heap.size + 1 < B) : NH w (V.setCell ⟨B, j, none⟩ y) u v := ⟨h.1.off B j y (by omega), h.2.1.off B j y (by omega), h.2.2.setCell (p := ⟨B, j, none⟩) (by show w.heap.size ≤ B; omega) y⟩
theorem NH.lt {w V : World} {u v : Value} (h : NH w V u v) : w.heap.size + 1 < V.heap.size := h.2.1.lt
/-- The end: the result is written. -/
theorem NH.fin {w V : World} {u v : Value} (h : NH w V u v) {vars : List Int} {b : Option Addr} {cb : Nat} {l : List Fr} {G cc : Nat} (hi : IntS V b vars) (hr : RowF V G l) (hG : w.heap.size + 1 < G) (x y : Value) (hx : x = .slice b vars.length cb) (hy : y = .slice (some ⟨G, 0, none⟩) l.length cc) :
    TBox ((V.setCell ⟨w.heap.size + 1, 0, none⟩ x).setCell ⟨w.heap.size + 1, 1, none⟩ y) (w.heap.size + 1) x y ∧ TabA vars l 0 (.returned (.tuple #[.agg #[x, y], .int .i64 0])) ((V.setCell ⟨w.heap.size + 1, 0, none⟩ x).setCell ⟨w.heap.size + 1, 1, none⟩ y) ∧ Below w.heap.size w ((V.setCell ⟨w.heap.size + 1, 0, none⟩ x).setCell ⟨w.heap.size + 1, 1, none⟩ y) := by
  subst hx hy
  exact ⟨h.2.1.put _ _, ⟨b, some ⟨G, 0, none⟩, cb, cc, rfl, hi.putT h.2.1 (slv _ _ _) (slv _ _ _) (slv _ _ _) _, ((hr.off _ 0 _ (by omega)).off _ 1 _ (by omega)).fr⟩, below_put2 h.2.2 (by omega) _ _⟩
end Go.Proofs.YtncccbdledcibaaGreatDoor

/- Lists of ints: slices.Grow of nothing, slices.Concat of two. -/
namespace Go.Proofs.YtncccbdledcibaaGreatDoor
open Go.RowKit Go.Shelf

theorem wpList_append_ints {w : World} {ops : Array Oper} {rest : List Oper} {o : Oper} {a : Act} {Q : Exit → Act → World → Prop} (hgd : o.guard = none) (s x : Operand)
    (ho : o.op = .call { callee := .builtin .append, args := #[s, x], argTypes := #[27, 27] }) (base : Nat) (v : Value) (xs la : List Int) (hs : a.eval s = v) (hown : RwI w base v xs) (p : Option Addr) (ca : Nat) (hx : a.eval x = .slice p la.length ca) (hi : IntS w p la) (hp : p = none → ca = 0) (hlen : xs.length + la.length ≤ 100000) (hbase : base ≤ w.heap.size)
    (h : ∀ v' w', RwI w' base v' (xs ++ la) → w.grownBy w' v.ownBlock → wpList Tryz.prog ops Q rest (a.put o.dst v') w') : wpList Tryz.prog ops Q (o :: rest) a w := by
  obtain ⟨i0, hi0, hz0, hz1, hz2⟩ := info_parts Tryz.infoInt
  cases p with
  | none =>
    have hl : la = [] := by
      cases la with
      | nil => rfl
      | cons x l => obtain ⟨g, o, e, _⟩ := hi 0 (by simp); cases e
    subst hl
    have h0 := hp rfl
    subst h0
    have h1 := h v w (by rw [List.append_nil]; exact hown) ⟨rfl, rfl, rfl, Nat.le_refl _, fun _ _ _ => rfl⟩
    exact wpList_append_own_none hgd s x 27 ho base 3 i0 1 Tryz.underlying27 hi0 v xs.length _ hs hown hx h1
  | some ad =>
    refine wpList_append_own _ hgd s x 27 ho base 3 i0 (.int .i64 0) 1 8 Tryz.underlying27 hi0 hz0 hz1 hz2 rfl (by decide) v xs.length _ hs hown ad la.length ca (la.map (Value.int .i64)) hx (by simp) ?_ ?_ (by unfold maxLen; omega) (by omega) hbase ?_
    · intro j u hj
      rw [List.getElem?_map] at hj
      cases hq : la[j]? with
      | none => rw [hq] at hj; cases hj
      | some z =>
        rw [hq] at hj
        cases hj
        obtain ⟨hj1, hj2⟩ := List.getElem?_eq_some_iff.1 hq
        obtain ⟨g, o', e, _, hc⟩ := hi j hj1
        cases e
        rw [← hj2]
        rw [Addr.add]
        by_cases h0 : j = 0
        · subst h0; simpa using hc
        · simpa [h0] using hc
    · intro u hu
      obtain ⟨z, _, rfl⟩ := List.mem_map.1 hu
      rfl
    · intro v' w' h1 h2 _
      refine h v' w' ?_ h2
      rw [RwI, List.length_append, List.map_append]
      exact h1

/-- The first so many of two lists. -/
def firstOf (la lb : List Int) (i : Nat) : List Int := if i = 0 then [] else if i = 1 then la else la ++ lb
theorem RwI.own {w : World} {B : Nat} {v : Value} {l : List Int} (h : RwI w B v l) : ∀ k, v.ownBlock = some k → B ≤ k := by
  intro k hk
  rcases h.2 with ⟨rfl, _⟩ | ⟨g, cap, cur, rfl, h2, _⟩
  · cases hk
  · cases hk
    exact h2

theorem firstOf_len {la lb : List Int} (hla : la.length ≤ 1000) (hlb : lb.length ≤ 1000) (i : Nat) : (firstOf la lb i).length ≤ 2000 := by
  rw [firstOf]
  by_cases h : i = 0
  · rw [if_pos h]; simp
  · rw [if_neg h]
    by_cases h1 : i = 1
    · rw [if_pos h1]; omega
    · rw [if_neg h1, List.length_append]; omega

end Go.Proofs.YtncccbdledcibaaGreatDoor

/- Package graph: order, read, Check. -/
namespace Go.Proofs.YtncccbdledcibaaGreatDoor
open Go.RowKit Go.Shelf

theorem one_int (w : World) (u : Int) : IntS (w.alloc (.cells #[.int .i64 u] 3)) (some ⟨w.heap.size, 0, none⟩) [u] := fun k hk => by
  obtain rfl : k = 0 := by simp at hk; omega
  exact ⟨w.heap.size, 0, rfl, by simp, (Boxed.new w _ _).cell⟩
theorem RwI.under {w w' : World} {B : Nat} {v : Value} {l : List Int} (h : RwI w B v l) (hb : Below w.heap.size w w') : RwI w' B v l := by
  refine ⟨h.1, h.2.imp id ?_⟩
  rintro ⟨g, cap, cur, h1, h2, h3, h4⟩
  exact ⟨g, cap, cur, h1, h2, (hb.block g (Array.getElem?_eq_some_iff.1 h3).1).trans h3, h4⟩
theorem free_out {P : List (List Nat)} {out : List Nat} {v : Nat} (h : v ∈ out) : freeB P out v = false := by simp [freeB, h]
theorem free_par {P : List (List Nat)} {out p : List Nat} {v : Nat} (hp : P.getD v [] = p) (h : ¬ ∀ u ∈ p, u ∈ out) : freeB P out v = false := by rw [freeB, hp, decide_eq_false h, Bool.and_false]
theorem free_yes {P : List (List Nat)} {out p : List Nat} {v : Nat} (hp : P.getD v [] = p) (h : ¬ v ∈ out) (h' : ∀ u ∈ p, u ∈ out) : freeB P out v = true := by rw [freeB, hp, decide_eq_true h', decide_eq_false h]; rfl

set_option maxRecDepth 100000 in
set_option maxHeartbeats 1000000 in
theorem order_any (G c : Nat) (P : List (List Nat)) (w : World) (hU : RowU w G (P.map mskN)) (hn : P.length ≤ 8) (hP : ∀ p ∈ P, ∀ u ∈ p, u < 8) :
    Calls Tryz.prog 106 #[.slice (some ⟨G, 0, none⟩) P.length c] w fun e w' => ∃ x, e = .returned x ∧ RwI w' w.heap.size x (iL (ordN P P.length)) ∧ Below w.heap.size w w' := by
  obtain ⟨i0, hi0, hz0, hz1, hz2⟩ := info_parts Tryz.infoInt
  have HU := hid hU
  have HP : Hid (∀ i, i < P.length → (∀ u ∈ P.getD i [], u < 8) ∧ ∃ h : i < (P.map mskN).length, (P.map mskN)[i] = mskN (P.getD i [])) := fun i hi => by
    have e : P.getD i [] = P[i] := by rw [List.getD_eq_getElem?_getD, List.getElem?_eq_getElem hi]; rfl
    rw [e]
    exact ⟨hP _ (List.getElem_mem hi), by simpa using hi, by simp⟩
  have HOL : Hid (∀ k, ∀ u ∈ ordN P k, u < 8) := fun k u hu => Nat.lt_of_lt_of_le (ord_lt P k u hu) hn
  have HLN := hid (ord_len P)
  have HSO : Hid (∀ k v, v < P.length → freeB P (ordN P k) v = true → (∀ u, u < v → freeB P (ordN P k) u = false) → ordN P (k + 1) = ordN P k ++ [v]) := fun k v h1 h2 h3 => ord_some (next_some h1 h2 h3)
  have HST : Hid (∀ k, k ≤ P.length → (∀ u, u < P.length → freeB P (ordN P k) u = false) → ordN P P.length = ordN P k) := fun k h1 h2 => ord_stuck (next_none h2) h1
  have HO0 : Hid (ordN P 0 = []) := rfl
  generalize hF : ordN P = F at *
  clear hU hP hF
  go_enter Tryz.func106, Tryz.ntmps106
  go_wp2_with fail
  go_step3
  go_wp2_with (first
    | (at_make; refine wpList_make_own _ rfl _ _ 27 rfl w.heap.size 3 i0 (.int .i64 0) 1 Tryz.underlying27 hi0 hz0 hz1 .i64 .i64 _ P.length rfl rfl (by go_num) (by rw [hz2]; omega) (by unfold maxLen; omega) (Nat.le_refl _) ?_; intro w2 hown2 hgrow2))
  have HI : Hid (RwI w2 w.heap.size (.slice (some ⟨w.heap.size, 0, none⟩) 0 P.length) []) := hown2
  have HB2 : Hid (Below w.heap.size w w2) := (Below.refl _ w).grown hgrow2 (Nat.le_refl _) (fun k e => by cases e)
  clear hown2 hgrow2
  go_wp2_with fail
  go_step3
  go_wp2_with fail
  go_loopw [3, 4, 12] (fun sv lv iv wr => ∃ k : Nat, k ≤ P.length ∧ iv = .int .i64 k ∧ sv = .int .u32 (mskN (F k) : Nat) ∧ Hid (RwI wr w.heap.size lv (iL (F k))) ∧ Hid (Below w.heap.size w wr)) (fun _ _ iv _ => P.length - (intOf iv).toNat)
  case atStart => exact ⟨0, Nat.zero_le _, rfl, by rw [HO0.out]; rfl, by rw [HO0.out]; exact HI, HB2⟩
  case round =>
    obtain ⟨k, hk, rfl, rfl, HR, HB⟩ := hrel
    clear HI HB2
    by_cases hlt : k < P.length
    · have HUW := hid (HU.out.below HB.out HU.out.lt)
      go_wp2_with fail
      go_loopw [3, 4, 16] (fun sv lv jv wq => ∃ v : Nat, v ≤ P.length ∧ jv = .int .i64 v ∧ sv = .int .u32 (mskN (F k) : Nat) ∧ lv = u4 ∧ Hid (∀ u, u < v → freeB P (F k) u = false) ∧ wq = wr) (fun _ _ jv _ => P.length - (intOf jv).toNat)
      case atStart => exact ⟨0, Nat.zero_le _, rfl, rfl, rfl, fun u h => absurd h (by omega), rfl⟩
      case round =>
        obtain ⟨v, hv, rfl, rfl, rfl, HN, rfl⟩ := hrel
        by_cases hvl : v < P.length
        · obtain ⟨hp8, hm1, hm2⟩ := HP.out v hvl
          have c0 := HUW.out.cell v hm1
          rw [hm2] at c0
          have HP8 := hid hp8
          have HFO : Hid (v ∈ F k → freeB P (F k) v = false) := free_out
          have HFP : Hid (¬ (∀ u ∈ P.getD v [], u ∈ F k) → freeB P (F k) v = false) := free_par rfl
          have HFY : Hid (¬ v ∈ F k → (∀ u ∈ P.getD v [], u ∈ F k) → freeB P (F k) v = true) := free_yes rfl
          have HNX : Hid (freeB P (F k) v = false → ∀ u, u < v + 1 → freeB P (F k) u = false) := fun h u hu => by
            rcases Nat.lt_or_ge u v with h2 | h2
            · exact HN.out u h2
            · obtain rfl : u = v := by omega
              exact h
          clear hp8 hm1 hm2
          generalize P.getD v [] = p at *
          go_wp2_with fail
          refine (sHas_any (F k) v _ (HOL.out k) (by omega)).mono ?_
          rintro e w3 ⟨rfl, rfl⟩
          by_cases hin : v ∈ F k
          · rw [decide_eq_true hin]
            have HE := hid (HNX.out (HFO.out hin))
            clear hin
            go_wp2
            go_roundw
            case rel => exact ⟨v + 1, by omega, by go_num, rfl, rfl, HE, trivial⟩
            case measure => simp [intOf]; omega
          · rw [decide_eq_false hin]
            have HIN := hid hin
            clear hin
            go_wp2_with fail
            refine (sHolds_any (F k) p _ (HOL.out k) HP8.out).mono ?_
            rintro e w4 ⟨rfl, rfl⟩
            by_cases hh : ∀ u ∈ p, u ∈ F k
            · rw [decide_eq_true hh]
              have hS := HSO.out k v hvl (HFY.out HIN.out hh) HN.out
              have HM : Hid (mskN (v :: F k) = mskN (F (k + 1))) := msk_ext fun z => by rw [hS, List.mem_cons, List.mem_append, List.mem_singleton]; exact or_comm
              have HIL : Hid (iL (F (k + 1)) = iL (F k) ++ [(v : Int)]) := by show _ = _; rw [hS, iL_append]; rfl
              have HLK : Hid ((iL (F k)).length ≤ 8) := by
                have := HLN.out k
                show (iL (F k)).length ≤ 8
                rw [iL_length]
                omega
              clear hh hS
              have HOWN := hid HR.out.own
              have HRA : Hid (RwI (w4.alloc (.cells #[.int .i64 (v : Nat)] 3)) w.heap.size _ (iL (F k))) := World.ownsRow.alloc HR.out _
              have HBA := hid (HB.out.alloc HB.out.size (.cells #[.int .i64 (v : Nat)] 3))
              have HIA := hid (one_int w4 (v : Nat))
              go_wp2_with (at_builtin; refine wpList_append_ints rfl _ _ rfl w.heap.size _ (iL (F k)) [((v : Nat) : Int)] rfl HRA.out (some ⟨w4.heap.size, 0, none⟩) 1 rfl HIA.out (fun e => by cases e) (by have := HLK.out; simp; omega) HBA.out.size ?_; intro v' w5 hr5 hg5)
              have HR5 := hid hr5
              have HB5 := hid (HBA.out.grown hg5 HBA.out.size HOWN.out)
              clear hr5 hg5
              refine (sWith_any (F k) v _ (HOL.out k) (by omega)).mono ?_
              rintro e w6 ⟨rfl, rfl⟩
              rw [HM.out]
              go_wp2
              go_roundw
              case rel => exact ⟨k + 1, by omega, by go_num, rfl, by rw [HIL.out]; exact HR5, HB5⟩
              case measure => simp [intOf]; omega
            · rw [decide_eq_false hh]
              have HE := hid (HNX.out (HFP.out hh))
              clear hh
              go_wp2
              go_roundw
              case rel => exact ⟨v + 1, by omega, by go_num, rfl, rfl, HE, trivial⟩
              case measure => simp [intOf]; omega
        · obtain rfl : v = P.length := by omega
          have HE := hid (HST.out k hk HN.out)
          go_wp2
          try rw [Exit.noGoto_ret]
          go_ret
          exact ⟨_, rfl, by rw [HE.out]; exact HR.out, HB.out⟩
    · obtain rfl : k = P.length := by omega
      go_wp2
      try rw [Exit.noGoto_ret]
      go_ret
      exact ⟨_, rfl, HR.out, HB.out⟩
end Go.Proofs.YtncccbdledcibaaGreatDoor

/- Nets in memory; their sizes and names. -/
namespace Go.Proofs.YtncccbdledcibaaGreatDoor
open Go.RowKit Go.Shelf

abbrev Vr : Type := ByteArray × List ByteArray
/-- A list of variables in memory. -/
def VsS (w : World) (a : Option Addr) (V : List Vr) : Prop := ∀ k (h : k < V.length), ∃ g o b c, a = some ⟨g, o, none⟩ ∧ g < w.heap.size ∧ w.cell? ⟨g, o + k * 2, none⟩ = some (.string V[k].1) ∧ w.cell? ⟨g, o + k * 2 + 1, none⟩ = some (.slice b V[k].2.length c) ∧ StS w b V[k].2 ∧ V[k].2.length ≤ c
theorem VsS.below {w w' : World} {a : Option Addr} {V : List Vr} (h : VsS w a V) (hb : Below w.heap.size w w') : VsS w' a V := fun k hk => by
  obtain ⟨g, o, b, c, h1, h2, h3, h4, h5, h6⟩ := h k hk
  exact ⟨g, o, b, c, h1, Nat.lt_of_lt_of_le h2 hb.size, (hb.cell (p := ⟨g, o + k * 2, none⟩) h2).trans h3, (hb.cell (p := ⟨g, o + k * 2 + 1, none⟩) h2).trans h4, h5.below hb, h6⟩
abbrev NC (x y z : Value) : Obj := .cells #[x, y, z] 26
abbrev VC (x y : Value) : Obj := .cells #[x, y] 61
/-- The block g holds a net. -/
def NBox (w : World) (g : Nat) (x y z : Value) : Prop := w.heap[g]? = some (.cells #[x, y, z] 26 (0, 0))
theorem NBox.at {w : World} {g : Nat} (hg : w.heap.size = g) (x y z : Value) : NBox (w.alloc (NC x y z)) g x y z := by subst hg; exact heap_alloc_new w _
theorem NBox.lt {w : World} {g : Nat} {x y z : Value} (h : NBox w g x y z) : g < w.heap.size := (Array.getElem?_eq_some_iff.1 h).1
theorem NBox.below {w w' : World} {g b : Nat} {x y z : Value} (h : NBox w g x y z) (hb : Below b w w') (hg : g < b) : NBox w' g x y z := (hb.block g hg).trans h
theorem NBox.cells {w : World} {g : Nat} {x y z : Value} (h : NBox w g x y z) : w.cell? ⟨g, 0, none⟩ = some x ∧ w.cell? ⟨g, 1, none⟩ = some y ∧ w.cell? ⟨g, 2, none⟩ = some z := by
  refine ⟨?_, ?_, ?_⟩ <;> (rw [cell_of_row w g _ _ _ (0, 0) h]; rfl)
theorem vbox_new (w : World) (x y : Value) : (w.alloc (VC x y)).cell? ⟨w.heap.size, 0, none⟩ = some x ∧ (w.alloc (VC x y)).cell? ⟨w.heap.size, 1, none⟩ = some y := by
  have h : (w.alloc (VC x y)).heap[w.heap.size]? = some (.cells #[x, y] 61 (0, 0)) := heap_alloc_new w _
  exact ⟨by rw [cell_of_row _ _ _ _ _ (0, 0) h]; rfl, by rw [cell_of_row _ _ _ _ _ (0, 0) h]; rfl⟩
/-- How many values the variables have. -/
def sizesN (V : List Vr) : List Nat := V.map fun x => x.2.length
theorem sizesN_length (V : List Vr) : (sizesN V).length = V.length := by simp [sizesN]
theorem sizesN_get {V : List Vr} {i : Nat} (h : i < V.length) : (sizesN V)[i]? = some V[i].2.length := by simp [sizesN, h]

set_option maxRecDepth 100000 in
set_option maxHeartbeats 1000000 in
theorem nSizes_any (a b c : Option Addr) (ca cb cc n m : Nat) (V : List Vr) (w : World) (h : VsS w a V) (hV : V.length ≤ 5000) :
    Calls Tryz.prog 13 #[.agg #[.slice a V.length ca, .slice b n cb, .slice c m cc]] w fun e w' => ∃ G, e = .returned (.slice (some ⟨G, 0, none⟩) V.length V.length) ∧ w.heap.size ≤ G ∧ RowI w' G (sizesN V) ∧ Below w.heap.size w w' := by
  obtain ⟨i0, hi0, hz0, hz1, hz2⟩ := info_parts Tryz.infoInt
  have HF := hid h
  have HG : Hid (∀ i (h : i < V.length), (sizesN V)[i]? = some V[i].2.length) := fun i h => sizesN_get h
  have hsl := sizesN_length V
  generalize sizesN V = ds at *
  clear h
  have hN := NBox.at (w := w) rfl (.slice a V.length ca) (.slice b n cb) (.slice c m cc)
  have hB0 := (Below.refl _ w).alloc (Nat.le_refl _) (NC (.slice a V.length ca) (.slice b n cb) (.slice c m cc))
  obtain ⟨c0, -, -⟩ := hN.cells
  have hlt0 := hN.lt
  go_enter Tryz.func13, Tryz.ntmps13
  go_upto_region 1 with fail
  generalize (w.alloc (NC (.slice a V.length ca) (.slice b n cb) (.slice c m cc))) = w1 at *
  go_wp2_with (first
    | (at_make; refine wpList_make_full _ rfl _ _ 27 rfl w1.heap.size 3 i0 (.int .i64 0) 1 Tryz.underlying27 hi0 hz0 hz1 .i64 .i64 _ _ V.length rfl rfl (by go_num) (by go_num) (by rw [hz2]; omega) (by unfold maxLen; omega) (Nat.le_refl _) ?_; intro w2 hown2 hgrow2; have hB2 : Below w1.heap.size w1 w2 := (Below.refl _ w1).grown hgrow2 (Nat.le_refl _) (fun k e => by cases e); have c0' := (hN.below hB2 hlt0).cells.1; clear c0))
  have hb2 := block_of_own hown2
  rw [made_ints] at hb2
  have HI : Hid (RowI w2 w1.heap.size (List.replicate V.length 0)) := hb2
  have HB2 : Hid (Below w.heap.size w w2) := hB0.trans (hB2.mono hB0.size)
  have hG := hB0.size
  clear hown2 hgrow2 hb2 hB2
  clear c0'
  go_loopw [13] (fun iv wr => ∃ i : Nat, i ≤ V.length ∧ iv = .int .i64 i ∧ Hid (RowI wr w1.heap.size (partD ds i)) ∧ Hid (Below w.heap.size w wr)) (fun iv _ => V.length - (intOf iv).toNat)
  case atStart => exact ⟨0, Nat.zero_le _, rfl, by rw [partD_zero, hsl]; exact HI, HB2⟩
  case round =>
    obtain ⟨i, hi, rfl, HR, HB⟩ := hrel
    clear HI HB2
    by_cases hlt : i < V.length
    · obtain ⟨g, o, b', c', rfl, hg, c0, c1, -, -⟩ := (HF.out.below HB.out) i hlt
      obtain ⟨hd1, hd2⟩ := List.getElem?_eq_some_iff.1 (HG.out i hlt)
      have HPS := hid (partD_set ds hd1)
      rw [hd2] at HPS
      generalize V[i] = v at *
      obtain ⟨nm, vs⟩ := v
      simp only at c0 c1 HPS
      obtain ⟨d0, d1⟩ := vbox_new wr (.string nm) (.slice b' vs.length c')
      have hbA := (Below.refl _ wr).alloc (Nat.le_refl _) (VC (.string nm) (.slice b' vs.length c'))
      have hRA := HR.out.below hbA HR.out.lt
      have k0 := hRA.cell i (by rw [partD_length _ (by omega)]; omega)
      have f0 := hRA.fz i
      have hS := hRA.set i vs.length
      rw [HPS.out] at hS
      have HS := hid hS
      have HBS := hid ((HB.out.trans (hbA.mono HB.out.size)).setCell (p := ⟨w1.heap.size, i, none⟩) hG (.int .i64 (vs.length : Nat)))
      generalize (partD ds i)[i]'(by rw [partD_length _ (by omega)]; omega) = z at *
      clear hd1 hd2 hbA hRA hS
      go_wp2
      go_roundw
      case rel => exact ⟨i + 1, by omega, by go_num, HS, HBS⟩
      case measure => simp [intOf]; omega
    · obtain rfl : i = V.length := by omega
      have hfin := HR.out
      rw [← hsl, partD_all] at hfin
      have HFI := hid hfin
      clear hfin
      go_wp2
      go_ret
      exact ⟨w1.heap.size, rfl, hG, HFI.out, HB.out⟩
end Go.Proofs.YtncccbdledcibaaGreatDoor
