/- The document's answer: arrays of what a call makes: variables, lists of parents, lists of rows. -/
import Derived.Test.YtbejijgelljeaaaGreatDoorNetDPwMadB
import Derived.Deep.QuietTactic
import Derived.BigQuiet
import Derived.Test.YtbejijgelljeaaaGreatDoorChnPPwRtC
import Derived.Test.YtbejijgelljeaaaGreatDoorCore1PwMem
import Derived.Deep.RegionHeld3
import Derived.Lib.AppendZerosOnto
import Derived.Laws.AppendOwnNone
namespace Go.Proofs.YtbejijgelljeaaaGreatDoor
open Go.RowKit Go.Shelf Go.Lib
/-- All blocks of cells of this type lie as they lay. -/
def KeepT (t : TypeId) (w w' : World) : Prop := ∀ (k : Nat) (c : Array Value) (fr : Nat × Nat), w.heap[k]? = some (Obj.cells c t fr) → w'.heap[k]? = some (Obj.cells c t fr)
theorem KeepT.below {t : TypeId} {w w' : World} (hb : Below w.heap.size w w') : KeepT t w w' := fun k _ _ h => (hb.block k (Array.getElem?_eq_some_iff.1 h).1).trans h
theorem KeepT.grown {t t' : TypeId} {w w' : World} {row : Option Nat} (hg : w.grownBy w' row) (hr : ∀ g, row = some g → ∃ c fr, w.heap[g]? = some (.cells c t' fr)) (hne : t ≠ t') : KeepT t w w' := fun k c fr h => by
  refine (hg.block k (Array.getElem?_eq_some_iff.1 h).1 fun e => ?_).trans h
  obtain ⟨c', fr', h'⟩ := hr k e.symm
  rw [h] at h'
  cases h'
  exact hne rfl
theorem KeepT.set {t t' : TypeId} {w : World} {b : Nat} {c' : Array Value} {fr' : Nat × Nat} (hb : w.heap[b]? = some (.cells c' t' fr')) (hne : t ≠ t') (j : Nat) (y : Value) : KeepT t w (w.setCell ⟨b, j, none⟩ y) := fun k c fr h => by
  refine (Below.heap_setCell w ⟨b, j, none⟩ y k fun e => ?_).trans h
  have e' : k = b := e
  subst e'
  rw [h] at hb
  cases hb
  exact hne rfl
theorem owns_keep {w w' : World} {B : Nat} {e : TypeId} {s : Nat} {v : Value} {n : Nat} {xs : List Value} (h : w.ownsRow B e s v n xs) (hk : KeepT e w w') : w'.ownsRow B e s v n xs := by
  refine ⟨h.1, ?_⟩
  rcases h.2 with h1 | ⟨g, cap, cur, h1, h2, h3, h4⟩
  · exact .inl h1
  · exact .inr ⟨g, cap, cur, h1, h2, hk _ _ _ h3, h4⟩
theorem owns_typed {w : World} {B : Nat} {e : TypeId} {s : Nat} {v : Value} {n : Nat} {xs : List Value} (h : w.ownsRow B e s v n xs) : ∀ g, v.ownBlock = some g → ∃ c fr, w.heap[g]? = some (.cells c e fr) := fun g hg => by
  rcases h.2 with ⟨rfl, _⟩ | ⟨g', cap, cur, rfl, h2, h3, h4⟩
  · cases hg
  · cases hg
    exact ⟨_, _, h3⟩
theorem owns_from {w : World} {B : Nat} {e : TypeId} {s : Nat} {v : Value} {n : Nat} {xs : List Value} (h : w.ownsRow B e s v n xs) : ∀ g, v.ownBlock = some g → B ≤ g := fun g hg => by
  rcases h.2 with ⟨rfl, _⟩ | ⟨g', cap, cur, rfl, h2, h3, h4⟩
  · cases hg
  · cases hg
    exact h2
theorem owns_slice {w : World} {B : Nat} {e : TypeId} {s : Nat} {v : Value} {n : Nat} {xs : List Value} (h : w.ownsRow B e s v n xs) : ∃ a c, v = .slice a n c ∧ (a = none → c = 0) := by
  rcases h.2 with ⟨rfl, rfl⟩ | ⟨g', cap, cur, rfl, h2, h3, h4⟩
  · exact ⟨none, 0, rfl, fun _ => rfl⟩
  · exact ⟨_, _, rfl, fun e => by cases e⟩
theorem owns_cell {w : World} {B : Nat} {e : TypeId} {s : Nat} {a : Option Addr} {n c : Nat} {xs : List Value} (h : w.ownsRow B e s (.slice a n c) n xs) {j : Nat} (hj : j < xs.length) : ∃ g, a = some ⟨g, 0, none⟩ ∧ g < w.heap.size ∧ w.cell? ⟨g, j, none⟩ = some xs[j] := by
  rcases h.2 with ⟨h1, h2⟩ | ⟨g', cap, cur, h1, h2, h3, h4, h5, h6, h7⟩
  · have := h.1
    subst h2
    rw [Nat.zero_mul] at this
    omega
  · cases h1
    refine ⟨g', rfl, (Array.getElem?_eq_some_iff.1 h3).1, ?_⟩
    have hl : j < n * s := by have := h.1; omega
    rw [cell_of_row w g' j _ _ (0, 0) h3]
    have e' : cur[j]? = (cur.toList.take (n * s))[j]? := by
      rw [List.getElem?_take, if_pos hl, Array.getElem?_toList]
    rw [e', h7, List.getElem?_eq_getElem hj]
abbrev PL : Type := Value × List Int
def OwL (w : World) (B : Nat) (y : Value) (P : List PL) : Prop := w.ownsRow B 22 1 y P.length (P.map (·.1)) ∧ ∀ p ∈ P, RwI w B p.1 p.2
abbrev PR : Type := Value × List Fr
def OwR (w : World) (B : Nat) (z : Value) (P : List PR) : Prop := w.ownsRow B 27 1 z P.length (P.map (·.1)) ∧ ∀ p ∈ P, RwF w B p.1 p.2
theorem OwL.keep {w w' : World} {B : Nat} {x : Value} {P : List PL} (h : OwL w B x P) (h1 : KeepT 22 w w') (h2 : KeepT 3 w w') : OwL w' B x P := ⟨owns_keep h.1 h1, fun p hp => owns_keep (h.2 p hp) h2⟩
theorem OwR.keep {w w' : World} {B : Nat} {x : Value} {P : List PR} (h : OwR w B x P) (h1 : KeepT 27 w w') (h2 : KeepT 33 w w') : OwR w' B x P := ⟨owns_keep h.1 h1, fun p hp => owns_keep (h.2 p hp) h2⟩
theorem OwL.nil (w : World) (B : Nat) : OwL w B (.slice none 0 0) [] := ⟨⟨rfl, .inl ⟨rfl, rfl⟩⟩, fun p hp => by cases hp⟩
theorem OwR.nil (w : World) (B : Nat) : OwR w B (.slice none 0 0) [] := ⟨⟨rfl, .inl ⟨rfl, rfl⟩⟩, fun p hp => by cases hp⟩
theorem Tryz.infoInts : (Tryz.prog.info? 22).map (fun i => (i.zero, i.size, i.bytes)) = some (some (.slice none 0 0), 1, 24) := by kernel_rfl
theorem Tryz.infoFracs : (Tryz.prog.info? 27).map (fun i => (i.zero, i.size, i.bytes)) = some (some (.slice none 0 0), 1, 24) := by kernel_rfl
theorem wpList_append_rs {w : World} {ops : Array Oper} {rest : List Oper} {o : Oper} {a : Act} {Q : Exit → Act → World → Prop} (hgd : o.guard = none) (s x : Operand)
    (ho : o.op = .call { callee := .builtin .append, args := #[s, x], argTypes := #[24, 24] }) (base : Nat) (v : Value) (P : List PR) (q : Value) (hq : SlV q) (hs : a.eval s = v) (hown : w.ownsRow base 27 1 v P.length (P.map (·.1))) (g : Nat) (hx : a.eval x = .slice (some ⟨g, 0, none⟩) 1 1) (hg : w.cell? ⟨g, 0, none⟩ = some q) (hlen : P.length + 1 ≤ 100000) (hbase : base ≤ w.heap.size)
    (h : ∀ v' w', w'.ownsRow base 27 1 v' (P.length + 1) (P.map (·.1) ++ [q]) → w.grownBy w' v.ownBlock → wpList Tryz.prog ops Q rest (a.put o.dst v') w') : wpList Tryz.prog ops Q (o :: rest) a w := by
  obtain ⟨i0, hi0, hz0, hz1, hz2⟩ := info_parts Tryz.infoFracs
  refine wpList_append_own _ hgd s x 24 ho base 27 i0 (.slice none 0 0) 1 24 Tryz.underlying24 hi0 hz0 hz1 hz2 rfl (by decide) v P.length _ hs hown ⟨g, 0, none⟩ 1 1 [q] hx rfl ?_ ?_ (by unfold maxLen; omega) (by omega) hbase ?_
  · intro j u hj
    match j, hj with
    | 0, hj => cases hj; exact hg
    | j + 1, hj => simp at hj
  · intro u hu
    simp only [List.mem_cons, List.not_mem_nil, or_false] at hu
    subst hu
    obtain ⟨_, _, _, rfl⟩ := hq
    rfl
  · intro v' w' h1 h2 _
    exact h v' w' h1 h2
theorem frC_append (a : List Fr) : ∀ l, frC (l ++ a) = frC l ++ frC a
  | [] => rfl
  | f :: l => by
    show Value.bool f.1 :: Value.string f.2.1 :: Value.string f.2.2 :: frC (l ++ a) = _
    rw [frC_append a l]
    rfl
end Go.Proofs.YtbejijgelljeaaaGreatDoor

/- Chains and hidden chains that may be: Check, Step, check. -/
namespace Go.Proofs.YtbejijgelljeaaaGreatDoor
open Go.RowKit Go.Shelf
/-- Rows that may be, of so many. -/
structure RwsOK (n m : Nat) (R : List (List Fr)) : Prop where
  len : R.length = n
  each : ∀ i (h : i < R.length), R[i].length = m
  fw : ∀ i (h : i < R.length), fw R[i] ≤ 10000
  row : ∀ i (h : i < R.length), rowB R[i] = true
set_option maxRecDepth 100000 in
set_option maxHeartbeats 1000000 in
theorem chCheck_yes (c : Option Addr) (cc n : Nat) (R : List (List Fr)) (w : World) (hR : FsS w c R) (h : RwsOK n n R) (h1 : 1 ≤ n) (hn : n ≤ 6) :
    Calls Tryz.prog 30 #[.slice c n cc] w fun e w' => e = .returned (.int .i64 0) ∧ Below w.heap.size w w' := by
  have HFR := hid hR
  have HO := hid h
  clear hR h
  go_enter Tryz.func30, Tryz.ntmps30
  go_wp2_with fail
  go_loopw [17] (fun iv wr => ∃ i : Nat, i ≤ n ∧ iv = .int .i64 i ∧ w = wr) (fun iv _ => n - (intOf iv).toNat)
  case atStart => exact ⟨0, Nat.zero_le _, rfl, rfl⟩
  case round =>
    obtain ⟨i, hi, rfl, rfl⟩ := hrel
    by_cases hlt : i < n
    · have hiR : i < R.length := by rw [HO.out.len]; exact hlt
      obtain ⟨gc, oc, bc, cr, rfl, hgc, c0, -, -⟩ := HFR.out i hiR
      rw [HO.out.each i hiR] at c0
      go_wp2
      go_roundw
      case rel => exact ⟨i + 1, by omega, by go_num, trivial⟩
      case measure => simp [intOf]; omega
    · obtain rfl : i = n := by omega
      go_wp2_with fail
      go_loopw [29] (fun kv wr => ∃ k : Nat, k ≤ i ∧ kv = .int .i64 k ∧ Hid (Below w.heap.size w wr)) (fun kv _ => i - (intOf kv).toNat)
      case atStart => exact ⟨0, Nat.zero_le _, rfl, Below.refl _ _⟩
      case round =>
        obtain ⟨k, hk, rfl, HB⟩ := hrel
        by_cases hlt2 : k < i
        · have hkR : k < R.length := by rw [HO.out.len]; exact hlt2
          obtain ⟨gc, oc, bc, cr, rfl, hgc, c0, hfr, -⟩ := (HFR.out.below HB.out) k hkR
          have hel := HO.out.each k hkR
          have HRO := hid (chRow_any bc cr R[k] wr hfr (HO.out.fw k hkR) (by omega))
          rw [HO.out.row k hkR] at HRO
          clear hfr hel
          generalize R[k].length = rl at *
          go_wp2_with fail
          refine HRO.out.mono ?_
          rintro e w2 ⟨rfl, hb2⟩
          have HB2 := hid (HB.out.trans (hb2.mono HB.out.size))
          clear hb2
          go_wp2
          go_roundw
          case rel => exact ⟨k + 1, by omega, by go_num, HB2⟩
          case measure => simp [intOf]; omega
        · obtain rfl : k = i := by omega
          go_wp2
          go_ret
          exact ⟨rfl, HB.out⟩
end Go.Proofs.YtbejijgelljeaaaGreatDoor

/- forward of package hidden. -/
namespace Go.Proofs.YtbejijgelljeaaaGreatDoor
open Go.RowKit Go.Shelf
/-- The block G holds slices of fractions. -/
def RowV (w : World) (G : Nat) (X : List Value) : Prop := w.heap[G]? = some (.cells X.toArray 27 (0, 0))
theorem RowV.cell {w : World} {g : Nat} {X : List Value} (h : RowV w g X) (j : Nat) (hj : j < X.length) : w.cell? ⟨g, j, none⟩ = some X[j] := by
  rw [cell_of_row w g j _ _ (0, 0) h]
  simp [hj]
theorem RowV.fz {w : World} {g : Nat} {X : List Value} (h : RowV w g X) (j : Nat) : w.frozen? ⟨g, j, none⟩ = false := frozen_of_row w g j _ _ h
theorem RowV.lt {w : World} {g : Nat} {X : List Value} (h : RowV w g X) : g < w.heap.size := (Array.getElem?_eq_some_iff.1 h).1
theorem RowV.below {w w' : World} {g b : Nat} {X : List Value} (h : RowV w g X) (hb : Below b w w') (hg : g < b) : RowV w' g X := (hb.block g hg).trans h
theorem RowV.set {w : World} {g : Nat} {X : List Value} (h : RowV w g X) (j : Nat) (v : Value) : RowV (w.setCell ⟨g, j, none⟩ v) g (X.set j v) := by
  have h1 : (w.setCell ⟨g, j, none⟩ v).heap[g]? = some (.cells (X.toArray.setIfInBounds j v) 27 (0, 0)) := heap_setCell_same w g j _ _ _ h
  rw [RowV, h1]
  simp
theorem made_slices (n : Nat) : (madeCells (Value.slice none 0 0).cells (n * 1)).toList = List.replicate n (.slice none 0 0) := by
  rw [show (Value.slice none 0 0).cells = #[Value.slice none 0 0] from rfl, toList_madeCells_one, Nat.mul_one]
end Go.Proofs.YtbejijgelljeaaaGreatDoor

/- Chains: equations and rows of bools in memory. -/
namespace Go.Proofs.YtbejijgelljeaaaGreatDoor
open Go.RowKit Go.Shelf
theorem lF_set {m : Nat} {f : Nat → Rat} (k : Nat) (q : Rat) : (lF m f).set k (qF q) = lF m fun j => if j = k then q else f j := by
  refine List.ext_getElem (by rw [List.length_set, lF_length, lF_length]) fun j h1 h2 => ?_
  rw [List.getElem_set, lF_get h2]
  by_cases e : k = j
  · subst e; simp
  · rw [if_neg e, lF_get, if_neg fun e' => e e'.symm]
/-- A row of fractions that a call owns, which may have room behind it. -/
def EqR (U : World) (B g m c : Nat) (f : Nat → Rat) : Prop := U.ownsRow B 33 3 (.slice (some ⟨g, 0, none⟩) m c) m (frC (lF m f))
theorem EqR.of {U : World} {B g m c : Nat} {f : Nat → Rat} (h : RwF U B (.slice (some ⟨g, 0, none⟩) m c) (lF m f)) : EqR U B g m c f := by
  rw [RwF, lF_length] at h
  exact h
theorem EqR.congr {U : World} {B g m c : Nat} {f f' : Nat → Rat} (h : EqR U B g m c f) (e : ∀ j, j < m → f j = f' j) : EqR U B g m c f' := by
  rw [EqR, ← lF_congr e]
  exact h
theorem EqR.block {U : World} {B g m c : Nat} {f : Nat → Rat} (h : EqR U B g m c f) : B ≤ g ∧ m ≤ c ∧ ∃ cur : Array Value, U.heap[g]? = some (.cells cur 33 (0, 0)) := by
  rcases h.2 with ⟨h', _⟩ | ⟨g', cap, cur, h', h2, h3, h4, _⟩
  · cases h'
  · cases h'
    exact ⟨h2, h4, _, h3⟩
theorem EqR.lt {U : World} {B g m c : Nat} {f : Nat → Rat} (h : EqR U B g m c f) : g < U.heap.size := by
  obtain ⟨_, _, cur, h3⟩ := h.block
  exact (Array.getElem?_eq_some_iff.1 h3).1
theorem EqR.cells {U : World} {B g m c : Nat} {f : Nat → Rat} (h : EqR U B g m c f) {k : Nat} (hk : k < m) : U.cell? ⟨g, k * 3, none⟩ = some (.bool (qF (f k)).1) ∧ U.cell? ⟨g, k * 3 + 1, none⟩ = some (.string (qF (f k)).2.1) ∧ U.cell? ⟨g, k * 3 + 2, none⟩ = some (.string (qF (f k)).2.2) := by
  have hl : k < (lF m f).length := by rw [lF_length]; exact hk
  obtain ⟨h1, h2, h3⟩ := frC_get (lF m f) k hl
  rw [lF_get hl] at h1 h2 h3
  exact ⟨(World.ownsRow.cellAt h _ (by omega)).trans h1, (World.ownsRow.cellAt h _ (by omega)).trans h2, (World.ownsRow.cellAt h _ (by omega)).trans h3⟩
theorem EqR.fz {U : World} {B g m c : Nat} {f : Nat → Rat} (h : EqR U B g m c f) (j : Nat) : U.frozen? ⟨g, j, none⟩ = false := World.ownsRow.frozenAt h j
theorem EqR.fr {U : World} {B g m c : Nat} {f : Nat → Rat} (h : EqR U B g m c f) : FrS U (some ⟨g, 0, none⟩) (lF m f) := fun k hk => by
  obtain ⟨h1, h2, h3⟩ := h.cells (by rw [lF_length] at hk; exact hk)
  rw [lF_get hk]
  exact ⟨g, 0, rfl, h.lt, by rw [Nat.zero_add]; exact h1, by rw [Nat.zero_add]; exact h2, by rw [Nat.zero_add]; exact h3⟩
theorem EqR.below {U U' : World} {B g m c : Nat} {f : Nat → Rat} (h : EqR U B g m c f) (hb : Below U.heap.size U U') : EqR U' B g m c f := owns_keep h (KeepT.below hb)
theorem EqR.kept {U U' : World} {B g m c : Nat} {f : Nat → Rat} (h : EqR U B g m c f) {x : Nat} (hg : U.grownBy U' (some x)) (hne : g ≠ x) : EqR U' B g m c f := World.ownsRow.kept h hg (.inr fun e => hne (by cases e; rfl))
theorem EqR.put {U : World} {B g m c : Nat} {f : Nat → Rat} (h : EqR U B g m c f) (k : Nat) (q : Rat) : EqR (((U.setCell ⟨g, k * 3, none⟩ (.bool (qF q).1)).setCell ⟨g, k * 3 + 1, none⟩ (.string (qF q).2.1)).setCell ⟨g, k * 3 + 2, none⟩ (.string (qF q).2.2)) B g m c (fun j => if j = k then q else f j) ∧ U.grownBy (((U.setCell ⟨g, k * 3, none⟩ (.bool (qF q).1)).setCell ⟨g, k * 3 + 1, none⟩ (.string (qF q).2.1)).setCell ⟨g, k * 3 + 2, none⟩ (.string (qF q).2.2)) (some g) := by
  obtain ⟨a1, b1⟩ := World.ownsRow.stored h (k * 3) (.bool (qF q).1)
  obtain ⟨a2, b2⟩ := World.ownsRow.stored a1 (k * 3 + 1) (.string (qF q).2.1)
  obtain ⟨a3, b3⟩ := World.ownsRow.stored a2 (k * 3 + 2) (.string (qF q).2.2)
  rw [frC_set, lF_set] at a3
  exact ⟨a3, ⟨b3.os.trans (b2.os.trans b1.os), b3.tape.trans (b2.tape.trans b1.tape), b3.output.trans (b2.output.trans b1.output), Nat.le_trans b1.size (Nat.le_trans b2.size b3.size), fun i hi hne => (b3.block i (Nat.lt_of_lt_of_le hi (Nat.le_trans b1.size b2.size)) hne).trans ((b2.block i (Nat.lt_of_lt_of_le hi b1.size) hne).trans (b1.block i hi hne))⟩⟩
theorem grown_then {a b c : World} {r : Option Nat} (h : a.grownBy b r) (k : b.grownBy c r) : a.grownBy c r :=
  ⟨k.os.trans h.os, k.tape.trans h.tape, k.output.trans h.output, Nat.le_trans h.size k.size, fun i hi hne => (k.block i (Nat.lt_of_lt_of_le hi h.size) hne).trans (h.block i hi hne)⟩
theorem grown_below {a b c : World} {r : Option Nat} (h : a.grownBy b r) (k : Below b.heap.size b c) : a.grownBy c r :=
  ⟨k.os.trans h.os, k.tape.trans h.tape, k.output.trans h.output, Nat.le_trans h.size k.size, fun i hi hne => (k.block i (Nat.lt_of_lt_of_le hi h.size)).trans (h.block i hi hne)⟩
/-- Equations in memory: n rows of m. -/
structure EqS (B n m G : Nat) (g c : Nat → Nat) (M : Nat → Nat → Rat) (U : World) : Prop where
  top : RowV U G ((List.range n).map fun k => Value.slice (some ⟨g k, 0, none⟩) m (c k))
  row : ∀ k, k < n → EqR U B (g k) m (c k) (M k)
  inj : ∀ k k', k < n → k' < n → g k = g k' → k = k'
  gl : B ≤ G
theorem EqS.slice {B n m G : Nat} {g c : Nat → Nat} {M : Nat → Nat → Rat} {U : World} (h : EqS B n m G g c M U) {k : Nat} (hk : k < n) : U.cell? ⟨G, k, none⟩ = some (.slice (some ⟨g k, 0, none⟩) m (c k)) := by
  rw [h.top.cell k (by simpa using hk)]
  simp
theorem EqS.ne {B n m G : Nat} {g c : Nat → Nat} {M : Nat → Nat → Rat} {U : World} (h : EqS B n m G g c M U) {k : Nat} (hk : k < n) : G ≠ g k := fun e => by
  obtain ⟨_, _, cur, h3⟩ := (h.row k hk).block
  have h1 := h.top
  rw [RowV, e, h3] at h1
  have h2 := Option.some.inj h1
  injection h2 with _ h4
  exact absurd h4 (by decide)
theorem EqS.step {B n m G : Nat} {g c : Nat → Nat} {M : Nat → Nat → Rat} {U U' : World} (h : EqS B n m G g c M U) (hb : Below U.heap.size U U') : EqS B n m G g c M U' := ⟨h.top.below hb h.top.lt, fun k hk => (h.row k hk).below hb, h.inj, h.gl⟩
theorem EqS.congr {B n m G : Nat} {g c : Nat → Nat} {M M' : Nat → Nat → Rat} {U : World} (h : EqS B n m G g c M U) (e : ∀ i, i < n → M i = M' i) : EqS B n m G g c M' U := ⟨h.top, fun k hk => by rw [← e k hk]; exact h.row k hk, h.inj, h.gl⟩
theorem EqS.write {B n m G : Nat} {g c : Nat → Nat} {M : Nat → Nat → Rat} {U U' : World} (h : EqS B n m G g c M U) {k : Nat} {f : Nat → Rat} (hk : k < n) (hg : U.grownBy U' (some (g k))) (hr : EqR U' B (g k) m (c k) f) : EqS B n m G g c (fun i => if i = k then f else M i) U' := by
  refine ⟨(hg.block G h.top.lt fun e => h.ne hk (Option.some.inj e)).trans h.top, fun i hi => ?_, h.inj, h.gl⟩
  by_cases e : i = k
  · subst e; rw [if_pos rfl]; exact hr
  · rw [if_neg e]; exact (h.row i hi).kept hg fun e' => e (h.inj i k hi hk e')
theorem EqS.from {B n m G : Nat} {g c : Nat → Nat} {M : Nat → Nat → Rat} {U U' : World} (h : EqS B n m G g c M U) {k : Nat} (hk : k < n) (hg : U.grownBy U' (some (g k))) (hB : B ≤ U.heap.size) : Below B U U' := (Below.refl B U).grown hg hB fun i e => by cases e; exact (h.row k hk).block.1
/-- A row of bools. -/
def RowBo (w : World) (g : Nat) (l : List Bool) : Prop := w.heap[g]? = some (.cells (l.map Value.bool).toArray 4 (0, 0))
theorem RowBo.cell {w : World} {g : Nat} {l : List Bool} (h : RowBo w g l) (j : Nat) (hj : j < l.length) : w.cell? ⟨g, j, none⟩ = some (.bool l[j]) := by
  rw [cell_of_row w g j _ _ (0, 0) h]
  simp [hj]
theorem RowBo.fz {w : World} {g : Nat} {l : List Bool} (h : RowBo w g l) (j : Nat) : w.frozen? ⟨g, j, none⟩ = false := frozen_of_row w g j _ _ h
theorem RowBo.set {w : World} {g : Nat} {l : List Bool} (h : RowBo w g l) (j : Nat) (y : Bool) : RowBo (w.setCell ⟨g, j, none⟩ (.bool y)) g (l.set j y) := by
  have h2 := heap_setCell_same w g j _ _ (.bool y) h
  rw [RowBo, h2]
  simp [List.map_set]
theorem made_boolc (n : Nat) : (madeCells (Value.bool false).cells (n * 1)).toList = (List.replicate n false).map Value.bool := by
  rw [show (Value.bool false).cells = #[Value.bool false] from rfl, toList_madeCells_one, Nat.mul_one]
  simp
theorem Tryz.infoBoolc : (Tryz.prog.info? 4).map (fun i => (i.zero, i.size, i.bytes)) = some (some (.bool false), 1, 1) := by kernel_rfl
theorem Tryz.infoBoolsc : (Tryz.prog.info? 43).map (fun i => (i.zero, i.size, i.bytes)) = some (some (.slice none 0 0), 1, 24) := by kernel_rfl
/-- What the block of all rows holds, where c rows are made. -/
def topB (n c : Nat) (R : Nat → Nat) : List Value := (List.range n).map fun v => if v < c then .slice (some ⟨R v, 0, none⟩) n n else .slice none 0 0
theorem topB_length (n c : Nat) (R : Nat → Nat) : (topB n c R).length = n := by simp [topB]
theorem topB_at {n c : Nat} {R : Nat → Nat} {v : Nat} (hv : v < n) (hc : v < c) : (topB n c R)[v]'(by rw [topB_length]; exact hv) = .slice (some ⟨R v, 0, none⟩) n n := by simp [topB, hc]
/-- A matrix of bools: c rows of n. -/
structure BMt (W : World) (B G n c : Nat) (R : Nat → Nat) (e : Nat → Nat → Bool) : Prop where
  top : W.heap[G]? = some (.cells (topB n c R).toArray 43 (0, 0))
  row : ∀ v, v < c → v < n → RowBo W (R v) ((List.range n).map (e v))
  inj : ∀ v v', v < c → v' < c → R v = R v' → v = v'
  low : ∀ v, v < c → B ≤ R v
  gl : B ≤ G
theorem BMt.keep {W W' : World} {B G n c : Nat} {R : Nat → Nat} {e : Nat → Nat → Bool} (h : BMt W B G n c R e) (h1 : KeepT 43 W W') (h2 : KeepT 4 W W') : BMt W' B G n c R e := ⟨h1 _ _ _ h.top, fun v hc hv => h2 _ _ _ (h.row v hc hv), h.inj, h.low, h.gl⟩
theorem BMt.below {W W' : World} {B G n c : Nat} {R : Nat → Nat} {e : Nat → Nat → Bool} (h : BMt W B G n c R e) (hb : Below W.heap.size W W') : BMt W' B G n c R e := h.keep (KeepT.below hb) (KeepT.below hb)
theorem BMt.lt {W : World} {B G n c : Nat} {R : Nat → Nat} {e : Nat → Nat → Bool} (h : BMt W B G n c R e) : G < W.heap.size := (Array.getElem?_eq_some_iff.1 h.top).1
theorem BMt.fzt {W : World} {B G n c : Nat} {R : Nat → Nat} {e : Nat → Nat → Bool} (h : BMt W B G n c R e) (j : Nat) : W.frozen? ⟨G, j, none⟩ = false := frozen_of_row W G j _ _ h.top
theorem BMt.slice {W : World} {B G n c : Nat} {R : Nat → Nat} {e : Nat → Nat → Bool} (h : BMt W B G n c R e) {v : Nat} (hv : v < n) (hc : v < c) : W.cell? ⟨G, v, none⟩ = some (.slice (some ⟨R v, 0, none⟩) n n) := by
  rw [cell_of_row W G v _ _ (0, 0) h.top, List.getElem?_toArray, List.getElem?_eq_getElem (by rw [topB_length]; exact hv), topB_at hv hc]
theorem BMt.cell {W : World} {B G n c : Nat} {R : Nat → Nat} {e : Nat → Nat → Bool} (h : BMt W B G n c R e) {v u : Nat} (hv : v < n) (hc : v < c) (hu : u < n) : W.cell? ⟨R v, u, none⟩ = some (.bool (e v u)) := by
  rw [(h.row v hc hv).cell u (by simpa using hu)]
  simp
theorem BMt.set {W : World} {B G n c : Nat} {R : Nat → Nat} {e e' : Nat → Nat → Bool} (h : BMt W B G n c R e) {v u : Nat} {b : Bool} (hv : v < n) (hc : v < c) (he : ∀ v' u', v' < n → u' < n → e' v' u' = if v' = v ∧ u' = u then b else e v' u') : BMt (W.setCell ⟨R v, u, none⟩ (.bool b)) B G n c R e' := by
  have hr := h.row v hc hv
  refine ⟨KeepT.set hr (by decide) u _ _ _ _ h.top, fun v' hc' hv' => ?_, h.inj, h.low, h.gl⟩
  by_cases ev : v' = v
  · subst ev
    have := hr.set u b
    have el : ((List.range n).map (e v')).set u b = (List.range n).map (e' v') := by
      refine List.ext_getElem (by simp) fun j h1 h2 => ?_
      rw [List.getElem_set]
      simp only [List.getElem_map, List.getElem_range]
      rw [he v' j hv (by simpa using h2)]
      by_cases ej : u = j
      · simp [ej]
      · rw [if_neg ej, if_neg fun e => ej e.2.symm]
    rwa [el] at this
  · have ne : R v' ≠ R v := fun e => ev (h.inj v' v hc' hc e)
    have el : (List.range n).map (e' v') = (List.range n).map (e v') := List.map_congr_left fun j hj => by rw [he v' j hv' (List.mem_range.1 hj), if_neg fun e => ev e.1]
    rw [el]
    exact (Below.heap_setCell W ⟨R v, u, none⟩ _ (R v') ne).trans (h.row v' hc' hv')
theorem BMt.congr {W : World} {B G n c : Nat} {R : Nat → Nat} {e e' : Nat → Nat → Bool} (h : BMt W B G n c R e) (he : ∀ v u, v < c → u < n → e v u = e' v u) : BMt W B G n c R e' := ⟨h.top, fun v hc hv => by
  have el : (List.range n).map (e' v) = (List.range n).map (e v) := List.map_congr_left fun j hj => (he v j hc (List.mem_range.1 hj)).symm
  rw [el]; exact h.row v hc hv, h.inj, h.low, h.gl⟩
/-- One row more. -/
theorem BMt.more {W W1 : World} {B G n c g : Nat} {R : Nat → Nat} {e : Nat → Nat → Bool} (h : BMt W B G n c R e) (hb : Below W.heap.size W W1) (hg : W.heap.size ≤ g) (hB : B ≤ W.heap.size) (hr : RowBo W1 g (List.replicate n false)) (hc : c < n) : BMt (W1.setCell ⟨G, c, none⟩ (.slice (some ⟨g, 0, none⟩) n n)) B G n (c + 1) (fun x => if x = c then g else R x) (fun v u => if v = c then false else e v u) := by
  have hlt : ∀ v, v < c → R v < W.heap.size := fun v hv => (Array.getElem?_eq_some_iff.1 (h.row v hv (by omega))).1
  have hG : W1.heap[G]? = some (.cells (topB n c R).toArray 43 (0, 0)) := KeepT.below hb _ _ _ h.top
  have hset := heap_setCell_same W1 G c _ _ (.slice (some ⟨g, 0, none⟩) n n) hG
  have hrow : ∀ r l, RowBo W1 r l → RowBo (W1.setCell ⟨G, c, none⟩ (.slice (some ⟨g, 0, none⟩) n n)) r l := fun r l hl => KeepT.set hG (by decide) c _ _ _ _ hl
  refine ⟨?_, fun v hv hvn => ?_, fun v v' hv hv' e' => ?_, fun v hv => ?_, h.gl⟩
  · rw [hset]
    have el : (topB n c R).toArray.setIfInBounds c (.slice (some ⟨g, 0, none⟩) n n) = (topB n (c + 1) (fun x => if x = c then g else R x)).toArray := by
      rw [List.setIfInBounds_toArray]
      congr 1
      refine List.ext_getElem (by simp [topB]) fun j h1 h2 => ?_
      rw [List.getElem_set]
      simp only [topB, List.getElem_map, List.getElem_range]
      by_cases ej : c = j
      · subst ej; simp
      · rw [if_neg ej]
        by_cases hj : j < c
        · rw [if_pos hj, if_pos (by omega), if_neg (by omega)]
        · rw [if_neg hj, if_neg (by omega)]
    rw [el]
  · by_cases ev : v = c
    · subst ev
      have el : (List.range n).map (fun u => if v = v then false else e v u) = List.replicate n false := List.ext_getElem (by simp) fun i _ _ => by simp
      show RowBo _ (if v = v then g else R v) ((List.range n).map (fun u => if v = v then false else e v u))
      rw [if_pos rfl, el]
      exact hrow _ _ hr
    · show RowBo _ (if v = c then g else R v) ((List.range n).map (fun u => if v = c then false else e v u))
      simp only [if_neg ev]
      exact hrow _ _ (KeepT.below hb _ _ _ (h.row v (by omega) hvn))
  · have e1 : (if v = c then g else R v) = (if v' = c then g else R v') := e'
    by_cases h1 : v = c
    · by_cases h2 : v' = c
      · rw [h1, h2]
      · rw [if_pos h1, if_neg h2] at e1
        have := hlt v' (by omega); omega
    · by_cases h2 : v' = c
      · rw [if_neg h1, if_pos h2] at e1
        have := hlt v (by omega); omega
      · rw [if_neg h1, if_neg h2] at e1
        exact h.inj v v' (by omega) (by omega) e1
  · show B ≤ (if v = c then g else R v)
    by_cases h1 : v = c
    · rw [if_pos h1]; omega
    · rw [if_neg h1]; exact h.low v (by omega)
end Go.Proofs.YtbejijgelljeaaaGreatDoor
