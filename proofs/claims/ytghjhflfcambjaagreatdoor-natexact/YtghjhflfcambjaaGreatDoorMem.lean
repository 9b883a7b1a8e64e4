/- Rows of parts in memory: what lies where, and what a call that writes in its place leaves. -/
import Derived.Test.YtghjhflfcambjaaGreatDoorCore5
namespace Go.Proofs.YtghjhflfcambjaaGreatDoor
open Go.RowKit

/-- From cell off on, block g (cells of parts, none of them frozen) holds the parts l. -/
def Lies (w : World) (g off : Nat) (l : List Nat) : Prop :=
  ∃ cur, w.heap[g]? = some (.cells cur 66 (0, 0)) ∧ off + l.length ≤ cur.size ∧ ∀ j, j < l.length → cur[off + j]? = some (u32 (l[j]?.getD 0))

theorem Lies.cell {w : World} {g off : Nat} {l : List Nat} (h : Lies w g off l) (j : Nat) (hj : j < l.length) : w.cell? ⟨g, off + j, none⟩ = some (.int .u32 (l[j]?.getD 0 : Nat)) := by
  obtain ⟨cur, hg, _, hc⟩ := h
  rw [cell_of_row w g (off + j) cur _ (0, 0) hg]
  exact hc j hj
theorem Lies.frozen {w : World} {g off : Nat} {l : List Nat} (h : Lies w g off l) (j : Nat) : w.frozen? ⟨g, j, none⟩ = false := by
  obtain ⟨cur, hg, _, _⟩ := h
  exact frozen_of_row w g j cur _ hg
theorem Lies.lt {w : World} {g off : Nat} {l : List Nat} (h : Lies w g off l) : g < w.heap.size := by
  obtain ⟨cur, hg, _, _⟩ := h
  exact (Array.getElem?_eq_some_iff.1 hg).1
/-- A block that has not turned. -/
theorem Lies.of_block {w w' : World} {g off : Nat} {l : List Nat} (h : Lies w g off l) (e : w'.heap[g]? = w.heap[g]?) : Lies w' g off l := by
  obtain ⟨cur, hg, h1, h2⟩ := h
  exact ⟨cur, e.trans hg, h1, h2⟩
theorem Lies.below {w w' : World} {g off B : Nat} {l : List Nat} (h : Lies w g off l) (hb : Below B w w') (hB : g < B) : Lies w' g off l := h.of_block (hb.block g hB)
theorem Lies.grown {w w' : World} {g off : Nat} {row : Option Nat} {l : List Nat} (h : Lies w g off l) (hb : w.grownBy w' row) (hne : some g ≠ row) : Lies w' g off l := h.of_block (hb.block g h.lt hne)
theorem Lies.alloc {w : World} {g off : Nat} {l : List Nat} (h : Lies w g off l) (o : Obj) : Lies (w.alloc o) g off l := h.of_block (Below.heap_alloc w o g h.lt)
/-- A piece of what lies there. -/
theorem Lies.piece {w : World} {g off : Nat} {l : List Nat} (h : Lies w g off l) (a n : Nat) (ha : a + n ≤ l.length) : Lies w g (off + a) ((l.drop a).take n) := by
  obtain ⟨cur, hg, h1, h2⟩ := h
  have hl : ((l.drop a).take n).length = n := by simp; omega
  refine ⟨cur, hg, by omega, fun j hj => ?_⟩
  rw [Nat.add_assoc, h2 (a + j) (by omega), List.getElem?_take, if_pos (by omega), List.getElem?_drop]

/-- Nothing has turned but cells off .. off + n - 1 of block g. -/
structure Upd (g off n : Nat) (w w' : World) : Prop where
  grown : w.grownBy w' (some g)
  inside : ∀ cur, w.heap[g]? = some (.cells cur 66 (0, 0)) → ∃ cur', w'.heap[g]? = some (.cells cur' 66 (0, 0)) ∧ cur'.size = cur.size ∧ ∀ i, (i < off ∨ off + n ≤ i) → cur'[i]? = cur[i]?

theorem Upd.refl (g off n : Nat) (w : World) : Upd g off n w w := ⟨World.grownBy.refl _ _, fun cur h => ⟨cur, h, rfl, fun _ _ => rfl⟩⟩
theorem Upd.trans {g off n : Nat} {a b c : World} (h : Upd g off n a b) (k : Upd g off n b c) : Upd g off n a c :=
  ⟨h.grown.trans k.grown, fun cur hc => by
    obtain ⟨c1, g1, s1, e1⟩ := h.inside cur hc
    obtain ⟨c2, g2, s2, e2⟩ := k.inside c1 g1
    exact ⟨c2, g2, s2.trans s1, fun i hi => (e2 i hi).trans (e1 i hi)⟩⟩
theorem Upd.mono {g off n off' n' : Nat} {w w' : World} (h : Upd g off n w w') (h1 : off' ≤ off) (h2 : off + n ≤ off' + n') : Upd g off' n' w w' :=
  ⟨h.grown, fun cur hc => by
    obtain ⟨c1, g1, s1, e1⟩ := h.inside cur hc
    exact ⟨c1, g1, s1, fun i hi => e1 i (by omega)⟩⟩
theorem Upd.drew {g off n : Nat} {a b : World} (h : Upd g off n a b) : Upd g off n a b.drew := ⟨⟨h.grown.os, h.grown.tape, h.grown.output, h.grown.size, h.grown.block⟩, h.inside⟩
theorem Upd.below {g off n B : Nat} {a w w' : World} (hb : Below B a w) (h : Upd g off n w w') (hB : B ≤ g) (hs : B ≤ w.heap.size) : Below B a w' :=
  hb.grown h.grown hs (fun k e => by cases e; exact hB)

theorem heap_setCell_row (w : World) (g j : Nat) (cur : Array Value) (t : TypeId) (u : Value) (hg : w.heap[g]? = some (.cells cur t (0, 0))) : (w.setCell ⟨g, j, none⟩ u).heap[g]? = some (.cells (cur.setIfInBounds j u) t (0, 0)) :=
  heap_setCell_same w g j cur t u hg

theorem Upd.setCell {g off n j : Nat} {w : World} (h1 : off ≤ j) (h2 : j < off + n) (u : Value) : Upd g off n w (w.setCell ⟨g, j, none⟩ u) := by
  refine ⟨⟨rfl, rfl, rfl, by simp [World.setCell], fun k _ hk => Below.heap_setCell _ _ _ _ (by rintro rfl; exact hk rfl)⟩, fun cur hc => ?_⟩
  refine ⟨_, heap_setCell_row w g j cur _ u hc, by simp, fun i hi => ?_⟩
  rw [Array.getElem?_setIfInBounds_ne (by omega)]

/-- A store into what lies there. -/
theorem Lies.set {w : World} {g off : Nat} {l : List Nat} (h : Lies w g off l) (j : Nat) (hj : j < l.length) (x : Nat) : Lies (w.setCell ⟨g, off + j, none⟩ (.int .u32 (x : Nat))) g off (l.set j x) := by
  obtain ⟨cur, hg, h1, h2⟩ := h
  refine ⟨_, heap_setCell_row w g (off + j) cur _ _ hg, by simpa using h1, fun i hi => ?_⟩
  rw [List.length_set] at hi
  by_cases e : i = j
  · subst e
    rw [Array.getElem?_setIfInBounds_self_of_lt (by omega)]
    simp [hj, u32]
  · rw [Array.getElem?_setIfInBounds_ne (by omega), h2 i hi, List.getElem?_set_ne (by omega)]

/-- What lies beside the written cells lies on. -/
theorem Lies.beside {w w' : World} {g off off' n : Nat} {l : List Nat} (h : Lies w g off l) (hu : Upd g off' n w w') (hd : off + l.length ≤ off' ∨ off' + n ≤ off) : Lies w' g off l := by
  obtain ⟨cur, hg, h1, h2⟩ := h
  obtain ⟨c1, g1, s1, e1⟩ := hu.inside cur hg
  exact ⟨c1, g1, by omega, fun j hj => (e1 (off + j) (by omega)).trans (h2 j hj)⟩
/-- .. or in another block. -/
theorem Lies.apart {w w' : World} {g g' off off' n : Nat} {l : List Nat} (h : Lies w g off l) (hu : Upd g' off' n w w') (hd : g ≠ g') : Lies w' g off l :=
  h.grown hu.grown (by simp [hd])
/-- Two pieces side by side. -/
theorem Lies.append {w : World} {g off : Nat} {a b : List Nat} (ha : Lies w g off a) (hb : Lies w g (off + a.length) b) : Lies w g off (a ++ b) := by
  obtain ⟨cur, hg, h1, h2⟩ := ha
  obtain ⟨cur', hg', h3, h4⟩ := hb
  rw [hg] at hg'
  cases hg'
  refine ⟨cur, hg, by simp; omega, fun j hj => ?_⟩
  rw [List.length_append] at hj
  by_cases e : j < a.length
  · rw [List.getElem?_append_left e, h2 j e]
  · rw [List.getElem?_append_right (by omega)]
    have := h4 (j - a.length) (by omega)
    rwa [show off + a.length + (j - a.length) = off + j by omega] at this

/-- A slice that the call owns: its row. -/
theorem own_lies {w : World} {base g n cap : Nat} {l : List Nat} (h : w.ownsRow base 66 1 (.slice (some ⟨g, 0, none⟩) n cap) n (l.map u32)) : n = l.length ∧ l.length ≤ cap ∧ base ≤ g ∧ Lies w g 0 l := by
  have hn : n = l.length := by have := h.1; simp at this; exact this.symm
  rcases h.2 with ⟨h', _⟩ | ⟨g', cap', cur, h', hb, hg, hnc, _, hsz, htk⟩
  · cases h'
  · cases h'
    refine ⟨hn, by omega, hb, cur, hg, by omega, fun j hj => ?_⟩
    have e : (cur.toList.take (n * 1))[j]? = (l.map u32)[j]? := by rw [htk]
    rw [List.getElem?_take, if_pos (by omega), List.getElem?_map, List.getElem?_eq_getElem hj] at e
    rw [Nat.zero_add, List.getElem?_eq_getElem hj]
    simpa using e
/-- .. and back, behind writes in its place. -/
theorem own_upd {w w' : World} {base g n cap m : Nat} {l l' : List Nat} (h : w.ownsRow base 66 1 (.slice (some ⟨g, 0, none⟩) n cap) n (l.map u32)) (hu : Upd g 0 m w w') (hl : Lies w' g 0 l') (hlen : l'.length = n) : w'.ownsRow base 66 1 (.slice (some ⟨g, 0, none⟩) n cap) n (l'.map u32) := by
  refine ⟨by simp [hlen], ?_⟩
  rcases h.2 with ⟨h', _⟩ | ⟨g', cap', cur, h', hb, hg, hnc, hm, hsz, htk⟩
  · cases h'
  · cases h'
    obtain ⟨c1, g1, s1, _⟩ := hu.inside cur hg
    obtain ⟨c2, g2, h1, h2⟩ := hl
    rw [g1] at g2
    cases g2
    refine .inr ⟨g, cap, c1, rfl, hb, g1, hnc, hm, by omega, ?_⟩
    apply List.ext_getElem?
    intro i
    rw [List.getElem?_take, List.getElem?_map]
    by_cases hi : i < l'.length
    · have := h2 i hi
      rw [Nat.zero_add, List.getElem?_eq_getElem hi] at this
      rw [if_pos (by omega), List.getElem?_eq_getElem hi, Array.getElem?_toList, this]
      rfl
    · rw [if_neg (by omega), List.getElem?_eq_none (by omega)]; rfl
theorem own_len {w : World} {base : Nat} {v : Value} {n : Nat} {l : List Nat} (h : w.ownsRow base 66 1 v n (l.map u32)) : n = l.length := by have := h.1; simp at this; exact this.symm
theorem own_base {w : World} {base base' : Nat} {e : TypeId} {size n : Nat} {v : Value} {xs : List Value} (h : w.ownsRow base e size v n xs) (hb : base' ≤ base) : w.ownsRow base' e size v n xs := by
  refine ⟨h.1, ?_⟩
  rcases h.2 with h' | ⟨g, cap, cur, r1, r2, r3⟩
  · exact .inl h'
  · exact .inr ⟨g, cap, cur, r1, by omega, r3⟩
theorem own_below {w w' : World} {base B : Nat} {e : TypeId} {size n : Nat} {v : Value} {xs : List Value} (h : w.ownsRow base e size v n xs) (hb : Below B w w') (hB : w.heap.size ≤ B) : w'.ownsRow base e size v n xs := by
  refine ⟨h.1, ?_⟩
  rcases h.2 with h' | ⟨g, cap, cur, r1, r2, r3, r4⟩
  · exact .inl h'
  · exact .inr ⟨g, cap, cur, r1, r2, (hb.block g (Nat.lt_of_lt_of_le (Array.getElem?_eq_some_iff.1 r3).1 hB)).trans r3, r4⟩
/-- A row made full. -/
theorem own_of_lies {w : World} {base g cap : Nat} {l : List Nat} (cur : Array Value) (hg : w.heap[g]? = some (.cells cur 66 (0, 0))) (hs : cur.size = cap) (hb : base ≤ g) (hm : cap ≤ maxLen) (hc : l.length ≤ cap) (hl : Lies w g 0 l) : w.ownsRow base 66 1 (.slice (some ⟨g, 0, none⟩) l.length cap) l.length (l.map u32) := by
  refine ⟨by simp, .inr ⟨g, cap, cur, rfl, hb, hg, hc, hm, by omega, ?_⟩⟩
  obtain ⟨c2, g2, h1, h2⟩ := hl
  rw [hg] at g2
  cases g2
  apply List.ext_getElem?
  intro i
  rw [List.getElem?_take, List.getElem?_map]
  by_cases hi : i < l.length
  · have := h2 i hi
    rw [Nat.zero_add, List.getElem?_eq_getElem hi] at this
    rw [if_pos (by omega), List.getElem?_eq_getElem hi, Array.getElem?_toList, this]
    rfl
  · rw [if_neg (by omega), List.getElem?_eq_none (by omega)]; rfl

end Go.Proofs.YtghjhflfcambjaaGreatDoor
