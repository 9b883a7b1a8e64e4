/- The document's answer: Product. -/
import Derived.Test.YtockhhleapbpiaaSwapNToRtG
import Derived.Test.YtockhhleapbpiaaFixBToProdB
import Derived.Test.YtockhhleapbpiaaTabR1ToTabR3
import Derived.Test.YtockhhleapbpiaaConAToFixA
namespace Go.Proofs.Ytockhhleapbpiaa
open Go.RowKit Go.Shelf

/-- The variables so far. -/
def bothI (a b : List Int) (i : Nat) : List Int := iL (bothN i a b)
theorem bothI_succ (a b : List Int) (i : Nat) : bothI a b (i + 1) = bothI a b i ++ if (inB (i : Int) a || inB (i : Int) b) = true then [(i : Int)] else [] := by
  rw [bothI, bothI, bothN, bothN, List.range_succ, List.filter_append, iL, iL, List.map_append]
  congr 1
  by_cases h : (inB (i : Int) a || inB (i : Int) b) = true
  · simp only [List.filter_cons, h, List.filter_nil, if_true, List.map_cons, List.map_nil]
  · simp only [List.filter_cons, h, List.filter_nil]
    rfl
theorem bothI_len (a b : List Int) (i : Nat) : (bothI a b i).length ≤ i := by
  rw [bothI, iL_length]
  exact Nat.le_trans (List.length_filter_le _ _) (by rw [List.length_range]; exact Nat.le_refl _)
theorem RwI.off {w : World} {B : Nat} {v : Value} {l : List Int} (h : RwI w B v l) (b j : Nat) (y : Value) (hb : b < B) : RwI (w.setCell ⟨b, j, none⟩ y) B v l := by
  refine ⟨h.1, h.2.imp id ?_⟩
  rintro ⟨g, cap, cur, h1, h2, h3, h4⟩
  exact ⟨g, cap, cur, h1, h2, (Below.heap_setCell w ⟨b, j, none⟩ y g (by show g ≠ b; omega)).trans h3, h4⟩
theorem RwI.below {w w' : World} {B : Nat} {v : Value} {l : List Int} (h : RwI w B v l) (hb : Below w.heap.size w w') : RwI w' B v l := by
  refine ⟨h.1, h.2.imp id ?_⟩
  rintro ⟨g, cap, cur, h1, h2, h3, h4⟩
  exact ⟨g, cap, cur, h1, h2, (hb.block g (Array.getElem?_eq_some_iff.1 h3).1).trans h3, h4⟩
theorem RwI.slv {w : World} {B : Nat} {v : Value} {l : List Int} (h : RwI w B v l) : SlV v := by
  obtain ⟨d, cd, e, _⟩ := h.ints
  exact ⟨d, _, cd, e⟩
theorem RwI.intS {w : World} {B : Nat} {d : Option Addr} {cd : Nat} {U : List Int} (h : RwI w B (.slice d U.length cd) U) : IntS w d U := by
  obtain ⟨d', cd', e, hi⟩ := h.ints
  cases e
  exact hi

end Go.Proofs.Ytockhhleapbpiaa


/- The law's raw numbers: Pick, sizesOf, All, Some, Less. -/
namespace Go.Proofs.Ytockhhleapbpiaa
open Go.RowKit Go.Shelf

/-- A number below n, of any number. -/
def pickN (c : Int) (n : Nat) : Nat := (if c < 0 then (-(c + 1)).toNat else c.toNat) % n
theorem pickN_lt (c : Int) {n : Nat} (h : 1 ≤ n) : pickN c n < n := Nat.mod_lt _ h

set_option maxRecDepth 100000 in
set_option maxHeartbeats 1000000 in
theorem rPick_same (c : Int) (n : Nat) (w : World) (h1 : -9223372036854775808 ≤ c) (h2 : c ≤ 9223372036854775807) (hn : 1 ≤ n) (hn' : n ≤ 1000) :
    Calls Try.prog 25 #[.int .i64 c, .int .i64 (n : Nat)] w fun e w' => e = .returned (.int .i64 (pickN c n : Nat)) ∧ w' = w := by
  have HP : Hid (pickN c n = (if c < 0 then (-(c + 1)).toNat else c.toNat) % n) := rfl
  have hlt := pickN_lt c hn
  generalize pickN c n = P at *
  by_cases hc : c < 0
  · rw [if_pos hc] at HP
    obtain ⟨d, hd⟩ : ∃ d : Nat, c = -((d : Int) + 1) := ⟨(-(c + 1)).toNat, by omega⟩
    subst hd
    have HE : Hid ((d : Int) % (n : Int) = (P : Int)) := by
      show _ = _
      rw [HP.out, show (-(-((d : Int) + 1) + 1)).toNat = d by omega, Int.natCast_emod]
    have hw : IntKind.i64.wrap (-((d : Int) + 1) + 1) = -(d : Int) := by rw [IntKind.wrap_i64]; omega
    have hw2 : IntKind.i64.wrap (- -(d : Int)) = (d : Int) := by rw [IntKind.wrap_i64]; omega
    go_enter Try.func25, Try.ntmps25
    go_wp2
    go_ret
    exact ⟨by rw [HE.out]; rfl, rfl⟩
  · rw [if_neg hc] at HP
    obtain ⟨d, rfl⟩ : ∃ d : Nat, c = d := ⟨c.toNat, by omega⟩
    have HE : Hid ((d : Int) % (n : Int) = (P : Int)) := by
      show _ = _
      rw [HP.out, Int.toNat_natCast, Int.natCast_emod]
    go_enter Try.func25, Try.ntmps25
    go_wp2
    go_ret
    exact ⟨by rw [HE.out]; rfl, rfl⟩
theorem rPick_any (c : Int) (n : Nat) (w : World) (h1 : -9223372036854775808 ≤ c) (h2 : c ≤ 9223372036854775807) (hn : 1 ≤ n) (hn' : n ≤ 1000) :
    Calls Try.prog 25 #[.int .i64 c, .int .i64 (n : Nat)] w fun e w' => e = .returned (.int .i64 (pickN c n : Nat)) ∧ Below w.heap.size w w' := by
  refine (rPick_same c n w h1 h2 hn hn').mono ?_
  rintro e w' ⟨h, rfl⟩
  exact ⟨h, Below.refl _ _⟩

/-- Sizes so far. -/
def Each3 (L : List Int) : Prop := ∀ i (h : i < L.length), 1 ≤ L[i] ∧ L[i] ≤ 3
theorem Each3.snoc {L : List Int} {x : Int} (h : Each3 L) (h1 : 1 ≤ x) (h2 : x ≤ 3) : Each3 (L ++ [x]) := by
  intro i hi
  rw [List.getElem_append]
  by_cases e : i < L.length
  · rw [dif_pos e]; exact h i e
  · rw [dif_neg e, List.getElem_singleton]; exact ⟨h1, h2⟩
theorem Each3.sz {L : List Int} (h : Each3 L) (h1 : 3 ≤ L.length) (h2 : L.length ≤ 5) : Sz3 L := ⟨⟨by omega, by omega, fun i hi => ⟨(h i hi).1, by have := (h i hi).2; omega⟩⟩, fun i hi => (h i hi).2, h1, h2⟩
theorem new_int (w : World) (u : Int) : IntS (w.alloc (.cells #[.int .i64 u] 3)) (some ⟨w.heap.size, 0, none⟩) [u] := fun k hk => by
  obtain rfl : k = 0 := by simp at hk; omega
  exact ⟨w.heap.size, 0, rfl, by simp, (Boxed.new w _ _).cell⟩

end Go.Proofs.Ytockhhleapbpiaa


/- The law GraphTrees: the graph that it makes. -/
namespace Go.Proofs.Ytockhhleapbpiaa
open Go.RowKit Go.Shelf

/-- Two nodes are near, as the numbers say. -/
def edB (E : List Int) (a b : Nat) : Bool := decide (0 < E.length) && decide (pickN (E.getD ((a * 7 + b * 3) % E.length) 0) 3 = 0)
def eB (E : List Int) (v u : Nat) : Bool := decide (u ≠ v) && edB E (min u v) (max u v)
def nrP (E : List Int) (v u : Nat) : List Nat := (List.range u).filter (eB E v)
theorem nrP_yes {E : List Int} {v u : Nat} (h : eB E v u = true) : nrP E v (u + 1) = nrP E v u ++ [u] := by rw [nrP, List.range_succ, List.filter_append, nrP]; simp [h]
theorem nrP_no {E : List Int} {v u : Nat} (h : eB E v u = false) : nrP E v (u + 1) = nrP E v u := by rw [nrP, List.range_succ, List.filter_append, nrP]; simp [h]
theorem nrP_len (E : List Int) (v u : Nat) : (nrP E v u).length ≤ u := by
  have := List.length_filter_le (eB E v) (List.range u)
  rwa [List.length_range] at this
def nrN (E : List Int) (n : Nat) : List (List Int) := (List.range n).map fun v => iL (nrP E v n)
theorem own_same {w w' : World} {B : Nat} {e : TypeId} {s : Nat} {v : Value} {n : Nat} {xs : List Value} (h : w.ownsRow B e s v n xs) (hk : ∀ g, v.ownBlock = some g → w'.heap[g]? = w.heap[g]?) : w'.ownsRow B e s v n xs := by
  refine ⟨h.1, ?_⟩
  rcases h.2 with h1 | ⟨g, cap, cur, h1, h2, h3, h4⟩
  · exact .inl h1
  · exact .inr ⟨g, cap, cur, h1, h2, (hk g (by rw [h1]; rfl)).trans h3, h4⟩
theorem own_lt {w : World} {B : Nat} {e : TypeId} {s : Nat} {v : Value} {n : Nat} {xs : List Value} (h : w.ownsRow B e s v n xs) : ∀ g, v.ownBlock = some g → g < w.heap.size := fun g hg => by
  obtain ⟨c, fr, h1⟩ := own_typed h g hg
  exact (Array.getElem?_eq_some_iff.1 h1).1
/-- The graph under way: lists of the nodes below v are made. -/
structure NM (w : World) (E : List Int) (n v : Nat) (vs : List Value) (W : World) : Prop where
  len : vs.length = n
  row : RowV W w.heap.size vs
  past : ∀ j, j < v → j < n → ∃ x, vs[j]? = some x ∧ RwI W (w.heap.size + 1) x (iL (nrP E j n))
  next : ∀ j, v ≤ j → j < n → vs[j]? = some (.slice none 0 0)
  low : Below w.heap.size w W
/-- The list of v under way. -/
structure NI (w : World) (E : List Int) (n v u : Nat) (vs : List Value) (U : World) (x : Value) (W : World) : Prop where
  len : vs.length = n
  vlt : v < n
  big : w.heap.size < U.heap.size
  size : U.heap.size ≤ W.heap.size
  row : RowV W w.heap.size (vs.set v x)
  own : RwI W U.heap.size x (iL (nrP E v u))
  past : ∀ j, j < v → j < n → ∃ x, vs[j]? = some x ∧ RwI W (w.heap.size + 1) x (iL (nrP E j n)) ∧ ∀ g, x.ownBlock = some g → g < U.heap.size
  next : ∀ j, v < j → j < n → vs[j]? = some (.slice none 0 0)
  low : Below w.heap.size w W
theorem NI.start {w : World} {E : List Int} {n v : Nat} {vs : List Value} {U : World} (h : NM w E n v vs U) (hv : v < n) : NI w E n v 0 vs U (.slice none 0 0) U := by
  have e : vs.set v (.slice none 0 0) = vs := by
    have := h.next v (Nat.le_refl _) hv
    obtain ⟨h1, h2⟩ := List.getElem?_eq_some_iff.1 this
    rw [← h2]
    exact List.set_getElem_self h1
  exact ⟨h.len, hv, h.row.lt, Nat.le_refl _, by rw [e]; exact h.row, ⟨rfl, .inl ⟨rfl, rfl⟩⟩, fun j h1 h2 => by
    obtain ⟨x, a1, a2⟩ := h.past j h1 h2
    exact ⟨x, a1, a2, own_lt a2⟩, fun j h1 h2 => h.next j (by omega) h2, h.low⟩
theorem NI.fin {w : World} {E : List Int} {n v : Nat} {vs : List Value} {U : World} {x : Value} {W : World} (h : NI w E n v n vs U x W) : NM w E n (v + 1) (vs.set v x) W :=
  ⟨by rw [List.length_set]; exact h.len, h.row, fun j h1 h2 => by
    by_cases e : j = v
    · subst e
      exact ⟨x, by rw [List.getElem?_set_self (by rw [h.len]; exact h2)], own_low h.own h.big⟩
    · obtain ⟨y, a1, a2, _⟩ := h.past j (by omega) h2
      exact ⟨y, by rw [List.getElem?_set_ne (fun e' => e e'.symm)]; exact a1, a2⟩, fun j h1 h2 => by
    rw [List.getElem?_set_ne (by omega)]
    exact h.next j (by omega) h2, h.low⟩
theorem NI.below {w : World} {E : List Int} {n v u : Nat} {vs : List Value} {U : World} {x : Value} {W W' : World} (h : NI w E n v u vs U x W) (hb : Below W.heap.size W W') : NI w E n v u vs U x W' :=
  ⟨h.len, h.vlt, h.big, Nat.le_trans h.size hb.size, h.row.below hb h.row.lt, h.own.under hb, fun j h1 h2 => by
    obtain ⟨y, a1, a2, a3⟩ := h.past j h1 h2
    exact ⟨y, a1, a2.under hb, a3⟩, h.next, h.low.trans (hb.mono h.low.size)⟩
theorem NI.skip {w : World} {E : List Int} {n v u : Nat} {vs : List Value} {U : World} {x : Value} {W : World} (h : NI w E n v u vs U x W) (he : eB E v u = false) : NI w E n v (u + 1) vs U x W :=
  ⟨h.len, h.vlt, h.big, h.size, h.row, by rw [nrP_no he]; exact h.own, h.past, h.next, h.low⟩
/-- The append's world: all lies there but the list's own block. -/
theorem NI.grow {w : World} {E : List Int} {n v u : Nat} {vs : List Value} {U : World} {x : Value} {W W' : World} (h : NI w E n v u vs U x W) (hg : W.grownBy W' x.ownBlock) : RowV W' w.heap.size (vs.set v x) ∧ Below w.heap.size w W' ∧ U.heap.size ≤ W'.heap.size ∧ ∀ j, j < v → j < n → ∃ y, vs[j]? = some y ∧ RwI W' (w.heap.size + 1) y (iL (nrP E j n)) ∧ ∀ g, y.ownBlock = some g → g < U.heap.size := by
  have hf := own_from h.own
  have hsame : ∀ k, k < U.heap.size → W'.heap[k]? = W.heap[k]? := fun k hk => hg.block k (Nat.lt_of_lt_of_le hk h.size) (fun e => by have := hf k e.symm; omega)
  refine ⟨(hsame _ h.big).trans h.row, h.low.grown hg h.low.size (fun k e => Nat.le_trans (Nat.le_of_lt h.big) (hf k e)), Nat.le_trans h.size hg.size, fun j h1 h2 => ?_⟩
  obtain ⟨y, a1, a2, a3⟩ := h.past j h1 h2
  exact ⟨y, a1, own_same a2 (fun g e => hsame g (a3 g e)), a3⟩
theorem NI.push {w : World} {E : List Int} {n v u : Nat} {vs : List Value} {U : World} {x x' : Value} {W W' : World} (h : NI w E n v u vs U x W) (he : eB E v u = true) (hr : RwI W' U.heap.size x' (iL (nrP E v u) ++ [(u : Int)])) (hg : W.grownBy W' x.ownBlock) : NI w E n v (u + 1) vs U x' (W'.setCell ⟨w.heap.size, v, none⟩ x') := by
  obtain ⟨g1, g2, g3, g4⟩ := h.grow hg
  have hfar : ∀ k, k ≠ w.heap.size → (W'.setCell ⟨w.heap.size, v, none⟩ x').heap[k]? = W'.heap[k]? := fun k hk => Below.heap_setCell W' ⟨w.heap.size, v, none⟩ x' k hk
  refine ⟨h.len, h.vlt, h.big, Nat.le_trans g3 (KeepsOthers.setCell W' _ _).size, ?_, ?_, fun j h1 h2 => ?_, h.next, g2.setCell (p := ⟨w.heap.size, v, none⟩) (Nat.le_refl _) _⟩
  · have := g1.set v x'
    rwa [List.set_set] at this
  · rw [nrP_yes he, iL_append]
    exact own_same hr (fun g e => hfar g (by have := own_from hr g e; have := h.big; omega))
  · obtain ⟨y, a1, a2, a3⟩ := g4 j h1 h2
    exact ⟨y, a1, own_same a2 (fun g e => hfar g (by have := own_from a2 g e; omega)), a3⟩
theorem NM.lists {w : World} {E : List Int} {n : Nat} {vs : List Value} {W : World} (h : NM w E n n vs W) : LsS W (some ⟨w.heap.size, 0, none⟩) (nrN E n) := fun k hk => by
  have hkn : k < n := by simpa [nrN] using hk
  obtain ⟨x, a1, a2⟩ := h.past k hkn hkn
  obtain ⟨d, cd, rfl, hi⟩ := a2.ints
  obtain ⟨b1, b2⟩ := List.getElem?_eq_some_iff.1 a1
  have e : (nrN E n)[k] = iL (nrP E k n) := by simp [nrN]
  rw [e]
  exact ⟨w.heap.size, 0, d, cd, rfl, h.row.lt, by rw [Nat.zero_add, h.row.cell k b1, b2], hi⟩
end Go.Proofs.Ytockhhleapbpiaa

