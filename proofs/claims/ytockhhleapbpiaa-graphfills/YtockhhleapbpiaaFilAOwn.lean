/- Memory of the document's answers Fill and Tree: rows that grow beside others, lists of lists, a matrix of bools. -/
import Derived.Test.YtockhhleapbpiaaTreGToOrdD
import Derived.Test.YtockhhleapbpiaaOrdEOwn
namespace Go.Proofs.Ytockhhleapbpiaa
open Go.RowKit Go.Shelf

theorem KpT.set {t t' : TypeId} {w : World} {b : Nat} {c' : Array Value} {fr' : Nat × Nat} (hb : w.heap[b]? = some (.cells c' t' fr')) (hne : t ≠ t') (j : Nat) (y : Value) : KpT t w (w.setCell ⟨b, j, none⟩ y) := fun k c fr h => by
  refine (Below.heap_setCell w ⟨b, j, none⟩ y k fun e => ?_).trans h
  have e' : k = b := e
  subst e'
  rw [h] at hb
  cases hb
  exact hne rfl
theorem KpT.trans {t : TypeId} {a b c : World} (h : KpT t a b) (k : KpT t b c) : KpT t a c := fun i cs fr hi => k i cs fr (h i cs fr hi)
theorem KpT.refl {t : TypeId} (a : World) : KpT t a a := fun _ _ _ h => h
/-- An append leaves a row where it was, or makes a new block. -/
theorem wpList_append_int1 {w : World} {ops : Array Oper} {rest : List Oper} {o : Oper} {a : Act} {Q : Exit → Act → World → Prop} (hgd : o.guard = none) (s x : Operand)
    (ho : o.op = .call { callee := .builtin .append, args := #[s, x], argTypes := #[23, 23] }) (base : Nat) (v : Value) (l : List Int) (f : Int) (hs : a.eval s = v) (hown : RwI w base v l) (g : Nat) (hx : a.eval x = .slice (some ⟨g, 0, none⟩) 1 1) (hg : w.cell? ⟨g, 0, none⟩ = some (.int .i64 f)) (hlen : l.length + 1 ≤ 100000) (hbase : base ≤ w.heap.size)
    (h : ∀ v' w', RwI w' base v' (l ++ [f]) → w.grownBy w' v.ownBlock → (v'.ownBlock = v.ownBlock ∨ ∀ k, v'.ownBlock = some k → w.heap.size ≤ k) → wpList Try.prog ops Q rest (a.put o.dst v') w') : wpList Try.prog ops Q (o :: rest) a w := by
  obtain ⟨i0, hi0, hz0, hz1, hz2⟩ := info_parts Try.infoInt
  have hnews : ∀ j u, [Value.int .i64 f][j]? = some u → w.cell? ((⟨g, 0, none⟩ : Addr).add j) = some u := fun j u hj => by
    match j, hj with
    | 0, hj => cases hj; exact hg
    | j + 1, hj => simp at hj
  have hone : ∀ u ∈ [Value.int .i64 f], u.oneCell' = true := fun u hu => by
    simp only [List.mem_cons, List.not_mem_nil, or_false] at hu
    subst hu; rfl
  have hmax : l.length + 1 ≤ maxLen := by unfold maxLen; omega
  obtain ⟨v', w', hr, h2, h3, -⟩ := run_append_own (P := Try.prog) w base 23 o.type 3 i0 (.int .i64 0) 1 8 Try.underlying23 hi0 hz0 hz1 hz2 rfl (by decide) v l.length _ hown ⟨g, 0, none⟩ 1 1 [.int .i64 f] rfl hnews hone hmax (by omega) hbase
  have hnew : v'.ownBlock = v.ownBlock ∨ ∀ k, v'.ownBlock = some k → w.heap.size ≤ k := by
    rcases hown.2 with ⟨h4, h5⟩ | ⟨g', cap, cur, h4, hbg, hg', hnc, hcm, hcs, htake⟩
    · right
      have e := run_append_nil (P := Try.prog) w 23 o.type 3 i0 (.int .i64 0) Try.underlying23 hi0 hz0 ⟨g, 0, none⟩ 1 1 [.int .i64 f] (by rw [hz1]; rfl) hnews (by decide) (by decide) (by rw [hz2]; decide)
      rw [h4] at hr
      rw [hr] at e
      cases e
      intro k hk
      cases hk
      exact Nat.le_refl _
    · rw [h4] at hr
      by_cases hroom : l.length + 1 ≤ cap
      · left
        have e := run_append_room (P := Try.prog) w 23 o.type 3 i0 Try.underlying23 hi0 g' l.length cap cur hg' ⟨g, 0, none⟩ 1 1 [.int .i64 f] (by rw [hz1]; rfl) hnews hone hroom (by rw [hz1, hcs]; simp; omega)
        rw [hr] at e
        cases e
        rw [h4]; rfl
      · right
        have hown' := hown
        rw [h4] at hown'
        have e := run_append_grow (P := Try.prog) w 23 o.type 3 i0 (.int .i64 0) Try.underlying23 hi0 hz0 ⟨g', 0, none⟩ l.length cap (l.map (Value.int .i64)) (by rw [hz1]; simp) (World.ownsRow.cells hown' rfl) ⟨g, 0, none⟩ 1 1 [.int .i64 f] (by rw [hz1]; rfl) hnews (by omega) (by omega) (growslice_fits (by omega) (by rw [hz2]; omega))
        rw [hr] at e
        cases e
        intro k hk
        cases hk
        exact Nat.le_refl _
  refine wpList_plain hgd fun _ hK => ?_
  unfold Oper.wp execOp
  simp only [ho, resolve, invoke, builtin, Sem.run_bind, Sem.run_pure, Result.andThen_ok, List.map_toArray, List.map_cons, List.map_nil, hs, hx, hr]
  refine hK _ _ (h v' w' ?_ h3 hnew)
  rw [RwI, List.length_append, List.map_append]
  exact h2
/-- A list and what its value lists. -/
abbrev PI2 : Type := Value × List Int
/-- Lists in a row, each with its own. -/
def OwI (w : World) (B : Nat) (y : Value) (P : List PI2) : Prop := w.ownsRow B 23 1 y P.length (P.map (·.1)) ∧ ∀ p ∈ P, RwI w B p.1 p.2
theorem OwI.nil (w : World) (B : Nat) : OwI w B (.slice none 0 0) [] := ⟨⟨rfl, .inl ⟨rfl, rfl⟩⟩, fun p hp => by cases hp⟩
theorem wpList_append_list {w : World} {ops : Array Oper} {rest : List Oper} {o : Oper} {a : Act} {Q : Exit → Act → World → Prop} (hgd : o.guard = none) (s x : Operand)
    (ho : o.op = .call { callee := .builtin .append, args := #[s, x], argTypes := #[22, 22] }) (base : Nat) (v : Value) (P : List PI2) (d : Option Addr) (nd cd : Nat) (hs : a.eval s = v) (hown : w.ownsRow base 23 1 v P.length (P.map (·.1))) (g : Nat) (hx : a.eval x = .slice (some ⟨g, 0, none⟩) 1 1) (hg : w.cell? ⟨g, 0, none⟩ = some (.slice d nd cd)) (hlen : P.length + 1 ≤ 100000) (hbase : base ≤ w.heap.size)
    (h : ∀ v' w', w'.ownsRow base 23 1 v' (P.length + 1) (P.map (·.1) ++ [.slice d nd cd]) → w.grownBy w' v.ownBlock → wpList Try.prog ops Q rest (a.put o.dst v') w') : wpList Try.prog ops Q (o :: rest) a w := by
  obtain ⟨i0, hi0, hz0, hz1, hz2⟩ := info_parts Try.infoInts1
  refine wpList_append_own _ hgd s x 22 ho base 23 i0 (.slice none 0 0) 1 24 Try.underlying22 hi0 hz0 hz1 hz2 rfl (by decide) v P.length _ hs hown ⟨g, 0, none⟩ 1 1 [.slice d nd cd] hx rfl ?_ ?_ (by unfold maxLen; omega) (by omega) hbase ?_
  · intro j u hj
    match j, hj with
    | 0, hj => cases hj; exact hg
    | j + 1, hj => simp at hj
  · intro u hu
    simp only [List.mem_cons, List.not_mem_nil, or_false] at hu
    subst hu
    rfl
  · intro v' w' h1 h2 _
    exact h v' w' h1 h2
/-- Rows that lie elsewhere. -/
def ApT (v : Value) (P : List PI2) : Prop := ∀ p ∈ P, ∀ g, p.1.ownBlock = some g → v.ownBlock ≠ some g
/-- Where a row of ints grows, the lists that lie elsewhere stay. -/
theorem OwI.grown {w w' : World} {B : Nat} {y v : Value} {P : List PI2} (h : OwI w B y P) (ha : ApT v P) {l : List Int} {b : Nat} (hv : RwI w b v l) (hg : w.grownBy w' v.ownBlock) : OwI w' B y P := by
  refine ⟨own_kp h.1 (KpT.grown hg (own_typed hv) (by decide)), fun p hp => (h.2 p hp).kept hg ?_⟩
  cases e : p.1.ownBlock with
  | none => exact .inl rfl
  | some g => exact .inr fun e' => ha p hp g e (by rw [← e'])
theorem ApT.grown {w : World} {B : Nat} {y v v' : Value} {P : List PI2} (h : OwI w B y P) (ha : ApT v P) (hn : v'.ownBlock = v.ownBlock ∨ ∀ k, v'.ownBlock = some k → w.heap.size ≤ k) : ApT v' P := fun p hp g hg e => by
  rcases hn with hn | hn
  · exact ha p hp g hg (by rw [← hn]; exact e)
  · have := hn g e
    have := ((h.2 p hp).lt g hg).2
    omega
/-- A row of bools. -/
def RowB (w : World) (g : Nat) (l : List Bool) : Prop := w.heap[g]? = some (.cells (l.map Value.bool).toArray 4 (0, 0))
theorem RowB.cell {w : World} {g : Nat} {l : List Bool} (h : RowB w g l) (j : Nat) (hj : j < l.length) : w.cell? ⟨g, j, none⟩ = some (.bool l[j]) := by
  rw [cell_of_row w g j _ _ (0, 0) h]
  simp [hj]
theorem RowB.fz {w : World} {g : Nat} {l : List Bool} (h : RowB w g l) (j : Nat) : w.frozen? ⟨g, j, none⟩ = false := frozen_of_row w g j _ _ h
theorem RowB.set {w : World} {g : Nat} {l : List Bool} (h : RowB w g l) (j : Nat) (y : Bool) : RowB (w.setCell ⟨g, j, none⟩ (.bool y)) g (l.set j y) := by
  have h2 := heap_setCell_same w g j _ _ (.bool y) h
  rw [RowB, h2]
  simp [List.map_set]
theorem made_bools (n : Nat) : (madeCells (Value.bool false).cells (n * 1)).toList = List.replicate n (Value.bool false) := by
  rw [show (Value.bool false).cells = #[Value.bool false] from rfl, toList_madeCells_one, Nat.mul_one]
theorem Try.infoBool1 : (Try.prog.info? 4).map (fun i => (i.zero, i.size, i.bytes)) = some (some (.bool false), 1, 1) := by kernel_rfl
theorem Try.infoBools1 : (Try.prog.info? 75).map (fun i => (i.zero, i.size, i.bytes)) = some (some (.slice none 0 0), 1, 24) := by kernel_rfl
/-- What the block of all rows holds, where c rows are made. -/
def topV (n c : Nat) (R : Nat → Nat) : List Value := (List.range n).map fun v => if v < c then .slice (some ⟨R v, 0, none⟩) n n else .slice none 0 0
theorem topV_length (n c : Nat) (R : Nat → Nat) : (topV n c R).length = n := by simp [topV]
theorem topV_at {n c : Nat} {R : Nat → Nat} {v : Nat} (hv : v < n) (hc : v < c) : (topV n c R)[v]'(by rw [topV_length]; exact hv) = .slice (some ⟨R v, 0, none⟩) n n := by simp [topV, hc]
/-- A matrix of bools: c rows of n. -/
structure Mat (W : World) (B G n c : Nat) (R : Nat → Nat) (e : Nat → Nat → Bool) : Prop where
  top : W.heap[G]? = some (.cells (topV n c R).toArray 75 (0, 0))
  row : ∀ v, v < c → v < n → RowB W (R v) ((List.range n).map (e v))
  inj : ∀ v v', v < c → v' < c → R v = R v' → v = v'
  low : ∀ v, v < c → B ≤ R v
  gl : B ≤ G
theorem Mat.keep {W W' : World} {B G n c : Nat} {R : Nat → Nat} {e : Nat → Nat → Bool} (h : Mat W B G n c R e) (h1 : KpT 75 W W') (h2 : KpT 4 W W') : Mat W' B G n c R e := ⟨h1 _ _ _ h.top, fun v hc hv => h2 _ _ _ (h.row v hc hv), h.inj, h.low, h.gl⟩
theorem Mat.below {W W' : World} {B G n c : Nat} {R : Nat → Nat} {e : Nat → Nat → Bool} (h : Mat W B G n c R e) (hb : Below W.heap.size W W') : Mat W' B G n c R e := h.keep (KpT.below hb) (KpT.below hb)
theorem Mat.slice {W : World} {B G n c : Nat} {R : Nat → Nat} {e : Nat → Nat → Bool} (h : Mat W B G n c R e) {v : Nat} (hv : v < n) (hc : v < c) : W.cell? ⟨G, v, none⟩ = some (.slice (some ⟨R v, 0, none⟩) n n) := by
  rw [cell_of_row W G v _ _ (0, 0) h.top, List.getElem?_toArray, List.getElem?_eq_getElem (by rw [topV_length]; exact hv), topV_at hv hc]
theorem Mat.cell {W : World} {B G n c : Nat} {R : Nat → Nat} {e : Nat → Nat → Bool} (h : Mat W B G n c R e) {v u : Nat} (hv : v < n) (hc : v < c) (hu : u < n) : W.cell? ⟨R v, u, none⟩ = some (.bool (e v u)) := by
  rw [(h.row v hc hv).cell u (by simpa using hu)]
  simp
theorem Mat.set {W : World} {B G n c : Nat} {R : Nat → Nat} {e e' : Nat → Nat → Bool} (h : Mat W B G n c R e) {v u : Nat} {b : Bool} (hv : v < n) (hc : v < c) (he : ∀ v' u', e' v' u' = if v' = v ∧ u' = u then b else e v' u') : Mat (W.setCell ⟨R v, u, none⟩ (.bool b)) B G n c R e' := by
  have hr := h.row v hc hv
  refine ⟨KpT.set hr (by decide) u _ _ _ _ h.top, fun v' hc' hv' => ?_, h.inj, h.low, h.gl⟩
  by_cases ev : v' = v
  · subst ev
    have := hr.set u b
    have el : ((List.range n).map (e v')).set u b = (List.range n).map (e' v') := by
      refine List.ext_getElem (by simp) fun j h1 h2 => ?_
      rw [List.getElem_set]
      simp only [List.getElem_map, List.getElem_range, he]
      by_cases ej : u = j
      · simp [ej]
      · rw [if_neg ej, if_neg fun e => ej e.2.symm]
    rwa [el] at this
  · have ne : R v' ≠ R v := fun e => ev (h.inj v' v hc' hc e)
    have el : (List.range n).map (e' v') = (List.range n).map (e v') := List.map_congr_left fun j _ => by rw [he, if_neg fun e => ev e.1]
    rw [el]
    exact (Below.heap_setCell W ⟨R v, u, none⟩ _ (R v') ne).trans (h.row v' hc' hv')
theorem Mat.congr {W : World} {B G n c : Nat} {R : Nat → Nat} {e e' : Nat → Nat → Bool} (h : Mat W B G n c R e) (he : ∀ v u, v < c → u < n → e v u = e' v u) : Mat W B G n c R e' := ⟨h.top, fun v hc hv => by
  have el : (List.range n).map (e' v) = (List.range n).map (e v) := List.map_congr_left fun j hj => (he v j hc (List.mem_range.1 hj)).symm
  rw [el]; exact h.row v hc hv, h.inj, h.low, h.gl⟩
/-- One row more. -/
theorem Mat.more {W W1 : World} {B G n c g : Nat} {R : Nat → Nat} {e : Nat → Nat → Bool} (h : Mat W B G n c R e) (hb : Below W.heap.size W W1) (hg : W.heap.size ≤ g) (hB : B ≤ W.heap.size) (hr : RowB W1 g (List.replicate n false)) (hc : c < n) : Mat (W1.setCell ⟨G, c, none⟩ (.slice (some ⟨g, 0, none⟩) n n)) B G n (c + 1) (fun x => if x = c then g else R x) (fun v u => if v = c then false else e v u) := by
  have hlt : ∀ v, v < c → R v < W.heap.size := fun v hv => (Array.getElem?_eq_some_iff.1 (h.row v hv (by omega))).1
  have hG : W1.heap[G]? = some (.cells (topV n c R).toArray 75 (0, 0)) := KpT.below hb _ _ _ h.top
  have hset := heap_setCell_same W1 G c _ _ (.slice (some ⟨g, 0, none⟩) n n) hG
  have hrow : ∀ r l, RowB W1 r l → RowB (W1.setCell ⟨G, c, none⟩ (.slice (some ⟨g, 0, none⟩) n n)) r l := fun r l hl => KpT.set hG (by decide) c _ _ _ _ hl
  refine ⟨?_, fun v hv hvn => ?_, fun v v' hv hv' e' => ?_, fun v hv => ?_, h.gl⟩
  · rw [hset]
    have el : (topV n c R).toArray.setIfInBounds c (.slice (some ⟨g, 0, none⟩) n n) = (topV n (c + 1) (fun x => if x = c then g else R x)).toArray := by
      rw [List.setIfInBounds_toArray]
      congr 1
      refine List.ext_getElem (by simp [topV]) fun j h1 h2 => ?_
      rw [List.getElem_set]
      simp only [topV, List.getElem_map, List.getElem_range]
      by_cases ej : c = j
      · subst ej; simp
      · rw [if_neg ej]
        by_cases hj : j < c
        · rw [if_pos hj, if_pos (by omega), if_neg (by omega)]
        · rw [if_neg hj, if_neg (by omega)]
    rw [el]
  · by_cases ev : v = c
    · subst ev
      have el : (List.range n).map (fun u => if v = v then false else e v u) = List.replicate n false := List.ext_getElem (by simp) fun i _ _ => by simp
      show RowB _ (if v = v then g else R v) ((List.range n).map (fun u => if v = v then false else e v u))
      rw [if_pos rfl, el]
      exact hrow _ _ hr
    · show RowB _ (if v = c then g else R v) ((List.range n).map (fun u => if v = c then false else e v u))
      simp only [if_neg ev]
      exact hrow _ _ (KpT.below hb _ _ _ (h.row v (by omega) hvn))
  · have e1 : (if v = c then g else R v) = (if v' = c then g else R v') := e'
    by_cases h1 : v = c
    · by_cases h2 : v' = c
      · rw [h1, h2]
      · rw [if_pos h1, if_neg h2] at e1
        have := hlt v' (by omega); omega
    · by_cases h2 : v' = c
      · rw [if_neg h1, if_pos h2] at e1
        have := hlt v (by omega); omega
      · rw [if_neg h1, if_neg h2] at e1
        exact h.inj v v' (by omega) (by omega) e1
  · show B ≤ (if v = c then g else R v)
    by_cases h1 : v = c
    · rw [if_pos h1]; omega
    · rw [if_neg h1]; exact h.low v (by omega)
/-- The matrix under way: all rows ahead of v, of v what stands ahead of u. -/
def e0B (P : List (List Nat)) (v u v' u' : Nat) : Bool := (decide (v' < v) || (decide (v' = v) && decide (u' < u))) && decide (u' ∈ P.getD v' [])
theorem e0B_put (P : List (List Nat)) (v u v' u' : Nat) : e0B P v (u + 1) v' u' = if v' = v ∧ u' = u then decide (u ∈ P.getD v []) else e0B P v u v' u' := by
  by_cases h : v' = v ∧ u' = u
  · rw [if_pos h, h.1, h.2]; simp [e0B]
  · rw [if_neg h, e0B, e0B]
    congr 2
    by_cases h1 : v' = v
    · have h2 : u' ≠ u := fun e => h ⟨h1, e⟩
      rw [decide_eq_true h1, Bool.true_and, Bool.true_and]
      exact decide_eq_decide.2 ⟨fun _ => by omega, fun _ => by omega⟩
    · rw [decide_eq_false h1, Bool.false_and, Bool.false_and]
theorem e0B_next {P : List (List Nat)} {n v v' u' : Nat} (h1 : v' < v + 1) (h2 : u' < n) : e0B P v n v' u' = e0B P (v + 1) 0 v' u' := by
  rw [e0B, e0B]
  congr 1
  rw [decide_eq_true h1, Bool.true_or, Bool.or_eq_true, decide_eq_true_iff, Bool.and_eq_true, decide_eq_true_iff, decide_eq_true_iff]
  omega
theorem e0B_new (P : List (List Nat)) {v v' : Nat} (_h : v' < v + 1) (u' : Nat) : (if v' = v then false else e0B P v 0 v' u') = e0B P v 0 v' u' := by
  by_cases e : v' = v
  · rw [if_pos e, e]; simp [e0B]
  · rw [if_neg e]
end Go.Proofs.Ytockhhleapbpiaa

