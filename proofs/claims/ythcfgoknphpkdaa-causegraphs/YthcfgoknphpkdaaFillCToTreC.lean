/- Package graph: fill. -/
import Derived.Test.YthcfgoknphpkdaaOrdAToListB
import Derived.Test.YthcfgoknphpkdaaTabR1ToTabP1
namespace Go.Proofs.Ythcfgoknphpkdaa
open Go.RowKit Go.Shelf

/-- A list of sets in memory of its own. -/
def RwU (w : World) (B : Nat) (v : Value) (l : List Nat) : Prop := w.ownsRow B 46 1 v l.length (l.map uv)
theorem RwU.own {w : World} {B : Nat} {v : Value} {l : List Nat} (h : RwU w B v l) : ∀ k, v.ownBlock = some k → B ≤ k := by
  intro k hk
  rcases h.2 with ⟨rfl, _⟩ | ⟨g, cap, cur, rfl, h2, _⟩
  · cases hk
  · cases hk
    exact h2
theorem RwU.slv {w : World} {B : Nat} {v : Value} {l : List Nat} (h : RwU w B v l) : ∃ d n c, v = .slice d n c := by
  rcases h.2 with ⟨rfl, _⟩ | ⟨g, cap, cur, rfl, h2, _⟩
  · exact ⟨_, _, _, rfl⟩
  · exact ⟨_, _, _, rfl⟩
theorem own_types {W : World} {B1 B2 : Nat} {e1 e2 : TypeId} {v1 v2 : Value} {n1 n2 : Nat} {x1 x2 : List Value} (h1 : W.ownsRow B1 e1 1 v1 n1 x1) (h2 : W.ownsRow B2 e2 1 v2 n2 x2) (he : e1 ≠ e2) : v2.ownBlock = none ∨ v2.ownBlock ≠ v1.ownBlock := by
  rcases h2.2 with ⟨rfl, _⟩ | ⟨g, cap, cur, rfl, _, hg, _⟩
  · exact .inl rfl
  · refine .inr fun e => ?_
    rcases h1.2 with ⟨rfl, _⟩ | ⟨g', cap', cur', rfl, _, hg', _⟩
    · cases e
    · have e' : g = g' := Option.some.inj e
      subst e'
      rw [hg] at hg'
      injection hg' with h3
      injection h3 with _ h4 _
      exact he h4.symm
theorem own_not {W : World} {B G : Nat} {e : TypeId} {v : Value} {n : Nat} {x : List Value} (h : W.ownsRow B e 1 v n x) (hG : G < B) : v.ownBlock = none ∨ v.ownBlock ≠ some G := by
  rcases h.2 with ⟨rfl, _⟩ | ⟨g, cap, cur, rfl, hB, _⟩
  · exact .inl rfl
  · exact .inr fun e => by
      have e' : g = G := Option.some.inj e
      omega
theorem grown_more {w V V' : World} {G : Nat} {row : Option Nat} (h : w.grownBy V (some G)) (hg : V.grownBy V' row) (hr : ∀ r, row = some r → w.heap.size ≤ r) : w.grownBy V' (some G) :=
  ⟨hg.os.trans h.os, hg.tape.trans h.tape, hg.output.trans h.output, Nat.le_trans h.size hg.size, fun k hk hne => (hg.block k (Nat.lt_of_lt_of_le hk h.size) (fun e => by
    have := hr k e.symm
    omega)).trans (h.block k hk hne)⟩
theorem Try.infoSet2 : (Try.prog.info? 46).map (fun i => (i.zero, i.size, i.bytes)) = some (some (.int .u32 0), 1, 4) := by kernel_rfl
theorem wp_append_set {w : World} {o : Oper} {a : Act} {K : Act → World → Prop} {Q : Exit → Act → World → Prop} (s x : Operand)
    (ho : o.op = .call { callee := .builtin .append, args := #[s, x], argTypes := #[40, 40] }) (base : Nat) (v : Value) (l : List Nat) (f : Nat) (hs : a.eval s = v) (hown : RwU w base v l) (g : Nat) (hx : a.eval x = .slice (some ⟨g, 0, none⟩) 1 1) (hg : w.cell? ⟨g, 0, none⟩ = some (uv f)) (hlen : l.length + 1 ≤ 100000) (hbase : base ≤ w.heap.size)
    (h : ∀ v' w', RwU w' base v' (l ++ [f]) → w.grownBy w' v.ownBlock → K (a.put o.dst v') w') : o.wp Try.prog a w K Q := by
  obtain ⟨i0, hi0, hz0, hz1, hz2⟩ := info_parts Try.infoSet2
  refine wp_append_own _ s x 40 ho base 46 i0 (.int .u32 0) 1 4 Try.underlying40 hi0 hz0 hz1 hz2 rfl (by decide) v l.length _ hs hown ⟨g, 0, none⟩ 1 1 [uv f] hx rfl ?_ ?_ (by unfold maxLen; omega) (by omega) hbase ?_
  · intro j u hj
    match j, hj with
    | 0, hj => cases hj; exact hg
    | j + 1, hj => simp at hj
  · intro u hu
    simp only [List.mem_cons, List.not_mem_nil, or_false] at hu
    subst hu; rfl
  · intro v' w' h1 h2 _
    refine h v' w' ?_ h2
    rw [RwU, List.length_append, List.map_append]
    exact h1
theorem wp_append_int {w : World} {o : Oper} {a : Act} {K : Act → World → Prop} {Q : Exit → Act → World → Prop} (s x : Operand)
    (ho : o.op = .call { callee := .builtin .append, args := #[s, x], argTypes := #[23, 23] }) (base : Nat) (v : Value) (l : List Int) (f : Int) (hs : a.eval s = v) (hown : RwI w base v l) (g : Nat) (hx : a.eval x = .slice (some ⟨g, 0, none⟩) 1 1) (hg : w.cell? ⟨g, 0, none⟩ = some (.int .i64 f)) (hlen : l.length + 1 ≤ 100000) (hbase : base ≤ w.heap.size)
    (h : ∀ v' w', RwI w' base v' (l ++ [f]) → w.grownBy w' v.ownBlock → K (a.put o.dst v') w') : o.wp Try.prog a w K Q := by
  obtain ⟨i0, hi0, hz0, hz1, hz2⟩ := info_parts Try.infoInt
  refine wp_append_own _ s x 23 ho base 3 i0 (.int .i64 0) 1 8 Try.underlying23 hi0 hz0 hz1 hz2 rfl (by decide) v l.length _ hs hown ⟨g, 0, none⟩ 1 1 [.int .i64 f] hx rfl ?_ ?_ (by unfold maxLen; omega) (by omega) hbase ?_
  · intro j u hj
    match j, hj with
    | 0, hj => cases hj; exact hg
    | j + 1, hj => simp at hj
  · intro u hu
    simp only [List.mem_cons, List.not_mem_nil, or_false] at hu
    subst hu; rfl
  · intro v' w' h1 h2 _
    refine h v' w' ?_ h2
    rw [RwI, List.length_append, List.map_append]
    exact h1
/-- All nodes below i. -/
def upL : Nat → List Nat
  | 0 => []
  | i + 1 => i :: upL i
theorem upL_mem {i x : Nat} : x ∈ upL i ↔ x < i := by
  induction i with
  | zero => simp [upL]
  | succ i ih => rw [upL, List.mem_cons, ih]; omega
/-- Nodes are taken out, one after the other: their order, their bags, what is left, the neighbours. -/
structure FlS where
  ord : List Nat
  bag : List (List Nat)
  lft : List Nat
  nei : List (List Nat)
def flS (P : List (List Nat)) (n : Nat) : Nat → FlS
  | 0 => ⟨[], [], upL n, P⟩
  | k + 1 => ⟨(flS P n k).ord ++ [fewV (flS P n k).nei (flS P n k).lft], (flS P n k).bag ++ [fewV (flS P n k).nei (flS P n k).lft :: (flS P n k).nei.getD (fewV (flS P n k).nei (flS P n k).lft) []], (flS P n k).lft.filter (fun u => decide (u ≠ fewV (flS P n k).nei (flS P n k).lft)), takeL (flS P n k).nei (fewV (flS P n k).nei (flS P n k).lft)⟩
/-- Neighbours that may be. -/
structure Nbr (n : Nat) (P : List (List Nat)) : Prop where
  len : P.length = n
  lt : ∀ p ∈ P, ∀ u ∈ p, u < n
  self : ∀ u, ¬ u ∈ P.getD u []
theorem Nbr.at {n : Nat} {P : List (List Nat)} (h : Nbr n P) (v : Nat) : ∀ u ∈ P.getD v [], u < n := by
  by_cases hv : v < P.length
  · rw [List.getD_eq_getElem?_getD, List.getElem?_eq_getElem hv]; exact h.lt _ (List.getElem_mem hv)
  · rw [List.getD_eq_getElem?_getD, List.getElem?_eq_none (by omega)]; intro u hu; simp at hu
theorem newN_mem {P : List (List Nat)} {v u x : Nat} : x ∈ newN P v u ↔ (x ∈ P.getD u [] ∨ x ∈ P.getD v []) ∧ x ≠ u ∧ x ≠ v := by
  simp only [newN, List.mem_filter, List.mem_append, decide_eq_true_eq]
  exact ⟨fun ⟨⟨a, b⟩, c⟩ => ⟨a, b, c⟩, fun ⟨a, b, c⟩ => ⟨⟨a, b⟩, c⟩⟩
theorem Nbr.take {n : Nat} {P : List (List Nat)} (h : Nbr n P) (v : Nat) : Nbr n (takeL P v) := by
  refine ⟨by rw [takeL, tkS_length]; exact h.len, fun p hp u hu => ?_, fun u hu => ?_⟩
  · obtain ⟨i, hi, rfl⟩ := List.mem_map.1 hp
    by_cases hc : i < 8 ∧ i ∈ P.getD v []
    · rw [if_pos hc, newN_mem] at hu
      exact hu.1.elim (h.at i u) (h.at v u)
    · rw [if_neg hc] at hu
      exact h.at i u hu
  · by_cases hl : u < P.length
    · have e : (takeL P v).getD u [] = if u < 8 ∧ u ∈ P.getD v [] then newN P v u else P.getD u [] := by
        rw [List.getD_eq_getElem?_getD, List.getElem?_eq_getElem (by rw [takeL, tkS_length]; exact hl)]
        simp [takeL, tkS]
      rw [e] at hu
      by_cases hc : u < 8 ∧ u ∈ P.getD v []
      · rw [if_pos hc, newN_mem] at hu
        exact hu.2.1 rfl
      · rw [if_neg hc] at hu
        exact h.self u hu
    · rw [List.getD_eq_getElem?_getD, List.getElem?_eq_none (by rw [takeL, tkS_length]; omega)] at hu
      simp at hu
theorem fwN_in {f : Nat → Nat} {s : List Nat} : ∀ {k b m : Nat}, fwN f s k = some (b, m) → b ∈ s
  | 0, _, _, h => by cases h
  | k + 1, b, m, h => by
    by_cases hk : k ∈ s
    · rw [fwN, if_pos hk] at h
      cases hf : fwN f s k with
      | none => rw [hf] at h; cases h; exact hk
      | some x =>
        obtain ⟨b', m'⟩ := x
        rw [hf] at h
        simp only at h
        by_cases hl : f k < m'
        · rw [if_pos hl] at h; cases h; exact hk
        · rw [if_neg hl] at h; cases h; exact fwN_in hf
    · rw [fwN, if_neg hk] at h
      exact fwN_in h
theorem fewV_lt {n : Nat} {P : List (List Nat)} {s : List Nat} (h1 : 1 ≤ n) (hs : ∀ u ∈ s, u < n) : fewV P s < n := by
  rw [fewV]
  cases h : fwN (lackN P) s 8 with
  | none => exact h1
  | some x =>
    obtain ⟨b, m⟩ := x
    exact hs b (fwN_in h)
theorem flS_ok {n : Nat} {P : List (List Nat)} (h : Nbr n P) : ∀ k, Nbr n (flS P n k).nei ∧ (∀ u ∈ (flS P n k).lft, u < n) ∧ (flS P n k).ord.length = k ∧ (flS P n k).bag.length = k
  | 0 => ⟨h, fun u hu => upL_mem.1 hu, rfl, rfl⟩
  | k + 1 => by
    obtain ⟨h1, h2, h3, h4⟩ := flS_ok h k
    exact ⟨h1.take _, fun u hu => h2 u (List.mem_filter.1 hu).1, by simp [flS, h3], by simp [flS, h4]⟩
/-- What fill holds: the neighbours' row, nodes, bags. -/
structure FX (w wr : World) (G : Nat) (nv bv : Value) (o : List Int) (b Q : List Nat) : Prop where
  row : RowU wr G Q
  grow : w.grownBy wr (some G)
  nd : RwI wr w.heap.size nv o
  bg : RwU wr w.heap.size bv b
theorem FX.below {w wr wr' : World} {G : Nat} {nv bv : Value} {o : List Int} {b Q : List Nat} (h : FX w wr G nv bv o b Q) (hb : Below wr.heap.size wr wr') : FX w wr' G nv bv o b Q :=
  ⟨h.row.below hb h.row.lt, grown_more h.grow (row := none) ⟨hb.os, hb.tape, hb.output, hb.size, fun k hk _ => hb.block k hk⟩ (fun r e => by cases e), h.nd.under hb, own_below h.bg hb (Nat.le_refl _)⟩
theorem FX.nodes {w wr w9 : World} {G : Nat} {nv bv v' : Value} {o o' : List Int} {b Q : List Nat} (h : FX w wr G nv bv o b Q) (hG : G < w.heap.size) (hr : RwI w9 w.heap.size v' o') (hg : wr.grownBy w9 nv.ownBlock) : FX w w9 G v' bv o' b Q :=
  ⟨(hg.block G h.row.lt (fun e => by have := h.nd.own G e.symm; omega)).trans h.row, grown_more h.grow hg (fun r e => h.nd.own r e), hr, World.ownsRow.kept h.bg hg (own_types h.nd h.bg (by decide))⟩
theorem FX.bags {w wr w9 : World} {G : Nat} {nv bv v' : Value} {o : List Int} {b b' Q : List Nat} (h : FX w wr G nv bv o b Q) (hG : G < w.heap.size) (hr : RwU w9 w.heap.size v' b') (hg : wr.grownBy w9 bv.ownBlock) : FX w w9 G nv v' o b' Q :=
  ⟨(hg.block G h.row.lt (fun e => by have := h.bg.own G e.symm; omega)).trans h.row, grown_more h.grow hg (fun r e => h.bg.own r e), World.ownsRow.kept h.nd hg (own_types h.bg h.nd (by decide)), hr⟩
theorem FX.out {w wr w9 : World} {G : Nat} {nv bv : Value} {o : List Int} {b Q Q' : List Nat} (h : FX w wr G nv bv o b Q) (hG : G < w.heap.size) (hr : RowU w9 G Q') (hg : wr.grownBy w9 (some G)) : FX w w9 G nv bv o b Q' :=
  ⟨hr, grown_trans h.grow hg, World.ownsRow.kept h.nd hg (own_not h.nd hG), World.ownsRow.kept h.bg hg (own_not h.bg hG)⟩
theorem FX.drew {w wr : World} {G : Nat} {nv bv : Value} {o : List Int} {b Q : List Nat} (h : FX w wr G nv bv o b Q) : FX w wr.drew G nv bv o b Q := ⟨h.row, grown_drew1 h.grow, h.nd, h.bg⟩

end Go.Proofs.Ythcfgoknphpkdaa


/- Plain: cliques that are linked: a link may be put in another's place (what makes the tree of cliques). -/
namespace Go.Proofs.Ythcfgoknphpkdaa

/-- Two that are linked. -/
def AdjE {α : Type} (E : List (α × α)) (x y : α) : Prop := (x, y) ∈ E ∨ (y, x) ∈ E
theorem AdjE.symm {α : Type} {E : List (α × α)} {x y : α} (h : AdjE E x y) : AdjE E y x := h.elim .inr .inl
/-- A way along links through such alone. -/
inductive WayE {α : Type} (E : List (α × α)) (P : α → Prop) : α → α → Prop
  | here {x : α} : P x → WayE E P x x
  | step {x y z : α} : P x → AdjE E x y → WayE E P y z → WayE E P x z
theorem WayE.fst {α : Type} {E : List (α × α)} {P : α → Prop} {x y : α} (h : WayE E P x y) : P x := by cases h <;> assumption
theorem WayE.lst {α : Type} {E : List (α × α)} {P : α → Prop} {x y : α} (h : WayE E P x y) : P y := by
  induction h with
  | here h => exact h
  | step _ _ _ ih => exact ih
theorem WayE.trans {α : Type} {E : List (α × α)} {P : α → Prop} {x y z : α} (h : WayE E P x y) (h' : WayE E P y z) : WayE E P x z := by
  induction h with
  | here _ => exact h'
  | step hp ha _ ih => exact .step hp ha (ih h')
theorem WayE.back {α : Type} {E : List (α × α)} {P : α → Prop} {x y : α} (h : WayE E P x y) : WayE E P y x := by
  induction h with
  | here h => exact .here h
  | step hp ha hw ih => exact ih.trans (.step hw.fst ha.symm (.here hp))
theorem WayE.weak {α : Type} {E : List (α × α)} {P Q : α → Prop} {x y : α} (h : WayE E P x y) (hq : ∀ z, P z → Q z) : WayE E Q x y := by
  induction h with
  | here h => exact .here (hq _ h)
  | step hp ha _ ih => exact .step (hq _ hp) ha ih
/-- Each is linked to the next. -/
def ChnE {α : Type} (E : List (α × α)) : List α → Prop
  | [] => True
  | x :: l => (∀ y, l.head? = some y → AdjE E x y) ∧ ChnE E l
theorem ChnE.right {α : Type} {E : List (α × α)} : ∀ {s t : List α}, ChnE E (s ++ t) → ChnE E t
  | [], _, h => h
  | _ :: _, _, h => ChnE.right h.2
theorem ChnE.left {α : Type} {E : List (α × α)} : ∀ {s t : List α}, ChnE E (s ++ t) → ChnE E s
  | [], _, _ => trivial
  | [x], t, _ => ⟨fun y h => by simp at h, trivial⟩
  | x :: y :: s, t, h => ⟨fun z hz => h.1 z hz, ChnE.left (s := y :: s) h.2⟩
/-- A way that comes to none twice. -/
theorem WayE.plain {α : Type} [DecidableEq α] {E : List (α × α)} {P : α → Prop} {x y : α} (h : WayE E P x y) : ∃ l, (x :: l).Nodup ∧ ChnE E (x :: l) ∧ (∀ z ∈ x :: l, P z) ∧ (x :: l).getLast? = some y := by
  induction h with
  | @here x h => exact ⟨[], by simp, ⟨fun y h => by simp at h, trivial⟩, by simpa using h, rfl⟩
  | @step x y z hp ha _ ih =>
    obtain ⟨l, h1, h2, h3, h4⟩ := ih
    by_cases hx : x ∈ y :: l
    · obtain ⟨s, t, e⟩ := List.append_of_mem hx
      rw [e] at h1 h2 h3 h4
      refine ⟨t, (List.nodup_append.1 h1).2.1, h2.right, fun z hz => h3 z (List.mem_append.2 (.inr hz)), ?_⟩
      rw [List.getLast?_append] at h4
      cases hl : (x :: t).getLast? with
      | none => simp at hl
      | some w => rw [hl] at h4; simpa using h4
    · refine ⟨y :: l, List.nodup_cons.2 ⟨hx, h1⟩, ⟨fun w hw => ?_, h2⟩, fun z hz => ?_, ?_⟩
      · simp only [List.head?_cons, Option.some.injEq] at hw
        rw [← hw]; exact ha
      · rcases List.mem_cons.1 hz with rfl | hz
        · exact hp
        · exact h3 z hz
      · rw [List.getLast?_cons_cons]; exact h4
/-- Along a list. -/
theorem ChnE.way {α : Type} {E : List (α × α)} {P : α → Prop} : ∀ {l : List α} {x y : α}, ChnE E (x :: l) → (∀ z ∈ x :: l, P z) → (x :: l).getLast? = some y → WayE E P x y
  | [], x, y, _, h2, h3 => by
    simp only [List.getLast?_singleton, Option.some.injEq] at h3
    rw [← h3]; exact .here (h2 x List.mem_cons_self)
  | z :: l, x, y, h1, h2, h3 => by
    rw [List.getLast?_cons_cons] at h3
    exact .step (h2 x List.mem_cons_self) (h1.1 z rfl) (ChnE.way h1.2 (fun w hw => h2 w (List.mem_cons_of_mem _ hw)) h3)
/-- Where a list leaves a set. -/
theorem leave {α : Type} {W : α → Prop} : ∀ {l : List α} {x y : α}, W x → ¬ W y → (x :: l).getLast? = some y → ∃ p c d s, x :: l = p ++ c :: d :: s ∧ W c ∧ ¬ W d
  | [], x, y, hx, hy, h => by
    simp only [List.getLast?_singleton, Option.some.injEq] at h
    exact absurd (h ▸ hx) hy
  | z :: l, x, y, hx, hy, h => by
    rw [List.getLast?_cons_cons] at h
    by_cases hz : W z
    · obtain ⟨p, c, d, s, e, hc, hd⟩ := leave hz hy h
      exact ⟨x :: p, c, d, s, by rw [e]; rfl, hc, hd⟩
    · exact ⟨[], x, z, l, rfl, hx, hz⟩
/-- All that have some are linked through such alone. -/
def CnE {α : Type} (has : α → Nat → Prop) (K : α → Prop) (E : List (α × α)) : Prop := ∀ (X : Nat → Prop) x y, K x → K y → (∀ v, X v → has x v) → (∀ v, X v → has y v) → WayE E (fun c => ∀ v, X v → has c v) x y
/-- A link is taken out, another put in. -/
def swapE {α : Type} [DecidableEq α] (E : List (α × α)) (c d a b : α) : List (α × α) := (E.filter fun e => !(decide (e = (c, d)) || decide (e = (d, c)))) ++ [(a, b)]
theorem swapE_in {α : Type} [DecidableEq α] {E : List (α × α)} {c d a b x y : α} (h : AdjE E x y) (h1 : ¬ (x = c ∧ y = d)) (h2 : ¬ (x = d ∧ y = c)) : AdjE (swapE E c d a b) x y := by
  rcases h with h | h
  · refine .inl (List.mem_append.2 (.inl (List.mem_filter.2 ⟨h, ?_⟩)))
    simp only [Prod.mk.injEq, Bool.not_eq_true', Bool.or_eq_false_iff, decide_eq_false_iff_not]
    exact ⟨h1, h2⟩
  · refine .inr (List.mem_append.2 (.inl (List.mem_filter.2 ⟨h, ?_⟩)))
    simp only [Prod.mk.injEq, Bool.not_eq_true', Bool.or_eq_false_iff, decide_eq_false_iff_not]
    exact ⟨fun e => h2 ⟨e.2, e.1⟩, fun e => h1 ⟨e.2, e.1⟩⟩
theorem swapE_chn {α : Type} [DecidableEq α] {E : List (α × α)} {c d a b : α} : ∀ {l : List α}, ChnE E l → (¬ c ∈ l ∨ ¬ d ∈ l) → ChnE (swapE E c d a b) l
  | [], _, _ => trivial
  | x :: l, h, hn => by
    refine ⟨fun y hy => ?_, swapE_chn h.2 (hn.imp (fun h e => h (List.mem_cons_of_mem _ e)) (fun h e => h (List.mem_cons_of_mem _ e)))⟩
    have hyl : y ∈ l := List.mem_of_mem_head? hy
    refine swapE_in (h.1 y hy) (fun e => ?_) (fun e => ?_)
    · rcases hn with hn | hn
      · exact hn (e.1 ▸ List.mem_cons_self)
      · exact hn (e.2 ▸ List.mem_cons_of_mem _ hyl)
    · rcases hn with hn | hn
      · exact hn (e.2 ▸ List.mem_cons_of_mem _ hyl)
      · exact hn (e.1 ▸ List.mem_cons_self)
/-- Of those that go out of a set, one with the most in common may be taken. -/
theorem CnE.swap {α : Type} [DecidableEq α] {has : α → Nat → Prop} {K : α → Prop} {E : List (α × α)} (h : CnE has K E) (hE : ∀ x y, AdjE E x y → K x ∧ K y) {W : α → Prop} {a b : α} (ha : K a) (hb : K b) (hWa : W a) (hWb : ¬ W b)
    (hmax : ∀ c d, K c → K d → W c → ¬ W d → (∀ v, has a v → has b v → has c v ∧ has d v) → ∀ v, has c v → has d v → has a v ∧ has b v) :
    ∃ c d, W c ∧ ¬ W d ∧ AdjE E c d ∧ CnE has K (swapE E c d a b) := by
  obtain ⟨l, h1, h2, h3, h4⟩ := (h (fun v => has a v ∧ has b v) a b ha hb (fun v h => h.1) (fun v h => h.2)).plain
  obtain ⟨p, c, d, s, e, hc, hd⟩ := leave hWa hWb h4
  rw [e] at h1 h2 h3 h4
  have hcd : AdjE E c d := (ChnE.right h2).1 d rfl
  have hx0 : ∀ v, has c v → has d v → has a v ∧ has b v := hmax c d (hE c d hcd).1 (hE c d hcd).2 hc hd fun v h5 h6 => ⟨h3 c (by simp) v ⟨h5, h6⟩, h3 d (by simp) v ⟨h5, h6⟩⟩
  obtain ⟨n1, n2, n3⟩ := List.nodup_append.1 h1
  rw [List.nodup_cons] at n2
  -- From a to c, and from d to b.
  have hpre : ChnE (swapE E c d a b) (p ++ [c]) := swapE_chn (ChnE.left (t := d :: s) (by simpa using h2)) (.inr fun hm => by
    rcases List.mem_append.1 hm with hm | hm
    · exact n3 d hm d (by simp) rfl
    · exact n2.1 (by rw [← List.mem_singleton.1 hm]; exact List.mem_cons_self))
  have hsuf : ChnE (swapE E c d a b) (d :: s) := swapE_chn (ChnE.right (s := p ++ [c]) (by simpa using h2)) (.inl n2.1)
  have hab : AdjE (swapE E c d a b) a b := .inl (List.mem_append.2 (.inr List.mem_cons_self))
  refine ⟨c, d, hc, hd, hcd, fun X x y hx hy hXx hXy => ?_⟩
  -- The link that is gone is gone round.
  have round : (∀ v, X v → has c v) → (∀ v, X v → has d v) → WayE (swapE E c d a b) (fun c => ∀ v, X v → has c v) c d := fun hXc hXd => by
    have hall : ∀ z, z ∈ p ++ c :: d :: s → ∀ v, X v → has z v := fun z hz v hv => h3 z hz v (hx0 v (hXc v hv) (hXd v hv))
    have w1 : WayE (swapE E c d a b) (fun c => ∀ v, X v → has c v) a c := by
      cases p with
      | nil =>
        have ea : a = c := by simpa using (List.cons.inj e).1
        rw [ea]; exact .here hXc
      | cons q p =>
        obtain rfl : q = a := (List.cons.inj e).1.symm
        exact ChnE.way (l := p ++ [c]) hpre (fun z hz => hall z (by
          have : z ∈ (q :: p) ++ [c] := hz
          rcases List.mem_append.1 this with hm | hm
          · exact List.mem_append.2 (.inl hm)
          · exact List.mem_append.2 (.inr (by rw [List.mem_singleton.1 hm]; exact List.mem_cons_self)))) (by rw [← List.cons_append, List.getLast?_concat])
    have w2 : WayE (swapE E c d a b) (fun c => ∀ v, X v → has c v) d b := ChnE.way hsuf (fun z hz => hall z (List.mem_append.2 (.inr (List.mem_cons_of_mem _ hz)))) (by
      rw [List.getLast?_append, List.getLast?_cons_cons] at h4
      cases hl : (d :: s).getLast? with
      | none => simp at hl
      | some w => rw [hl] at h4; simpa using h4)
    exact w1.back.trans (.step w1.fst hab w2.back)
  have hw := h X x y hx hy hXx hXy
  clear hXx hXy hx hy
  induction hw with
  | here hp => exact .here hp
  | @step x y z hp ha' hw ih =>
    by_cases e1 : x = c ∧ y = d
    · obtain ⟨rfl, rfl⟩ := e1
      exact (round hp hw.fst).trans ih
    · by_cases e2 : x = d ∧ y = c
      · obtain ⟨rfl, rfl⟩ := e2
        exact (round hw.fst hp).back.trans ih
      · exact .step hp (swapE_in ha' e1 e2) ih
end Go.Proofs.Ythcfgoknphpkdaa


/- Plain: cliques linked one by one, each time two that have the most in common: those that have some are linked through such alone. -/
namespace Go.Proofs.Ythcfgoknphpkdaa

theorem CnE.mono {α : Type} {has : α → Nat → Prop} {K : α → Prop} {E F : List (α × α)} (h : CnE has K E) (hm : ∀ x y, AdjE E x y → AdjE F x y) : CnE has K F := fun X x y hx hy h1 h2 => by
  have hw := h X x y hx hy h1 h2
  clear hx hy h1 h2
  induction hw with
  | here hp => exact .here hp
  | step hp ha _ ih => exact .step hp (hm _ _ ha) ih
/-- Links that come one by one. -/
inductive Prim {α : Type} (has : α → Nat → Prop) (K : α → Prop) : List (α × α) → (α → Prop) → Prop
  | start {x : α} : K x → Prim has K [] (fun y => y = x)
  | link {C : List (α × α)} {W : α → Prop} {a b : α} : Prim has K C W → K b → W a → ¬ W b → (∀ c d, K c → K d → W c → ¬ W d → (∀ v, has a v → has b v → has c v ∧ has d v) → ∀ v, has c v → has d v → has a v ∧ has b v) → Prim has K (C ++ [(a, b)]) (fun y => W y ∨ y = b)
theorem Prim.inside {α : Type} {has : α → Nat → Prop} {K : α → Prop} {C : List (α × α)} {W : α → Prop} (h : Prim has K C W) : (∀ x, W x → K x) ∧ ∀ x y, AdjE C x y → W x ∧ W y := by
  induction h with
  | start hx => exact ⟨fun y e => e ▸ hx, fun x y h => h.elim (fun h => absurd h List.not_mem_nil) (fun h => absurd h List.not_mem_nil)⟩
  | @link C W a b _ hb ha _ _ ih =>
    refine ⟨fun x hx => hx.elim (ih.1 x) fun e => e ▸ hb, fun x y h => ?_⟩
    rcases h with h | h
    · rcases List.mem_append.1 h with h | h
      · exact ⟨.inl (ih.2 x y (.inl h)).1, .inl (ih.2 x y (.inl h)).2⟩
      · obtain ⟨rfl, rfl⟩ := Prod.mk.inj (List.mem_singleton.1 h)
        exact ⟨.inl ha, .inr rfl⟩
    · rcases List.mem_append.1 h with h | h
      · exact ⟨.inl (ih.2 x y (.inr h)).1, .inl (ih.2 x y (.inr h)).2⟩
      · obtain ⟨rfl, rfl⟩ := Prod.mk.inj (List.mem_singleton.1 h)
        exact ⟨.inr rfl, .inl ha⟩
theorem filter_less {α : Type} {p : α → Bool} {x : α} : ∀ {l : List α}, x ∈ l → p x = false → (l.filter p).length + 1 ≤ l.length
  | y :: l, h, hp => by
    rcases List.mem_cons.1 h with rfl | h
    · rw [List.filter_cons_of_neg (by simp [hp]), List.length_cons]
      exact Nat.succ_le_succ (List.length_filter_le _ _)
    · have := filter_less h hp
      cases hy : p y
      · rw [List.filter_cons_of_neg (by simp [hy]), List.length_cons]; omega
      · rw [List.filter_cons_of_pos hy, List.length_cons, List.length_cons]; omega
theorem Prim.within {α : Type} [DecidableEq α] {has : α → Nat → Prop} {K : α → Prop} {E0 : List (α × α)} (h0 : CnE has K E0) (hE0 : ∀ x y, AdjE E0 x y → K x ∧ K y) {C : List (α × α)} {W : α → Prop} (h : Prim has K C W) : ∃ D, CnE has K (C ++ D) ∧ (∀ x y, AdjE D x y → K x ∧ K y) ∧ C.length + D.length ≤ E0.length := by
  induction h with
  | start _ => exact ⟨E0, h0, hE0, by simp⟩
  | @link C W a b hp hb ha hnb hmax ih =>
    obtain ⟨D, h1, h2, h3⟩ := ih
    obtain ⟨i1, i2⟩ := hp.inside
    have hE : ∀ x y, AdjE (C ++ D) x y → K x ∧ K y := fun x y h => by
      rcases h with h | h
      · rcases List.mem_append.1 h with h | h
        · exact ⟨i1 _ (i2 x y (.inl h)).1, i1 _ (i2 x y (.inl h)).2⟩
        · exact h2 x y (.inl h)
      · rcases List.mem_append.1 h with h | h
        · exact ⟨i1 _ (i2 x y (.inr h)).1, i1 _ (i2 x y (.inr h)).2⟩
        · exact h2 x y (.inr h)
    obtain ⟨c, d, hc, hd, hcd, hs⟩ := h1.swap hE (i1 a ha) hb ha hnb hmax
    refine ⟨D.filter fun e => !(decide (e = (c, d)) || decide (e = (d, c))), hs.mono fun x y h => ?_, fun x y h => h2 x y (h.imp (fun h => (List.mem_filter.1 h).1) (fun h => (List.mem_filter.1 h).1)), ?_⟩
    · have key : ∀ e, e ∈ swapE (C ++ D) c d a b → e ∈ (C ++ [(a, b)]) ++ D.filter fun e => !(decide (e = (c, d)) || decide (e = (d, c))) := fun e he => by
        rcases List.mem_append.1 he with he | he
        · obtain ⟨he, hf⟩ := List.mem_filter.1 he
          rcases List.mem_append.1 he with he | he
          · exact List.mem_append.2 (.inl (List.mem_append.2 (.inl he)))
          · exact List.mem_append.2 (.inr (List.mem_filter.2 ⟨he, hf⟩))
        · exact List.mem_append.2 (.inl (List.mem_append.2 (.inr he)))
      exact h.imp (key _) (key _)
    · have hD : (c, d) ∈ D ∨ (d, c) ∈ D := by
        rcases hcd with h | h
        · exact .inl ((List.mem_append.1 h).resolve_left fun h => hd (i2 c d (.inl h)).2)
        · exact .inr ((List.mem_append.1 h).resolve_left fun h => hd (i2 c d (.inr h)).2)
      have hl : (D.filter fun e => !(decide (e = (c, d)) || decide (e = (d, c)))).length + 1 ≤ D.length := hD.elim (fun h => filter_less h (by simp)) (fun h => filter_less h (by simp))
      rw [List.length_append, List.length_singleton]
      omega
/-- As many links as need be: all is linked. -/
theorem Prim.all {α : Type} [DecidableEq α] {has : α → Nat → Prop} {K : α → Prop} {E0 : List (α × α)} (h0 : CnE has K E0) (hE0 : ∀ x y, AdjE E0 x y → K x ∧ K y) {C : List (α × α)} {W : α → Prop} (h : Prim has K C W) (hn : E0.length ≤ C.length) : CnE has K C := by
  obtain ⟨D, h1, _, h3⟩ := h.within h0 hE0
  have : D = [] := List.length_eq_zero_iff.1 (by omega)
  rw [this, List.append_nil] at h1
  exact h1
end Go.Proofs.Ythcfgoknphpkdaa


/- Plain: the outermost bags of an elimination can be linked so that those that have some are linked through such alone. -/
namespace Go.Proofs.Ythcfgoknphpkdaa

/-- A bag is in another. -/
def SubB (has : Nat → Nat → Prop) (i j : Nat) : Prop := ∀ v, has i v → has j v
/-- The outermost of the bags from k on. -/
def OutB (has : Nat → Nat → Prop) (n k i : Nat) : Prop := (k ≤ i ∧ i < n) ∧ ∀ j, k ≤ j → j < n → SubB has i j → j = i
/-- Bags: each has one that no later one has, and what else it has is in a later one. -/
structure Elim (has : Nat → Nat → Prop) (n : Nat) (own : Nat → Nat) : Prop where
  mine : ∀ i, i < n → has i (own i)
  out : ∀ i j, i < j → j < n → ¬ has j (own i)
  in' : ∀ i, i + 1 < n → ∃ j, i < j ∧ j < n ∧ ∀ v, has i v → v = own i ∨ has j v
/-- Each is in an outermost one. -/
theorem Elim.above {has : Nat → Nat → Prop} {n : Nat} {own : Nat → Nat} (h : Elim has n own) (k : Nat) {j : Nat} (hk : k ≤ j) (hj : j < n) : ∃ i, OutB has n k i ∧ SubB has j i := by
  -- A bag that is in another is later than it: go down until there is none.
  have key : ∀ (m j : Nat), k ≤ j → j < n → j ≤ m → ∃ i, OutB has n k i ∧ SubB has j i := fun m => by
    induction m with
    | zero =>
      intro j h1 h2 h3
      obtain rfl : j = 0 := by omega
      refine ⟨0, ⟨⟨h1, h2⟩, fun i _ h5 hs => ?_⟩, fun _ h => h⟩
      rcases Nat.eq_zero_or_pos i with e | e
      · exact e
      · exact absurd (hs _ (h.mine 0 h2)) (h.out 0 i e h5)
    | succ m ih =>
      intro j h1 h2 h3
      by_cases hc : ∀ i, k ≤ i → i < n → SubB has j i → i = j
      · exact ⟨j, ⟨⟨h1, h2⟩, hc⟩, fun _ h => h⟩
      · obtain ⟨i, hi⟩ := Classical.not_forall.1 hc
        have a : k ≤ i := Classical.byContradiction fun e => hi fun h => absurd h e
        have b : i < n := Classical.byContradiction fun e => hi fun _ h => absurd h e
        have c : SubB has j i := Classical.byContradiction fun e => hi fun _ _ h => absurd h e
        have d : i ≠ j := fun e => hi fun _ _ _ => e
        have hij : i < j := by
          rcases Nat.lt_or_ge i j with h' | h'
          · exact h'
          · exact absurd (c _ (h.mine j h2)) (h.out j i (by omega) b)
        obtain ⟨t, h4, h5⟩ := ih i a b (by omega)
        exact ⟨t, h4, fun v hv => h5 v (c v hv)⟩
  exact key j j hk hj (Nat.le_refl _)
theorem WayE.map {E F : List (Nat × Nat)} {P Q : Nat → Prop} (f : Nat → Nat) (hf : ∀ x y, AdjE E x y → AdjE F (f x) (f y)) (hq : ∀ x, P x → Q (f x)) {x y : Nat} (h : WayE E P x y) : WayE F Q (f x) (f y) := by
  induction h with
  | here hp => exact .here (hq _ hp)
  | step hp ha _ ih => exact .step (hq _ hp) (hf _ _ ha) ih
theorem Elim.tree {has : Nat → Nat → Prop} {n : Nat} {own : Nat → Nat} (h : Elim has n own) : ∀ (m k : Nat), k < n → n - k = m + 1 → ∃ (K : List Nat) (E : List (Nat × Nat)), K.Nodup ∧ (∀ i, i ∈ K ↔ OutB has n k i) ∧ CnE has (· ∈ K) E ∧ (∀ x y, AdjE E x y → x ∈ K ∧ y ∈ K) ∧ E.length + 1 = K.length
  | 0, k, hk, e => by
    refine ⟨[k], [], by simp, fun i => ?_, fun X x y hx hy h1 _ => ?_, fun x y h => h.elim (fun h => absurd h List.not_mem_nil) (fun h => absurd h List.not_mem_nil), rfl⟩
    · rw [List.mem_singleton]
      refine ⟨fun e' => ⟨⟨by omega, by omega⟩, fun j _ _ _ => by omega⟩, fun h => by have := h.1; omega⟩
    · have e1 : x = k := List.mem_singleton.1 hx
      have e2 : y = k := List.mem_singleton.1 hy
      rw [e2, ← e1]
      exact .here h1
  | m + 1, k, hk, e => by
    obtain ⟨K, E, hn, hK, hC, hE, hl⟩ := Elim.tree h m (k + 1) (by omega) (by omega)
    obtain ⟨j, hj1, hj2, hj3⟩ := h.in' k (by omega)
    obtain ⟨t, ht, hjt⟩ := h.above (k + 1) (show k + 1 ≤ j from hj1) hj2
    have hkt : ∀ v, has k v → v = own k ∨ has t v := fun v hv => (hj3 v hv).imp id (hjt v)
    have htK : t ∈ K := (hK t).2 ht
    have hlow : ∀ x ∈ K, k + 1 ≤ x ∧ x < n := fun x hx => ((hK x).1 hx).1
    have hkK : ¬ k ∈ K := fun hx => by have := (hlow k hx).1; omega
    have hown : ∀ x ∈ K, ¬ has x (own k) := fun x hx => h.out k x (by have := (hlow x hx).1; omega) (hlow x hx).2
    -- What k shares with a later one is in t.
    have hin : ∀ (X : Nat → Prop) x, x ∈ K → (∀ v, X v → has k v) → (∀ v, X v → has x v) → ∀ v, X v → has t v := fun X x hx h1 h2 v hv => (hkt v (h1 v hv)).resolve_left fun e => hown x hx (e ▸ h2 v hv)
    have hnot : ∀ i, k + 1 ≤ i → i < n → ¬ SubB has k i := fun i h1 h2 hs => h.out k i (by omega) h2 (hs _ (h.mine k hk))
    by_cases hs : SubB has t k
    · -- k takes the place of t.
      let f : Nat → Nat := fun x => if x = t then k else x
      have ft : f t = k := if_pos rfl
      have fo : ∀ x, x ≠ t → f x = x := fun x hx => if_neg hx
      refine ⟨K.map f, E.map fun e => (f e.1, f e.2), ?_, fun i => ?_, ?_, fun x y h' => ?_, by simpa using hl⟩
      · refine List.pairwise_map.2 (hn.imp_of_mem fun {a b} ha hb hab => ?_)
        by_cases ea : a = t
        · rw [ea, ft, fo b fun eb => hab (by rw [ea, eb])]
          exact fun e => hkK (e ▸ hb)
        · by_cases eb : b = t
          · rw [eb, ft, fo a ea]; exact fun e => hkK (e ▸ ha)
          · rw [fo a ea, fo b eb]; exact hab
      · rw [List.mem_map]
        constructor
        · rintro ⟨x, hx, rfl⟩
          by_cases ex : x = t
          · rw [ex, ft]
            refine ⟨⟨Nat.le_refl _, hk⟩, fun j h1 h2 h3 => ?_⟩
            rcases Nat.lt_or_ge k j with h4 | h4
            · exact absurd h3 (hnot j h4 h2)
            · omega
          · rw [fo x ex]
            obtain ⟨⟨h1, h2⟩, h3⟩ := (hK x).1 hx
            refine ⟨⟨by omega, h2⟩, fun j h4 h5 h6 => ?_⟩
            rcases Nat.lt_or_ge k j with h7 | h7
            · exact h3 j h7 h5 h6
            · obtain rfl : j = k := by omega
              have : SubB has x t := fun v hv => (hkt v (h6 v hv)).resolve_left fun e => hown x hx (e ▸ hv)
              exact absurd (h3 t ht.1.1 ht.1.2 this).symm ex
        · rintro ⟨⟨h1, h2⟩, h3⟩
          rcases Nat.lt_or_ge k i with h4 | h4
          · have hi : i ∈ K := (hK i).2 ⟨⟨h4, h2⟩, fun j h5 h6 h7 => h3 j (by omega) h6 h7⟩
            have ei : i ≠ t := fun e => by
              have := h3 k (Nat.le_refl _) hk (e ▸ hs)
              omega
            exact ⟨i, hi, fo i ei⟩
          · exact ⟨t, htK, by rw [ft]; omega⟩
      · have hfE : ∀ x y, AdjE E x y → AdjE (E.map fun e => (f e.1, f e.2)) (f x) (f y) := fun x y h' => h'.imp (fun h' => List.mem_map.2 ⟨_, h', rfl⟩) (fun h' => List.mem_map.2 ⟨_, h', rfl⟩)
        intro X x y hx hy h1 h2
        obtain ⟨a, ha, rfl⟩ := List.mem_map.1 hx
        obtain ⟨b, hb, rfl⟩ := List.mem_map.1 hy
        have up : ∀ c, (∀ v, X v → has c v) → ∀ v, X v → has (f c) v := fun c hc v hv => by
          by_cases ec : c = t
          · rw [ec, ft]; exact hs v (by rw [← ec]; exact hc v hv)
          · rw [fo c ec]; exact hc v hv
        by_cases ea : a = t
        · by_cases eb : b = t
          · rw [eb, ← ea]; exact .here h1
          · have h1' : ∀ v, X v → has k v := by rw [ea, ft] at h1; exact h1
            have h2' : ∀ v, X v → has b v := by rw [fo b eb] at h2; exact h2
            exact (hC X a b ha hb (by rw [ea]; exact hin X b hb h1' h2') h2').map f hfE up
        · have h1' : ∀ v, X v → has a v := by rw [fo a ea] at h1; exact h1
          by_cases eb : b = t
          · have h2' : ∀ v, X v → has k v := by rw [eb, ft] at h2; exact h2
            exact (hC X a b ha hb h1' (by rw [eb]; exact hin X a ha h2' h1')).map f hfE up
          · have h2' : ∀ v, X v → has b v := by rw [fo b eb] at h2; exact h2
            exact (hC X a b ha hb h1' h2').map f hfE up
      · have key : ∀ x y, (x, y) ∈ E.map (fun e => (f e.1, f e.2)) → x ∈ K.map f ∧ y ∈ K.map f := fun x y h' => by
          obtain ⟨e, he, h6⟩ := List.mem_map.1 h'
          obtain ⟨rfl, rfl⟩ := Prod.mk.inj h6
          have := hE e.1 e.2 (.inl he)
          exact ⟨List.mem_map.2 ⟨_, this.1, rfl⟩, List.mem_map.2 ⟨_, this.2, rfl⟩⟩
        exact h'.elim (key x y) fun h' => (key y x h').symm
    · -- k is linked to t.
      refine ⟨k :: K, (k, t) :: E, List.nodup_cons.2 ⟨hkK, hn⟩, fun i => ?_, ?_, fun x y h' => ?_, by rw [List.length_cons, List.length_cons, hl]⟩
      · rw [List.mem_cons]
        constructor
        · rintro (rfl | hi)
          · refine ⟨⟨Nat.le_refl _, hk⟩, fun j h1 h2 h3 => ?_⟩
            rcases Nat.lt_or_ge i j with h4 | h4
            · exact absurd h3 (hnot j h4 h2)
            · omega
          · obtain ⟨⟨h1, h2⟩, h3⟩ := (hK i).1 hi
            refine ⟨⟨by omega, h2⟩, fun j h4 h5 h6 => ?_⟩
            rcases Nat.lt_or_ge k j with h7 | h7
            · exact h3 j h7 h5 h6
            · obtain rfl : j = k := by omega
              have h8 : SubB has i t := fun v hv => (hkt v (h6 v hv)).resolve_left fun e => hown i hi (e ▸ hv)
              have h9 := h3 t ht.1.1 ht.1.2 h8
              exact absurd (by rw [h9]; exact h6) hs
        · rintro ⟨⟨h1, h2⟩, h3⟩
          rcases Nat.lt_or_ge k i with h4 | h4
          · exact .inr ((hK i).2 ⟨⟨h4, h2⟩, fun j h5 h6 h7 => h3 j (by omega) h6 h7⟩)
          · exact .inl (by omega)
      · have hmE : ∀ x y, AdjE E x y → AdjE ((k, t) :: E) x y := fun x y h' => h'.imp (List.mem_cons_of_mem _) (List.mem_cons_of_mem _)
        have one : ∀ (X : Nat → Prop) y, y ∈ K → (∀ v, X v → has k v) → (∀ v, X v → has y v) → WayE ((k, t) :: E) (fun c => ∀ v, X v → has c v) k y := fun X y hy h1 h2 =>
          .step h1 (.inl List.mem_cons_self) ((hC X t y htK hy (hin X y hy h1 h2) h2).map id hmE fun _ h => h)
        intro X x y hx hy h1 h2
        rcases List.mem_cons.1 hx with ex | hx'
        · rcases List.mem_cons.1 hy with ey | hy'
          · rw [ey, ← ex]; exact .here h1
          · rw [ex] at h1 ⊢; exact one X y hy' h1 h2
        · rcases List.mem_cons.1 hy with ey | hy'
          · rw [ey] at h2 ⊢; exact (one X x hx' h2 h1).back
          · exact (hC X x y hx' hy' h1 h2).map id hmE fun _ h => h
      · have key : ∀ x y, (x, y) ∈ (k, t) :: E → x ∈ k :: K ∧ y ∈ k :: K := fun x y h' => by
          rcases List.mem_cons.1 h' with h' | h'
          · obtain ⟨rfl, rfl⟩ := Prod.mk.inj h'
            exact ⟨List.mem_cons_self, List.mem_cons_of_mem _ htK⟩
          · have := hE x y (.inl h')
            exact ⟨List.mem_cons_of_mem _ this.1, List.mem_cons_of_mem _ this.2⟩
        exact h'.elim (key x y) fun h' => (key y x h').symm
end Go.Proofs.Ythcfgoknphpkdaa

