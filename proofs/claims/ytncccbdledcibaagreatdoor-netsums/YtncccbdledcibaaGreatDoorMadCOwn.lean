/- The document's answer: arrays of what a call makes: variables, lists of parents, lists of rows. -/
import Derived.Test.YtncccbdledcibaaGreatDoorMadAToMadB
import Derived.Test.YtncccbdledcibaaGreatDoorNetEOwn
namespace Go.Proofs.YtncccbdledcibaaGreatDoor
open Go.RowKit Go.Shelf Go.Lib

/-- All blocks of cells of this type lie as they lay. -/
def KeepT (t : TypeId) (w w' : World) : Prop := ∀ (k : Nat) (c : Array Value) (fr : Nat × Nat), w.heap[k]? = some (Obj.cells c t fr) → w'.heap[k]? = some (Obj.cells c t fr)
theorem KeepT.below {t : TypeId} {w w' : World} (hb : Below w.heap.size w w') : KeepT t w w' := fun k _ _ h => (hb.block k (Array.getElem?_eq_some_iff.1 h).1).trans h
theorem KeepT.grown {t t' : TypeId} {w w' : World} {row : Option Nat} (hg : w.grownBy w' row) (hr : ∀ g, row = some g → ∃ c fr, w.heap[g]? = some (.cells c t' fr)) (hne : t ≠ t') : KeepT t w w' := fun k c fr h => by
  refine (hg.block k (Array.getElem?_eq_some_iff.1 h).1 fun e => ?_).trans h
  obtain ⟨c', fr', h'⟩ := hr k e.symm
  rw [h] at h'
  cases h'
  exact hne rfl
theorem KeepT.set {t t' : TypeId} {w : World} {b : Nat} {c' : Array Value} {fr' : Nat × Nat} (hb : w.heap[b]? = some (.cells c' t' fr')) (hne : t ≠ t') (j : Nat) (y : Value) : KeepT t w (w.setCell ⟨b, j, none⟩ y) := fun k c fr h => by
  refine (Below.heap_setCell w ⟨b, j, none⟩ y k fun e => ?_).trans h
  have e' : k = b := e
  subst e'
  rw [h] at hb
  cases hb
  exact hne rfl
theorem KeepT.trans {t : TypeId} {a b c : World} (h : KeepT t a b) (k : KeepT t b c) : KeepT t a c := fun i cs fr hi => k i cs fr (h i cs fr hi)
theorem owns_keep {w w' : World} {B : Nat} {e : TypeId} {s : Nat} {v : Value} {n : Nat} {xs : List Value} (h : w.ownsRow B e s v n xs) (hk : KeepT e w w') : w'.ownsRow B e s v n xs := by
  refine ⟨h.1, ?_⟩
  rcases h.2 with h1 | ⟨g, cap, cur, h1, h2, h3, h4⟩
  · exact .inl h1
  · exact .inr ⟨g, cap, cur, h1, h2, hk _ _ _ h3, h4⟩
theorem owns_typed {w : World} {B : Nat} {e : TypeId} {s : Nat} {v : Value} {n : Nat} {xs : List Value} (h : w.ownsRow B e s v n xs) : ∀ g, v.ownBlock = some g → ∃ c fr, w.heap[g]? = some (.cells c e fr) := fun g hg => by
  rcases h.2 with ⟨rfl, _⟩ | ⟨g', cap, cur, rfl, h2, h3, h4⟩
  · cases hg
  · cases hg
    exact ⟨_, _, h3⟩
theorem owns_from {w : World} {B : Nat} {e : TypeId} {s : Nat} {v : Value} {n : Nat} {xs : List Value} (h : w.ownsRow B e s v n xs) : ∀ g, v.ownBlock = some g → B ≤ g := fun g hg => by
  rcases h.2 with ⟨rfl, _⟩ | ⟨g', cap, cur, rfl, h2, h3, h4⟩
  · cases hg
  · cases hg
    exact h2
theorem owns_slice {w : World} {B : Nat} {e : TypeId} {s : Nat} {v : Value} {n : Nat} {xs : List Value} (h : w.ownsRow B e s v n xs) : ∃ a c, v = .slice a n c ∧ (a = none → c = 0) := by
  rcases h.2 with ⟨rfl, rfl⟩ | ⟨g', cap, cur, rfl, h2, h3, h4⟩
  · exact ⟨none, 0, rfl, fun _ => rfl⟩
  · exact ⟨_, _, rfl, fun e => by cases e⟩
theorem owns_lower {w : World} {B B' : Nat} {e : TypeId} {s : Nat} {v : Value} {n : Nat} {xs : List Value} (h : w.ownsRow B e s v n xs) (hb : B' ≤ B) : w.ownsRow B' e s v n xs := by
  refine ⟨h.1, ?_⟩
  rcases h.2 with h1 | ⟨g, cap, cur, h1, h2, h3, h4⟩
  · exact .inl h1
  · exact .inr ⟨g, cap, cur, h1, Nat.le_trans hb h2, h3, h4⟩
theorem owns_cell {w : World} {B : Nat} {e : TypeId} {s : Nat} {a : Option Addr} {n c : Nat} {xs : List Value} (h : w.ownsRow B e s (.slice a n c) n xs) {j : Nat} (hj : j < xs.length) : ∃ g, a = some ⟨g, 0, none⟩ ∧ g < w.heap.size ∧ w.cell? ⟨g, j, none⟩ = some xs[j] := by
  rcases h.2 with ⟨h1, h2⟩ | ⟨g', cap, cur, h1, h2, h3, h4, h5, h6, h7⟩
  · have := h.1
    subst h2
    rw [Nat.zero_mul] at this
    omega
  · cases h1
    refine ⟨g', rfl, (Array.getElem?_eq_some_iff.1 h3).1, ?_⟩
    have hl : j < n * s := by have := h.1; omega
    rw [cell_of_row w g' j _ _ (0, 0) h3]
    have e' : cur[j]? = (cur.toList.take (n * s))[j]? := by
      rw [List.getElem?_take, if_pos hl, Array.getElem?_toList]
    rw [e', h7, List.getElem?_eq_getElem hj]
/-- Variables: name, the list of values as it lies there, the values. -/
abbrev PV : Type := ByteArray × Value × List ByteArray
def vC : List PV → List Value
  | [] => []
  | p :: l => .string p.1 :: p.2.1 :: vC l
theorem vC_length : ∀ l, (vC l).length = l.length * 2
  | [] => rfl
  | p :: l => by
    show (vC l).length + 1 + 1 = (l.length + 1) * 2
    rw [vC_length l]
    omega
theorem vC_append (p : PV) : ∀ l, vC (l ++ [p]) = vC l ++ [.string p.1, p.2.1]
  | [] => rfl
  | q :: l => by
    show Value.string q.1 :: q.2.1 :: vC (l ++ [p]) = _
    rw [vC_append p l]
    rfl
theorem vC_get : ∀ (l : List PV) (k : Nat) (h : k < l.length), (vC l)[k * 2]'(by rw [vC_length]; omega) = .string l[k].1 ∧ (vC l)[k * 2 + 1]'(by rw [vC_length]; omega) = l[k].2.1
  | p :: l, 0, _ => ⟨rfl, rfl⟩
  | p :: l, k + 1, h => by
    obtain ⟨h1, h2⟩ := vC_get l k (by simpa using h)
    refine ⟨?_, ?_⟩
    · simp only [show (k + 1) * 2 = k * 2 + 1 + 1 by omega]
      exact h1
    · simp only [show (k + 1) * 2 + 1 = k * 2 + 1 + 1 + 1 by omega]
      exact h2
def OwV (w : World) (B : Nat) (x : Value) (P : List PV) : Prop := w.ownsRow B 61 2 x P.length (vC P) ∧ ∀ p ∈ P, RwS w B p.2.1 p.2.2
abbrev PL : Type := Value × List Int
def OwL (w : World) (B : Nat) (y : Value) (P : List PL) : Prop := w.ownsRow B 27 1 y P.length (P.map (·.1)) ∧ ∀ p ∈ P, RwI w B p.1 p.2
abbrev PR : Type := Value × List Fr
def OwR (w : World) (B : Nat) (z : Value) (P : List PR) : Prop := w.ownsRow B 29 1 z P.length (P.map (·.1)) ∧ ∀ p ∈ P, RwF w B p.1 p.2
theorem OwV.keep {w w' : World} {B : Nat} {x : Value} {P : List PV} (h : OwV w B x P) (h1 : KeepT 61 w w') (h2 : KeepT 9 w w') : OwV w' B x P := ⟨owns_keep h.1 h1, fun p hp => owns_keep (h.2 p hp) h2⟩
theorem OwL.keep {w w' : World} {B : Nat} {x : Value} {P : List PL} (h : OwL w B x P) (h1 : KeepT 27 w w') (h2 : KeepT 3 w w') : OwL w' B x P := ⟨owns_keep h.1 h1, fun p hp => owns_keep (h.2 p hp) h2⟩
theorem OwR.keep {w w' : World} {B : Nat} {x : Value} {P : List PR} (h : OwR w B x P) (h1 : KeepT 29 w w') (h2 : KeepT 37 w w') : OwR w' B x P := ⟨owns_keep h.1 h1, fun p hp => owns_keep (h.2 p hp) h2⟩
theorem OwV.nil (w : World) (B : Nat) : OwV w B (.slice none 0 0) [] := ⟨⟨rfl, .inl ⟨rfl, rfl⟩⟩, fun p hp => by cases hp⟩
theorem OwL.nil (w : World) (B : Nat) : OwL w B (.slice none 0 0) [] := ⟨⟨rfl, .inl ⟨rfl, rfl⟩⟩, fun p hp => by cases hp⟩
theorem OwR.nil (w : World) (B : Nat) : OwR w B (.slice none 0 0) [] := ⟨⟨rfl, .inl ⟨rfl, rfl⟩⟩, fun p hp => by cases hp⟩
theorem Tryz.infoInts : (Tryz.prog.info? 27).map (fun i => (i.zero, i.size, i.bytes)) = some (some (.slice none 0 0), 1, 24) := by kernel_rfl
theorem Tryz.infoFracs : (Tryz.prog.info? 29).map (fun i => (i.zero, i.size, i.bytes)) = some (some (.slice none 0 0), 1, 24) := by kernel_rfl
theorem Tryz.infoVar : (Tryz.prog.info? 61).map (fun i => (i.zero, i.size, i.bytes)) = some (some (.agg #[.string ⟨#[]⟩, .slice none 0 0]), 2, 40) := by kernel_rfl
theorem wpList_append_ls {w : World} {ops : Array Oper} {rest : List Oper} {o : Oper} {a : Act} {Q : Exit → Act → World → Prop} (hgd : o.guard = none) (s x : Operand)
    (ho : o.op = .call { callee := .builtin .append, args := #[s, x], argTypes := #[23, 23] }) (base : Nat) (v : Value) (P : List PL) (q : Value) (hq : SlV q) (hs : a.eval s = v) (hown : w.ownsRow base 27 1 v P.length (P.map (·.1))) (g : Nat) (hx : a.eval x = .slice (some ⟨g, 0, none⟩) 1 1) (hg : w.cell? ⟨g, 0, none⟩ = some q) (hlen : P.length + 1 ≤ 100000) (hbase : base ≤ w.heap.size)
    (h : ∀ v' w', w'.ownsRow base 27 1 v' (P.length + 1) (P.map (·.1) ++ [q]) → w.grownBy w' v.ownBlock → wpList Tryz.prog ops Q rest (a.put o.dst v') w') : wpList Tryz.prog ops Q (o :: rest) a w := by
  obtain ⟨i0, hi0, hz0, hz1, hz2⟩ := info_parts Tryz.infoInts
  refine wpList_append_own _ hgd s x 23 ho base 27 i0 (.slice none 0 0) 1 24 Tryz.underlying23 hi0 hz0 hz1 hz2 rfl (by decide) v P.length _ hs hown ⟨g, 0, none⟩ 1 1 [q] hx rfl ?_ ?_ (by unfold maxLen; omega) (by omega) hbase ?_
  · intro j u hj
    match j, hj with
    | 0, hj => cases hj; exact hg
    | j + 1, hj => simp at hj
  · intro u hu
    simp only [List.mem_cons, List.not_mem_nil, or_false] at hu
    subst hu
    obtain ⟨_, _, _, rfl⟩ := hq
    rfl
  · intro v' w' h1 h2 _
    exact h v' w' h1 h2
theorem wpList_append_rs {w : World} {ops : Array Oper} {rest : List Oper} {o : Oper} {a : Act} {Q : Exit → Act → World → Prop} (hgd : o.guard = none) (s x : Operand)
    (ho : o.op = .call { callee := .builtin .append, args := #[s, x], argTypes := #[24, 24] }) (base : Nat) (v : Value) (P : List PR) (q : Value) (hq : SlV q) (hs : a.eval s = v) (hown : w.ownsRow base 29 1 v P.length (P.map (·.1))) (g : Nat) (hx : a.eval x = .slice (some ⟨g, 0, none⟩) 1 1) (hg : w.cell? ⟨g, 0, none⟩ = some q) (hlen : P.length + 1 ≤ 100000) (hbase : base ≤ w.heap.size)
    (h : ∀ v' w', w'.ownsRow base 29 1 v' (P.length + 1) (P.map (·.1) ++ [q]) → w.grownBy w' v.ownBlock → wpList Tryz.prog ops Q rest (a.put o.dst v') w') : wpList Tryz.prog ops Q (o :: rest) a w := by
  obtain ⟨i0, hi0, hz0, hz1, hz2⟩ := info_parts Tryz.infoFracs
  refine wpList_append_own _ hgd s x 24 ho base 29 i0 (.slice none 0 0) 1 24 Tryz.underlying24 hi0 hz0 hz1 hz2 rfl (by decide) v P.length _ hs hown ⟨g, 0, none⟩ 1 1 [q] hx rfl ?_ ?_ (by unfold maxLen; omega) (by omega) hbase ?_
  · intro j u hj
    match j, hj with
    | 0, hj => cases hj; exact hg
    | j + 1, hj => simp at hj
  · intro u hu
    simp only [List.mem_cons, List.not_mem_nil, or_false] at hu
    subst hu
    obtain ⟨_, _, _, rfl⟩ := hq
    rfl
  · intro v' w' h1 h2 _
    exact h v' w' h1 h2
theorem wp_append_var {w : World} {o : Oper} {a : Act} {K : Act → World → Prop} {Q : Exit → Act → World → Prop} (s x : Operand)
    (ho : o.op = .call { callee := .builtin .append, args := #[s, x], argTypes := #[22, 22] }) (base : Nat) (v : Value) (P : List PV) (nm : ByteArray) (q : Value) (hq : SlV q) (hs : a.eval s = v) (hown : w.ownsRow base 61 2 v P.length (vC P)) (g : Nat) (hx : a.eval x = .slice (some ⟨g, 0, none⟩) 1 1) (hg0 : w.cell? ⟨g, 0, none⟩ = some (.string nm)) (hg1 : w.cell? ⟨g, 1, none⟩ = some q) (hlen : P.length + 1 ≤ 100000) (hbase : base ≤ w.heap.size)
    (h : ∀ v' w', w'.ownsRow base 61 2 v' (P.length + 1) (vC P ++ [.string nm, q]) → w.grownBy w' v.ownBlock → K (a.put o.dst v') w') : o.wp Tryz.prog a w K Q := by
  obtain ⟨i0, hi0, hz0, hz1, hz2⟩ := info_parts Tryz.infoVar
  refine wp_append_own _ s x 22 ho base 61 i0 (.agg #[.string ⟨#[]⟩, .slice none 0 0]) 2 40 Tryz.underlying22 hi0 hz0 hz1 hz2 rfl (by decide) v P.length _ hs hown ⟨g, 0, none⟩ 1 1 [.string nm, q] hx rfl ?_ ?_ (by unfold maxLen; omega) (by omega) hbase ?_
  · intro j u hj
    match j, hj with
    | 0, hj => cases hj; exact hg0
    | 1, hj => cases hj; exact hg1
    | j + 2, hj => simp at hj
  · intro u hu
    simp only [List.mem_cons, List.not_mem_nil, or_false] at hu
    rcases hu with rfl | rfl
    · rfl
    · obtain ⟨_, _, _, rfl⟩ := hq
      rfl
  · intro v' w' h1 h2 _
    exact h v' w' h1 h2
theorem frC_append (a : List Fr) : ∀ l, frC (l ++ a) = frC l ++ frC a
  | [] => rfl
  | f :: l => by
    show Value.bool f.1 :: Value.string f.2.1 :: Value.string f.2.2 :: frC (l ++ a) = _
    rw [frC_append a l]
    rfl
theorem frC_cell {w : World} {g o : Nat} : ∀ {l : List Fr}, FrS w (some ⟨g, o, none⟩) l → ∀ j u, (frC l)[j]? = some u → w.cell? ((⟨g, o, none⟩ : Addr).add j) = some u ∧ u.oneCell' = true := by
  intro l h j u hj
  have hjl : j < (frC l).length := (List.getElem?_eq_some_iff.1 hj).1
  rw [frC_length] at hjl
  have hk : j / 3 < l.length := by omega
  obtain ⟨g', o', e, _, h0, h1, h2⟩ := h (j / 3) hk
  cases e
  have hadd : (⟨g, o, none⟩ : Addr).add j = ⟨g, o + j, none⟩ := by
    rw [Addr.add]
    by_cases h0 : j = 0
    · subst h0; simp
    · simp [h0]
  have hget := frC_get l (j / 3) hk
  rw [hadd]
  have hm : j % 3 = 0 ∨ j % 3 = 1 ∨ j % 3 = 2 := by omega
  rcases hm with hm | hm | hm
  · have e : j = j / 3 * 3 := by omega
    rw [e] at hj ⊢
    rw [hget.1] at hj
    cases hj
    exact ⟨h0, rfl⟩
  · have e : j = j / 3 * 3 + 1 := by omega
    rw [e] at hj ⊢
    rw [hget.2.1] at hj
    cases hj
    exact ⟨by rw [← Nat.add_assoc]; exact h1, rfl⟩
  · have e : j = j / 3 * 3 + 2 := by omega
    rw [e] at hj ⊢
    rw [hget.2.2] at hj
    cases hj
    exact ⟨by rw [← Nat.add_assoc]; exact h2, rfl⟩
theorem wpList_append_frs {w : World} {ops : Array Oper} {rest : List Oper} {o : Oper} {a : Act} {Q : Exit → Act → World → Prop} (hgd : o.guard = none) (s x : Operand)
    (ho : o.op = .call { callee := .builtin .append, args := #[s, x], argTypes := #[29, 29] }) (base : Nat) (v : Value) (l la : List Fr) (hs : a.eval s = v) (hown : RwF w base v l) (g og ca : Nat) (hx : a.eval x = .slice (some ⟨g, og, none⟩) la.length ca) (hf : FrS w (some ⟨g, og, none⟩) la) (hlen : l.length + la.length ≤ 100000) (hbase : base ≤ w.heap.size)
    (h : ∀ v' w', RwF w' base v' (l ++ la) → w.grownBy w' v.ownBlock → wpList Tryz.prog ops Q rest (a.put o.dst v') w') : wpList Tryz.prog ops Q (o :: rest) a w := by
  obtain ⟨i0, hi0, hz0, hz1, hz2⟩ := info_parts Tryz.infoFrac
  refine wpList_append_own _ hgd s x 29 ho base 37 i0 (.agg #[.bool false, .string ⟨#[]⟩, .string ⟨#[]⟩]) 3 40 Tryz.underlying29 hi0 hz0 hz1 hz2 rfl (by decide) v l.length _ hs hown ⟨g, og, none⟩ la.length ca (frC la) hx (by rw [frC_length]; omega) (fun j u hj => (frC_cell hf j u hj).1) (fun u hu => ?_) (by unfold maxLen; omega) (by omega) hbase ?_
  · obtain ⟨j, hj, rfl⟩ := List.getElem_of_mem hu
    exact (frC_cell hf j _ (List.getElem?_eq_getElem hj)).2
  · intro v' w' h1 h2 _
    refine h v' w' ?_ h2
    rw [RwF, List.length_append, frC_append]
    exact h1
end Go.Proofs.YtncccbdledcibaaGreatDoor

