/- The document's answer Tree: what its memory holds, step by step. -/
import Derived.Test.YtockhhleapbpiaaFilCToFilD
import Derived.Test.YtockhhleapbpiaaFillAToTabT
import Derived.Test.YtockhhleapbpiaaSliBToListA
import Derived.Laws.EntriesVeiled
namespace Go.Proofs.Ytockhhleapbpiaa
open Go.RowKit Go.Shelf

theorem cell_in {w : World} {g j : Nat} {v : Value} (h : w.cell? ⟨g, j, none⟩ = some v) : g < w.heap.size := by
  rcases Nat.lt_or_ge g w.heap.size with h1 | h1
  · exact h1
  · have e : w.heap[g]? = none := Array.getElem?_eq_none h1
    rw [World.cell?, e] at h
    cases h
theorem one_cell (w : World) (v : Value) (t : TypeId) : (w.alloc (.cells #[v] t)).cell? ⟨w.heap.size, 0, none⟩ = some v := by
  rw [cell_of_row (w.alloc (.cells #[v] t)) w.heap.size 0 _ _ (0, 0) (heap_alloc_new w _)]; rfl
/-- What lies below a place stays. -/
theorem own_above {w w' : World} {B b : Nat} {e : TypeId} {s : Nat} {v : Value} {n : Nat} {xs : List Value} (h : w.ownsRow B e s v n xs) (hl : ∀ g, v.ownBlock = some g → g < b) (hb : Below b w w') : w'.ownsRow B e s v n xs := by
  refine ⟨h.1, ?_⟩
  rcases h.2 with h1 | ⟨g, cap, cur, h1, h2, h3, h4⟩
  · exact .inl h1
  · exact .inr ⟨g, cap, cur, h1, h2, (hb.block g (hl g (by rw [h1]; rfl))).trans h3, h4⟩
theorem OwI.push {w w' : World} {B : Nat} {y y' : Value} {P : List PI2} {x : Value} {l : List Int} (h : OwI w B y P) (hx : RwI w B x l) (hr : w'.ownsRow B 23 1 y' (P.length + 1) (P.map (·.1) ++ [x])) (hg : w.grownBy w' y.ownBlock) : OwI w' B y' (P ++ [(x, l)]) := by
  have kt : KpT 3 w w' := KpT.grown hg (own_typed h.1) (by decide)
  refine ⟨by rw [List.length_append, List.map_append]; exact hr, fun p hp => ?_⟩
  rcases List.mem_append.1 hp with hp | hp
  · exact own_kp (h.2 p hp) kt
  · rw [List.mem_singleton.1 hp]; exact own_kp hx kt
theorem OwI.lists {w : World} {B : Nat} {y : Value} {Ks : List PI2} {Ls : List (List Int)} (h : OwI w B y Ks) (hs : Ks.map (·.2) = Ls) (hp : 0 < Ls.length) : ∃ g c, y = .slice (some ⟨g, 0, none⟩) Ls.length c ∧ g < w.heap.size ∧ ∀ i, i < Ls.length → ∃ b cb, w.cell? ⟨g, i, none⟩ = some (.slice b (Ls.getD i []).length cb) ∧ IntS w b (Ls.getD i []) := by
  have hl : Ks.length = Ls.length := by rw [← hs, List.length_map]
  obtain ⟨g, c, h1, _, h3, h4⟩ := own_at h.1 (by omega)
  refine ⟨g, c, by rw [h1, hl], h3, fun i hi => ?_⟩
  have hik : i < Ks.length := by omega
  have e2 : Ls.getD i [] = Ks[i].2 := by
    rw [List.getD_eq_getElem?_getD, List.getElem?_eq_getElem hi]
    subst hs
    simp
  obtain ⟨d, cd, f1, f2⟩ := (h.2 _ (List.getElem_mem hik)).ints
  have := h4 i (by rw [List.length_map]; exact hik)
  rw [List.getElem_map, f1] at this
  rw [e2]
  exact ⟨d, cd, this, f2⟩
/-- Links and those that stand there, behind t links. -/
structure TL (W0 : World) (C : List (List Nat)) (t : Nat) (lv sv : Value) (P : List PK) (W : World) : Prop where
  lk : OwK W W0.heap.size lv P
  ls : P.map pk3 = lkL C t
  sd : RwI W W0.heap.size sv (iL (thR C t).reverse)
  apt : ApT sv (P.map fun p => (p.2.2.1, p.2.2.2))
  low : Below W0.heap.size W0 W
theorem OwK.low {w : World} {B B' : Nat} {x : Value} {P : List PK} (h : OwK w B x P) (hb : B' ≤ B) : OwK w B' x P := ⟨own_low h.1 hb, fun p hp => own_low (h.2 p hp) hb⟩
theorem lkL_cnt (C : List (List Nat)) : ∀ t, (lkL C t).length = t
  | 0 => rfl
  | t + 1 => by rw [lkL, List.length_append, lkL_cnt C t]; rfl
theorem own_same2 {w w' : World} {B : Nat} {e : TypeId} {s : Nat} {v : Value} {n : Nat} {xs : List Value} (h : w.ownsRow B e s v n xs) (hk : ∀ g, v.ownBlock = some g → w'.heap[g]? = w.heap[g]?) : w'.ownsRow B e s v n xs := by
  refine ⟨h.1, ?_⟩
  rcases h.2 with h1 | ⟨g, cap, cur, h1, h2, h3, h4⟩
  · exact .inl h1
  · exact .inr ⟨g, cap, cur, h1, h2, (hk g (by rw [h1]; rfl)).trans h3, h4⟩
theorem TL.below {W0 : World} {C : List (List Nat)} {t : Nat} {lv sv : Value} {P : List PK} {W W' : World} (h : TL W0 C t lv sv P W) (hb : Below W.heap.size W W') : TL W0 C t lv sv P W' :=
  ⟨h.lk.keep (KpT.below hb) (KpT.below hb), h.ls, h.sd.under hb, h.apt, h.low.trans (hb.mono h.low.size)⟩
/-- The best link so far, as it lies there. -/
def BxL (C : List (List Nat)) (U : World) (bb : Nat) (st : NSt) (W : World) (A B S : Value) : Prop := W.heap[bb]? = some (.cells #[A, B, S] 47 (0, 0)) ∧ ((st.m = -1 ∧ A = .int .i64 (-1) ∧ B = .int .i64 0 ∧ S = .slice none 0 0) ∨ (st.m = (comN C st.a st.b : Int) ∧ A = .int .i64 (st.a : Nat) ∧ B = .int .i64 (st.b : Nat) ∧ RwI W U.heap.size S (memL (sepN C st.a st.b))))
theorem BxL.below {C : List (List Nat)} {U : World} {bb : Nat} {st : NSt} {W W' : World} {A B S : Value} (h : BxL C U bb st W A B S) (hb : Below W.heap.size W W') : BxL C U bb st W' A B S :=
  ⟨(hb.block bb (Array.getElem?_eq_some_iff.1 h.1).1).trans h.1, h.2.imp id fun ⟨a, b, c, d⟩ => ⟨a, b, c, d.under hb⟩⟩
theorem BxL.cells {C : List (List Nat)} {U : World} {bb : Nat} {st : NSt} {W : World} {A B S : Value} (h : BxL C U bb st W A B S) : W.cell? ⟨bb, 0, none⟩ = some A ∧ W.cell? ⟨bb, 1, none⟩ = some B ∧ W.cell? ⟨bb, 2, none⟩ = some S ∧ ∀ j, W.frozen? ⟨bb, j, none⟩ = false :=
  ⟨by rw [cell_of_row W bb 0 _ _ (0, 0) h.1]; rfl, by rw [cell_of_row W bb 1 _ _ (0, 0) h.1]; rfl, by rw [cell_of_row W bb 2 _ _ (0, 0) h.1]; rfl, fun j => frozen_of_row W bb j _ _ h.1⟩
/-- While the next link is sought. -/
structure TB (W0 U : World) (C : List (List Nat)) (t : Nat) (lv sv : Value) (P : List PK) (bb : Nat) (st : NSt) (W : World) : Prop where
  tl : TL W0 C t lv sv P W
  bx : ∃ A B S, BxL C U bb st W A B S
  bl : U.heap.size ≤ bb
  ol : ∀ g, lv.ownBlock = some g → g < U.heap.size
  os : ∀ g, sv.ownBlock = some g → g < U.heap.size
  op : ∀ p ∈ P, ∀ g, p.2.2.1.ownBlock = some g → g < U.heap.size
  ub : W0.heap.size ≤ U.heap.size
theorem TB.below {W0 U : World} {C : List (List Nat)} {t : Nat} {lv sv : Value} {P : List PK} {bb : Nat} {st : NSt} {W W' : World} (h : TB W0 U C t lv sv P bb st W) (hb : Below W.heap.size W W') : TB W0 U C t lv sv P bb st W' :=
  ⟨h.tl.below hb, by
    obtain ⟨A, B, S, h1⟩ := h.bx
    exact ⟨A, B, S, h1.below hb⟩, h.bl, h.ol, h.os, h.op, h.ub⟩
theorem TB.start {W0 U : World} {C : List (List Nat)} {t : Nat} {lv sv : Value} {P : List PK} (h : TL W0 C t lv sv P U) (st : NSt) (hs : st.m = -1) : TB W0 U C t lv sv P U.heap.size st (U.alloc (.cells #[.int .i64 (-1), .int .i64 0, .slice none 0 0] 47)) :=
  ⟨h.below ((Below.refl _ U).alloc (Nat.le_refl _) _), ⟨_, _, _, heap_alloc_new U _, .inl ⟨hs, rfl, rfl, rfl⟩⟩, Nat.le_refl _, fun g hg => (h.lk.1.lt g hg).2, fun g hg => (h.sd.lt g hg).2, fun p hp g hg => ((h.lk.2 p hp).lt g hg).2, h.low.size⟩
theorem set3_heap {W : World} {bb : Nat} {A B S A' B' S' : Value} (h : W.heap[bb]? = some (.cells #[A, B, S] 47 (0, 0))) : (((W.setCell ⟨bb, 0, none⟩ A').setCell ⟨bb, 1, none⟩ B').setCell ⟨bb, 2, none⟩ S').heap[bb]? = some (.cells #[A', B', S'] 47 (0, 0)) := by
  have h1 := heap_setCell_same W bb 0 _ _ A' h
  have h2 := heap_setCell_same _ bb 1 _ _ B' h1
  have h3 := heap_setCell_same _ bb 2 _ _ S' h2
  rw [h3]
  rfl
theorem set3_off (W : World) (bb k : Nat) (A B S : Value) (hk : k ≠ bb) : (((W.setCell ⟨bb, 0, none⟩ A).setCell ⟨bb, 1, none⟩ B).setCell ⟨bb, 2, none⟩ S).heap[k]? = W.heap[k]? :=
  (Below.heap_setCell _ ⟨bb, 2, none⟩ S k hk).trans ((Below.heap_setCell _ ⟨bb, 1, none⟩ B k hk).trans (Below.heap_setCell _ ⟨bb, 0, none⟩ A k hk))
/-- A better link. -/
theorem TB.put {W0 U : World} {C : List (List Nat)} {t : Nat} {lv sv : Value} {P : List PK} {bb : Nat} {st : NSt} {W : World} (h : TB W0 U C t lv sv P bb st W) {a b : Nat} {S : Value} (hS : RwI W U.heap.size S (memL (sepN C a b))) : TB W0 U C t lv sv P bb ⟨a, b, (comN C a b : Int)⟩ (((W.setCell ⟨bb, 0, none⟩ (.int .i64 (a : Nat))).setCell ⟨bb, 1, none⟩ (.int .i64 (b : Nat))).setCell ⟨bb, 2, none⟩ S) := by
  obtain ⟨A1, B1, S1, hb, -⟩ := h.bx
  have hoff := fun k hk => set3_off W bb k (.int .i64 (a : Nat)) (.int .i64 (b : Nat)) S hk
  have hne : ∀ g, g < U.heap.size → g ≠ bb := fun g hg e => by have := h.bl; omega
  have hlow : Below W0.heap.size W0 (((W.setCell ⟨bb, 0, none⟩ (.int .i64 (a : Nat))).setCell ⟨bb, 1, none⟩ (.int .i64 (b : Nat))).setCell ⟨bb, 2, none⟩ S) := by
    have hbb : W0.heap.size ≤ bb := Nat.le_trans h.ub h.bl
    exact ((h.tl.low.setCell (p := ⟨bb, 0, none⟩) hbb _).setCell (p := ⟨bb, 1, none⟩) hbb _).setCell (p := ⟨bb, 2, none⟩) hbb _
  have hSn : ∀ g, S.ownBlock = some g → g ≠ bb := fun g hg e => by
    obtain ⟨c, fr, h1⟩ := own_typed hS g hg
    rw [e, hb] at h1
    injection h1 with h2
    injection h2 with _ h3 _
    exact absurd h3 (by decide)
  refine ⟨⟨⟨own_same2 h.tl.lk.1 fun g hg => hoff g (hne g (h.ol g hg)), fun p hp => own_same2 (h.tl.lk.2 p hp) fun g hg => hoff g (hne g (h.op p hp g hg))⟩, h.tl.ls, own_same2 h.tl.sd fun g hg => hoff g (hne g (h.os g hg)), h.tl.apt, hlow⟩, ⟨_, _, _, set3_heap hb, .inr ⟨rfl, rfl, rfl, own_same2 hS fun g hg => hoff g (hSn g hg)⟩⟩, h.bl, h.ol, h.os, h.op, h.ub⟩
theorem TB.size {W0 U : World} {C : List (List Nat)} {t : Nat} {lv sv : Value} {P : List PK} {bb : Nat} {st : NSt} {W : World} (h : TB W0 U C t lv sv P bb st W) : U.heap.size ≤ W.heap.size := by
  obtain ⟨A, B, S, h1⟩ := h.bx
  have h2 := (Array.getElem?_eq_some_iff.1 h1.1).1
  have h3 := h.bl
  omega
theorem TB.same {W0 U : World} {C : List (List Nat)} {t : Nat} {lv sv : Value} {P : List PK} {bb : Nat} {st st' : NSt} {W : World} (h : TB W0 U C t lv sv P bb st W) (e : st' = st) : TB W0 U C t lv sv P bb st' W := by rw [e]; exact h
theorem wpList_append_link {w : World} {ops : Array Oper} {rest : List Oper} {o : Oper} {a : Act} {Q : Exit → Act → World → Prop} (hgd : o.guard = none) (s x : Operand)
    (ho : o.op = .call { callee := .builtin .append, args := #[s, x], argTypes := #[39, 39] }) (base : Nat) (v : Value) (P : List PK) (x1 x2 : Nat) (d : Option Addr) (nd cd : Nat) (hs : a.eval s = v) (hown : w.ownsRow base 47 3 v P.length (kC P)) (g : Nat) (hx : a.eval x = .slice (some ⟨g, 0, none⟩) 1 1) (hg0 : w.cell? ⟨g, 0, none⟩ = some (.int .i64 (x1 : Nat))) (hg1 : w.cell? ⟨g, 1, none⟩ = some (.int .i64 (x2 : Nat))) (hg2 : w.cell? ⟨g, 2, none⟩ = some (.slice d nd cd)) (hlen : P.length + 1 ≤ 1000) (hbase : base ≤ w.heap.size)
    (h : ∀ v' w', w'.ownsRow base 47 3 v' (P.length + 1) (kC P ++ [.int .i64 (x1 : Nat), .int .i64 (x2 : Nat), .slice d nd cd]) → w.grownBy w' v.ownBlock → wpList Try.prog ops Q rest (a.put o.dst v') w') : wpList Try.prog ops Q (o :: rest) a w :=
  wpList_plain hgd fun _ hK => wp_append_link s x ho base v P x1 x2 d nd cd hs hown g hx hg0 hg1 hg2 hlen hbase fun v' w' h1 h2 => hK _ _ (h v' w' h1 h2)
theorem three_cells (w : World) (A B S : Value) (t : TypeId) : (w.alloc (.cells #[A, B, S] t)).cell? ⟨w.heap.size, 0, none⟩ = some A ∧ (w.alloc (.cells #[A, B, S] t)).cell? ⟨w.heap.size, 1, none⟩ = some B ∧ (w.alloc (.cells #[A, B, S] t)).cell? ⟨w.heap.size, 2, none⟩ = some S := by
  have h := heap_alloc_new w (.cells #[A, B, S] t)
  exact ⟨by rw [cell_of_row _ w.heap.size 0 _ _ (0, 0) h]; rfl, by rw [cell_of_row _ w.heap.size 1 _ _ (0, 0) h]; rfl, by rw [cell_of_row _ w.heap.size 2 _ _ (0, 0) h]; rfl⟩
/-- The link is put behind the others. -/
theorem TB.push {W0 U : World} {C : List (List Nat)} {t : Nat} {lv lv' sv : Value} {P : List PK} {bb : Nat} {st : NSt} {W W' : World} {S : Value} (h : TB W0 U C t lv sv P bb st W) (hS : RwI W U.heap.size S (memL (sepN C st.a st.b))) (hst : st = nrI C (thR C t) 8) (hr : W'.ownsRow W0.heap.size 47 3 lv' (P.length + 1) (kC P ++ [.int .i64 (st.a : Nat), .int .i64 (st.b : Nat), S])) (hg : W.grownBy W' lv.ownBlock) :
    OwK W' W0.heap.size lv' (P ++ [(st.a, st.b, S, memL (sepN C st.a st.b))]) ∧ (P ++ [(st.a, st.b, S, memL (sepN C st.a st.b))]).map pk3 = lkL C (t + 1) ∧ RwI W' W0.heap.size sv (iL (thR C t).reverse) ∧ ApT sv ((P ++ [(st.a, st.b, S, memL (sepN C st.a st.b))]).map fun p => (p.2.2.1, p.2.2.2)) ∧ Below W0.heap.size W0 W' ∧ (∀ A B S', BxL C U bb st W A B S' → W'.cell? ⟨bb, 1, none⟩ = some B) := by
  have kt : KpT 3 W W' := KpT.grown hg (own_typed h.tl.lk.1) (by decide)
  refine ⟨⟨by rw [List.length_append, kC_append]; exact hr, fun p hp => ?_⟩, by rw [List.map_append, h.tl.ls, lkL, ← hst]; rfl, own_kp h.tl.sd kt, fun p hp g hg' e => ?_, h.tl.low.grown hg h.tl.low.size (own_from h.tl.lk.1), fun A B S' hb => ?_⟩
  · rcases List.mem_append.1 hp with hp | hp
    · exact own_kp (h.tl.lk.2 p hp) kt
    · rw [List.mem_singleton.1 hp]; exact own_low (own_kp hS kt) h.ub
  · rw [List.map_append] at hp
    rcases List.mem_append.1 hp with hp | hp
    · exact h.tl.apt p hp g hg' e
    · rw [List.map_singleton, List.mem_singleton] at hp
      rw [hp] at hg'
      have h1 := own_from hS g hg'
      have h2 := h.os g e
      omega
  · have hk : W'.heap[bb]? = W.heap[bb]? := hg.block bb (Array.getElem?_eq_some_iff.1 hb.1).1 fun e => by
      have h1 := h.ol bb e.symm
      have h2 := h.bl
      omega
    rw [cell_of_row W' bb 1 _ _ (0, 0) (hk.trans hb.1)]; rfl
/-- The new one stands there. -/
theorem TL.next {W0 : World} {C : List (List Nat)} {t b : Nat} {lv sv sv' : Value} {P : List PK} {W W' : World} (hl : OwK W W0.heap.size lv P) (hs : P.map pk3 = lkL C (t + 1)) (hsd : RwI W W0.heap.size sv (iL (thR C t).reverse)) (ha : ApT sv (P.map fun p => (p.2.2.1, p.2.2.2))) (hb : Below W0.heap.size W0 W) (hst : b = (nrI C (thR C t) 8).b) (hr : RwI W' W0.heap.size sv' (iL (thR C t).reverse ++ [((b : Nat) : Int)])) (hg : W.grownBy W' sv.ownBlock) (hn : sv'.ownBlock = sv.ownBlock ∨ ∀ k, sv'.ownBlock = some k → W.heap.size ≤ k) : TL W0 C (t + 1) lv sv' P W' := by
  refine ⟨⟨own_kp hl.1 (KpT.grown hg (own_typed hsd) (by decide)), fun p hp => (hl.2 p hp).kept hg ?_⟩, hs, by rw [thR, List.reverse_cons, iL_append, ← hst]; exact hr, fun p hp g hg' e => ?_, hb.grown hg hb.size (own_from hsd)⟩
  · cases e : p.2.2.1.ownBlock with
    | none => exact .inl rfl
    | some g => exact .inr fun e' => ha (p.2.2.1, p.2.2.2) (List.mem_map.2 ⟨p, hp, rfl⟩) g e (by rw [← e'])
  · obtain ⟨q, hq, rfl⟩ := List.mem_map.1 hp
    rcases hn with hn | hn
    · exact ha _ hp g hg' (by rw [← hn]; exact e)
    · have h1 := hn g e
      have h2 := ((hl.2 q hq).lt g hg').2
      omega
end Go.Proofs.Ytockhhleapbpiaa


/- The document's answer: what a table has for an assignment of all variables. -/
namespace Go.Proofs.Ytockhhleapbpiaa
open Go.RowKit Go.Shelf

theorem RowI_get {l : List Nat} {i : Nat} (h : i < (iL l).length) : (iL l)[i] = ((l[i]'(by rw [iL_length] at h; exact h) : Nat) : Int) := by simp [iL]

end Go.Proofs.Ytockhhleapbpiaa


/- The document's answer: an assignment as one of all variables; a list without one. -/
namespace Go.Proofs.Ytockhhleapbpiaa
open Go.RowKit Go.Shelf

theorem lessN_take {vars : List Int} {v : Int} {i : Nat} (h : i < vars.length) : lessN (vars.take (i + 1)) v = lessN (vars.take i) v ++ if vars[i] = v then [] else [vars[i]] := by
  rw [List.take_succ_eq_append_getElem h, lessN, lessN, List.filter_append]
  congr 1
  by_cases e : vars[i] = v
  · simp [e]
  · simp [e]

end Go.Proofs.Ytockhhleapbpiaa


/- Package table: the closures of Fix and Out. -/
namespace Go.Proofs.Ytockhhleapbpiaa
open Go.RowKit Go.Shelf

end Go.Proofs.Ytockhhleapbpiaa


/- Package table: Fix. -/
namespace Go.Proofs.Ytockhhleapbpiaa
open Go.RowKit Go.Shelf

theorem up_iff {l : List Int} {n : Nat} : Up l n ↔ (∀ x ∈ l, 0 ≤ x ∧ x < n) ∧ l.Pairwise (· < ·) := by
  constructor
  · intro h
    refine ⟨fun x hx => ?_, List.pairwise_iff_getElem.2 fun i j hi hj hij => h.lt i j hj hij⟩
    obtain ⟨i, hi, rfl⟩ := List.getElem_of_mem hx
    exact h.each i hi
  · rintro ⟨h1, h2⟩
    exact ⟨fun i hi => h1 _ (List.getElem_mem hi), fun i j hj hi => List.pairwise_iff_getElem.1 h2 i j (by omega) hj hi⟩
theorem lessN_up {vars : List Int} {n : Nat} (h : Up vars n) (v : Int) : Up (lessN vars v) n := by
  rw [up_iff] at h ⊢
  exact ⟨fun x hx => h.1 x (List.mem_filter.1 hx).1, h.2.filter _⟩
theorem lessN_out {vars : List Int} {n v : Nat} (h : Up vars n) : ¬ v ∈ toN (lessN vars (v : Int)) := fun hm => by
  obtain ⟨x, hx, e⟩ := List.mem_map.1 hm
  have h1 := (up_iff.1 (lessN_up h v)).1 x hx
  have h2 := (List.mem_filter.1 hx).2
  simp at h2
  omega
theorem fixL_length (S vars rest : List Nat) (v x : Nat) (l : List Fr) : (fixL S vars rest v x l).length = cnt S rest := by simp [fixL]
theorem fixL_get (S vars rest : List Nat) (v x : Nat) (l : List Fr) {k : Nat} (h : k < (fixL S vars rest v x l).length) : (fixL S vars rest v x l)[k] = qF (frQ (celF l (pos S (withV (asg S rest k) v x) vars))) := by simp [fixL]
/-- The place of an assignment with one more value is a place. -/
theorem with_lt {sizes vars rest : List Int} {v x K m : Nat} (hk : checkA sizes vars m = 0) (hK : K < cnt (toN sizes) (toN rest)) (hx : x < sz (toN sizes) v) : pos (toN sizes) (withV (asg (toN sizes) (toN rest) K) v x) (toN vars) < m := by
  obtain ⟨h1, h2, h3⟩ := checkA_parts hk
  rw [h3]
  exact pos_lt _ (withV_lt (fun u => asg_lt h1.pos _ _ u hK) hx) _
end Go.Proofs.Ytockhhleapbpiaa


/- The document's answer: tables that grow cell by cell. -/
namespace Go.Proofs.Ytockhhleapbpiaa
open Go.RowKit Go.Shelf

theorem frC_snoc (l : List Fr) (f : Fr) : frC (l ++ [f]) = frC l ++ [.bool f.1, .string f.2.1, .string f.2.2] := by
  induction l with
  | nil => rfl
  | cons x l ih => simp only [List.cons_append, frC, ih]
end Go.Proofs.Ytockhhleapbpiaa


/- The document's answer: Fix. -/
namespace Go.Proofs.Ytockhhleapbpiaa
open Go.RowKit Go.Shelf

theorem countB_of {sizes vars : List Int} (h1 : Fine sizes) (h2 : Up vars sizes.length) : countB sizes vars = true := by
  rw [countB, Bool.and_eq_true]
  constructor
  · rw [fitB, Bool.and_eq_true, decide_eq_true_iff]
    refine ⟨⟨h1.one, h1.eight⟩, List.all_eq_true.2 fun x hx => ?_⟩
    obtain ⟨i, hi, rfl⟩ := List.getElem_of_mem hx
    rw [okSize, decide_eq_true_iff]
    exact h1.each i hi
  · rw [risB, List.all_eq_true]
    intro i hi
    have hi' := List.mem_range.1 hi
    rw [okAt, decide_eq_true_iff, getD_eq hi']
    refine ⟨(h2.each i hi').1, (h2.each i hi').2, fun h0 => ?_⟩
    rw [getD_eq (show i - 1 < vars.length by omega)]
    exact h2.lt (i - 1) i hi' (by omega)
end Go.Proofs.Ytockhhleapbpiaa


/- Package table: the closure of Out. -/
namespace Go.Proofs.Ytockhhleapbpiaa
open Go.RowKit Go.Shelf

theorem fits_mono {m n : Nat} {q : Rat} (h : Fits m q) (hm : m ≤ n) : Fits n q := by
  obtain ⟨A, D, h1, h2, h3, h4⟩ := h
  exact ⟨A, D, h1, h2, Nat.lt_of_lt_of_le h3 (pow_mono hm), Nat.lt_of_lt_of_le h4 (pow_mono hm)⟩
theorem great_one (f g : Fr) : great f g = f ∨ great f g = g := by
  rw [great]
  by_cases h : cmpQ (frQ f) (frQ g) < 0
  · rw [if_pos h]; exact .inr rfl
  · rw [if_neg h]; exact .inl rfl
theorem qF_size (q : Rat) : (qF q).2.1.size + (qF q).2.2.size = qw q := rfl
theorem outN_fits (most : Bool) (T : Nat → Fr) : ∀ k, (∀ x, x ≤ k → (T x).2.1.size + (T x).2.2.size + 2 ≤ 8192) → Fits ((k + 1) * 8192) (frQ (outN most T k))
  | 0, h => fits_mono (fits_val _ _ _) (by have := h 0 (Nat.le_refl _); show (T 0).2.1.size + (T 0).2.2.size + 1 ≤ _; omega)
  | k + 1, h => by
    have h1 := outN_fits most T k fun x hx => h x (by omega)
    have h2 : Fits 8191 (frQ (T (k + 1))) := fits_mono (fits_val _ _ _) (by have := h (k + 1) (Nat.le_refl _); omega)
    rw [outN]
    cases most with
    | true =>
      rw [if_pos rfl]
      rcases great_one (outN true T k) (T (k + 1)) with e | e
      · rw [e]; exact fits_mono h1 (by omega)
      · rw [e]; exact fits_mono h2 (by omega)
    | false =>
      rw [if_neg (by decide), frQ_qF]
      exact fits_mono (fits_add h1 h2) (by omega)
theorem out_ar1 (k : Nat) : 2 * ((k + 1) * 8192) ≤ 2 * ((k + 1 + 1) * 8192) := by omega
theorem out_ar2 (k : Nat) : 8192 ≤ 2 * ((k + 1 + 1) * 8192) := by omega
theorem great_size {f g : Fr} {A : Nat} (h1 : f.2.1.size + f.2.2.size ≤ A) (h2 : g.2.1.size + g.2.2.size ≤ A) : (great f g).2.1.size + (great f g).2.2.size ≤ A := by
  rcases great_one f g with e | e
  · rw [e]; exact h1
  · rw [e]; exact h2
theorem outN_size (most : Bool) (T : Nat → Fr) : ∀ k, (∀ x, x ≤ k → (T x).2.1.size + (T x).2.2.size + 2 ≤ 8192) → (outN most T k).2.1.size + (outN most T k).2.2.size ≤ 2 * ((k + 1) * 8192)
  | 0, h => by have := h 0 (Nat.le_refl _); rw [outN]; omega
  | k + 1, h => by
    have h1 := outN_size most T k fun x hx => h x (by omega)
    have h2 := h (k + 1) (Nat.le_refl _)
    have h3 := outN_fits most T (k + 1) h
    rw [outN] at h3 ⊢
    cases most with
    | true =>
      rw [if_pos rfl]
      exact great_size (Nat.le_trans h1 (out_ar1 k)) (Nat.le_trans (Nat.le_trans (Nat.le_add_right _ 2) h2) (out_ar2 k))
    | false =>
      rw [if_neg (by decide)] at h3 ⊢
      rw [frQ_qF] at h3
      have h4 := fits_qw h3
      rw [qF_size]
      exact h4
/-- A way to make two fractions one. -/
def Pairs (most : Bool) (pf : Nat) : Prop := (∀ args w, (callFunc pf args).run Try.prog w = .ok (.enter pf args) w) ∧ ∀ (f g : Fr) (V : World), f.2.1.size + f.2.2.size ≤ 100000 → g.2.1.size + g.2.2.size ≤ 100000 → Calls Try.prog pf #[frV f, frV g] V fun e w' => e = .returned (frV (if most then great f g else qF (frQ f + frQ g))) ∧ Below V.heap.size V w'
end Go.Proofs.Ytockhhleapbpiaa


/- Package table: Out. -/
namespace Go.Proofs.Ytockhhleapbpiaa
open Go.RowKit Go.Shelf

theorem outL_length (S vars rest : List Nat) (v : Nat) (most : Bool) (l : List Fr) : (outL S vars rest v most l).length = cnt S rest := by simp [outL]
theorem outL_get (S vars rest : List Nat) (v : Nat) (most : Bool) (l : List Fr) {k : Nat} (h : k < (outL S vars rest v most l).length) : (outL S vars rest v most l)[k] = qF (frQ (outN most (fun x => celF l (pos S (withV (asg S rest k) v x) vars)) (sz S v - 1))) := by simp [outL]

end Go.Proofs.Ytockhhleapbpiaa

