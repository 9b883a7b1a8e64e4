/- Package graph: readBags, outermost. -/
import Derived.Test.YthcfgoknphpkdaaOrdCToAbvB
import Derived.Test.YthcfgoknphpkdaaAbvPToAnsA
namespace Go.Proofs.Ythcfgoknphpkdaa
open Go.RowKit Go.Shelf

/-- Bags that may be. -/
def bagsB (L : List (List Int)) : Bool := decide (1 ≤ L.length ∧ L.length ≤ 8) && (allRis L 8 && !decide (0 ∈ masks L))

/-- One bag stands in another; of like ones the first counts. -/
def covB (B : List (List Nat)) (i j : Nat) : Bool := decide (j ≠ i ∧ (∀ x ∈ B.getD i [], x ∈ B.getD j []) ∧ (mskN (B.getD j []) ≠ mskN (B.getD i []) ∨ j < i))
/-- Is a bag kept? -/
def keptB (B : List (List Nat)) (i : Nat) : Bool := (List.range B.length).all fun j => !covB B i j
/-- The bags that are kept, as far as k. -/
def ousL (B : List (List Nat)) (k : Nat) : List (List Nat) := ((List.range k).filter (keptB B)).map fun i => B.getD i []
theorem ousL_yes {B : List (List Nat)} {k : Nat} (h : keptB B k = true) : ousL B (k + 1) = ousL B k ++ [B.getD k []] := by rw [ousL, List.range_succ, List.filter_append, List.map_append, ousL]; simp [h]
theorem ousL_no {B : List (List Nat)} {k : Nat} (h : keptB B k = false) : ousL B (k + 1) = ousL B k := by rw [ousL, List.range_succ, List.filter_append, List.map_append, ousL]; simp [h]
theorem ousL_len (B : List (List Nat)) (k : Nat) : (ousL B k).length ≤ k := by
  have := List.length_filter_le (keptB B) (List.range k)
  simpa [ousL] using this
theorem kept_no {B : List (List Nat)} {i j : Nat} (hj : j < B.length) (h : covB B i j = true) : keptB B i = false := by
  rw [keptB, List.all_eq_false]
  exact ⟨j, List.mem_range.2 hj, by rw [h]; decide⟩
theorem kept_yes {B : List (List Nat)} {i : Nat} (h : ∀ j, j < B.length → covB B i j = false) : keptB B i = true := by
  rw [keptB, List.all_eq_true]
  intro j hj
  rw [h j (List.mem_range.1 hj)]
  rfl
theorem wpList_append_set {w : World} {ops : Array Oper} {rest : List Oper} {o : Oper} {a : Act} {Q : Exit → Act → World → Prop} (hgd : o.guard = none) (s x : Operand)
    (ho : o.op = .call { callee := .builtin .append, args := #[s, x], argTypes := #[40, 40] }) (base : Nat) (v : Value) (l : List Nat) (f : Nat) (hs : a.eval s = v) (hown : RwU w base v l) (g : Nat) (hx : a.eval x = .slice (some ⟨g, 0, none⟩) 1 1) (hg : w.cell? ⟨g, 0, none⟩ = some (uv f)) (hlen : l.length + 1 ≤ 100000) (hbase : base ≤ w.heap.size)
    (h : ∀ v' w', RwU w' base v' (l ++ [f]) → w.grownBy w' v.ownBlock → wpList Try.prog ops Q rest (a.put o.dst v') w') : wpList Try.prog ops Q (o :: rest) a w := by
  obtain ⟨i0, hi0, hz0, hz1, hz2⟩ := info_parts Try.infoSet2
  refine wpList_append_own _ hgd s x 40 ho base 46 i0 (.int .u32 0) 1 4 Try.underlying40 hi0 hz0 hz1 hz2 rfl (by decide) v l.length _ hs hown ⟨g, 0, none⟩ 1 1 [uv f] hx rfl ?_ ?_ (by unfold maxLen; omega) (by omega) hbase ?_
  · intro j u hj
    match j, hj with
    | 0, hj => cases hj; exact hg
    | j + 1, hj => simp at hj
  · intro u hu
    simp only [List.mem_cons, List.not_mem_nil, or_false] at hu
    subst hu; rfl
  · intro v' w' h1 h2 _
    refine h v' w' ?_ h2
    rw [RwU, List.length_append, List.map_append]
    exact h1

end Go.Proofs.Ythcfgoknphpkdaa


/- Package graph: nearest. -/
namespace Go.Proofs.Ythcfgoknphpkdaa
open Go.RowKit Go.Shelf

attribute [local go_sem] Oper.semAt_some

theorem op_wide {n : Nat} {P : Program} {ops : Array Oper} {Q : Exit → Act → World → Prop} (hnd : plainOps ops = true) (hlo : ¬ LetsOut Q) {i : Nat} {K K' : Act → World → Prop} {a : Act} {w : World} (hK : ∀ a w, K a w → K' a w)
    (h : wpOp P ops Q i K a w) : wpOpIn Fence.wide n P ops Q i K' a w := by
  unfold wpOp at h
  unfold wpOpIn
  cases ho : ops[i]? with
  | none => rw [ho] at h; exact hK _ _ h
  | some o =>
    rw [ho] at h
    simp only at h ⊢
    by_cases hw : Region.wanted o (yielded ops a.tmps) = true
    · rw [if_pos hw] at h ⊢
      rcases h with h | h
      · refine ⟨fun _ _ => trivial, ?_⟩
        rw [Oper.semAt_eq _ _ _ (plainOps_at hnd ho)]
        unfold Oper.wp at h
        generalize (execOp a.eval o).run P w = r at *
        cases r with
        | ok nx w' =>
          cases nx with
          | value v => exact hK _ _ h
          | skip => exact hK _ _ h
          | defer d => exact hK _ _ h
          | enter f args =>
            refine ⟨fun hd => absurd hd (show ¬ Fence.wide.depth.isSome = true by decide), (callsIn_wide (n := n - 1)).2 (Calls.mono h ?_)⟩
            intro e w'' he
            cases e with
            | returned v => exact hK _ _ he
            | panicked c => exact he
            | outgrown => exact he
          | row r args => exact ⟨fun hd => absurd hd (show ¬ Fence.wide.depth.isSome = true by decide), fun c cs _ => let ⟨v, w2, r, s⟩ := h c cs; ⟨v, w2, hK _ _ r, stepsIn_wide.2 s⟩⟩
          | _ => exact h.elim
        | halt hl w' =>
          cases hl with
          | panic v => exact h
          | _ => exact h.elim
      · exact absurd h.2 hlo
    · rw [if_neg hw] at h ⊢
      exact ⟨fun _ _ => trivial, hK _ _ h⟩
theorem any_wide {n : Nat} {P : Program} {md : Region.Mode} {ops : Array Oper} {Q : Exit → Act → World → Prop} (hnd : plainOps ops = true) (hlo : ¬ LetsOut Q) : ∀ (fuel : Nat) (listed : Array Bool) (a : Act) (w : World), wpAny P md ops Q fuel listed a w → wpAnyIn Fence.wide n P md ops Q fuel listed a w
  | 0, _, _, _, h => h
  | fuel + 1, _, _, _, h => ⟨h.1, fun i hi => op_wide hnd hlo (fun a w => any_wide hnd hlo fuel _ a w) (h.2 i hi)⟩
theorem region_wide {n id : Nat} {P : Program} {ops : Array Oper} {Q : Exit → Act → World → Prop} {a : Act} {w : World} (S : World → Prop) (hm : P.follows .mixedOrders = true) (hnd : plainOps ops = true) (hlo : ¬ LetsOut Q) (hS : S w.drew)
    (h : S w.drew → wpAnyH P .any ops Q S ops.size (Array.replicate ops.size false) a w.drew) : (Code.region id ops true).wpIn Fence.wide n P Q a w :=
  wpIn_region_any hm (any_wide hnd hlo _ _ _ _ (wpAny_of_held _ _ _ _ (h hS)))
/-- A post that lets nothing but the plain end. -/
def onlyN (Q : Exit → Act → World → Prop) : Exit → Act → World → Prop
  | .normal, a, w => Q .normal a w
  | _, _, _ => False
theorem onlyN_mk {Q : Exit → Act → World → Prop} {a : Act} {w : World} (h : Q .normal a w) : onlyN Q .normal a w := h
theorem region_wideN {n id : Nat} {P : Program} {ops : Array Oper} {Q : Exit → Act → World → Prop} {a : Act} {w : World} (S : World → Prop) (hm : P.follows .mixedOrders = true) (hnd : plainOps ops = true) (hS : S w.drew)
    (h : S w.drew → wpAnyH P .any ops (onlyN Q) S ops.size (Array.replicate ops.size false) a w.drew) : (Code.region id ops true).wpIn Fence.wide n P Q a w := by
  refine wpIn_mono (region_wide S hm hnd (fun ⟨_, _, h⟩ => h) hS h) ?_
  rintro e a3 W3 hp
  cases e <;> first | exact hp | exact hp.elim
/-- The two that were found, and what they have in common. -/
structure NSt where
  a : Nat
  b : Nat
  m : Int
/-- How much two cliques have in common. -/
def comN (C : List (List Nat)) (i j : Nat) : Nat := (memU ((C.getD i []).filter fun x => decide (x ∈ C.getD j [])) 8).length
theorem comN_le (C : List (List Nat)) (i j : Nat) : comN C i j ≤ 8 := memU_len _ _
/-- One clique held against all. -/
def nrJ (C : List (List Nat)) (s : List Nat) (i : Nat) (st : NSt) : Nat → NSt
  | 0 => st
  | j + 1 => if ¬ j ∈ s ∧ (nrJ C s i st j).m < (comN C i j : Int) then ⟨i, j, (comN C i j : Int)⟩ else nrJ C s i st j
/-- All that stand there. -/
def nrI (C : List (List Nat)) (s : List Nat) : Nat → NSt
  | 0 => ⟨0, 0, -1⟩
  | k + 1 => if k ∈ s then nrJ C s k (nrI C s k) C.length else nrI C s k
theorem nrJ_yes {C : List (List Nat)} {s : List Nat} {i j : Nat} {st : NSt} (h1 : ¬ j ∈ s) (h2 : (nrJ C s i st j).m < (comN C i j : Int)) : nrJ C s i st (j + 1) = ⟨i, j, (comN C i j : Int)⟩ := by rw [nrJ, if_pos ⟨h1, h2⟩]
theorem nrJ_in {C : List (List Nat)} {s : List Nat} {i j : Nat} {st : NSt} (h1 : j ∈ s) : nrJ C s i st (j + 1) = nrJ C s i st j := by rw [nrJ, if_neg (fun h => h.1 h1)]
theorem nrJ_no {C : List (List Nat)} {s : List Nat} {i j : Nat} {st : NSt} (h2 : ¬ (nrJ C s i st j).m < (comN C i j : Int)) : nrJ C s i st (j + 1) = nrJ C s i st j := by rw [nrJ, if_neg (fun h => h2 h.2)]
/-- What nearest holds. -/
structure NrX (w : World) (G n c ms : Nat) (st : NSt) (W : World) : Prop where
  b0 : Boxed W w.heap.size 40 (.slice (some ⟨G, 0, none⟩) n c)
  b1 : Boxed W (w.heap.size + 1) 46 (.int .u32 (ms : Nat))
  b2 : Boxed W (w.heap.size + 1 + 1) 3 (.int .i64 (st.a : Nat))
  b3 : Boxed W (w.heap.size + 1 + 1 + 1) 3 (.int .i64 (st.b : Nat))
  b4 : Boxed W (w.heap.size + 1 + 1 + 1 + 1) 3 (.int .i64 st.m)
  low : Below w.heap.size w W
theorem NrX.drew {w : World} {G n c ms : Nat} {st : NSt} {W : World} (h : NrX w G n c ms st W) : NrX w G n c ms st W.drew := ⟨h.b0, h.b1, h.b2, h.b3, h.b4, h.low.drew⟩
theorem NrX.drewN {w : World} {G n c ms : Nat} {st : NSt} {W : World} (h : NrX w G n c ms st W) (k : Nat) : NrX w G n c ms st (W.drewN k) := ⟨h.b0, h.b1, h.b2, h.b3, h.b4, below_drewN h.low k⟩
theorem NrX.put {w : World} {G n c ms : Nat} {st : NSt} {W : World} (h : NrX w G n c ms st W) (x y : Nat) (z : Int) : NrX w G n c ms ⟨x, y, z⟩ (((W.setCell ⟨w.heap.size + 1 + 1, 0, none⟩ (.int .i64 (x : Nat))).setCell ⟨w.heap.size + 1 + 1 + 1, 0, none⟩ (.int .i64 (y : Nat))).setCell ⟨w.heap.size + 1 + 1 + 1 + 1, 0, none⟩ (.int .i64 z)) :=
  ⟨boxed_offB (boxed_offB (boxed_offB h.b0 _ 0 _ (by omega)) _ 0 _ (by omega)) _ 0 _ (by omega), boxed_offB (boxed_offB (boxed_offB h.b1 _ 0 _ (by omega)) _ 0 _ (by omega)) _ 0 _ (by omega), boxed_offB (boxed_offB (h.b2.set _) _ 0 _ (by omega)) _ 0 _ (by omega), boxed_offB ((boxed_offB h.b3 _ 0 _ (by omega)).set _) _ 0 _ (by omega), (boxed_offB (boxed_offB h.b4 _ 0 _ (by omega)) _ 0 _ (by omega)).set _,
    ((h.low.setCell (p := ⟨w.heap.size + 1 + 1, 0, none⟩) (by show w.heap.size ≤ w.heap.size + 1 + 1; omega) _).setCell (p := ⟨w.heap.size + 1 + 1 + 1, 0, none⟩) (by show w.heap.size ≤ w.heap.size + 1 + 1 + 1; omega) _).setCell (p := ⟨w.heap.size + 1 + 1 + 1 + 1, 0, none⟩) (by show w.heap.size ≤ w.heap.size + 1 + 1 + 1 + 1; omega) _⟩
theorem NrX.put2 {w : World} {G n c ms : Nat} {st : NSt} {W : World} (h : NrX w G n c ms st W) (x y : Nat) : NrX w G n c ms ⟨x, y, st.m⟩ ((W.setCell ⟨w.heap.size + 1 + 1, 0, none⟩ (.int .i64 (x : Nat))).setCell ⟨w.heap.size + 1 + 1 + 1, 0, none⟩ (.int .i64 (y : Nat))) :=
  ⟨boxed_offB (boxed_offB h.b0 _ 0 _ (by omega)) _ 0 _ (by omega), boxed_offB (boxed_offB h.b1 _ 0 _ (by omega)) _ 0 _ (by omega), boxed_offB (h.b2.set _) _ 0 _ (by omega), (boxed_offB h.b3 _ 0 _ (by omega)).set _, boxed_offB (boxed_offB h.b4 _ 0 _ (by omega)) _ 0 _ (by omega),
    (h.low.setCell (p := ⟨w.heap.size + 1 + 1, 0, none⟩) (by show w.heap.size ≤ w.heap.size + 1 + 1; omega) _).setCell (p := ⟨w.heap.size + 1 + 1 + 1, 0, none⟩) (by show w.heap.size ≤ w.heap.size + 1 + 1 + 1; omega) _⟩
theorem NrX.own {w : World} {G n c ms B : Nat} (f : Nat → NSt) (hB : w.heap.size ≤ B) : OwnFrom B (fun (k : Nat) W => NrX w G n c ms (f k) W) := fun k W W' row h hg hr => by
  have o0 := (Own.from (boxed_own w.heap.size 40 (fun (_ : Nat) => Value.slice (some ⟨G, 0, none⟩) n c)) B) k W W' row h.b0 hg hr
  have o1 := (Own.from (boxed_own (w.heap.size + 1) 46 (fun (_ : Nat) => Value.int .u32 (ms : Nat))) B) k W W' row h.b1 hg hr
  have o2 := (Own.from (boxed_own (w.heap.size + 1 + 1) 3 (fun (k : Nat) => Value.int .i64 ((f k).a : Nat))) B) k W W' row h.b2 hg hr
  have o3 := (Own.from (boxed_own (w.heap.size + 1 + 1 + 1) 3 (fun (k : Nat) => Value.int .i64 ((f k).b : Nat))) B) k W W' row h.b3 hg hr
  have o4 := (Own.from (boxed_own (w.heap.size + 1 + 1 + 1 + 1) 3 (fun (k : Nat) => Value.int .i64 (f k).m)) B) k W W' row h.b4 hg hr
  exact ⟨o0, o1, o2, o3, o4, h.low.grown hg h.low.size (fun k e => Nat.le_trans hB (hr k e).1)⟩
theorem results_cells2 {w : World} {g1 g2 : Nat} {v1 v2 : Int} (h1 : Boxed w g1 3 (.int .i64 v1)) (h2 : Boxed w g2 3 (.int .i64 v2)) {fn : Func} {p q : Tmp} (hr : fn.results = #[.cell p 3, .cell q 3]) (tmps : Array Value) (hp : tmps.getD p undef = .pointer (some ⟨g1, 0, none⟩)) (hq : tmps.getD q undef = .pointer (some ⟨g2, 0, none⟩)) : (results fn tmps).run Try.prog w = .ok (.tuple #[.int .i64 v1, .int .i64 v2]) w := by
  have hp' : tmps[p]?.getD undef = .pointer (some ⟨g1, 0, none⟩) := by simpa using hp
  have hq' : tmps[q]?.getD undef = .pointer (some ⟨g2, 0, none⟩) := by simpa using hq
  have hc1 := h1.cell
  have hc2 := h2.cell
  simp only [results, hr]
  simp [hp', hq', asAddr]
  go_simp

end Go.Proofs.Ythcfgoknphpkdaa


/- Package graph: link. -/
namespace Go.Proofs.Ythcfgoknphpkdaa
open Go.RowKit Go.Shelf

/-- Blocks whose cells are of one type lie as they lay. -/
def KpT (t : TypeId) (w w' : World) : Prop := ∀ (k : Nat) (c : Array Value) (fr : Nat × Nat), w.heap[k]? = some (Obj.cells c t fr) → w'.heap[k]? = some (Obj.cells c t fr)
theorem KpT.below {t : TypeId} {w w' : World} (hb : Below w.heap.size w w') : KpT t w w' := fun k _ _ h => (hb.block k (Array.getElem?_eq_some_iff.1 h).1).trans h
theorem KpT.grown {t t' : TypeId} {w w' : World} {row : Option Nat} (hg : w.grownBy w' row) (hr : ∀ g, row = some g → ∃ c fr, w.heap[g]? = some (.cells c t' fr)) (hne : t ≠ t') : KpT t w w' := fun k c fr h => by
  refine (hg.block k (Array.getElem?_eq_some_iff.1 h).1 fun e => ?_).trans h
  obtain ⟨c', fr', h'⟩ := hr k e.symm
  rw [h] at h'
  injection h' with h1
  injection h1 with _ h2 _
  exact hne h2
theorem own_kp {w w' : World} {B : Nat} {e : TypeId} {s : Nat} {v : Value} {n : Nat} {xs : List Value} (h : w.ownsRow B e s v n xs) (hk : KpT e w w') : w'.ownsRow B e s v n xs := by
  refine ⟨h.1, ?_⟩
  rcases h.2 with h1 | ⟨g, cap, cur, h1, h2, h3, h4⟩
  · exact .inl h1
  · exact .inr ⟨g, cap, cur, h1, h2, hk _ _ _ h3, h4⟩
theorem own_typed {w : World} {B : Nat} {e : TypeId} {s : Nat} {v : Value} {n : Nat} {xs : List Value} (h : w.ownsRow B e s v n xs) : ∀ g, v.ownBlock = some g → ∃ c fr, w.heap[g]? = some (.cells c e fr) := fun g hg => by
  rcases h.2 with ⟨h1, -⟩ | ⟨g', cap, cur, h1, h2, h3, h4⟩
  · rw [h1] at hg; cases hg
  · rw [h1] at hg; cases hg; exact ⟨_, _, h3⟩
theorem own_from {w : World} {B : Nat} {e : TypeId} {s : Nat} {v : Value} {n : Nat} {xs : List Value} (h : w.ownsRow B e s v n xs) : ∀ g, v.ownBlock = some g → B ≤ g := fun g hg => by
  rcases h.2 with ⟨h1, -⟩ | ⟨g', cap, cur, h1, h2, h3, h4⟩
  · rw [h1] at hg; cases hg
  · rw [h1] at hg; cases hg; exact h2
theorem own_low {w : World} {B B' : Nat} {e : TypeId} {s : Nat} {v : Value} {n : Nat} {xs : List Value} (h : w.ownsRow B e s v n xs) (hb : B' ≤ B) : w.ownsRow B' e s v n xs := by
  refine ⟨h.1, ?_⟩
  rcases h.2 with h1 | ⟨g, cap, cur, h1, h2, h3⟩
  · exact .inl h1
  · exact .inr ⟨g, cap, cur, h1, Nat.le_trans hb h2, h3⟩
/-- A link as it lies there: the two, the list's value, the list. -/
abbrev PK : Type := Nat × Nat × Value × List Int
def kC : List PK → List Value
  | [] => []
  | p :: l => .int .i64 (p.1 : Nat) :: .int .i64 (p.2.1 : Nat) :: p.2.2.1 :: kC l
theorem kC_length : ∀ l, (kC l).length = l.length * 3
  | [] => rfl
  | p :: l => by
    show (kC l).length + 1 + 1 + 1 = (l.length + 1) * 3
    rw [kC_length l]; omega
theorem kC_append (p : PK) : ∀ l, kC (l ++ [p]) = kC l ++ [.int .i64 (p.1 : Nat), .int .i64 (p.2.1 : Nat), p.2.2.1]
  | [] => rfl
  | q :: l => by
    show _ :: _ :: _ :: kC (l ++ [p]) = _ :: _ :: _ :: (kC l ++ _)
    rw [kC_append p l]
/-- What two cliques have in common. -/
def sepN (C : List (List Nat)) (i j : Nat) : List Nat := (C.getD i []).filter fun x => decide (x ∈ C.getD j [])
/-- Those that stand there behind t links. -/
def thR (C : List (List Nat)) : Nat → List Nat
  | 0 => [0]
  | t + 1 => (nrI C (thR C t) 8).b :: thR C t
def lkL (C : List (List Nat)) : Nat → List (Nat × Nat × List Int)
  | 0 => []
  | t + 1 => lkL C t ++ [((nrI C (thR C t) 8).a, (nrI C (thR C t) 8).b, memL (sepN C (nrI C (thR C t) 8).a (nrI C (thR C t) 8).b))]
theorem nrJ_lt {C : List (List Nat)} {s : List Nat} {i : Nat} {st : NSt} (hi : i < C.length) (ha : st.a < C.length) (hb : st.b < C.length) : ∀ j, j ≤ C.length → (nrJ C s i st j).a < C.length ∧ (nrJ C s i st j).b < C.length
  | 0, _ => ⟨ha, hb⟩
  | j + 1, hj => by
    rw [nrJ]
    split
    · exact ⟨hi, by show j < _; omega⟩
    · exact nrJ_lt hi ha hb j (by omega)
theorem nrI_lt {C : List (List Nat)} {s : List Nat} (h : 0 < C.length) (hs : ∀ u ∈ s, u < C.length) : ∀ k, (nrI C s k).a < C.length ∧ (nrI C s k).b < C.length
  | 0 => ⟨h, h⟩
  | k + 1 => by
    rw [nrI]
    split
    · rename_i hk
      exact nrJ_lt (hs k hk) (nrI_lt h hs k).1 (nrI_lt h hs k).2 _ (Nat.le_refl _)
    · exact nrI_lt h hs k
theorem thR_lt {C : List (List Nat)} (h : 0 < C.length) : ∀ t, ∀ u ∈ thR C t, u < C.length
  | 0, u, hu => by
    rcases List.mem_cons.1 hu with rfl | h'
    · exact h
    · cases h'
  | t + 1, u, hu => by
    rcases List.mem_cons.1 hu with rfl | h'
    · exact (nrI_lt h (thR_lt h t) 8).2
    · exact thR_lt h t u h'
def pk3 (p : PK) : Nat × Nat × List Int := (p.1, p.2.1, p.2.2.2)
end Go.Proofs.Ythcfgoknphpkdaa


/- Package graph: Tree. -/
namespace Go.Proofs.Ythcfgoknphpkdaa
open Go.RowKit Go.Shelf

theorem own_at {w : World} {B : Nat} {e : TypeId} {s : Nat} {v : Value} {n : Nat} {xs : List Value} (h : w.ownsRow B e s v n xs) (hn : 0 < n) : ∃ g c, v = .slice (some ⟨g, 0, none⟩) n c ∧ B ≤ g ∧ g < w.heap.size ∧ ∀ j (hj : j < xs.length), w.cell? ⟨g, j, none⟩ = some xs[j] := by
  rcases h.2 with ⟨h1, h2⟩ | ⟨g', cap, cur, h1, h2, h3, h4, h5, h6, h7⟩
  · omega
  · refine ⟨g', cap, h1, h2, (Array.getElem?_eq_some_iff.1 h3).1, fun j hj => ?_⟩
    have hl : j < n * s := by have := h.1; omega
    rw [cell_of_row w g' j _ _ (0, 0) h3]
    have e' : cur[j]? = (cur.toList.take (n * s))[j]? := by
      rw [List.getElem?_take, if_pos hl, Array.getElem?_toList]
    rw [e', h7, List.getElem?_eq_getElem hj]
/-- Links in memory. -/
def LnS (w : World) (a : Option Addr) (l : List (Nat × Nat × List Int)) : Prop := ∀ k (h : k < l.length), ∃ g d cd, a = some ⟨g, 0, none⟩ ∧ g < w.heap.size ∧ w.cell? ⟨g, k * 3, none⟩ = some (.int .i64 (l[k].1 : Nat)) ∧ w.cell? ⟨g, k * 3 + 1, none⟩ = some (.int .i64 (l[k].2.1 : Nat)) ∧ w.cell? ⟨g, k * 3 + 2, none⟩ = some (.slice d l[k].2.2.length cd) ∧ IntS w d l[k].2.2
theorem LnS.below {w w' : World} {a : Option Addr} {l : List (Nat × Nat × List Int)} (h : LnS w a l) (hb : Below w.heap.size w w') : LnS w' a l := fun k hk => by
  obtain ⟨g, d, cd, h1, h2, h3, h4, h5, h6⟩ := h k hk
  exact ⟨g, d, cd, h1, Nat.lt_of_lt_of_le h2 hb.size, (hb.cell (p := ⟨g, k * 3, none⟩) h2).trans h3, (hb.cell (p := ⟨g, k * 3 + 1, none⟩) h2).trans h4, (hb.cell (p := ⟨g, k * 3 + 2, none⟩) h2).trans h5, h6.below hb⟩
theorem kC_get : ∀ (l : List PK) (k : Nat) (h : k < l.length), (kC l)[k * 3]? = some (.int .i64 (l[k].1 : Nat)) ∧ (kC l)[k * 3 + 1]? = some (.int .i64 (l[k].2.1 : Nat)) ∧ (kC l)[k * 3 + 2]? = some l[k].2.2.1
  | p :: l, 0, _ => ⟨rfl, rfl, rfl⟩
  | p :: l, k + 1, h => by
    have ih := kC_get l k (by simpa using h)
    rw [show (k + 1) * 3 = k * 3 + 1 + 1 + 1 by omega]
    exact ih
/-- A set within another is no greater a number. -/
theorem msk_sub {a b : List Nat} (h : ∀ x ∈ a, x ∈ b) : mskN a ≤ mskN b := by
  have e : mskN a &&& mskN b = mskN a := by
    rw [msk_and]
    exact msk_ext fun x => ⟨fun hx => (List.mem_filter.1 hx).1, fun hx => List.mem_filter.2 ⟨hx, decide_eq_true (h x hx)⟩⟩
  rw [← e]
  exact Nat.and_le_right
/-- Some bag stands in no other one. -/
theorem kept_some {B : List (List Nat)} (hn : 0 < B.length) (h8 : ∀ p ∈ B, ∀ u ∈ p, u < 8) : ∃ i, i < B.length ∧ keptB B i = true := by
  refine Classical.byContradiction fun hno => ?_
  have hall : ∀ i, i < B.length → ∃ j, j < B.length ∧ covB B i j = true := fun i hi => by
    refine Classical.byContradiction fun hj => hno ⟨i, hi, kept_yes fun j hjl => ?_⟩
    cases hc : covB B i j
    · rfl
    · exact absurd ⟨j, hjl, hc⟩ hj
  have key : ∀ K : Nat, ∃ i, i < B.length ∧ K ≤ mskN (B.getD i []) * (B.length + 1) + (B.length - i) := fun K => by
    induction K with
    | zero => exact ⟨0, hn, Nat.zero_le _⟩
    | succ K ih =>
      obtain ⟨i, hi, hK⟩ := ih
      obtain ⟨j, hj, hc⟩ := hall i hi
      obtain ⟨_, hs, hd⟩ := of_decide_eq_true hc
      have hle := msk_sub hs
      refine ⟨j, hj, ?_⟩
      rcases Nat.lt_or_eq_of_le hle with hlt | heq
      · have := Nat.mul_le_mul_right (B.length + 1) (show mskN (B.getD i []) + 1 ≤ mskN (B.getD j []) from hlt)
        rw [Nat.add_mul, Nat.one_mul] at this
        omega
      · have hji : j < i := by
          rcases hd with h | h
          · exact absurd heq.symm h
          · exact h
        rw [← heq]
        omega
  obtain ⟨i, hi, hK⟩ := key (256 * (B.length + 1) + B.length + 1)
  have hm : mskN (B.getD i []) < 256 := msk_lt (by
    rw [List.getD_eq_getElem?_getD, List.getElem?_eq_getElem hi]
    exact h8 _ (List.getElem_mem hi))
  have := Nat.mul_le_mul_right (B.length + 1) (Nat.le_of_lt hm)
  omega
theorem ous_pos {B : List (List Nat)} (hn : 0 < B.length) (h8 : ∀ p ∈ B, ∀ u ∈ p, u < 8) : 0 < (ousL B B.length).length := by
  obtain ⟨i, hi, hk⟩ := kept_some hn h8
  rw [ousL, List.length_map]
  exact List.length_pos_of_mem (List.mem_filter.2 ⟨List.mem_range.2 hi, hk⟩)
theorem ous_small {B : List (List Nat)} (h8 : ∀ p ∈ B, ∀ u ∈ p, u < 8) (k : Nat) : ∀ p ∈ ousL B k, ∀ u ∈ p, u < 8 := fun p hp u hu => by
  obtain ⟨i, _, rfl⟩ := List.mem_map.1 hp
  exact getD_small h8 i u hu
theorem bags_parts {L : List (List Int)} (h : bagsB L = true) : 1 ≤ L.length ∧ L.length ≤ 8 ∧ ∀ p ∈ parN L, ∀ u ∈ p, u < 8 := by
  rw [bagsB, Bool.and_eq_true, Bool.and_eq_true, decide_eq_true_iff] at h
  refine ⟨h.1.1, h.1.2, fun p hp => ?_⟩
  obtain ⟨l, hl, rfl⟩ := List.mem_map.1 hp
  exact ris_all (n := 8) (Nat.le_refl _) (List.all_eq_true.1 h.2.1 l hl)
/-- What Tree answers. -/
def TrR (L : List (List Int)) (e : Ending) (w' : World) : Prop :=
  (bagsB L = true ∧ ∃ G d cd, e = .returned (.tuple #[.slice (some ⟨G, 0, none⟩) (ousL (parN L) L.length).length (ousL (parN L) L.length).length, .slice d ((ousL (parN L) L.length).length - 1) cd, .int .i64 0]) ∧ LsS w' (some ⟨G, 0, none⟩) ((ousL (parN L) L.length).map memL) ∧ LnS w' d (lkL (ousL (parN L) L.length) ((ousL (parN L) L.length).length - 1))) ∨
  (bagsB L = false ∧ e = .returned (.tuple #[.slice none 0 0, .slice none 0 0, .int .i64 11]))

end Go.Proofs.Ythcfgoknphpkdaa


/- Memory of the document's answers Fill and Tree: rows that grow beside others, lists of lists, a matrix of bools. -/
namespace Go.Proofs.Ythcfgoknphpkdaa
open Go.RowKit Go.Shelf

theorem KpT.set {t t' : TypeId} {w : World} {b : Nat} {c' : Array Value} {fr' : Nat × Nat} (hb : w.heap[b]? = some (.cells c' t' fr')) (hne : t ≠ t') (j : Nat) (y : Value) : KpT t w (w.setCell ⟨b, j, none⟩ y) := fun k c fr h => by
  refine (Below.heap_setCell w ⟨b, j, none⟩ y k fun e => ?_).trans h
  have e' : k = b := e
  subst e'
  rw [h] at hb
  cases hb
  exact hne rfl
theorem KpT.trans {t : TypeId} {a b c : World} (h : KpT t a b) (k : KpT t b c) : KpT t a c := fun i cs fr hi => k i cs fr (h i cs fr hi)
theorem KpT.refl {t : TypeId} (a : World) : KpT t a a := fun _ _ _ h => h
/-- An append leaves a row where it was, or makes a new block. -/
theorem wpList_append_int1 {w : World} {ops : Array Oper} {rest : List Oper} {o : Oper} {a : Act} {Q : Exit → Act → World → Prop} (hgd : o.guard = none) (s x : Operand)
    (ho : o.op = .call { callee := .builtin .append, args := #[s, x], argTypes := #[23, 23] }) (base : Nat) (v : Value) (l : List Int) (f : Int) (hs : a.eval s = v) (hown : RwI w base v l) (g : Nat) (hx : a.eval x = .slice (some ⟨g, 0, none⟩) 1 1) (hg : w.cell? ⟨g, 0, none⟩ = some (.int .i64 f)) (hlen : l.length + 1 ≤ 100000) (hbase : base ≤ w.heap.size)
    (h : ∀ v' w', RwI w' base v' (l ++ [f]) → w.grownBy w' v.ownBlock → (v'.ownBlock = v.ownBlock ∨ ∀ k, v'.ownBlock = some k → w.heap.size ≤ k) → wpList Try.prog ops Q rest (a.put o.dst v') w') : wpList Try.prog ops Q (o :: rest) a w := by
  obtain ⟨i0, hi0, hz0, hz1, hz2⟩ := info_parts Try.infoInt
  have hnews : ∀ j u, [Value.int .i64 f][j]? = some u → w.cell? ((⟨g, 0, none⟩ : Addr).add j) = some u := fun j u hj => by
    match j, hj with
    | 0, hj => cases hj; exact hg
    | j + 1, hj => simp at hj
  have hone : ∀ u ∈ [Value.int .i64 f], u.oneCell' = true := fun u hu => by
    simp only [List.mem_cons, List.not_mem_nil, or_false] at hu
    subst hu; rfl
  have hmax : l.length + 1 ≤ maxLen := by unfold maxLen; omega
  obtain ⟨v', w', hr, h2, h3, -⟩ := run_append_own (P := Try.prog) w base 23 o.type 3 i0 (.int .i64 0) 1 8 Try.underlying23 hi0 hz0 hz1 hz2 rfl (by decide) v l.length _ hown ⟨g, 0, none⟩ 1 1 [.int .i64 f] rfl hnews hone hmax (by omega) hbase
  have hnew : v'.ownBlock = v.ownBlock ∨ ∀ k, v'.ownBlock = some k → w.heap.size ≤ k := by
    rcases hown.2 with ⟨h4, h5⟩ | ⟨g', cap, cur, h4, hbg, hg', hnc, hcm, hcs, htake⟩
    · right
      have e := run_append_nil (P := Try.prog) w 23 o.type 3 i0 (.int .i64 0) Try.underlying23 hi0 hz0 ⟨g, 0, none⟩ 1 1 [.int .i64 f] (by rw [hz1]; rfl) hnews (by decide) (by decide) (by rw [hz2]; decide)
      rw [h4] at hr
      rw [hr] at e
      cases e
      intro k hk
      cases hk
      exact Nat.le_refl _
    · rw [h4] at hr
      by_cases hroom : l.length + 1 ≤ cap
      · left
        have e := run_append_room (P := Try.prog) w 23 o.type 3 i0 Try.underlying23 hi0 g' l.length cap cur hg' ⟨g, 0, none⟩ 1 1 [.int .i64 f] (by rw [hz1]; rfl) hnews hone hroom (by rw [hz1, hcs]; simp; omega)
        rw [hr] at e
        cases e
        rw [h4]; rfl
      · right
        have hown' := hown
        rw [h4] at hown'
        have e := run_append_grow (P := Try.prog) w 23 o.type 3 i0 (.int .i64 0) Try.underlying23 hi0 hz0 ⟨g', 0, none⟩ l.length cap (l.map (Value.int .i64)) (by rw [hz1]; simp) (World.ownsRow.cells hown' rfl) ⟨g, 0, none⟩ 1 1 [.int .i64 f] (by rw [hz1]; rfl) hnews (by omega) (by omega) (growslice_fits (by omega) (by rw [hz2]; omega))
        rw [hr] at e
        cases e
        intro k hk
        cases hk
        exact Nat.le_refl _
  refine wpList_plain hgd fun _ hK => ?_
  unfold Oper.wp execOp
  simp only [ho, resolve, invoke, builtin, Sem.run_bind, Sem.run_pure, Result.andThen_ok, List.map_toArray, List.map_cons, List.map_nil, hs, hx, hr]
  refine hK _ _ (h v' w' ?_ h3 hnew)
  rw [RwI, List.length_append, List.map_append]
  exact h2
/-- A list and what its value lists. -/
abbrev PI2 : Type := Value × List Int
/-- Lists in a row, each with its own. -/
def OwI (w : World) (B : Nat) (y : Value) (P : List PI2) : Prop := w.ownsRow B 23 1 y P.length (P.map (·.1)) ∧ ∀ p ∈ P, RwI w B p.1 p.2
theorem OwI.nil (w : World) (B : Nat) : OwI w B (.slice none 0 0) [] := ⟨⟨rfl, .inl ⟨rfl, rfl⟩⟩, fun p hp => by cases hp⟩
theorem wpList_append_list {w : World} {ops : Array Oper} {rest : List Oper} {o : Oper} {a : Act} {Q : Exit → Act → World → Prop} (hgd : o.guard = none) (s x : Operand)
    (ho : o.op = .call { callee := .builtin .append, args := #[s, x], argTypes := #[22, 22] }) (base : Nat) (v : Value) (P : List PI2) (d : Option Addr) (nd cd : Nat) (hs : a.eval s = v) (hown : w.ownsRow base 23 1 v P.length (P.map (·.1))) (g : Nat) (hx : a.eval x = .slice (some ⟨g, 0, none⟩) 1 1) (hg : w.cell? ⟨g, 0, none⟩ = some (.slice d nd cd)) (hlen : P.length + 1 ≤ 100000) (hbase : base ≤ w.heap.size)
    (h : ∀ v' w', w'.ownsRow base 23 1 v' (P.length + 1) (P.map (·.1) ++ [.slice d nd cd]) → w.grownBy w' v.ownBlock → wpList Try.prog ops Q rest (a.put o.dst v') w') : wpList Try.prog ops Q (o :: rest) a w := by
  obtain ⟨i0, hi0, hz0, hz1, hz2⟩ := info_parts Try.infoInts1
  refine wpList_append_own _ hgd s x 22 ho base 23 i0 (.slice none 0 0) 1 24 Try.underlying22 hi0 hz0 hz1 hz2 rfl (by decide) v P.length _ hs hown ⟨g, 0, none⟩ 1 1 [.slice d nd cd] hx rfl ?_ ?_ (by unfold maxLen; omega) (by omega) hbase ?_
  · intro j u hj
    match j, hj with
    | 0, hj => cases hj; exact hg
    | j + 1, hj => simp at hj
  · intro u hu
    simp only [List.mem_cons, List.not_mem_nil, or_false] at hu
    subst hu
    rfl
  · intro v' w' h1 h2 _
    exact h v' w' h1 h2
/-- Rows that lie elsewhere. -/
def ApT (v : Value) (P : List PI2) : Prop := ∀ p ∈ P, ∀ g, p.1.ownBlock = some g → v.ownBlock ≠ some g
/-- Where a row of ints grows, the lists that lie elsewhere stay. -/
theorem OwI.grown {w w' : World} {B : Nat} {y v : Value} {P : List PI2} (h : OwI w B y P) (ha : ApT v P) {l : List Int} {b : Nat} (hv : RwI w b v l) (hg : w.grownBy w' v.ownBlock) : OwI w' B y P := by
  refine ⟨own_kp h.1 (KpT.grown hg (own_typed hv) (by decide)), fun p hp => (h.2 p hp).kept hg ?_⟩
  cases e : p.1.ownBlock with
  | none => exact .inl rfl
  | some g => exact .inr fun e' => ha p hp g e (by rw [← e'])
theorem ApT.grown {w : World} {B : Nat} {y v v' : Value} {P : List PI2} (h : OwI w B y P) (ha : ApT v P) (hn : v'.ownBlock = v.ownBlock ∨ ∀ k, v'.ownBlock = some k → w.heap.size ≤ k) : ApT v' P := fun p hp g hg e => by
  rcases hn with hn | hn
  · exact ha p hp g hg (by rw [← hn]; exact e)
  · have := hn g e
    have := ((h.2 p hp).lt g hg).2
    omega
/-- A row of bools. -/
def RowB (w : World) (g : Nat) (l : List Bool) : Prop := w.heap[g]? = some (.cells (l.map Value.bool).toArray 4 (0, 0))
theorem RowB.cell {w : World} {g : Nat} {l : List Bool} (h : RowB w g l) (j : Nat) (hj : j < l.length) : w.cell? ⟨g, j, none⟩ = some (.bool l[j]) := by
  rw [cell_of_row w g j _ _ (0, 0) h]
  simp [hj]
theorem RowB.fz {w : World} {g : Nat} {l : List Bool} (h : RowB w g l) (j : Nat) : w.frozen? ⟨g, j, none⟩ = false := frozen_of_row w g j _ _ h
theorem RowB.set {w : World} {g : Nat} {l : List Bool} (h : RowB w g l) (j : Nat) (y : Bool) : RowB (w.setCell ⟨g, j, none⟩ (.bool y)) g (l.set j y) := by
  have h2 := heap_setCell_same w g j _ _ (.bool y) h
  rw [RowB, h2]
  simp [List.map_set]
theorem made_bools (n : Nat) : (madeCells (Value.bool false).cells (n * 1)).toList = List.replicate n (Value.bool false) := by
  rw [show (Value.bool false).cells = #[Value.bool false] from rfl, toList_madeCells_one, Nat.mul_one]
theorem Try.infoBool1 : (Try.prog.info? 4).map (fun i => (i.zero, i.size, i.bytes)) = some (some (.bool false), 1, 1) := by kernel_rfl
/-- What the block of all rows holds, where c rows are made. -/
def topV (n c : Nat) (R : Nat → Nat) : List Value := (List.range n).map fun v => if v < c then .slice (some ⟨R v, 0, none⟩) n n else .slice none 0 0
theorem topV_length (n c : Nat) (R : Nat → Nat) : (topV n c R).length = n := by simp [topV]
theorem topV_at {n c : Nat} {R : Nat → Nat} {v : Nat} (hv : v < n) (hc : v < c) : (topV n c R)[v]'(by rw [topV_length]; exact hv) = .slice (some ⟨R v, 0, none⟩) n n := by simp [topV, hc]
/-- The matrix under way: all rows ahead of v, of v what stands ahead of u. -/
def e0B (P : List (List Nat)) (v u v' u' : Nat) : Bool := (decide (v' < v) || (decide (v' = v) && decide (u' < u))) && decide (u' ∈ P.getD v' [])
theorem e0B_put (P : List (List Nat)) (v u v' u' : Nat) : e0B P v (u + 1) v' u' = if v' = v ∧ u' = u then decide (u ∈ P.getD v []) else e0B P v u v' u' := by
  by_cases h : v' = v ∧ u' = u
  · rw [if_pos h, h.1, h.2]; simp [e0B]
  · rw [if_neg h, e0B, e0B]
    congr 2
    by_cases h1 : v' = v
    · have h2 : u' ≠ u := fun e => h ⟨h1, e⟩
      rw [decide_eq_true h1, Bool.true_and, Bool.true_and]
      exact decide_eq_decide.2 ⟨fun _ => by omega, fun _ => by omega⟩
    · rw [decide_eq_false h1, Bool.false_and, Bool.false_and]
theorem e0B_next {P : List (List Nat)} {n v v' u' : Nat} (h1 : v' < v + 1) (h2 : u' < n) : e0B P v n v' u' = e0B P (v + 1) 0 v' u' := by
  rw [e0B, e0B]
  congr 1
  rw [decide_eq_true h1, Bool.true_or, Bool.or_eq_true, decide_eq_true_iff, Bool.and_eq_true, decide_eq_true_iff, decide_eq_true_iff]
  omega
theorem e0B_new (P : List (List Nat)) {v v' : Nat} (_h : v' < v + 1) (u' : Nat) : (if v' = v then false else e0B P v 0 v' u') = e0B P v 0 v' u' := by
  by_cases e : v' = v
  · rw [if_pos e, e]; simp [e0B]
  · rw [if_neg e]
end Go.Proofs.Ythcfgoknphpkdaa

