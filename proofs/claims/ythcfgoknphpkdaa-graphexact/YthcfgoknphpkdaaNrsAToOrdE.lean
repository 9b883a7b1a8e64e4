/- Package graph: nearest. -/
import Derived.Test.YthcfgoknphpkdaaChiAToTreF
namespace Go.Proofs.Ythcfgoknphpkdaa
open Go.RowKit Go.Shelf

attribute [local go_sem] Oper.semAt_some

theorem op_wide {n : Nat} {P : Program} {ops : Array Oper} {Q : Exit → Act → World → Prop} (hnd : plainOps ops = true) (hlo : ¬ LetsOut Q) {i : Nat} {K K' : Act → World → Prop} {a : Act} {w : World} (hK : ∀ a w, K a w → K' a w)
    (h : wpOp P ops Q i K a w) : wpOpIn Fence.wide n P ops Q i K' a w := by
  unfold wpOp at h
  unfold wpOpIn
  cases ho : ops[i]? with
  | none => rw [ho] at h; exact hK _ _ h
  | some o =>
    rw [ho] at h
    simp only at h ⊢
    by_cases hw : Region.wanted o (yielded ops a.tmps) = true
    · rw [if_pos hw] at h ⊢
      rcases h with h | h
      · refine ⟨fun _ _ => trivial, ?_⟩
        rw [Oper.semAt_eq _ _ _ (plainOps_at hnd ho)]
        unfold Oper.wp at h
        generalize (execOp a.eval o).run P w = r at *
        cases r with
        | ok nx w' =>
          cases nx with
          | value v => exact hK _ _ h
          | skip => exact hK _ _ h
          | defer d => exact hK _ _ h
          | enter f args =>
            refine ⟨fun hd => absurd hd (show ¬ Fence.wide.depth.isSome = true by decide), (callsIn_wide (n := n - 1)).2 (Calls.mono h ?_)⟩
            intro e w'' he
            cases e with
            | returned v => exact hK _ _ he
            | panicked c => exact he
            | outgrown => exact he
          | row r args => exact ⟨fun hd => absurd hd (show ¬ Fence.wide.depth.isSome = true by decide), fun c cs _ => let ⟨v, w2, r, s⟩ := h c cs; ⟨v, w2, hK _ _ r, stepsIn_wide.2 s⟩⟩
          | _ => exact h.elim
        | halt hl w' =>
          cases hl with
          | panic v => exact h
          | _ => exact h.elim
      · exact absurd h.2 hlo
    · rw [if_neg hw] at h ⊢
      exact ⟨fun _ _ => trivial, hK _ _ h⟩
theorem any_wide {n : Nat} {P : Program} {md : Region.Mode} {ops : Array Oper} {Q : Exit → Act → World → Prop} (hnd : plainOps ops = true) (hlo : ¬ LetsOut Q) : ∀ (fuel : Nat) (listed : Array Bool) (a : Act) (w : World), wpAny P md ops Q fuel listed a w → wpAnyIn Fence.wide n P md ops Q fuel listed a w
  | 0, _, _, _, h => h
  | fuel + 1, _, _, _, h => ⟨h.1, fun i hi => op_wide hnd hlo (fun a w => any_wide hnd hlo fuel _ a w) (h.2 i hi)⟩
theorem region_wide {n id : Nat} {P : Program} {ops : Array Oper} {Q : Exit → Act → World → Prop} {a : Act} {w : World} (S : World → Prop) (hm : P.follows .mixedOrders = true) (hnd : plainOps ops = true) (hlo : ¬ LetsOut Q) (hS : S w.drew)
    (h : S w.drew → wpAnyH P .any ops Q S ops.size (Array.replicate ops.size false) a w.drew) : (Code.region id ops true).wpIn Fence.wide n P Q a w :=
  wpIn_region_any hm (any_wide hnd hlo _ _ _ _ (wpAny_of_held _ _ _ _ (h hS)))
/-- A post that lets nothing but the plain end. -/
def onlyN (Q : Exit → Act → World → Prop) : Exit → Act → World → Prop
  | .normal, a, w => Q .normal a w
  | _, _, _ => False
theorem onlyN_mk {Q : Exit → Act → World → Prop} {a : Act} {w : World} (h : Q .normal a w) : onlyN Q .normal a w := h
theorem region_wideN {n id : Nat} {P : Program} {ops : Array Oper} {Q : Exit → Act → World → Prop} {a : Act} {w : World} (S : World → Prop) (hm : P.follows .mixedOrders = true) (hnd : plainOps ops = true) (hS : S w.drew)
    (h : S w.drew → wpAnyH P .any ops (onlyN Q) S ops.size (Array.replicate ops.size false) a w.drew) : (Code.region id ops true).wpIn Fence.wide n P Q a w := by
  refine wpIn_mono (region_wide S hm hnd (fun ⟨_, _, h⟩ => h) hS h) ?_
  rintro e a3 W3 hp
  cases e <;> first | exact hp | exact hp.elim
/-- The two that were found, and what they have in common. -/
structure NSt where
  a : Nat
  b : Nat
  m : Int
/-- How much two cliques have in common. -/
def comN (C : List (List Nat)) (i j : Nat) : Nat := (memU ((C.getD i []).filter fun x => decide (x ∈ C.getD j [])) 8).length
theorem comN_le (C : List (List Nat)) (i j : Nat) : comN C i j ≤ 8 := memU_len _ _
/-- One clique held against all. -/
def nrJ (C : List (List Nat)) (s : List Nat) (i : Nat) (st : NSt) : Nat → NSt
  | 0 => st
  | j + 1 => if ¬ j ∈ s ∧ (nrJ C s i st j).m < (comN C i j : Int) then ⟨i, j, (comN C i j : Int)⟩ else nrJ C s i st j
/-- All that stand there. -/
def nrI (C : List (List Nat)) (s : List Nat) : Nat → NSt
  | 0 => ⟨0, 0, -1⟩
  | k + 1 => if k ∈ s then nrJ C s k (nrI C s k) C.length else nrI C s k
theorem nrJ_yes {C : List (List Nat)} {s : List Nat} {i j : Nat} {st : NSt} (h1 : ¬ j ∈ s) (h2 : (nrJ C s i st j).m < (comN C i j : Int)) : nrJ C s i st (j + 1) = ⟨i, j, (comN C i j : Int)⟩ := by rw [nrJ, if_pos ⟨h1, h2⟩]
theorem nrJ_in {C : List (List Nat)} {s : List Nat} {i j : Nat} {st : NSt} (h1 : j ∈ s) : nrJ C s i st (j + 1) = nrJ C s i st j := by rw [nrJ, if_neg (fun h => h.1 h1)]
theorem nrJ_no {C : List (List Nat)} {s : List Nat} {i j : Nat} {st : NSt} (h2 : ¬ (nrJ C s i st j).m < (comN C i j : Int)) : nrJ C s i st (j + 1) = nrJ C s i st j := by rw [nrJ, if_neg (fun h => h2 h.2)]
/-- What nearest holds. -/
structure NrX (w : World) (G n c ms : Nat) (st : NSt) (W : World) : Prop where
  b0 : Boxed W w.heap.size 40 (.slice (some ⟨G, 0, none⟩) n c)
  b1 : Boxed W (w.heap.size + 1) 46 (.int .u32 (ms : Nat))
  b2 : Boxed W (w.heap.size + 1 + 1) 3 (.int .i64 (st.a : Nat))
  b3 : Boxed W (w.heap.size + 1 + 1 + 1) 3 (.int .i64 (st.b : Nat))
  b4 : Boxed W (w.heap.size + 1 + 1 + 1 + 1) 3 (.int .i64 st.m)
  low : Below w.heap.size w W
theorem NrX.drew {w : World} {G n c ms : Nat} {st : NSt} {W : World} (h : NrX w G n c ms st W) : NrX w G n c ms st W.drew := ⟨h.b0, h.b1, h.b2, h.b3, h.b4, h.low.drew⟩
theorem NrX.drewN {w : World} {G n c ms : Nat} {st : NSt} {W : World} (h : NrX w G n c ms st W) (k : Nat) : NrX w G n c ms st (W.drewN k) := ⟨h.b0, h.b1, h.b2, h.b3, h.b4, below_drewN h.low k⟩
theorem NrX.put {w : World} {G n c ms : Nat} {st : NSt} {W : World} (h : NrX w G n c ms st W) (x y : Nat) (z : Int) : NrX w G n c ms ⟨x, y, z⟩ (((W.setCell ⟨w.heap.size + 1 + 1, 0, none⟩ (.int .i64 (x : Nat))).setCell ⟨w.heap.size + 1 + 1 + 1, 0, none⟩ (.int .i64 (y : Nat))).setCell ⟨w.heap.size + 1 + 1 + 1 + 1, 0, none⟩ (.int .i64 z)) :=
  ⟨boxed_offB (boxed_offB (boxed_offB h.b0 _ 0 _ (by omega)) _ 0 _ (by omega)) _ 0 _ (by omega), boxed_offB (boxed_offB (boxed_offB h.b1 _ 0 _ (by omega)) _ 0 _ (by omega)) _ 0 _ (by omega), boxed_offB (boxed_offB (h.b2.set _) _ 0 _ (by omega)) _ 0 _ (by omega), boxed_offB ((boxed_offB h.b3 _ 0 _ (by omega)).set _) _ 0 _ (by omega), (boxed_offB (boxed_offB h.b4 _ 0 _ (by omega)) _ 0 _ (by omega)).set _,
    ((h.low.setCell (p := ⟨w.heap.size + 1 + 1, 0, none⟩) (by show w.heap.size ≤ w.heap.size + 1 + 1; omega) _).setCell (p := ⟨w.heap.size + 1 + 1 + 1, 0, none⟩) (by show w.heap.size ≤ w.heap.size + 1 + 1 + 1; omega) _).setCell (p := ⟨w.heap.size + 1 + 1 + 1 + 1, 0, none⟩) (by show w.heap.size ≤ w.heap.size + 1 + 1 + 1 + 1; omega) _⟩
theorem NrX.put2 {w : World} {G n c ms : Nat} {st : NSt} {W : World} (h : NrX w G n c ms st W) (x y : Nat) : NrX w G n c ms ⟨x, y, st.m⟩ ((W.setCell ⟨w.heap.size + 1 + 1, 0, none⟩ (.int .i64 (x : Nat))).setCell ⟨w.heap.size + 1 + 1 + 1, 0, none⟩ (.int .i64 (y : Nat))) :=
  ⟨boxed_offB (boxed_offB h.b0 _ 0 _ (by omega)) _ 0 _ (by omega), boxed_offB (boxed_offB h.b1 _ 0 _ (by omega)) _ 0 _ (by omega), boxed_offB (h.b2.set _) _ 0 _ (by omega), (boxed_offB h.b3 _ 0 _ (by omega)).set _, boxed_offB (boxed_offB h.b4 _ 0 _ (by omega)) _ 0 _ (by omega),
    (h.low.setCell (p := ⟨w.heap.size + 1 + 1, 0, none⟩) (by show w.heap.size ≤ w.heap.size + 1 + 1; omega) _).setCell (p := ⟨w.heap.size + 1 + 1 + 1, 0, none⟩) (by show w.heap.size ≤ w.heap.size + 1 + 1 + 1; omega) _⟩
theorem NrX.own {w : World} {G n c ms B : Nat} (f : Nat → NSt) (hB : w.heap.size ≤ B) : OwnFrom B (fun (k : Nat) W => NrX w G n c ms (f k) W) := fun k W W' row h hg hr => by
  have o0 := (Own.from (boxed_own w.heap.size 40 (fun (_ : Nat) => Value.slice (some ⟨G, 0, none⟩) n c)) B) k W W' row h.b0 hg hr
  have o1 := (Own.from (boxed_own (w.heap.size + 1) 46 (fun (_ : Nat) => Value.int .u32 (ms : Nat))) B) k W W' row h.b1 hg hr
  have o2 := (Own.from (boxed_own (w.heap.size + 1 + 1) 3 (fun (k : Nat) => Value.int .i64 ((f k).a : Nat))) B) k W W' row h.b2 hg hr
  have o3 := (Own.from (boxed_own (w.heap.size + 1 + 1 + 1) 3 (fun (k : Nat) => Value.int .i64 ((f k).b : Nat))) B) k W W' row h.b3 hg hr
  have o4 := (Own.from (boxed_own (w.heap.size + 1 + 1 + 1 + 1) 3 (fun (k : Nat) => Value.int .i64 (f k).m)) B) k W W' row h.b4 hg hr
  exact ⟨o0, o1, o2, o3, o4, h.low.grown hg h.low.size (fun k e => Nat.le_trans hB (hr k e).1)⟩
theorem results_cells2 {w : World} {g1 g2 : Nat} {v1 v2 : Int} (h1 : Boxed w g1 3 (.int .i64 v1)) (h2 : Boxed w g2 3 (.int .i64 v2)) {fn : Func} {p q : Tmp} (hr : fn.results = #[.cell p 3, .cell q 3]) (tmps : Array Value) (hp : tmps.getD p undef = .pointer (some ⟨g1, 0, none⟩)) (hq : tmps.getD q undef = .pointer (some ⟨g2, 0, none⟩)) : (results fn tmps).run Try.prog w = .ok (.tuple #[.int .i64 v1, .int .i64 v2]) w := by
  have hp' : tmps[p]?.getD undef = .pointer (some ⟨g1, 0, none⟩) := by simpa using hp
  have hq' : tmps[q]?.getD undef = .pointer (some ⟨g2, 0, none⟩) := by simpa using hq
  have hc1 := h1.cell
  have hc2 := h2.cell
  simp only [results, hr]
  simp [hp', hq', asAddr]
  go_simp

end Go.Proofs.Ythcfgoknphpkdaa


/- Package graph: link. -/
namespace Go.Proofs.Ythcfgoknphpkdaa
open Go.RowKit Go.Shelf

/-- Blocks whose cells are of one type lie as they lay. -/
def KpT (t : TypeId) (w w' : World) : Prop := ∀ (k : Nat) (c : Array Value) (fr : Nat × Nat), w.heap[k]? = some (Obj.cells c t fr) → w'.heap[k]? = some (Obj.cells c t fr)
theorem KpT.below {t : TypeId} {w w' : World} (hb : Below w.heap.size w w') : KpT t w w' := fun k _ _ h => (hb.block k (Array.getElem?_eq_some_iff.1 h).1).trans h
theorem KpT.grown {t t' : TypeId} {w w' : World} {row : Option Nat} (hg : w.grownBy w' row) (hr : ∀ g, row = some g → ∃ c fr, w.heap[g]? = some (.cells c t' fr)) (hne : t ≠ t') : KpT t w w' := fun k c fr h => by
  refine (hg.block k (Array.getElem?_eq_some_iff.1 h).1 fun e => ?_).trans h
  obtain ⟨c', fr', h'⟩ := hr k e.symm
  rw [h] at h'
  injection h' with h1
  injection h1 with _ h2 _
  exact hne h2
theorem own_kp {w w' : World} {B : Nat} {e : TypeId} {s : Nat} {v : Value} {n : Nat} {xs : List Value} (h : w.ownsRow B e s v n xs) (hk : KpT e w w') : w'.ownsRow B e s v n xs := by
  refine ⟨h.1, ?_⟩
  rcases h.2 with h1 | ⟨g, cap, cur, h1, h2, h3, h4⟩
  · exact .inl h1
  · exact .inr ⟨g, cap, cur, h1, h2, hk _ _ _ h3, h4⟩
theorem own_typed {w : World} {B : Nat} {e : TypeId} {s : Nat} {v : Value} {n : Nat} {xs : List Value} (h : w.ownsRow B e s v n xs) : ∀ g, v.ownBlock = some g → ∃ c fr, w.heap[g]? = some (.cells c e fr) := fun g hg => by
  rcases h.2 with ⟨h1, -⟩ | ⟨g', cap, cur, h1, h2, h3, h4⟩
  · rw [h1] at hg; cases hg
  · rw [h1] at hg; cases hg; exact ⟨_, _, h3⟩
theorem own_from {w : World} {B : Nat} {e : TypeId} {s : Nat} {v : Value} {n : Nat} {xs : List Value} (h : w.ownsRow B e s v n xs) : ∀ g, v.ownBlock = some g → B ≤ g := fun g hg => by
  rcases h.2 with ⟨h1, -⟩ | ⟨g', cap, cur, h1, h2, h3, h4⟩
  · rw [h1] at hg; cases hg
  · rw [h1] at hg; cases hg; exact h2
theorem own_low {w : World} {B B' : Nat} {e : TypeId} {s : Nat} {v : Value} {n : Nat} {xs : List Value} (h : w.ownsRow B e s v n xs) (hb : B' ≤ B) : w.ownsRow B' e s v n xs := by
  refine ⟨h.1, ?_⟩
  rcases h.2 with h1 | ⟨g, cap, cur, h1, h2, h3⟩
  · exact .inl h1
  · exact .inr ⟨g, cap, cur, h1, Nat.le_trans hb h2, h3⟩
/-- A link as it lies there: the two, the list's value, the list. -/
abbrev PK : Type := Nat × Nat × Value × List Int
def kC : List PK → List Value
  | [] => []
  | p :: l => .int .i64 (p.1 : Nat) :: .int .i64 (p.2.1 : Nat) :: p.2.2.1 :: kC l
theorem kC_length : ∀ l, (kC l).length = l.length * 3
  | [] => rfl
  | p :: l => by
    show (kC l).length + 1 + 1 + 1 = (l.length + 1) * 3
    rw [kC_length l]; omega
theorem kC_append (p : PK) : ∀ l, kC (l ++ [p]) = kC l ++ [.int .i64 (p.1 : Nat), .int .i64 (p.2.1 : Nat), p.2.2.1]
  | [] => rfl
  | q :: l => by
    show _ :: _ :: _ :: kC (l ++ [p]) = _ :: _ :: _ :: (kC l ++ _)
    rw [kC_append p l]
/-- What two cliques have in common. -/
def sepN (C : List (List Nat)) (i j : Nat) : List Nat := (C.getD i []).filter fun x => decide (x ∈ C.getD j [])
/-- Those that stand there behind t links. -/
def thR (C : List (List Nat)) : Nat → List Nat
  | 0 => [0]
  | t + 1 => (nrI C (thR C t) 8).b :: thR C t
def lkL (C : List (List Nat)) : Nat → List (Nat × Nat × List Int)
  | 0 => []
  | t + 1 => lkL C t ++ [((nrI C (thR C t) 8).a, (nrI C (thR C t) 8).b, memL (sepN C (nrI C (thR C t) 8).a (nrI C (thR C t) 8).b))]
theorem nrJ_lt {C : List (List Nat)} {s : List Nat} {i : Nat} {st : NSt} (hi : i < C.length) (ha : st.a < C.length) (hb : st.b < C.length) : ∀ j, j ≤ C.length → (nrJ C s i st j).a < C.length ∧ (nrJ C s i st j).b < C.length
  | 0, _ => ⟨ha, hb⟩
  | j + 1, hj => by
    rw [nrJ]
    split
    · exact ⟨hi, by show j < _; omega⟩
    · exact nrJ_lt hi ha hb j (by omega)
theorem nrI_lt {C : List (List Nat)} {s : List Nat} (h : 0 < C.length) (hs : ∀ u ∈ s, u < C.length) : ∀ k, (nrI C s k).a < C.length ∧ (nrI C s k).b < C.length
  | 0 => ⟨h, h⟩
  | k + 1 => by
    rw [nrI]
    split
    · rename_i hk
      exact nrJ_lt (hs k hk) (nrI_lt h hs k).1 (nrI_lt h hs k).2 _ (Nat.le_refl _)
    · exact nrI_lt h hs k
theorem thR_lt {C : List (List Nat)} (h : 0 < C.length) : ∀ t, ∀ u ∈ thR C t, u < C.length
  | 0, u, hu => by
    rcases List.mem_cons.1 hu with rfl | h'
    · exact h
    · cases h'
  | t + 1, u, hu => by
    rcases List.mem_cons.1 hu with rfl | h'
    · exact (nrI_lt h (thR_lt h t) 8).2
    · exact thR_lt h t u h'
def pk3 (p : PK) : Nat × Nat × List Int := (p.1, p.2.1, p.2.2.2)
end Go.Proofs.Ythcfgoknphpkdaa


/- Package graph: Tree. -/
namespace Go.Proofs.Ythcfgoknphpkdaa
open Go.RowKit Go.Shelf

theorem own_at {w : World} {B : Nat} {e : TypeId} {s : Nat} {v : Value} {n : Nat} {xs : List Value} (h : w.ownsRow B e s v n xs) (hn : 0 < n) : ∃ g c, v = .slice (some ⟨g, 0, none⟩) n c ∧ B ≤ g ∧ g < w.heap.size ∧ ∀ j (hj : j < xs.length), w.cell? ⟨g, j, none⟩ = some xs[j] := by
  rcases h.2 with ⟨h1, h2⟩ | ⟨g', cap, cur, h1, h2, h3, h4, h5, h6, h7⟩
  · omega
  · refine ⟨g', cap, h1, h2, (Array.getElem?_eq_some_iff.1 h3).1, fun j hj => ?_⟩
    have hl : j < n * s := by have := h.1; omega
    rw [cell_of_row w g' j _ _ (0, 0) h3]
    have e' : cur[j]? = (cur.toList.take (n * s))[j]? := by
      rw [List.getElem?_take, if_pos hl, Array.getElem?_toList]
    rw [e', h7, List.getElem?_eq_getElem hj]
/-- Links in memory. -/
def LnS (w : World) (a : Option Addr) (l : List (Nat × Nat × List Int)) : Prop := ∀ k (h : k < l.length), ∃ g d cd, a = some ⟨g, 0, none⟩ ∧ g < w.heap.size ∧ w.cell? ⟨g, k * 3, none⟩ = some (.int .i64 (l[k].1 : Nat)) ∧ w.cell? ⟨g, k * 3 + 1, none⟩ = some (.int .i64 (l[k].2.1 : Nat)) ∧ w.cell? ⟨g, k * 3 + 2, none⟩ = some (.slice d l[k].2.2.length cd) ∧ IntS w d l[k].2.2
theorem LnS.below {w w' : World} {a : Option Addr} {l : List (Nat × Nat × List Int)} (h : LnS w a l) (hb : Below w.heap.size w w') : LnS w' a l := fun k hk => by
  obtain ⟨g, d, cd, h1, h2, h3, h4, h5, h6⟩ := h k hk
  exact ⟨g, d, cd, h1, Nat.lt_of_lt_of_le h2 hb.size, (hb.cell (p := ⟨g, k * 3, none⟩) h2).trans h3, (hb.cell (p := ⟨g, k * 3 + 1, none⟩) h2).trans h4, (hb.cell (p := ⟨g, k * 3 + 2, none⟩) h2).trans h5, h6.below hb⟩
theorem kC_get : ∀ (l : List PK) (k : Nat) (h : k < l.length), (kC l)[k * 3]? = some (.int .i64 (l[k].1 : Nat)) ∧ (kC l)[k * 3 + 1]? = some (.int .i64 (l[k].2.1 : Nat)) ∧ (kC l)[k * 3 + 2]? = some l[k].2.2.1
  | p :: l, 0, _ => ⟨rfl, rfl, rfl⟩
  | p :: l, k + 1, h => by
    have ih := kC_get l k (by simpa using h)
    rw [show (k + 1) * 3 = k * 3 + 1 + 1 + 1 by omega]
    exact ih
/-- A set within another is no greater a number. -/
theorem msk_sub {a b : List Nat} (h : ∀ x ∈ a, x ∈ b) : mskN a ≤ mskN b := by
  have e : mskN a &&& mskN b = mskN a := by
    rw [msk_and]
    exact msk_ext fun x => ⟨fun hx => (List.mem_filter.1 hx).1, fun hx => List.mem_filter.2 ⟨hx, decide_eq_true (h x hx)⟩⟩
  rw [← e]
  exact Nat.and_le_right
/-- Some bag stands in no other one. -/
theorem kept_some {B : List (List Nat)} (hn : 0 < B.length) (h8 : ∀ p ∈ B, ∀ u ∈ p, u < 8) : ∃ i, i < B.length ∧ keptB B i = true := by
  refine Classical.byContradiction fun hno => ?_
  have hall : ∀ i, i < B.length → ∃ j, j < B.length ∧ covB B i j = true := fun i hi => by
    refine Classical.byContradiction fun hj => hno ⟨i, hi, kept_yes fun j hjl => ?_⟩
    cases hc : covB B i j
    · rfl
    · exact absurd ⟨j, hjl, hc⟩ hj
  have key : ∀ K : Nat, ∃ i, i < B.length ∧ K ≤ mskN (B.getD i []) * (B.length + 1) + (B.length - i) := fun K => by
    induction K with
    | zero => exact ⟨0, hn, Nat.zero_le _⟩
    | succ K ih =>
      obtain ⟨i, hi, hK⟩ := ih
      obtain ⟨j, hj, hc⟩ := hall i hi
      obtain ⟨_, hs, hd⟩ := of_decide_eq_true hc
      have hle := msk_sub hs
      refine ⟨j, hj, ?_⟩
      rcases Nat.lt_or_eq_of_le hle with hlt | heq
      · have := Nat.mul_le_mul_right (B.length + 1) (show mskN (B.getD i []) + 1 ≤ mskN (B.getD j []) from hlt)
        rw [Nat.add_mul, Nat.one_mul] at this
        omega
      · have hji : j < i := by
          rcases hd with h | h
          · exact absurd heq.symm h
          · exact h
        rw [← heq]
        omega
  obtain ⟨i, hi, hK⟩ := key (256 * (B.length + 1) + B.length + 1)
  have hm : mskN (B.getD i []) < 256 := msk_lt (by
    rw [List.getD_eq_getElem?_getD, List.getElem?_eq_getElem hi]
    exact h8 _ (List.getElem_mem hi))
  have := Nat.mul_le_mul_right (B.length + 1) (Nat.le_of_lt hm)
  omega
theorem ous_pos {B : List (List Nat)} (hn : 0 < B.length) (h8 : ∀ p ∈ B, ∀ u ∈ p, u < 8) : 0 < (ousL B B.length).length := by
  obtain ⟨i, hi, hk⟩ := kept_some hn h8
  rw [ousL, List.length_map]
  exact List.length_pos_of_mem (List.mem_filter.2 ⟨List.mem_range.2 hi, hk⟩)
theorem ous_small {B : List (List Nat)} (h8 : ∀ p ∈ B, ∀ u ∈ p, u < 8) (k : Nat) : ∀ p ∈ ousL B k, ∀ u ∈ p, u < 8 := fun p hp u hu => by
  obtain ⟨i, _, rfl⟩ := List.mem_map.1 hp
  exact getD_small h8 i u hu
theorem bags_parts {L : List (List Int)} (h : bagsB L = true) : 1 ≤ L.length ∧ L.length ≤ 8 ∧ ∀ p ∈ parN L, ∀ u ∈ p, u < 8 := by
  rw [bagsB, Bool.and_eq_true, Bool.and_eq_true, decide_eq_true_iff] at h
  refine ⟨h.1.1, h.1.2, fun p hp => ?_⟩
  obtain ⟨l, hl, rfl⟩ := List.mem_map.1 hp
  exact ris_all (n := 8) (Nat.le_refl _) (List.all_eq_true.1 h.2.1 l hl)
/-- What Tree answers. -/
def TrR (L : List (List Int)) (e : Ending) (w' : World) : Prop :=
  (bagsB L = true ∧ ∃ G d cd, e = .returned (.tuple #[.slice (some ⟨G, 0, none⟩) (ousL (parN L) L.length).length (ousL (parN L) L.length).length, .slice d ((ousL (parN L) L.length).length - 1) cd, .int .i64 0]) ∧ LsS w' (some ⟨G, 0, none⟩) ((ousL (parN L) L.length).map memL) ∧ LnS w' d (lkL (ousL (parN L) L.length) ((ousL (parN L) L.length).length - 1))) ∨
  (bagsB L = false ∧ e = .returned (.tuple #[.slice none 0 0, .slice none 0 0, .int .i64 11]))

end Go.Proofs.Ythcfgoknphpkdaa


/- The document's answer: listsOK, Order, GraphCheck. -/
namespace Go.Proofs.Ythcfgoknphpkdaa
open Go.RowKit Go.Shelf

theorem inB_mem {k : Int} {l : List Int} : inB k l = true ↔ k ∈ l := by simp [inB]
theorem inB_nat {l : List Int} {x : Int} (hx : 0 ≤ x) (hl : ∀ y ∈ l, 0 ≤ y) : inB x l = decide (x.toNat ∈ toN l) := by
  rw [Bool.eq_iff_iff, decide_eq_true_iff, inB_mem]
  constructor
  · intro h; exact List.mem_map.2 ⟨x, h, rfl⟩
  · intro h
    obtain ⟨y, hy, e⟩ := List.mem_map.1 h
    have := hl y hy
    obtain rfl : y = x := by omega
    exact hy
theorem inB_iL (l : List Nat) {x : Int} (hx : 0 ≤ x) : inB x (iL l) = decide (x.toNat ∈ l) := by
  rw [inB_nat hx fun y hy => by obtain ⟨z, _, rfl⟩ := List.mem_map.1 hy; omega, toN_iL]
theorem ris_nonneg {l : List Int} {n : Nat} (h : risB l n = true) : ∀ y ∈ l, 0 ≤ y := fun y hy => by
  obtain ⟨i, hi, rfl⟩ := List.getElem_of_mem hy
  exact ((ris_up h).each i hi).1
theorem gB_ris {L : List (List Int)} {i : Nat} (h : i < L.length) (e : risB L[i] L.length = false) : gB L = false := by rw [gB, allRis_bad h e]; simp
theorem gB_self {L : List (List Int)} {i : Nat} (h : i < L.length) (e : i ∈ toN L[i]) : gB L = false := by rw [gB, noSelf_bad h e]; simp
theorem gB_yes {L : List (List Int)} (h1 : 1 ≤ L.length) (h2 : L.length ≤ 8) (h : ∀ i (hi : i < L.length), risB L[i] L.length = true ∧ ¬ i ∈ toN L[i]) : gB L = true := by
  rw [gB, decide_eq_true (p := 1 ≤ L.length ∧ L.length ≤ 8) ⟨h1, h2⟩, noSelf_good fun i hi => (h i hi).2]
  have : allRis L L.length = true := List.all_eq_true.2 fun l hl => by
    obtain ⟨i, hi, rfl⟩ := List.getElem_of_mem hl
    exact (h i hi).1
  rw [this]; rfl

set_option maxRecDepth 100000 in
set_option maxHeartbeats 1000000 in
theorem rListsOK_any (a : Option Addr) (ca : Nat) (L : List (List Int)) (w : World) (h : LsS w a L) (hl : ∀ l ∈ L, l.length ≤ 140737488355328) (hL : L.length ≤ 140737488355328) :
    Calls Try.prog 26 #[.slice a L.length ca] w fun e w' => e = .returned (.bool (gB L)) ∧ Below w.heap.size w w' := by
  have HF := hid h
  have HL := hid hl
  have HN : Hid (¬ (1 ≤ L.length ∧ L.length ≤ 8) → gB L = false) := fun h => by rw [gB, decide_eq_false h]; rfl
  have HR := hid (fun i h e => gB_ris (L := L) (i := i) h e)
  have HS := hid (fun i h e => gB_self (L := L) (i := i) h e)
  have HY := hid (fun h1 h2 h => gB_yes (L := L) h1 h2 h)
  generalize gB L = gb at *
  clear h hl
  by_cases h1 : 1 ≤ L.length
  · by_cases h8 : L.length ≤ 8
    · clear HN
      have e1 : (1 : Int) ≤ (L.length : Int) := by omega
      have e2 : (L.length : Int) ≤ 8 := by omega
      go_enter Try.func26, Try.ntmps26
      go_wp2_with fail
      go_loopw [3] (fun iv wr => ∃ i : Nat, i ≤ L.length ∧ iv = .int .i64 i ∧ Hid (∀ j (h : j < L.length), j < i → risB L[j] L.length = true ∧ ¬ j ∈ toN L[j]) ∧ Hid (Below w.heap.size w wr)) (fun iv _ => L.length - (intOf iv).toNat)
      case atStart => exact ⟨0, Nat.zero_le _, rfl, fun j _ h => absurd h (by omega), Below.refl _ _⟩
      case round =>
        obtain ⟨i, hi, rfl, HP, HB⟩ := hrel
        by_cases hlt : i < L.length
        · obtain ⟨g, o, b, c, rfl, hg, c0, hI⟩ := (HF.out.below HB.out) i hlt
          have hll := HL.out L[i] (List.getElem_mem hlt)
          have HI := hid hI
          have HRi := hid (HR.out i hlt)
          have HSi := hid (HS.out i hlt)
          have HPi : Hid (risB L[i] L.length = true → ¬ i ∈ toN L[i] → ∀ j (h : j < L.length), j < i + 1 → risB L[j] L.length = true ∧ ¬ j ∈ toN L[j]) := fun h h' j hj hji => by
            rcases Nat.lt_or_ge j i with h2 | h2
            · exact HP.out j hj h2
            · obtain rfl : j = i := by omega
              exact ⟨h, h'⟩
          clear hI
          generalize L[i] = l at *
          go_wp2_with fail
          refine (rRising_any b c l (L.length : Int) _ HI.out hll).mono ?_
          rintro e w1 ⟨rfl, hb1⟩
          have c1 := (hb1.cell (p := ⟨g, o + i, none⟩) hg).trans c0
          have HI1 := hid (HI.out.below hb1)
          have HB1 := hid (HB.out.trans (hb1.mono HB.out.size))
          clear hb1 c0 HI HB
          go_wp2_with fail
          refine (rIn_any (i : Nat) b c l _ HI1.out hll).mono ?_
          rintro e w2 ⟨rfl, rfl⟩
          cases hr : risB l L.length with
          | false =>
            have HE := hid (HRi.out hr)
            clear hr
            generalize inB (i : Nat) l = q at *
            go_wp2
            go_ret
            exact ⟨by rw [HE.out]; rfl, HB1.out⟩
          | true =>
            rw [inB_nat (by omega) (ris_nonneg hr), Int.toNat_natCast]
            by_cases hin : i ∈ toN l
            · rw [decide_eq_true hin]
              have HE := hid (HSi.out hin)
              clear hin hr
              go_wp2
              go_ret
              exact ⟨by rw [HE.out]; rfl, HB1.out⟩
            · rw [decide_eq_false hin]
              have HE := hid (HPi.out hr hin)
              clear hin hr
              go_wp2
              go_roundw
              case rel => exact ⟨i + 1, by omega, by go_num, HE, HB1⟩
              case measure => simp [intOf]; omega
        · obtain rfl : i = L.length := by omega
          have HE := hid (HY.out h1 h8 fun j hj => HP.out j hj hj)
          go_wp2
          go_ret
          exact ⟨by rw [HE.out]; rfl, HB.out⟩
    · have HE := hid (HN.out fun h => h8 h.2)
      have e1 : (1 : Int) ≤ (L.length : Int) := by omega
      have e2 : (8 : Int) < (L.length : Int) := by omega
      clear h8
      go_enter Try.func26, Try.ntmps26
      go_wp2
      go_ret
      exact ⟨by rw [HE.out]; rfl, Below.refl _ _⟩
  · have HE := hid (HN.out fun h => h1 h.1)
    have e1 : (L.length : Int) < 1 := by omega
    clear h1
    go_enter Try.func26, Try.ntmps26
    go_wp2
    go_ret
    exact ⟨by rw [HE.out]; rfl, Below.refl _ _⟩
end Go.Proofs.Ythcfgoknphpkdaa


/- The document's answer: Order, GraphCheck. -/
namespace Go.Proofs.Ythcfgoknphpkdaa
open Go.RowKit Go.Shelf

/-- The least from j on that may come next. -/
def fromN (P : List (List Nat)) (out : List Nat) (j : Nat) : Option Nat := (List.range' j (P.length - j)).find? (freeB P out)
def encO : Option Nat → Int
  | some v => (v : Int)
  | none => -1
theorem fromN_zero (P : List (List Nat)) (out : List Nat) : fromN P out 0 = nextV P out := by rw [fromN, nextV, List.range_eq_range']; rfl
theorem fromN_end (P : List (List Nat)) (out : List Nat) : fromN P out P.length = none := by rw [fromN, Nat.sub_self]; rfl
theorem fromN_step {P : List (List Nat)} {out : List Nat} {j : Nat} (h : j < P.length) : fromN P out j = if freeB P out j = true then some j else fromN P out (j + 1) := by
  rw [fromN, fromN, show P.length - j = (P.length - (j + 1)) + 1 by omega, List.range'_succ, List.find?_cons]
  cases freeB P out j <;> rfl
/-- Is a node free as far as i of its parents say? -/
def freeI (P : List (List Nat)) (out : List Nat) (v i : Nat) : Bool := !decide (v ∈ out) && decide (∀ u ∈ (P.getD v []).take i, u ∈ out)
theorem freeI_zero (P : List (List Nat)) (out : List Nat) (v : Nat) : freeI P out v 0 = !decide (v ∈ out) := by simp [freeI]
theorem freeI_succ {P : List (List Nat)} {out p : List Nat} {v i : Nat} (hp : P.getD v [] = p) (h : i < p.length) : freeI P out v (i + 1) = (freeI P out v i && decide (p[i] ∈ out)) := by
  rw [freeI, freeI, hp, List.take_succ_eq_append_getElem h, Bool.and_assoc]
  congr 1
  rw [Bool.eq_iff_iff, Bool.and_eq_true, decide_eq_true_iff, decide_eq_true_iff, decide_eq_true_iff]
  constructor
  · intro H
    exact ⟨fun u hu => H u (List.mem_append_left _ hu), H _ (List.mem_append_right _ List.mem_cons_self)⟩
  · rintro ⟨H1, H2⟩ u hu
    rcases List.mem_append.1 hu with hu | hu
    · exact H1 u hu
    · rw [List.mem_singleton.1 hu]; exact H2
theorem freeI_all {P : List (List Nat)} {out p : List Nat} {v : Nat} (hp : P.getD v [] = p) : freeI P out v p.length = freeB P out v := by
  rw [freeI, freeB, hp, List.take_length]

set_option maxRecDepth 100000 in
set_option maxHeartbeats 2000000 in
theorem rOrder_any (a : Option Addr) (ca : Nat) (L : List (List Int)) (w : World) (h : LsS w a L) (hl : ∀ l ∈ L, l.length ≤ 140737488355328) (hL : L.length ≤ 140737488355328) :
    Calls Try.prog 7 #[.slice a L.length ca] w fun e w' => Below w.heap.size w w' ∧
      ((gcE L = 0 ∧ ∃ x, e = .returned (.tuple #[x, .int .i64 0]) ∧ RwI w' w.heap.size x (iL (ordN (parN L) L.length))) ∨ (gcE L ≠ 0 ∧ e = .returned (.tuple #[.slice none 0 0, .int .i64 (gcE L)]))) := by
  obtain ⟨i0, hi0, hz0, hz1, hz2⟩ := info_parts Try.infoInt
  have HF := hid h
  have HK := hid (fun (V : World) (hV : LsS V a L) => rListsOK_any a ca L V hV hl hL)
  have HL := hid hl
  have HG1 : Hid (gB L = false → gcE L = 11) := fun h => if_neg (by rw [h]; decide)
  have HG2 : Hid (gB L = true → (ordN (parN L) L.length).length < L.length → gcE L = 10) := fun h1 h2 => by rw [gcE, if_pos h1, if_pos h2]
  have HG3 : Hid (gB L = true → ¬ (ordN (parN L) L.length).length < L.length → gcE L = 0) := fun h1 h2 => by rw [gcE, if_pos h1, if_neg h2]
  have hPl := parN_length L
  have HPG : Hid (∀ i (h : i < L.length), (parN L).getD i [] = toN L[i]) := fun i h => parN_get h
  have HGR : Hid (gB L = true → L.length ≤ 8 ∧ ∀ i (h : i < L.length), ∀ y ∈ L[i], 0 ≤ y) := fun h => ⟨(gB_parts h).2.1, fun i hi => ris_nonneg (allRis_at (gB_parts h).2.2.1 hi)⟩
  generalize gcE L = ge at *
  generalize parN L = P at *
  clear h hl
  cases hgb : gB L with
  | false =>
    have HE := hid (HG1.out hgb)
    rw [hgb] at HK
    clear hgb HG1 HG2 HG3 HGR
    go_enter Try.func7, Try.ntmps7
    go_wp2_with fail
    refine (HK.out _ HF.out).mono ?_
    rintro e w1 ⟨rfl, hb1⟩
    go_wp2
    go_ret2
    exact ⟨hb1, .inr ⟨by rw [HE.out]; decide, by rw [HE.out]; rfl⟩⟩
  | true =>
    have HE2 := hid (HG2.out hgb)
    have HE3 := hid (HG3.out hgb)
    obtain ⟨h8, hnn⟩ := HGR.out hgb
    have HNN := hid hnn
    rw [hgb] at HK
    clear hgb HG1 HG2 HG3 HGR hnn
    have HO0 : Hid (ordN P 0 = []) := rfl
    have HLN := hid (ord_len P)
    have HSO : Hid (∀ k v, nextV P (ordN P k) = some v → ordN P (k + 1) = ordN P k ++ [v]) := fun k v h => ord_some h
    have HST : Hid (∀ k, k < L.length → nextV P (ordN P k) = none → (ordN P L.length).length < L.length) := fun k h1 h2 => by
      have := ord_full P h2 (by omega)
      rwa [hPl] at this
    generalize hFF : ordN P = F at *
    clear hFF
    go_enter Try.func7, Try.ntmps7
    go_wp2_with fail
    refine (HK.out _ HF.out).mono ?_
    rintro e w1 ⟨rfl, hb1⟩
    have HB1 := hid hb1
    clear hb1 HK
    go_wp2_with fail
    go_loopw [5] (fun ov wr => ∃ k : Nat, k ≤ L.length ∧ Hid ((F k).length = k) ∧ Hid (RwI wr w.heap.size ov (iL (F k))) ∧ Hid (Below w.heap.size w wr) ∧ ∃ d cd, ov = .slice d k cd) (fun ov _ => L.length - (match ov with | .slice _ n _ => n | _ => 0))
    case atStart => exact ⟨0, Nat.zero_le _, by rw [HO0.out]; rfl, by rw [HO0.out]; exact ⟨rfl, .inl ⟨rfl, rfl⟩⟩, HB1, none, 0, rfl⟩
    case round =>
      obtain ⟨k, hk, HLK, HR, HB, d, cd, rfl⟩ := hrel
      clear HB1
      by_cases hlt : k < L.length
      · have hIo : IntS wr d (iL (F k)) := by
          obtain ⟨d', cd', e, hi⟩ := HR.out.ints
          injection e with e1 e2 e3
          subst e1
          exact hi
        have HIO := hid hIo
        have hil : (iL (F k)).length = k := by rw [iL_length, HLK.out]
        have HIN : Hid (∀ (x : Int) (V : World), IntS V d (iL (F k)) → Calls Try.prog 27 #[.int .i64 x, .slice d k cd] V fun e w' => e = .returned (.bool (inB x (iL (F k)))) ∧ w' = V) := fun x V hV => by
          have := rIn_any x d cd (iL (F k)) V hV (by omega)
          rwa [hil] at this
        have HINB : Hid (∀ x : Int, 0 ≤ x → inB x (iL (F k)) = decide (x.toNat ∈ F k)) := fun x hx => inB_iL (F k) hx
        have HSOk := hid (HSO.out k)
        have HSTk := hid (HST.out k hlt)
        have HFZ := hid (fromN_zero P (F k))
        have HFE : Hid (fromN P (F k) L.length = none) := by rw [← hPl]; exact fromN_end P (F k)
        have HFS : Hid (∀ j, j < L.length → fromN P (F k) j = if freeB P (F k) j = true then some j else fromN P (F k) (j + 1)) := fun j hj => fromN_step (by omega)
        clear hIo hil
        go_wp2_with fail
        go_loopw [6, 7] (fun nv vv wq => ∃ j : Nat, j ≤ L.length ∧ vv = .int .i64 ((j : Int) - 1) ∧ nv = .int .i64 (encO (fromN P (F k) j)) ∧ wq = wr) (fun _ vv _ => (intOf vv + 1).toNat)
        case atStart => exact ⟨L.length, Nat.le_refl _, by first | rfl | go_num, by rw [HFE.out]; rfl, rfl⟩
        case round =>
          obtain ⟨j, hj, rfl, rfl, rfl⟩ := hrel
          cases j with
          | zero =>
            rw [HFZ.out]
            cases hnx : nextV P (F k) with
            | none =>
              have HE := hid (HE2.out (HSTk.out hnx))
              clear hnx
              go_wp2
              go_ret2
              exact ⟨HB.out, .inr ⟨by rw [HE.out]; decide, by rw [HE.out]; rfl⟩⟩
            | some v =>
              have hS := HSOk.out v hnx
              have HIL : Hid (iL (F (k + 1)) = iL (F k) ++ [(v : Int)]) := by show _ = _; rw [hS, iL_append]; rfl
              have HLS : Hid ((F (k + 1)).length = k + 1) := by show _ = _; rw [hS, List.length_append, HLK.out]; rfl
              have HLKK : Hid ((iL (F k)).length ≤ 8) := by
                show (iL (F k)).length ≤ 8
                rw [iL_length, HLK.out]
                omega
              have hv0 : (0 : Int) ≤ (v : Int) := by omega
              clear hS hnx
              have HOWN := hid HR.out.own
              have HRA : Hid (RwI (wr.alloc (.cells #[.int .i64 (v : Nat)] 3)) w.heap.size _ (iL (F k))) := World.ownsRow.alloc HR.out _
              have HBA := hid (HB.out.alloc HB.out.size (.cells #[.int .i64 (v : Nat)] 3))
              have HIA := hid (one_int wr (v : Nat))
              go_wp2_with (at_builtin; refine wpList_append_ints rfl _ _ rfl w.heap.size _ (iL (F k)) [((v : Nat) : Int)] rfl HRA.out (some ⟨wr.heap.size, 0, none⟩) 1 rfl HIA.out (fun e => by cases e) (by have := HLKK.out; simp; omega) HBA.out.size ?_; intro v' w5 hr5 hg5)
              have hr6 := hr5
              rw [← HIL.out] at hr6
              obtain ⟨d5, cd5, rfl, _⟩ := hr6.ints
              have e5 : (iL (F (k + 1))).length = k + 1 := by rw [iL_length, HLS.out]
              rw [e5]
              rw [e5] at hr6
              have HR5 := hid hr6
              have HB5 := hid (HBA.out.grown hg5 HBA.out.size HOWN.out)
              clear hr5 hr6 hg5 e5
              go_roundw
              case rel => exact ⟨k + 1, by omega, HLS, HR5, HB5, d5, cd5, rfl⟩
              case measure => show L.length - (k + 1) < L.length - k; omega
          | succ j =>
            have hjj : (((j + 1 : Nat) : Int) - 1) = (j : Int) := by omega
            rw [hjj]
            obtain ⟨g, o, b, c, rfl, hg, c0, hI⟩ := (HF.out.below HB.out) j (by omega)
            have hll := HL.out L[j] (List.getElem_mem (by omega))
            have HNJ := hid (HNN.out j (by omega))
            have HPJ := hid (HPG.out j (by omega))
            have HIB := hid (HINB.out (j : Int) (by omega))
            have HST0 := hid (freeI_zero P (F k) j)
            have HII := hid hI
            have HFJ := hid (HFS.out j (by omega))
            have HFA : Hid (∀ p, P.getD j [] = p → freeI P (F k) j p.length = freeB P (F k) j) := fun p hp => freeI_all hp
            have HFU : Hid (∀ p i (h : i < p.length), P.getD j [] = p → freeI P (F k) j (i + 1) = (freeI P (F k) j i && decide (p[i] ∈ F k))) := fun p i h hp => freeI_succ hp h
            generalize L[j]'(by omega) = l at *
            clear hI hjj
            go_wp2_with fail
            refine (HIN.out (j : Int) _ HIO.out).mono ?_
            rintro e w2 ⟨rfl, rfl⟩
            rw [HIB.out, Int.toNat_natCast]
            have HD0 : Hid ((!decide (j ∈ F k)) = freeI P (F k) j 0) := HST0.out.symm
            clear HIB HST0
            generalize decide (j ∈ F k) = q at *
            go_wp2_with fail
            go_loopw [8, 9] (fun bv iv wz => ∃ i : Nat, i ≤ l.length ∧ iv = .int .i64 i ∧ bv = .bool (freeI P (F k) j i) ∧ wz = w2) (fun _ iv _ => l.length - (intOf iv).toNat)
            case atStart => exact ⟨0, Nat.zero_le _, rfl, by rw [HD0.out], rfl⟩
            case round =>
              obtain ⟨i, hi, rfl, rfl, rfl⟩ := hrel
              by_cases hil : i < l.length
              · obtain ⟨g', o', rfl, hg', c1⟩ := HII.out i hil
                have hnn := HNJ.out l[i] (List.getElem_mem hil)
                have HUU := HFU.out (toN l) i (by rw [toN_length]; exact hil) HPJ.out
                rw [toN_get hil] at HUU
                have HUX := hid HUU
                have HBB := hid (HINB.out l[i] hnn)
                clear HUU
                generalize l[i] = x at *
                go_wp2_with fail
                refine (HIN.out x _ HIO.out).mono ?_
                rintro e w3 ⟨rfl, rfl⟩
                rw [HBB.out]
                generalize hq1 : freeI P (F k) j (i + 1) = q1 at *
                generalize decide (x.toNat ∈ F k) = q2 at *
                generalize freeI P (F k) j i = q3 at *
                have HQ1 := hid hq1
                clear hq1
                cases q3 with
                | false =>
                  have hq : q1 = false := HUX.out
                  subst hq
                  go_wp2
                  go_roundw
                  case rel => exact ⟨i + 1, by omega, by go_num, by rw [HQ1.out], trivial⟩
                  case measure => simp [intOf]; omega
                | true =>
                  have hq : q1 = q2 := HUX.out
                  subst hq
                  go_wp2
                  go_roundw
                  case rel => exact ⟨i + 1, by omega, by go_num, by rw [HQ1.out], trivial⟩
                  case measure => simp [intOf]; omega
              · obtain rfl : i = l.length := by omega
                have hfa := HFA.out (toN l) HPJ.out
                rw [toN_length] at hfa
                rw [hfa]
                have HJ := HFJ.out
                cases hfb : freeB P (F k) j with
                | false =>
                  rw [hfb, if_neg (by decide)] at HJ
                  have HJJ := hid HJ
                  clear HJ hfa hfb
                  go_wp2
                  go_roundw
                  case rel => exact ⟨j, by omega, by first | rfl | go_num, by rw [HJJ.out], trivial⟩
                  case measure => simp [intOf]
                | true =>
                  rw [hfb, if_pos rfl] at HJ
                  have HJJ := hid HJ
                  clear HJ hfa hfb
                  go_wp2
                  go_roundw
                  case rel => exact ⟨j, by omega, by first | rfl | go_num, by rw [HJJ.out]; rfl, trivial⟩
                  case measure => simp [intOf]
      · obtain rfl : k = L.length := by omega
        have HE := hid (HE3.out (by rw [HLK.out]; omega))
        have HRR := HR
        go_wp2
        go_ret2
        exact ⟨HB.out, .inl ⟨HE.out, _, rfl, HR.out⟩⟩
set_option maxRecDepth 100000 in
set_option maxHeartbeats 1000000 in
theorem rGraphCheck_any (a : Option Addr) (ca : Nat) (L : List (List Int)) (w : World) (h : LsS w a L) (hl : ∀ l ∈ L, l.length ≤ 140737488355328) (hL : L.length ≤ 140737488355328) :
    Calls Try.prog 10 #[.slice a L.length ca] w fun e w' => e = .returned (.int .i64 (gcE L)) ∧ Below w.heap.size w w' := by
  have HF := hid h
  have HR := hid (fun (V : World) (hV : LsS V a L) => rOrder_any a ca L V hV hl hL)
  generalize gcE L = ge at *
  clear h hl
  go_enter Try.func10, Try.ntmps10
  go_wp2_with fail
  refine (HR.out _ HF.out).mono ?_
  rintro e w1 ⟨hb, ⟨rfl, x, rfl, hU⟩ | ⟨hg, rfl⟩⟩
  · clear hU
    go_wp2
    go_ret
    exact ⟨rfl, hb⟩
  · clear hg
    go_wp2
    go_ret
    exact ⟨rfl, hb⟩
end Go.Proofs.Ythcfgoknphpkdaa

