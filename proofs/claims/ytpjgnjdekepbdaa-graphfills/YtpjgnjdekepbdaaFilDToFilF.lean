/- The document's answer Fill: what its memory holds, step by step. -/
import Derived.Test.YtpjgnjdekepbdaaFilTToFilC
namespace Go.Proofs.Ytpjgnjdekepbdaa
open Go.RowKit Go.Shelf

/-- Edges under way: all pairs of the bag with one of the first i, and of the next one with the first j. -/
def exB (e : Nat → Nat → Bool) (b : List Nat) (i j v u : Nat) : Bool := e v u || (decide (v ≠ u) && ((decide (v ∈ b.take i) && decide (u ∈ b)) || (decide (b[i]? = some v) && decide (u ∈ b.take j))))
theorem exB_start (e : Nat → Nat → Bool) (b : List Nat) (v u : Nat) : exB e b 0 0 v u = e v u := by simp [exB]
theorem exB_next (e : Nat → Nat → Bool) {b : List Nat} {i : Nat} (hi : i < b.length) (v u : Nat) : exB e b i b.length v u = exB e b (i + 1) 0 v u := by
  rw [exB, exB, List.take_succ_eq_append_getElem hi, List.getElem?_eq_getElem hi, List.take_length]
  congr 2
  refine Bool.eq_iff_iff.2 ?_
  simp only [Bool.or_eq_true, Bool.and_eq_true, decide_eq_true_eq, List.mem_append, List.mem_singleton, List.take_zero, List.not_mem_nil, Option.some.injEq]
  constructor
  · rintro (⟨a, c⟩ | ⟨a, c⟩)
    · exact .inl ⟨.inl a, c⟩
    · exact .inl ⟨.inr a.symm, c⟩
  · rintro (⟨a | a, c⟩ | ⟨_, c⟩)
    · exact .inl ⟨a, c⟩
    · exact .inr ⟨a.symm, c⟩
    · exact absurd c (by simp)
theorem exB_end (e : Nat → Nat → Bool) (b : List Nat) (v u : Nat) : exB e b b.length 0 v u = (e v u || (decide (v ≠ u) && (decide (v ∈ b) && decide (u ∈ b)))) := by
  rw [exB, List.take_length]; simp
theorem exB_same (e : Nat → Nat → Bool) {b : List Nat} {i j : Nat} (hi : i < b.length) (hj : j < b.length) (h : b[i] = b[j]) (v u : Nat) : exB e b i (j + 1) v u = exB e b i j v u := by
  rw [exB, exB, List.take_succ_eq_append_getElem hj, List.getElem?_eq_getElem hi]
  congr 1
  refine Bool.eq_iff_iff.2 ?_
  simp only [Bool.or_eq_true, Bool.and_eq_true, decide_eq_true_eq, List.mem_append, List.mem_singleton, Option.some.injEq]
  refine and_congr_right fun hne => or_congr_right (and_congr_right fun hv => ⟨fun hu => hu.resolve_right fun hu => hne (by rw [← hv, hu, h]), .inl⟩)
theorem exB_put (e : Nat → Nat → Bool) {b : List Nat} {i j : Nat} (hi : i < b.length) (hj : j < b.length) (h : b[i] ≠ b[j]) (v u : Nat) : exB e b i (j + 1) v u = if v = b[i] ∧ u = b[j] then true else exB e b i j v u := by
  by_cases hc : v = b[i] ∧ u = b[j]
  · rw [if_pos hc, hc.1, hc.2, exB, decide_eq_true h, decide_eq_true (p := b[i]? = some b[i]) (List.getElem?_eq_getElem hi), decide_eq_true (p := b[j] ∈ b.take (j + 1)) (by rw [List.take_succ_eq_append_getElem hj]; exact List.mem_append_right _ List.mem_cons_self)]
    simp
  · rw [if_neg hc, exB, exB, List.take_succ_eq_append_getElem hj, List.getElem?_eq_getElem hi]
    congr 1
    refine Bool.eq_iff_iff.2 ?_
    simp only [Bool.or_eq_true, Bool.and_eq_true, decide_eq_true_eq, List.mem_append, List.mem_singleton, Option.some.injEq]
    refine and_congr_right fun _ => or_congr_right (and_congr_right fun hv => ⟨fun hu => hu.resolve_right fun hu => hc ⟨hv.symm, hu⟩, .inl⟩)
/-- What lies there behind k nodes. -/
structure FS (w : World) (P : List (List Nat)) (n k : Nat) (R : Nat → Nat) (G : Nat) (ov bv : Value) (Bs : List PI2) (W : World) : Prop where
  mat : Mat W w.heap.size G n n R (emB P n k)
  ord : RwI W w.heap.size ov (iL ((List.range k).map (outV P n)))
  bag : OwI W w.heap.size bv Bs
  bgs : Bs.map (·.2) = (List.range k).map fun i => iL (bagN P n i)
  apt : ApT ov Bs
  low : Below w.heap.size w W
theorem OwI.below {w w' : World} {B : Nat} {y : Value} {P : List PI2} (h : OwI w B y P) (hb : Below w.heap.size w w') : OwI w' B y P := ⟨own_kp h.1 (KpT.below hb), fun p hp => own_kp (h.2 p hp) (KpT.below hb)⟩
theorem FS.below {w : World} {P : List (List Nat)} {n k : Nat} {R : Nat → Nat} {G : Nat} {ov bv : Value} {Bs : List PI2} {W W' : World} (h : FS w P n k R G ov bv Bs W) (hb : Below W.heap.size W W') : FS w P n k R G ov bv Bs W' :=
  ⟨h.mat.below hb, h.ord.under hb, h.bag.below hb, h.bgs, h.apt, h.low.trans (hb.mono h.low.size)⟩
/-- While the bag's edges are put in. -/
structure FM (w U : World) (P : List (List Nat)) (n k : Nat) (R : Nat → Nat) (G : Nat) (ov bv : Value) (Bs : List PI2) (x : Value) (e : Nat → Nat → Bool) (W : World) : Prop where
  mat : Mat W w.heap.size G n n R e
  ord : RwI W w.heap.size ov (iL ((List.range k).map (outV P n)))
  bag : OwI W w.heap.size bv Bs
  bgs : Bs.map (·.2) = (List.range k).map fun i => iL (bagN P n i)
  apt : ApT ov Bs
  new : RwI W U.heap.size x (iL (bagN P n k))
  old : ∀ g, ov.ownBlock = some g → g < U.heap.size
  big : w.heap.size ≤ U.heap.size
  low : Below w.heap.size w W
theorem FM.below {w U : World} {P : List (List Nat)} {n k : Nat} {R : Nat → Nat} {G : Nat} {ov bv : Value} {Bs : List PI2} {x : Value} {e : Nat → Nat → Bool} {W W' : World} (h : FM w U P n k R G ov bv Bs x e W) (hb : Below W.heap.size W W') : FM w U P n k R G ov bv Bs x e W' :=
  ⟨h.mat.below hb, h.ord.under hb, h.bag.below hb, h.bgs, h.apt, h.new.under hb, h.old, h.big, h.low.trans (hb.mono h.low.size)⟩
theorem FM.drewN {w U : World} {P : List (List Nat)} {n k : Nat} {R : Nat → Nat} {G : Nat} {ov bv : Value} {Bs : List PI2} {x : Value} {e : Nat → Nat → Bool} {W : World} (h : FM w U P n k R G ov bv Bs x e W) (m : Nat) : FM w U P n k R G ov bv Bs x e (W.drewN m) := h.below (below_drewN (Below.refl _ W) m)
theorem FM.congr {w U : World} {P : List (List Nat)} {n k : Nat} {R : Nat → Nat} {G : Nat} {ov bv : Value} {Bs : List PI2} {x : Value} {e e' : Nat → Nat → Bool} {W : World} (h : FM w U P n k R G ov bv Bs x e W) (he : ∀ v u, e v u = e' v u) : FM w U P n k R G ov bv Bs x e' W :=
  ⟨h.mat.congr fun v u _ _ => he v u, h.ord, h.bag, h.bgs, h.apt, h.new, h.old, h.big, h.low⟩
theorem FM.set {w U : World} {P : List (List Nat)} {n k : Nat} {R : Nat → Nat} {G : Nat} {ov bv : Value} {Bs : List PI2} {x : Value} {e e' : Nat → Nat → Bool} {W : World} (h : FM w U P n k R G ov bv Bs x e W) {v u : Nat} (hv : v < n) (he : ∀ v' u', e' v' u' = if v' = v ∧ u' = u then true else e v' u') : FM w U P n k R G ov bv Bs x e' (W.setCell ⟨R v, u, none⟩ (.bool true)) := by
  have hr := h.mat.row v hv hv
  have k1 : KpT 3 W (W.setCell ⟨R v, u, none⟩ (.bool true)) := KpT.set hr (by decide) u _
  have k2 : KpT 23 W (W.setCell ⟨R v, u, none⟩ (.bool true)) := KpT.set hr (by decide) u _
  exact ⟨h.mat.set hv hv he, own_kp h.ord k1, ⟨own_kp h.bag.1 k2, fun p hp => own_kp (h.bag.2 p hp) k1⟩, h.bgs, h.apt, own_kp h.new k1, h.old, h.big, h.low.setCell (p := ⟨R v, u, none⟩) (h.mat.low v hv) _⟩
theorem FS.mid {w U : World} {P : List (List Nat)} {n k : Nat} {R : Nat → Nat} {G : Nat} {ov bv : Value} {Bs : List PI2} {x : Value} {W : World} (h : FS w P n k R G ov bv Bs U) (hb : Below U.heap.size U W) (hx : RwI W U.heap.size x (iL (bagN P n k))) : FM w U P n k R G ov bv Bs x (emB P n k) W :=
  ⟨h.mat.below hb, h.ord.under hb, h.bag.below hb, h.bgs, h.apt, hx, fun g hg => (h.ord.lt g hg).2, h.low.size, h.low.trans (hb.mono h.low.size)⟩
/-- The node is put behind the others. -/
theorem FM.push {w U : World} {P : List (List Nat)} {n k : Nat} {R : Nat → Nat} {G : Nat} {ov ov' bv : Value} {Bs : List PI2} {x : Value} {e : Nat → Nat → Bool} {W W' : World} (h : FM w U P n k R G ov bv Bs x e W) (hg : W.grownBy W' ov.ownBlock) (hn : ov'.ownBlock = ov.ownBlock ∨ ∀ g, ov'.ownBlock = some g → W.heap.size ≤ g) (ho : RwI W' w.heap.size ov' (iL ((List.range k).map (outV P n)) ++ [((outV P n k : Nat) : Int)])) :
    Mat W' w.heap.size G n n R e ∧ RwI W' w.heap.size ov' (iL ((List.range (k + 1)).map (outV P n))) ∧ OwI W' w.heap.size bv Bs ∧ RwI W' w.heap.size x (iL (bagN P n k)) ∧ ApT ov' (Bs ++ [(x, iL (bagN P n k))]) ∧ Below w.heap.size w W' := by
  have hne : ∀ g, x.ownBlock = some g → ov.ownBlock ≠ some g := fun g hg e' => by
    have h1 := own_from h.new g hg
    have h2 := h.old g e'
    omega
  refine ⟨h.mat.keep (KpT.grown hg (own_typed h.ord) (by decide)) (KpT.grown hg (own_typed h.ord) (by decide)), by rw [List.range_succ, List.map_append, iL_append]; exact ho, h.bag.grown h.apt h.ord hg, own_low ((h.new).kept hg ?_) h.big, fun p hp g hg' => ?_, h.low.grown hg h.low.size (own_from h.ord)⟩
  · cases e' : x.ownBlock with
    | none => exact .inl rfl
    | some g => exact .inr fun e2 => hne g e' e2.symm
  · rcases List.mem_append.1 hp with hp | hp
    · exact ApT.grown h.bag h.apt hn p hp g hg'
    · rw [List.mem_singleton.1 hp] at hg'
      rcases hn with hn | hn
      · rw [hn]; exact hne g hg'
      · intro e'
        have := hn g e'
        have := (h.new.lt g hg').2
        omega
/-- The bag is put behind the others. -/
theorem FS.next {w : World} {P : List (List Nat)} {n k : Nat} {R : Nat → Nat} {G : Nat} {ov bv bv' : Value} {Bs : List PI2} {x : Value} {W W' : World} (hm : Mat W w.heap.size G n n R (emB P n (k + 1))) (ho : RwI W w.heap.size ov (iL ((List.range (k + 1)).map (outV P n)))) (hb : OwI W w.heap.size bv Bs) (hx : RwI W w.heap.size x (iL (bagN P n k))) (ha : ApT ov (Bs ++ [(x, iL (bagN P n k))])) (hl : Below w.heap.size w W) (hs : Bs.map (·.2) = (List.range k).map fun i => iL (bagN P n i))
    (hr : W'.ownsRow w.heap.size 23 1 bv' (Bs.length + 1) (Bs.map (·.1) ++ [x])) (hg : W.grownBy W' bv.ownBlock) : FS w P n (k + 1) R G ov bv' (Bs ++ [(x, iL (bagN P n k))]) W' := by
  have kt : ∀ t, t ≠ 23 → KpT t W W' := fun t ht => KpT.grown hg (own_typed hb.1) ht
  refine ⟨hm.keep ?_ (kt _ (by decide)), own_kp ho (kt _ (by decide)), ⟨by rw [List.length_append, List.map_append]; exact hr, fun p hp => ?_⟩, by rw [List.map_append, hs, List.range_succ, List.map_append]; rfl, ha, hl.grown hg hl.size (own_from hb.1)⟩
  · exact kt _ (by decide)
  · rcases List.mem_append.1 hp with hp | hp
    · exact own_kp (hb.2 p hp) (kt _ (by decide))
    · rw [List.mem_singleton.1 hp]; exact own_kp hx (kt _ (by decide))
/-- What is found so far, as the answer holds it. -/
def bsI : Option (Nat × Nat) → Int
  | none => -1
  | some (b, _) => (b : Int)
def lsI : Option (Nat × Nat) → Nat
  | none => 0
  | some (_, m) => m
theorem dn_out {P : List (List Nat)} {n k : Nat} (hF : FI P n k) (hk : k < n) (h8 : n ≤ 8) : bsI (dnN (lackN (flS P n k).nei) (flS P n k).lft n n) = ((outV P n k : Nat) : Int) := by
  have hs : ∀ u ∈ (flS P n k).lft, u < n := fun u hu => ((hF.left u).1 hu).1
  have h1 := dn_few (P := (flS P n k).nei) (s := (flS P n k).lft) h8 hs
  have h2 := dnN_spec (f := lackN (flS P n k).nei) (s := (flS P n k).lft) (n := n) n (Nat.le_refl _)
  have hv := hF.here hk h8
  rw [outV, ← h1]
  revert h2
  cases dnN (lackN (flS P n k).nei) (flS P n k).lft n n with
  | none => exact fun h => (h _ hv (by omega) (hs _ hv)).elim
  | some p =>
    obtain ⟨b, m⟩ := p
    exact fun _ => rfl
theorem bagN_lt {P : List (List Nat)} {n k : Nat} (hF : FI P n k) (hk : k < n) (h8 : n ≤ 8) : ∀ x ∈ bagN P n k, x < n := fun x hx => by
  have hv := hF.here hk h8
  rcases (hF.bag hk h8).1 hx with rfl | hx
  · exact ((hF.left _).1 hv).1
  · exact ((hF.left _).1 (hF.sym _ hv x hx).1).1
theorem bagN_len (P : List (List Nat)) (n k : Nat) : (bagN P n k).length ≤ 8 := memU_len _ _
theorem bgL_yes {P : List (List Nat)} {n k u : Nat} (h1 : ¬ u ∈ (List.range k).map (outV P n)) (h2 : u = outV P n k ∨ emB P n k (outV P n k) u = true) : bgL P n k (u + 1) = bgL P n k u ++ [u] := by
  rw [bgL, List.range_succ, List.filter_append, bgL]
  congr 1
  have e1 : decide (u ∈ (List.range k).map (outV P n)) = false := decide_eq_false h1
  have e2 : (decide (u = outV P n k) || emB P n k (outV P n k) u) = true := by
    rcases h2 with h2 | h2
    · rw [decide_eq_true h2]; rfl
    · rw [h2, Bool.or_true]
  rw [List.filter_cons_of_pos (by rw [e1, e2]; rfl)]; rfl
theorem bgL_no {P : List (List Nat)} {n k u : Nat} (h : (!decide (u ∈ (List.range k).map (outV P n)) && (decide (u = outV P n k) || emB P n k (outV P n k) u)) = false) : bgL P n k (u + 1) = bgL P n k u := by
  rw [bgL, List.range_succ, List.filter_append, bgL, List.filter_cons_of_neg (by rw [h]; decide)]
  exact List.append_nil _
theorem bgL_len (P : List (List Nat)) (n k u : Nat) : (bgL P n k u).length ≤ u := by
  have := List.length_filter_le (fun u => !decide (u ∈ (List.range k).map (outV P n)) && (decide (u = outV P n k) || emB P n k (outV P n k) u)) (List.range u)
  rwa [List.length_range] at this
end Go.Proofs.Ytpjgnjdekepbdaa


/- The document's answer Tree: what its memory holds, step by step. -/
namespace Go.Proofs.Ytpjgnjdekepbdaa
open Go.RowKit Go.Shelf

theorem cell_in {w : World} {g j : Nat} {v : Value} (h : w.cell? ⟨g, j, none⟩ = some v) : g < w.heap.size := by
  rcases Nat.lt_or_ge g w.heap.size with h1 | h1
  · exact h1
  · have e : w.heap[g]? = none := Array.getElem?_eq_none h1
    rw [World.cell?, e] at h
    cases h
theorem one_cell (w : World) (v : Value) (t : TypeId) : (w.alloc (.cells #[v] t)).cell? ⟨w.heap.size, 0, none⟩ = some v := by
  rw [cell_of_row (w.alloc (.cells #[v] t)) w.heap.size 0 _ _ (0, 0) (heap_alloc_new w _)]; rfl
/-- What lies below a place stays. -/
theorem own_above {w w' : World} {B b : Nat} {e : TypeId} {s : Nat} {v : Value} {n : Nat} {xs : List Value} (h : w.ownsRow B e s v n xs) (hl : ∀ g, v.ownBlock = some g → g < b) (hb : Below b w w') : w'.ownsRow B e s v n xs := by
  refine ⟨h.1, ?_⟩
  rcases h.2 with h1 | ⟨g, cap, cur, h1, h2, h3, h4⟩
  · exact .inl h1
  · exact .inr ⟨g, cap, cur, h1, h2, (hb.block g (hl g (by rw [h1]; rfl))).trans h3, h4⟩
theorem OwI.push {w w' : World} {B : Nat} {y y' : Value} {P : List PI2} {x : Value} {l : List Int} (h : OwI w B y P) (hx : RwI w B x l) (hr : w'.ownsRow B 23 1 y' (P.length + 1) (P.map (·.1) ++ [x])) (hg : w.grownBy w' y.ownBlock) : OwI w' B y' (P ++ [(x, l)]) := by
  have kt : KpT 3 w w' := KpT.grown hg (own_typed h.1) (by decide)
  refine ⟨by rw [List.length_append, List.map_append]; exact hr, fun p hp => ?_⟩
  rcases List.mem_append.1 hp with hp | hp
  · exact own_kp (h.2 p hp) kt
  · rw [List.mem_singleton.1 hp]; exact own_kp hx kt
theorem OwI.lists {w : World} {B : Nat} {y : Value} {Ks : List PI2} {Ls : List (List Int)} (h : OwI w B y Ks) (hs : Ks.map (·.2) = Ls) (hp : 0 < Ls.length) : ∃ g c, y = .slice (some ⟨g, 0, none⟩) Ls.length c ∧ g < w.heap.size ∧ ∀ i, i < Ls.length → ∃ b cb, w.cell? ⟨g, i, none⟩ = some (.slice b (Ls.getD i []).length cb) ∧ IntS w b (Ls.getD i []) := by
  have hl : Ks.length = Ls.length := by rw [← hs, List.length_map]
  obtain ⟨g, c, h1, _, h3, h4⟩ := own_at h.1 (by omega)
  refine ⟨g, c, by rw [h1, hl], h3, fun i hi => ?_⟩
  have hik : i < Ks.length := by omega
  have e2 : Ls.getD i [] = Ks[i].2 := by
    rw [List.getD_eq_getElem?_getD, List.getElem?_eq_getElem hi]
    subst hs
    simp
  obtain ⟨d, cd, f1, f2⟩ := (h.2 _ (List.getElem_mem hik)).ints
  have := h4 i (by rw [List.length_map]; exact hik)
  rw [List.getElem_map, f1] at this
  rw [e2]
  exact ⟨d, cd, this, f2⟩
/-- Links and those that stand there, behind t links. -/
structure TL (W0 : World) (C : List (List Nat)) (t : Nat) (lv sv : Value) (P : List PK) (W : World) : Prop where
  lk : OwK W W0.heap.size lv P
  ls : P.map pk3 = lkL C t
  sd : RwI W W0.heap.size sv (iL (thR C t).reverse)
  apt : ApT sv (P.map fun p => (p.2.2.1, p.2.2.2))
  low : Below W0.heap.size W0 W
theorem OwK.low {w : World} {B B' : Nat} {x : Value} {P : List PK} (h : OwK w B x P) (hb : B' ≤ B) : OwK w B' x P := ⟨own_low h.1 hb, fun p hp => own_low (h.2 p hp) hb⟩
theorem lkL_cnt (C : List (List Nat)) : ∀ t, (lkL C t).length = t
  | 0 => rfl
  | t + 1 => by rw [lkL, List.length_append, lkL_cnt C t]; rfl
theorem own_same2 {w w' : World} {B : Nat} {e : TypeId} {s : Nat} {v : Value} {n : Nat} {xs : List Value} (h : w.ownsRow B e s v n xs) (hk : ∀ g, v.ownBlock = some g → w'.heap[g]? = w.heap[g]?) : w'.ownsRow B e s v n xs := by
  refine ⟨h.1, ?_⟩
  rcases h.2 with h1 | ⟨g, cap, cur, h1, h2, h3, h4⟩
  · exact .inl h1
  · exact .inr ⟨g, cap, cur, h1, h2, (hk g (by rw [h1]; rfl)).trans h3, h4⟩
theorem TL.below {W0 : World} {C : List (List Nat)} {t : Nat} {lv sv : Value} {P : List PK} {W W' : World} (h : TL W0 C t lv sv P W) (hb : Below W.heap.size W W') : TL W0 C t lv sv P W' :=
  ⟨h.lk.keep (KpT.below hb) (KpT.below hb), h.ls, h.sd.under hb, h.apt, h.low.trans (hb.mono h.low.size)⟩
/-- The best link so far, as it lies there. -/
def BxL (C : List (List Nat)) (U : World) (bb : Nat) (st : NSt) (W : World) (A B S : Value) : Prop := W.heap[bb]? = some (.cells #[A, B, S] 47 (0, 0)) ∧ ((st.m = -1 ∧ A = .int .i64 (-1) ∧ B = .int .i64 0 ∧ S = .slice none 0 0) ∨ (st.m = (comN C st.a st.b : Int) ∧ A = .int .i64 (st.a : Nat) ∧ B = .int .i64 (st.b : Nat) ∧ RwI W U.heap.size S (memL (sepN C st.a st.b))))
theorem BxL.below {C : List (List Nat)} {U : World} {bb : Nat} {st : NSt} {W W' : World} {A B S : Value} (h : BxL C U bb st W A B S) (hb : Below W.heap.size W W') : BxL C U bb st W' A B S :=
  ⟨(hb.block bb (Array.getElem?_eq_some_iff.1 h.1).1).trans h.1, h.2.imp id fun ⟨a, b, c, d⟩ => ⟨a, b, c, d.under hb⟩⟩
theorem BxL.cells {C : List (List Nat)} {U : World} {bb : Nat} {st : NSt} {W : World} {A B S : Value} (h : BxL C U bb st W A B S) : W.cell? ⟨bb, 0, none⟩ = some A ∧ W.cell? ⟨bb, 1, none⟩ = some B ∧ W.cell? ⟨bb, 2, none⟩ = some S ∧ ∀ j, W.frozen? ⟨bb, j, none⟩ = false :=
  ⟨by rw [cell_of_row W bb 0 _ _ (0, 0) h.1]; rfl, by rw [cell_of_row W bb 1 _ _ (0, 0) h.1]; rfl, by rw [cell_of_row W bb 2 _ _ (0, 0) h.1]; rfl, fun j => frozen_of_row W bb j _ _ h.1⟩
/-- While the next link is sought. -/
structure TB (W0 U : World) (C : List (List Nat)) (t : Nat) (lv sv : Value) (P : List PK) (bb : Nat) (st : NSt) (W : World) : Prop where
  tl : TL W0 C t lv sv P W
  bx : ∃ A B S, BxL C U bb st W A B S
  bl : U.heap.size ≤ bb
  ol : ∀ g, lv.ownBlock = some g → g < U.heap.size
  os : ∀ g, sv.ownBlock = some g → g < U.heap.size
  op : ∀ p ∈ P, ∀ g, p.2.2.1.ownBlock = some g → g < U.heap.size
  ub : W0.heap.size ≤ U.heap.size
theorem TB.below {W0 U : World} {C : List (List Nat)} {t : Nat} {lv sv : Value} {P : List PK} {bb : Nat} {st : NSt} {W W' : World} (h : TB W0 U C t lv sv P bb st W) (hb : Below W.heap.size W W') : TB W0 U C t lv sv P bb st W' :=
  ⟨h.tl.below hb, by
    obtain ⟨A, B, S, h1⟩ := h.bx
    exact ⟨A, B, S, h1.below hb⟩, h.bl, h.ol, h.os, h.op, h.ub⟩
theorem TB.start {W0 U : World} {C : List (List Nat)} {t : Nat} {lv sv : Value} {P : List PK} (h : TL W0 C t lv sv P U) (st : NSt) (hs : st.m = -1) : TB W0 U C t lv sv P U.heap.size st (U.alloc (.cells #[.int .i64 (-1), .int .i64 0, .slice none 0 0] 47)) :=
  ⟨h.below ((Below.refl _ U).alloc (Nat.le_refl _) _), ⟨_, _, _, heap_alloc_new U _, .inl ⟨hs, rfl, rfl, rfl⟩⟩, Nat.le_refl _, fun g hg => (h.lk.1.lt g hg).2, fun g hg => (h.sd.lt g hg).2, fun p hp g hg => ((h.lk.2 p hp).lt g hg).2, h.low.size⟩
theorem set3_heap {W : World} {bb : Nat} {A B S A' B' S' : Value} (h : W.heap[bb]? = some (.cells #[A, B, S] 47 (0, 0))) : (((W.setCell ⟨bb, 0, none⟩ A').setCell ⟨bb, 1, none⟩ B').setCell ⟨bb, 2, none⟩ S').heap[bb]? = some (.cells #[A', B', S'] 47 (0, 0)) := by
  have h1 := heap_setCell_same W bb 0 _ _ A' h
  have h2 := heap_setCell_same _ bb 1 _ _ B' h1
  have h3 := heap_setCell_same _ bb 2 _ _ S' h2
  rw [h3]
  rfl
theorem set3_off (W : World) (bb k : Nat) (A B S : Value) (hk : k ≠ bb) : (((W.setCell ⟨bb, 0, none⟩ A).setCell ⟨bb, 1, none⟩ B).setCell ⟨bb, 2, none⟩ S).heap[k]? = W.heap[k]? :=
  (Below.heap_setCell _ ⟨bb, 2, none⟩ S k hk).trans ((Below.heap_setCell _ ⟨bb, 1, none⟩ B k hk).trans (Below.heap_setCell _ ⟨bb, 0, none⟩ A k hk))
/-- A better link. -/
theorem TB.put {W0 U : World} {C : List (List Nat)} {t : Nat} {lv sv : Value} {P : List PK} {bb : Nat} {st : NSt} {W : World} (h : TB W0 U C t lv sv P bb st W) {a b : Nat} {S : Value} (hS : RwI W U.heap.size S (memL (sepN C a b))) : TB W0 U C t lv sv P bb ⟨a, b, (comN C a b : Int)⟩ (((W.setCell ⟨bb, 0, none⟩ (.int .i64 (a : Nat))).setCell ⟨bb, 1, none⟩ (.int .i64 (b : Nat))).setCell ⟨bb, 2, none⟩ S) := by
  obtain ⟨A1, B1, S1, hb, -⟩ := h.bx
  have hoff := fun k hk => set3_off W bb k (.int .i64 (a : Nat)) (.int .i64 (b : Nat)) S hk
  have hne : ∀ g, g < U.heap.size → g ≠ bb := fun g hg e => by have := h.bl; omega
  have hlow : Below W0.heap.size W0 (((W.setCell ⟨bb, 0, none⟩ (.int .i64 (a : Nat))).setCell ⟨bb, 1, none⟩ (.int .i64 (b : Nat))).setCell ⟨bb, 2, none⟩ S) := by
    have hbb : W0.heap.size ≤ bb := Nat.le_trans h.ub h.bl
    exact ((h.tl.low.setCell (p := ⟨bb, 0, none⟩) hbb _).setCell (p := ⟨bb, 1, none⟩) hbb _).setCell (p := ⟨bb, 2, none⟩) hbb _
  have hSn : ∀ g, S.ownBlock = some g → g ≠ bb := fun g hg e => by
    obtain ⟨c, fr, h1⟩ := own_typed hS g hg
    rw [e, hb] at h1
    injection h1 with h2
    injection h2 with _ h3 _
    exact absurd h3 (by decide)
  refine ⟨⟨⟨own_same2 h.tl.lk.1 fun g hg => hoff g (hne g (h.ol g hg)), fun p hp => own_same2 (h.tl.lk.2 p hp) fun g hg => hoff g (hne g (h.op p hp g hg))⟩, h.tl.ls, own_same2 h.tl.sd fun g hg => hoff g (hne g (h.os g hg)), h.tl.apt, hlow⟩, ⟨_, _, _, set3_heap hb, .inr ⟨rfl, rfl, rfl, own_same2 hS fun g hg => hoff g (hSn g hg)⟩⟩, h.bl, h.ol, h.os, h.op, h.ub⟩
theorem TB.size {W0 U : World} {C : List (List Nat)} {t : Nat} {lv sv : Value} {P : List PK} {bb : Nat} {st : NSt} {W : World} (h : TB W0 U C t lv sv P bb st W) : U.heap.size ≤ W.heap.size := by
  obtain ⟨A, B, S, h1⟩ := h.bx
  have h2 := (Array.getElem?_eq_some_iff.1 h1.1).1
  have h3 := h.bl
  omega
theorem TB.same {W0 U : World} {C : List (List Nat)} {t : Nat} {lv sv : Value} {P : List PK} {bb : Nat} {st st' : NSt} {W : World} (h : TB W0 U C t lv sv P bb st W) (e : st' = st) : TB W0 U C t lv sv P bb st' W := by rw [e]; exact h
theorem wpList_append_link {w : World} {ops : Array Oper} {rest : List Oper} {o : Oper} {a : Act} {Q : Exit → Act → World → Prop} (hgd : o.guard = none) (s x : Operand)
    (ho : o.op = .call { callee := .builtin .append, args := #[s, x], argTypes := #[39, 39] }) (base : Nat) (v : Value) (P : List PK) (x1 x2 : Nat) (d : Option Addr) (nd cd : Nat) (hs : a.eval s = v) (hown : w.ownsRow base 47 3 v P.length (kC P)) (g : Nat) (hx : a.eval x = .slice (some ⟨g, 0, none⟩) 1 1) (hg0 : w.cell? ⟨g, 0, none⟩ = some (.int .i64 (x1 : Nat))) (hg1 : w.cell? ⟨g, 1, none⟩ = some (.int .i64 (x2 : Nat))) (hg2 : w.cell? ⟨g, 2, none⟩ = some (.slice d nd cd)) (hlen : P.length + 1 ≤ 1000) (hbase : base ≤ w.heap.size)
    (h : ∀ v' w', w'.ownsRow base 47 3 v' (P.length + 1) (kC P ++ [.int .i64 (x1 : Nat), .int .i64 (x2 : Nat), .slice d nd cd]) → w.grownBy w' v.ownBlock → wpList Try.prog ops Q rest (a.put o.dst v') w') : wpList Try.prog ops Q (o :: rest) a w :=
  wpList_plain hgd fun _ hK => wp_append_link s x ho base v P x1 x2 d nd cd hs hown g hx hg0 hg1 hg2 hlen hbase fun v' w' h1 h2 => hK _ _ (h v' w' h1 h2)
theorem three_cells (w : World) (A B S : Value) (t : TypeId) : (w.alloc (.cells #[A, B, S] t)).cell? ⟨w.heap.size, 0, none⟩ = some A ∧ (w.alloc (.cells #[A, B, S] t)).cell? ⟨w.heap.size, 1, none⟩ = some B ∧ (w.alloc (.cells #[A, B, S] t)).cell? ⟨w.heap.size, 2, none⟩ = some S := by
  have h := heap_alloc_new w (.cells #[A, B, S] t)
  exact ⟨by rw [cell_of_row _ w.heap.size 0 _ _ (0, 0) h]; rfl, by rw [cell_of_row _ w.heap.size 1 _ _ (0, 0) h]; rfl, by rw [cell_of_row _ w.heap.size 2 _ _ (0, 0) h]; rfl⟩
/-- The link is put behind the others. -/
theorem TB.push {W0 U : World} {C : List (List Nat)} {t : Nat} {lv lv' sv : Value} {P : List PK} {bb : Nat} {st : NSt} {W W' : World} {S : Value} (h : TB W0 U C t lv sv P bb st W) (hS : RwI W U.heap.size S (memL (sepN C st.a st.b))) (hst : st = nrI C (thR C t) 8) (hr : W'.ownsRow W0.heap.size 47 3 lv' (P.length + 1) (kC P ++ [.int .i64 (st.a : Nat), .int .i64 (st.b : Nat), S])) (hg : W.grownBy W' lv.ownBlock) :
    OwK W' W0.heap.size lv' (P ++ [(st.a, st.b, S, memL (sepN C st.a st.b))]) ∧ (P ++ [(st.a, st.b, S, memL (sepN C st.a st.b))]).map pk3 = lkL C (t + 1) ∧ RwI W' W0.heap.size sv (iL (thR C t).reverse) ∧ ApT sv ((P ++ [(st.a, st.b, S, memL (sepN C st.a st.b))]).map fun p => (p.2.2.1, p.2.2.2)) ∧ Below W0.heap.size W0 W' ∧ (∀ A B S', BxL C U bb st W A B S' → W'.cell? ⟨bb, 1, none⟩ = some B) := by
  have kt : KpT 3 W W' := KpT.grown hg (own_typed h.tl.lk.1) (by decide)
  refine ⟨⟨by rw [List.length_append, kC_append]; exact hr, fun p hp => ?_⟩, by rw [List.map_append, h.tl.ls, lkL, ← hst]; rfl, own_kp h.tl.sd kt, fun p hp g hg' e => ?_, h.tl.low.grown hg h.tl.low.size (own_from h.tl.lk.1), fun A B S' hb => ?_⟩
  · rcases List.mem_append.1 hp with hp | hp
    · exact own_kp (h.tl.lk.2 p hp) kt
    · rw [List.mem_singleton.1 hp]; exact own_low (own_kp hS kt) h.ub
  · rw [List.map_append] at hp
    rcases List.mem_append.1 hp with hp | hp
    · exact h.tl.apt p hp g hg' e
    · rw [List.map_singleton, List.mem_singleton] at hp
      rw [hp] at hg'
      have h1 := own_from hS g hg'
      have h2 := h.os g e
      omega
  · have hk : W'.heap[bb]? = W.heap[bb]? := hg.block bb (Array.getElem?_eq_some_iff.1 hb.1).1 fun e => by
      have h1 := h.ol bb e.symm
      have h2 := h.bl
      omega
    rw [cell_of_row W' bb 1 _ _ (0, 0) (hk.trans hb.1)]; rfl
/-- The new one stands there. -/
theorem TL.next {W0 : World} {C : List (List Nat)} {t b : Nat} {lv sv sv' : Value} {P : List PK} {W W' : World} (hl : OwK W W0.heap.size lv P) (hs : P.map pk3 = lkL C (t + 1)) (hsd : RwI W W0.heap.size sv (iL (thR C t).reverse)) (ha : ApT sv (P.map fun p => (p.2.2.1, p.2.2.2))) (hb : Below W0.heap.size W0 W) (hst : b = (nrI C (thR C t) 8).b) (hr : RwI W' W0.heap.size sv' (iL (thR C t).reverse ++ [((b : Nat) : Int)])) (hg : W.grownBy W' sv.ownBlock) (hn : sv'.ownBlock = sv.ownBlock ∨ ∀ k, sv'.ownBlock = some k → W.heap.size ≤ k) : TL W0 C (t + 1) lv sv' P W' := by
  refine ⟨⟨own_kp hl.1 (KpT.grown hg (own_typed hsd) (by decide)), fun p hp => (hl.2 p hp).kept hg ?_⟩, hs, by rw [thR, List.reverse_cons, iL_append, ← hst]; exact hr, fun p hp g hg' e => ?_, hb.grown hg hb.size (own_from hsd)⟩
  · cases e : p.2.2.1.ownBlock with
    | none => exact .inl rfl
    | some g => exact .inr fun e' => ha (p.2.2.1, p.2.2.2) (List.mem_map.2 ⟨p, hp, rfl⟩) g e (by rw [← e'])
  · obtain ⟨q, hq, rfl⟩ := List.mem_map.1 hp
    rcases hn with hn | hn
    · exact ha _ hp g hg' (by rw [← hn]; exact e)
    · have h1 := hn g e
      have h2 := ((hl.2 q hq).lt g hg').2
      omega
end Go.Proofs.Ytpjgnjdekepbdaa

