/- Sets of package graph: lists. -/
import Derived.Test.YthcfgoknphpkdaaSliBToFewA
import Derived.Test.YthcfgoknphpkdaaAsgAToTabT
namespace Go.Proofs.Ythcfgoknphpkdaa
open Go.RowKit Go.Shelf

/-- The block g holds these slices of ints. -/
def RowV (w : World) (g : Nat) (l : List Value) : Prop := w.heap[g]? = some (.cells l.toArray 23 (0, 0))
theorem RowV.cell {w : World} {g : Nat} {l : List Value} (h : RowV w g l) (j : Nat) (hj : j < l.length) : w.cell? ⟨g, j, none⟩ = some l[j] := by
  rw [cell_of_row w g j _ _ (0, 0) h]
  simp [hj]
theorem RowV.fz {w : World} {g : Nat} {l : List Value} (h : RowV w g l) (j : Nat) : w.frozen? ⟨g, j, none⟩ = false := frozen_of_row w g j _ _ h
theorem RowV.lt {w : World} {g : Nat} {l : List Value} (h : RowV w g l) : g < w.heap.size := (Array.getElem?_eq_some_iff.1 h).1
theorem RowV.below {w w' : World} {g b : Nat} {l : List Value} (h : RowV w g l) (hb : Below b w w') (hg : g < b) : RowV w' g l := (hb.block g hg).trans h
theorem RowV.set {w : World} {g : Nat} {l : List Value} (h : RowV w g l) (j : Nat) (y : Value) : RowV (w.setCell ⟨g, j, none⟩ y) g (l.set j y) := by
  have h2 := heap_setCell_same w g j _ _ y h
  rw [RowV, h2]
  simp
theorem Try.infoInts1 : (Try.prog.info? 23).map (fun i => (i.zero, i.size, i.bytes)) = some (some (.slice none 0 0), 1, 24) := by kernel_rfl
theorem made_slices (n : Nat) : (madeCells (Value.slice none 0 0).cells (n * 1)).toList = List.replicate n (Value.slice none 0 0) := by
  rw [show (Value.slice none 0 0).cells = #[Value.slice none 0 0] from rfl, toList_madeCells_one, Nat.mul_one]
/-- What a set's list holds. -/
def memL (s : List Nat) : List Int := iL (memU s 8)
/-- Lists that are written as far as i. -/
def SoFar (w : World) (P : List (List Nat)) (l : List Value) (i : Nat) : Prop := l.length = P.length ∧ ∀ j (hj : j < P.length), j < i → ∃ d cd, l[j]? = some (.slice d (memL P[j]).length cd) ∧ IntS w d (memL P[j])
theorem SoFar.below {w w' : World} {P : List (List Nat)} {l : List Value} {i : Nat} (h : SoFar w P l i) (hb : Below w.heap.size w w') : SoFar w' P l i := ⟨h.1, fun j hj hi => by
  obtain ⟨d, cd, h1, h2⟩ := h.2 j hj hi
  exact ⟨d, cd, h1, h2.below hb⟩⟩
theorem IntS.off {w : World} {d : Option Addr} {l : List Int} (h : IntS w d l) {g j : Nat} {y : Value} (hne : ∀ g' o', d = some ⟨g', o', none⟩ → l ≠ [] → g' ≠ g) : IntS (w.setCell ⟨g, j, none⟩ y) d l := fun k hk => by
  obtain ⟨g', o', h1, h2, h3⟩ := h k hk
  have hn := hne g' o' h1 (fun e => by rw [e] at hk; simp at hk)
  refine ⟨g', o', h1, by simpa using h2, ?_⟩
  rw [← h3]
  have e := Below.heap_setCell w ⟨g, j, none⟩ y g' (by show g' ≠ g; exact hn)
  exact World.cell?_of_block e
theorem ints_ne {w : World} {d : Option Addr} {l : List Int} {g : Nat} {vs : List Value} (h : IntS w d l) (hg : RowV w g vs) (hv : ∀ v ∈ vs, ∃ a n c, v = .slice a n c) : ∀ g' o', d = some ⟨g', o', none⟩ → l ≠ [] → g' ≠ g := fun g' o' hd hl e => by
  subst e
  have hp : 0 < l.length := List.length_pos_iff.2 hl
  obtain ⟨g2, o2, h1, h2, h3⟩ := h 0 hp
  rw [hd] at h1
  cases h1
  rw [cell_of_row w g' _ _ _ (0, 0) hg] at h3
  rw [List.getElem?_toArray] at h3
  obtain ⟨a, n, c, e⟩ := hv _ (List.mem_of_getElem? h3)
  cases e
/-- A block of slices: each is one. -/
def Slv (l : List Value) : Prop := ∀ v ∈ l, ∃ a n c, v = Value.slice a n c

set_option maxRecDepth 100000 in
set_option maxHeartbeats 1000000 in
theorem lists_any (a : Option Addr) (ca : Nat) (P : List (List Nat)) (w : World) (hP : ∀ p ∈ P, ∀ u ∈ p, u < 8) (hn : P.length ≤ 5000) (hS : ∀ k (h : k < P.length), ∃ g o, a = some ⟨g, o, none⟩ ∧ g < w.heap.size ∧ w.cell? ⟨g, o + k, none⟩ = some (.int .u32 (mskN P[k] : Nat))) :
    Calls Try.prog 40 #[.slice a P.length ca] w fun e w' => ∃ G, e = .returned (.slice (some ⟨G, 0, none⟩) P.length P.length) ∧ w.heap.size ≤ G ∧ LsS w' (some ⟨G, 0, none⟩) (P.map memL) ∧ Below w.heap.size w w' := by
  obtain ⟨i0, hi0, hz0, hz1, hz2⟩ := info_parts Try.infoInts1
  have HS := hid hS
  have HP := hid hP
  have HLI := hid (fun (s : List Nat) (hs : ∀ u ∈ s, u < 8) (U : World) => list_any s U hs)
  clear hS hP
  go_enter Try.func40, Try.ntmps40
  go_wp2_with (first
    | (at_make; refine wpList_make_full _ rfl _ _ 22 rfl w.heap.size 23 i0 (.slice none 0 0) 1 Try.underlying22 hi0 hz0 hz1 .i64 .i64 _ _ P.length rfl rfl (by go_num) (by go_num) (by rw [hz2]; omega) (by unfold maxLen; omega) (Nat.le_refl _) ?_; intro w2 hown2 hgrow2))
  have hb2 := block_of_own hown2
  rw [made_slices] at hb2
  have HB2 : Hid (Below w.heap.size w w2) := (Below.refl _ w).grown hgrow2 (Nat.le_refl _) (fun k e => by cases e)
  have HI : Hid (RowV w2 w.heap.size (List.replicate P.length (.slice none 0 0))) := hb2
  clear hown2 hgrow2 hb2
  go_wp2_with fail
  go_loopw [11] (fun iv wr => ∃ (i : Nat) (vs : List Value), i ≤ P.length ∧ iv = .int .i64 i ∧ Hid (RowV wr w.heap.size vs) ∧ Hid (SoFar wr P vs i) ∧ Hid (Slv vs) ∧ Hid (Below w.heap.size w wr)) (fun iv _ => P.length - (intOf iv).toNat)
  case atStart => exact ⟨0, _, Nat.zero_le _, rfl, HI, ⟨by simp, fun j _ h => absurd h (by omega)⟩, fun v hv => ⟨none, 0, 0, (List.mem_replicate.1 hv).2⟩, HB2⟩
  case round =>
    obtain ⟨i, vs, hi, rfl, HR, HSF, HSV, HB⟩ := hrel
    clear HI HB2
    by_cases hlt : i < P.length
    · obtain ⟨g, o, rfl, hg, c0⟩ := HS.out i hlt
      have c1 := (HB.out.cell (p := ⟨g, o + i, none⟩) hg).trans c0
      have HL := hid (HLI.out P[i] (HP.out _ (List.getElem_mem hlt)))
      have hlv := HSF.out.1
      clear c0
      go_wp2_with fail
      refine (HL.out _).mono ?_
      rintro e w3 ⟨v, rfl, hv, hb3⟩
      obtain ⟨d, cd, rfl, hI⟩ := hv.ints
      have hR3 := HR.out.below hb3 HR.out.lt
      have hSF3 := HSF.out.below hb3
      have k3 := hR3.cell i (by omega)
      have f3 := hR3.fz i
      have HBS := hid ((HB.out.trans (hb3.mono HB.out.size)).setCell (p := ⟨w.heap.size, i, none⟩) (Nat.le_refl _) (.slice d (memL P[i]).length cd))
      have HR4 := hid (hR3.set i (.slice d (memL P[i]).length cd))
      have HSV4 : Hid (Slv (vs.set i (.slice d (memL P[i]).length cd))) := fun x hx => by
        rcases List.mem_or_eq_of_mem_set hx with h | h
        · exact HSV.out x h
        · exact ⟨_, _, _, h⟩
      have HSF4 : Hid (SoFar (w3.setCell ⟨w.heap.size, i, none⟩ (.slice d (memL P[i]).length cd)) P (vs.set i (.slice d (memL P[i]).length cd)) (i + 1)) := by
        refine ⟨by rw [List.length_set]; exact hlv, fun j hj hji => ?_⟩
        by_cases e : j = i
        · subst e
          exact ⟨d, cd, by rw [List.getElem?_set_self (by omega)], IntS.off hI (ints_ne hI hR3 HSV.out)⟩
        · obtain ⟨d', cd', h1, h2⟩ := hSF3.2 j hj (by omega)
          exact ⟨d', cd', by rw [List.getElem?_set_ne (fun e' => e e'.symm)]; exact h1, IntS.off h2 (ints_ne h2 hR3 HSV.out)⟩
      rw [show iL (memU P[i] 8) = memL P[i] from rfl]
      generalize (memL P[i]).length = ln at *
      generalize vs[i]'(by omega) = z at *
      clear hR3 hSF3 hb3 hI hv c1
      go_wp2
      go_roundw
      case rel => exact ⟨i + 1, _, by omega, by go_num, HR4, HSF4, HSV4, HBS⟩
      case measure => simp [intOf]; omega
    · obtain rfl : i = P.length := by omega
      have HFI : Hid (LsS wr (some ⟨w.heap.size, 0, none⟩) (P.map memL)) := fun k hk => by
        rw [List.length_map] at hk
        obtain ⟨d, cd, h1, h2⟩ := HSF.out.2 k hk hk
        obtain ⟨h3, h4⟩ := List.getElem?_eq_some_iff.1 h1
        refine ⟨w.heap.size, 0, d, cd, rfl, HR.out.lt, ?_, by rw [List.getElem_map]; exact h2⟩
        rw [Nat.zero_add, HR.out.cell k h3, h4, List.getElem_map]
      go_wp2
      go_ret
      exact ⟨w.heap.size, rfl, Nat.le_refl _, HFI.out, HB.out⟩
end Go.Proofs.Ythcfgoknphpkdaa


/- Package graph: fill. -/
namespace Go.Proofs.Ythcfgoknphpkdaa
open Go.RowKit Go.Shelf

/-- A list of sets in memory of its own. -/
def RwU (w : World) (B : Nat) (v : Value) (l : List Nat) : Prop := w.ownsRow B 46 1 v l.length (l.map uv)
theorem RwU.own {w : World} {B : Nat} {v : Value} {l : List Nat} (h : RwU w B v l) : ∀ k, v.ownBlock = some k → B ≤ k := by
  intro k hk
  rcases h.2 with ⟨rfl, _⟩ | ⟨g, cap, cur, rfl, h2, _⟩
  · cases hk
  · cases hk
    exact h2
theorem RwU.slv {w : World} {B : Nat} {v : Value} {l : List Nat} (h : RwU w B v l) : ∃ d n c, v = .slice d n c := by
  rcases h.2 with ⟨rfl, _⟩ | ⟨g, cap, cur, rfl, h2, _⟩
  · exact ⟨_, _, _, rfl⟩
  · exact ⟨_, _, _, rfl⟩
theorem own_types {W : World} {B1 B2 : Nat} {e1 e2 : TypeId} {v1 v2 : Value} {n1 n2 : Nat} {x1 x2 : List Value} (h1 : W.ownsRow B1 e1 1 v1 n1 x1) (h2 : W.ownsRow B2 e2 1 v2 n2 x2) (he : e1 ≠ e2) : v2.ownBlock = none ∨ v2.ownBlock ≠ v1.ownBlock := by
  rcases h2.2 with ⟨rfl, _⟩ | ⟨g, cap, cur, rfl, _, hg, _⟩
  · exact .inl rfl
  · refine .inr fun e => ?_
    rcases h1.2 with ⟨rfl, _⟩ | ⟨g', cap', cur', rfl, _, hg', _⟩
    · cases e
    · have e' : g = g' := Option.some.inj e
      subst e'
      rw [hg] at hg'
      injection hg' with h3
      injection h3 with _ h4 _
      exact he h4.symm
theorem own_not {W : World} {B G : Nat} {e : TypeId} {v : Value} {n : Nat} {x : List Value} (h : W.ownsRow B e 1 v n x) (hG : G < B) : v.ownBlock = none ∨ v.ownBlock ≠ some G := by
  rcases h.2 with ⟨rfl, _⟩ | ⟨g, cap, cur, rfl, hB, _⟩
  · exact .inl rfl
  · exact .inr fun e => by
      have e' : g = G := Option.some.inj e
      omega
theorem grown_more {w V V' : World} {G : Nat} {row : Option Nat} (h : w.grownBy V (some G)) (hg : V.grownBy V' row) (hr : ∀ r, row = some r → w.heap.size ≤ r) : w.grownBy V' (some G) :=
  ⟨hg.os.trans h.os, hg.tape.trans h.tape, hg.output.trans h.output, Nat.le_trans h.size hg.size, fun k hk hne => (hg.block k (Nat.lt_of_lt_of_le hk h.size) (fun e => by
    have := hr k e.symm
    omega)).trans (h.block k hk hne)⟩
theorem Try.infoSet2 : (Try.prog.info? 46).map (fun i => (i.zero, i.size, i.bytes)) = some (some (.int .u32 0), 1, 4) := by kernel_rfl
theorem wp_append_set {w : World} {o : Oper} {a : Act} {K : Act → World → Prop} {Q : Exit → Act → World → Prop} (s x : Operand)
    (ho : o.op = .call { callee := .builtin .append, args := #[s, x], argTypes := #[40, 40] }) (base : Nat) (v : Value) (l : List Nat) (f : Nat) (hs : a.eval s = v) (hown : RwU w base v l) (g : Nat) (hx : a.eval x = .slice (some ⟨g, 0, none⟩) 1 1) (hg : w.cell? ⟨g, 0, none⟩ = some (uv f)) (hlen : l.length + 1 ≤ 100000) (hbase : base ≤ w.heap.size)
    (h : ∀ v' w', RwU w' base v' (l ++ [f]) → w.grownBy w' v.ownBlock → K (a.put o.dst v') w') : o.wp Try.prog a w K Q := by
  obtain ⟨i0, hi0, hz0, hz1, hz2⟩ := info_parts Try.infoSet2
  refine wp_append_own _ s x 40 ho base 46 i0 (.int .u32 0) 1 4 Try.underlying40 hi0 hz0 hz1 hz2 rfl (by decide) v l.length _ hs hown ⟨g, 0, none⟩ 1 1 [uv f] hx rfl ?_ ?_ (by unfold maxLen; omega) (by omega) hbase ?_
  · intro j u hj
    match j, hj with
    | 0, hj => cases hj; exact hg
    | j + 1, hj => simp at hj
  · intro u hu
    simp only [List.mem_cons, List.not_mem_nil, or_false] at hu
    subst hu; rfl
  · intro v' w' h1 h2 _
    refine h v' w' ?_ h2
    rw [RwU, List.length_append, List.map_append]
    exact h1
theorem wp_append_int {w : World} {o : Oper} {a : Act} {K : Act → World → Prop} {Q : Exit → Act → World → Prop} (s x : Operand)
    (ho : o.op = .call { callee := .builtin .append, args := #[s, x], argTypes := #[23, 23] }) (base : Nat) (v : Value) (l : List Int) (f : Int) (hs : a.eval s = v) (hown : RwI w base v l) (g : Nat) (hx : a.eval x = .slice (some ⟨g, 0, none⟩) 1 1) (hg : w.cell? ⟨g, 0, none⟩ = some (.int .i64 f)) (hlen : l.length + 1 ≤ 100000) (hbase : base ≤ w.heap.size)
    (h : ∀ v' w', RwI w' base v' (l ++ [f]) → w.grownBy w' v.ownBlock → K (a.put o.dst v') w') : o.wp Try.prog a w K Q := by
  obtain ⟨i0, hi0, hz0, hz1, hz2⟩ := info_parts Try.infoInt
  refine wp_append_own _ s x 23 ho base 3 i0 (.int .i64 0) 1 8 Try.underlying23 hi0 hz0 hz1 hz2 rfl (by decide) v l.length _ hs hown ⟨g, 0, none⟩ 1 1 [.int .i64 f] hx rfl ?_ ?_ (by unfold maxLen; omega) (by omega) hbase ?_
  · intro j u hj
    match j, hj with
    | 0, hj => cases hj; exact hg
    | j + 1, hj => simp at hj
  · intro u hu
    simp only [List.mem_cons, List.not_mem_nil, or_false] at hu
    subst hu; rfl
  · intro v' w' h1 h2 _
    refine h v' w' ?_ h2
    rw [RwI, List.length_append, List.map_append]
    exact h1
/-- All nodes below i. -/
def upL : Nat → List Nat
  | 0 => []
  | i + 1 => i :: upL i
theorem upL_mem {i x : Nat} : x ∈ upL i ↔ x < i := by
  induction i with
  | zero => simp [upL]
  | succ i ih => rw [upL, List.mem_cons, ih]; omega
/-- Nodes are taken out, one after the other: their order, their bags, what is left, the neighbours. -/
structure FlS where
  ord : List Nat
  bag : List (List Nat)
  lft : List Nat
  nei : List (List Nat)
def flS (P : List (List Nat)) (n : Nat) : Nat → FlS
  | 0 => ⟨[], [], upL n, P⟩
  | k + 1 => ⟨(flS P n k).ord ++ [fewV (flS P n k).nei (flS P n k).lft], (flS P n k).bag ++ [fewV (flS P n k).nei (flS P n k).lft :: (flS P n k).nei.getD (fewV (flS P n k).nei (flS P n k).lft) []], (flS P n k).lft.filter (fun u => decide (u ≠ fewV (flS P n k).nei (flS P n k).lft)), takeL (flS P n k).nei (fewV (flS P n k).nei (flS P n k).lft)⟩
/-- Neighbours that may be. -/
structure Nbr (n : Nat) (P : List (List Nat)) : Prop where
  len : P.length = n
  lt : ∀ p ∈ P, ∀ u ∈ p, u < n
  self : ∀ u, ¬ u ∈ P.getD u []
theorem Nbr.at {n : Nat} {P : List (List Nat)} (h : Nbr n P) (v : Nat) : ∀ u ∈ P.getD v [], u < n := by
  by_cases hv : v < P.length
  · rw [List.getD_eq_getElem?_getD, List.getElem?_eq_getElem hv]; exact h.lt _ (List.getElem_mem hv)
  · rw [List.getD_eq_getElem?_getD, List.getElem?_eq_none (by omega)]; intro u hu; simp at hu
theorem newN_mem {P : List (List Nat)} {v u x : Nat} : x ∈ newN P v u ↔ (x ∈ P.getD u [] ∨ x ∈ P.getD v []) ∧ x ≠ u ∧ x ≠ v := by
  simp only [newN, List.mem_filter, List.mem_append, decide_eq_true_eq]
  exact ⟨fun ⟨⟨a, b⟩, c⟩ => ⟨a, b, c⟩, fun ⟨a, b, c⟩ => ⟨⟨a, b⟩, c⟩⟩
theorem Nbr.take {n : Nat} {P : List (List Nat)} (h : Nbr n P) (v : Nat) : Nbr n (takeL P v) := by
  refine ⟨by rw [takeL, tkS_length]; exact h.len, fun p hp u hu => ?_, fun u hu => ?_⟩
  · obtain ⟨i, hi, rfl⟩ := List.mem_map.1 hp
    by_cases hc : i < 8 ∧ i ∈ P.getD v []
    · rw [if_pos hc, newN_mem] at hu
      exact hu.1.elim (h.at i u) (h.at v u)
    · rw [if_neg hc] at hu
      exact h.at i u hu
  · by_cases hl : u < P.length
    · have e : (takeL P v).getD u [] = if u < 8 ∧ u ∈ P.getD v [] then newN P v u else P.getD u [] := by
        rw [List.getD_eq_getElem?_getD, List.getElem?_eq_getElem (by rw [takeL, tkS_length]; exact hl)]
        simp [takeL, tkS]
      rw [e] at hu
      by_cases hc : u < 8 ∧ u ∈ P.getD v []
      · rw [if_pos hc, newN_mem] at hu
        exact hu.2.1 rfl
      · rw [if_neg hc] at hu
        exact h.self u hu
    · rw [List.getD_eq_getElem?_getD, List.getElem?_eq_none (by rw [takeL, tkS_length]; omega)] at hu
      simp at hu
theorem fwN_in {f : Nat → Nat} {s : List Nat} : ∀ {k b m : Nat}, fwN f s k = some (b, m) → b ∈ s
  | 0, _, _, h => by cases h
  | k + 1, b, m, h => by
    by_cases hk : k ∈ s
    · rw [fwN, if_pos hk] at h
      cases hf : fwN f s k with
      | none => rw [hf] at h; cases h; exact hk
      | some x =>
        obtain ⟨b', m'⟩ := x
        rw [hf] at h
        simp only at h
        by_cases hl : f k < m'
        · rw [if_pos hl] at h; cases h; exact hk
        · rw [if_neg hl] at h; cases h; exact fwN_in hf
    · rw [fwN, if_neg hk] at h
      exact fwN_in h
theorem fewV_lt {n : Nat} {P : List (List Nat)} {s : List Nat} (h1 : 1 ≤ n) (hs : ∀ u ∈ s, u < n) : fewV P s < n := by
  rw [fewV]
  cases h : fwN (lackN P) s 8 with
  | none => exact h1
  | some x =>
    obtain ⟨b, m⟩ := x
    exact hs b (fwN_in h)
theorem flS_ok {n : Nat} {P : List (List Nat)} (h : Nbr n P) : ∀ k, Nbr n (flS P n k).nei ∧ (∀ u ∈ (flS P n k).lft, u < n) ∧ (flS P n k).ord.length = k ∧ (flS P n k).bag.length = k
  | 0 => ⟨h, fun u hu => upL_mem.1 hu, rfl, rfl⟩
  | k + 1 => by
    obtain ⟨h1, h2, h3, h4⟩ := flS_ok h k
    exact ⟨h1.take _, fun u hu => h2 u (List.mem_filter.1 hu).1, by simp [flS, h3], by simp [flS, h4]⟩
/-- What fill holds: the neighbours' row, nodes, bags. -/
structure FX (w wr : World) (G : Nat) (nv bv : Value) (o : List Int) (b Q : List Nat) : Prop where
  row : RowU wr G Q
  grow : w.grownBy wr (some G)
  nd : RwI wr w.heap.size nv o
  bg : RwU wr w.heap.size bv b
theorem FX.below {w wr wr' : World} {G : Nat} {nv bv : Value} {o : List Int} {b Q : List Nat} (h : FX w wr G nv bv o b Q) (hb : Below wr.heap.size wr wr') : FX w wr' G nv bv o b Q :=
  ⟨h.row.below hb h.row.lt, grown_more h.grow (row := none) ⟨hb.os, hb.tape, hb.output, hb.size, fun k hk _ => hb.block k hk⟩ (fun r e => by cases e), h.nd.under hb, own_below h.bg hb (Nat.le_refl _)⟩
theorem FX.nodes {w wr w9 : World} {G : Nat} {nv bv v' : Value} {o o' : List Int} {b Q : List Nat} (h : FX w wr G nv bv o b Q) (hG : G < w.heap.size) (hr : RwI w9 w.heap.size v' o') (hg : wr.grownBy w9 nv.ownBlock) : FX w w9 G v' bv o' b Q :=
  ⟨(hg.block G h.row.lt (fun e => by have := h.nd.own G e.symm; omega)).trans h.row, grown_more h.grow hg (fun r e => h.nd.own r e), hr, World.ownsRow.kept h.bg hg (own_types h.nd h.bg (by decide))⟩
theorem FX.bags {w wr w9 : World} {G : Nat} {nv bv v' : Value} {o : List Int} {b b' Q : List Nat} (h : FX w wr G nv bv o b Q) (hG : G < w.heap.size) (hr : RwU w9 w.heap.size v' b') (hg : wr.grownBy w9 bv.ownBlock) : FX w w9 G nv v' o b' Q :=
  ⟨(hg.block G h.row.lt (fun e => by have := h.bg.own G e.symm; omega)).trans h.row, grown_more h.grow hg (fun r e => h.bg.own r e), World.ownsRow.kept h.nd hg (own_types h.bg h.nd (by decide)), hr⟩
theorem FX.out {w wr w9 : World} {G : Nat} {nv bv : Value} {o : List Int} {b Q Q' : List Nat} (h : FX w wr G nv bv o b Q) (hG : G < w.heap.size) (hr : RowU w9 G Q') (hg : wr.grownBy w9 (some G)) : FX w w9 G nv bv o b Q' :=
  ⟨hr, grown_trans h.grow hg, World.ownsRow.kept h.nd hg (own_not h.nd hG), World.ownsRow.kept h.bg hg (own_not h.bg hG)⟩
theorem FX.drew {w wr : World} {G : Nat} {nv bv : Value} {o : List Int} {b Q : List Nat} (h : FX w wr G nv bv o b Q) : FX w wr.drew G nv bv o b Q := ⟨h.row, grown_drew1 h.grow, h.nd, h.bg⟩

end Go.Proofs.Ythcfgoknphpkdaa


/- Marks of finished ranges over functions: a function that held many leaves. -/
namespace Go.Proofs.Ythcfgoknphpkdaa
open Go.RowKit Go.Shelf

/-- Marks of finished ranges over functions, the youngest first: their blocks lie from lo on and below B, fall, and hold no call. -/
def Shut (lo : Nat) : Nat → List Deferred → World → Prop
  | _, [], _ => True
  | B, d :: ds, W => ∃ r, lo ≤ r ∧ r < B ∧ d = { target := .collected r, args := #[] } ∧ W.heap[r]? = some (.deferred (some [])) ∧ Shut lo r ds W
theorem Shut.mono {lo : Nat} {B B' : Nat} {ds : List Deferred} {W : World} (h : Shut lo B ds W) (hb : B ≤ B') : Shut lo B' ds W := by
  cases ds with
  | nil => trivial
  | cons d ds =>
    obtain ⟨r, h1, h2, h3⟩ := h
    exact ⟨r, h1, by omega, h3⟩
theorem Shut.keep {lo : Nat} : ∀ {ds : List Deferred} {B : Nat} {W W' : World}, Shut lo B ds W → (∀ r, r < B → W'.heap[r]? = W.heap[r]?) → Shut lo B ds W'
  | [], _, _, _, _, _ => trivial
  | d :: ds, B, W, W', h, hk => by
    obtain ⟨r, h1, h2, h3, h4, h5⟩ := h
    exact ⟨r, h1, h2, h3, (hk r h2).trans h4, h5.keep fun k hlt => hk k (by omega)⟩
theorem Shut.below {lo B : Nat} {ds : List Deferred} {W W' : World} (h : Shut lo B ds W) (hb : Below B W W') : Shut lo B ds W' := h.keep fun r hr => hb.block r hr
theorem leaves_shut {F : Fence} {n : Nat} {P : Program} {fn : Func} {tmps : Array Value} {R : Ending → World → Prop} {lo : Nat} {K : World → Prop}
    (hK : ∀ W r, K W → lo ≤ r → W.heap[r]? = some (.deferred (some [])) → K (W.putObj r (.deferred none))) (hend : ∀ W, K W → LeavesInM F n P fn tmps R [] .returning W) :
    ∀ (ds : List Deferred) (B : Nat) (W : World), Shut lo B ds W → K W → LeavesInM F n P fn tmps R ds .returning W
  | [], _, W, _, hW => hend W hW
  | d :: ds, B, W, h, hW => by
    obtain ⟨r, h1, h2, rfl, h4, h5⟩ := h
    refine ⟨by simp, .inl ⟨r, _, rfl, run_takeDeferred h4, leaves_shut hK hend ds r _ ?_ (hK W r hW h1 h4)⟩⟩
    exact h5.keep fun k hk => World.putObj_heap_other (by omega)
end Go.Proofs.Ythcfgoknphpkdaa

