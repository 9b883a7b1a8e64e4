/- Package graph: fill. -/
import Derived.Test.YtockhhleapbpiaaFewAToListB
namespace Go.Proofs.Ytockhhleapbpiaa
open Go.RowKit Go.Shelf

/-- A list of sets in memory of its own. -/
def RwU (w : World) (B : Nat) (v : Value) (l : List Nat) : Prop := w.ownsRow B 57 1 v l.length (l.map uv)
theorem RwU.own {w : World} {B : Nat} {v : Value} {l : List Nat} (h : RwU w B v l) : ∀ k, v.ownBlock = some k → B ≤ k := by
  intro k hk
  rcases h.2 with ⟨rfl, _⟩ | ⟨g, cap, cur, rfl, h2, _⟩
  · cases hk
  · cases hk
    exact h2
theorem RwU.slv {w : World} {B : Nat} {v : Value} {l : List Nat} (h : RwU w B v l) : ∃ d n c, v = .slice d n c := by
  rcases h.2 with ⟨rfl, _⟩ | ⟨g, cap, cur, rfl, h2, _⟩
  · exact ⟨_, _, _, rfl⟩
  · exact ⟨_, _, _, rfl⟩
theorem own_types {W : World} {B1 B2 : Nat} {e1 e2 : TypeId} {v1 v2 : Value} {n1 n2 : Nat} {x1 x2 : List Value} (h1 : W.ownsRow B1 e1 1 v1 n1 x1) (h2 : W.ownsRow B2 e2 1 v2 n2 x2) (he : e1 ≠ e2) : v2.ownBlock = none ∨ v2.ownBlock ≠ v1.ownBlock := by
  rcases h2.2 with ⟨rfl, _⟩ | ⟨g, cap, cur, rfl, _, hg, _⟩
  · exact .inl rfl
  · refine .inr fun e => ?_
    rcases h1.2 with ⟨rfl, _⟩ | ⟨g', cap', cur', rfl, _, hg', _⟩
    · cases e
    · have e' : g = g' := Option.some.inj e
      subst e'
      rw [hg] at hg'
      injection hg' with h3
      injection h3 with _ h4 _
      exact he h4.symm
theorem own_not {W : World} {B G : Nat} {e : TypeId} {v : Value} {n : Nat} {x : List Value} (h : W.ownsRow B e 1 v n x) (hG : G < B) : v.ownBlock = none ∨ v.ownBlock ≠ some G := by
  rcases h.2 with ⟨rfl, _⟩ | ⟨g, cap, cur, rfl, hB, _⟩
  · exact .inl rfl
  · exact .inr fun e => by
      have e' : g = G := Option.some.inj e
      omega
theorem grown_more {w V V' : World} {G : Nat} {row : Option Nat} (h : w.grownBy V (some G)) (hg : V.grownBy V' row) (hr : ∀ r, row = some r → w.heap.size ≤ r) : w.grownBy V' (some G) :=
  ⟨hg.os.trans h.os, hg.tape.trans h.tape, hg.output.trans h.output, Nat.le_trans h.size hg.size, fun k hk hne => (hg.block k (Nat.lt_of_lt_of_le hk h.size) (fun e => by
    have := hr k e.symm
    omega)).trans (h.block k hk hne)⟩
theorem Try.infoSet2 : (Try.prog.info? 57).map (fun i => (i.zero, i.size, i.bytes)) = some (some (.int .u32 0), 1, 4) := by kernel_rfl
theorem wp_append_set {w : World} {o : Oper} {a : Act} {K : Act → World → Prop} {Q : Exit → Act → World → Prop} (s x : Operand)
    (ho : o.op = .call { callee := .builtin .append, args := #[s, x], argTypes := #[52, 52] }) (base : Nat) (v : Value) (l : List Nat) (f : Nat) (hs : a.eval s = v) (hown : RwU w base v l) (g : Nat) (hx : a.eval x = .slice (some ⟨g, 0, none⟩) 1 1) (hg : w.cell? ⟨g, 0, none⟩ = some (uv f)) (hlen : l.length + 1 ≤ 100000) (hbase : base ≤ w.heap.size)
    (h : ∀ v' w', RwU w' base v' (l ++ [f]) → w.grownBy w' v.ownBlock → K (a.put o.dst v') w') : o.wp Try.prog a w K Q := by
  obtain ⟨i0, hi0, hz0, hz1, hz2⟩ := info_parts Try.infoSet2
  refine wp_append_own _ s x 52 ho base 57 i0 (.int .u32 0) 1 4 Try.underlying52 hi0 hz0 hz1 hz2 rfl (by decide) v l.length _ hs hown ⟨g, 0, none⟩ 1 1 [uv f] hx rfl ?_ ?_ (by unfold maxLen; omega) (by omega) hbase ?_
  · intro j u hj
    match j, hj with
    | 0, hj => cases hj; exact hg
    | j + 1, hj => simp at hj
  · intro u hu
    simp only [List.mem_cons, List.not_mem_nil, or_false] at hu
    subst hu; rfl
  · intro v' w' h1 h2 _
    refine h v' w' ?_ h2
    rw [RwU, List.length_append, List.map_append]
    exact h1
theorem wp_append_int {w : World} {o : Oper} {a : Act} {K : Act → World → Prop} {Q : Exit → Act → World → Prop} (s x : Operand)
    (ho : o.op = .call { callee := .builtin .append, args := #[s, x], argTypes := #[23, 23] }) (base : Nat) (v : Value) (l : List Int) (f : Int) (hs : a.eval s = v) (hown : RwI w base v l) (g : Nat) (hx : a.eval x = .slice (some ⟨g, 0, none⟩) 1 1) (hg : w.cell? ⟨g, 0, none⟩ = some (.int .i64 f)) (hlen : l.length + 1 ≤ 100000) (hbase : base ≤ w.heap.size)
    (h : ∀ v' w', RwI w' base v' (l ++ [f]) → w.grownBy w' v.ownBlock → K (a.put o.dst v') w') : o.wp Try.prog a w K Q := by
  obtain ⟨i0, hi0, hz0, hz1, hz2⟩ := info_parts Try.infoInt
  refine wp_append_own _ s x 23 ho base 3 i0 (.int .i64 0) 1 8 Try.underlying23 hi0 hz0 hz1 hz2 rfl (by decide) v l.length _ hs hown ⟨g, 0, none⟩ 1 1 [.int .i64 f] hx rfl ?_ ?_ (by unfold maxLen; omega) (by omega) hbase ?_
  · intro j u hj
    match j, hj with
    | 0, hj => cases hj; exact hg
    | j + 1, hj => simp at hj
  · intro u hu
    simp only [List.mem_cons, List.not_mem_nil, or_false] at hu
    subst hu; rfl
  · intro v' w' h1 h2 _
    refine h v' w' ?_ h2
    rw [RwI, List.length_append, List.map_append]
    exact h1
/-- All nodes below i. -/
def upL : Nat → List Nat
  | 0 => []
  | i + 1 => i :: upL i
theorem upL_mem {i x : Nat} : x ∈ upL i ↔ x < i := by
  induction i with
  | zero => simp [upL]
  | succ i ih => rw [upL, List.mem_cons, ih]; omega
/-- Nodes are taken out, one after the other: their order, their bags, what is left, the neighbours. -/
structure FlS where
  ord : List Nat
  bag : List (List Nat)
  lft : List Nat
  nei : List (List Nat)
def flS (P : List (List Nat)) (n : Nat) : Nat → FlS
  | 0 => ⟨[], [], upL n, P⟩
  | k + 1 => ⟨(flS P n k).ord ++ [fewV (flS P n k).nei (flS P n k).lft], (flS P n k).bag ++ [fewV (flS P n k).nei (flS P n k).lft :: (flS P n k).nei.getD (fewV (flS P n k).nei (flS P n k).lft) []], (flS P n k).lft.filter (fun u => decide (u ≠ fewV (flS P n k).nei (flS P n k).lft)), takeL (flS P n k).nei (fewV (flS P n k).nei (flS P n k).lft)⟩
/-- Neighbours that may be. -/
structure Nbr (n : Nat) (P : List (List Nat)) : Prop where
  len : P.length = n
  lt : ∀ p ∈ P, ∀ u ∈ p, u < n
  self : ∀ u, ¬ u ∈ P.getD u []
theorem Nbr.at {n : Nat} {P : List (List Nat)} (h : Nbr n P) (v : Nat) : ∀ u ∈ P.getD v [], u < n := by
  by_cases hv : v < P.length
  · rw [List.getD_eq_getElem?_getD, List.getElem?_eq_getElem hv]; exact h.lt _ (List.getElem_mem hv)
  · rw [List.getD_eq_getElem?_getD, List.getElem?_eq_none (by omega)]; intro u hu; simp at hu
theorem newN_mem {P : List (List Nat)} {v u x : Nat} : x ∈ newN P v u ↔ (x ∈ P.getD u [] ∨ x ∈ P.getD v []) ∧ x ≠ u ∧ x ≠ v := by
  simp only [newN, List.mem_filter, List.mem_append, decide_eq_true_eq]
  exact ⟨fun ⟨⟨a, b⟩, c⟩ => ⟨a, b, c⟩, fun ⟨a, b, c⟩ => ⟨⟨a, b⟩, c⟩⟩
theorem Nbr.take {n : Nat} {P : List (List Nat)} (h : Nbr n P) (v : Nat) : Nbr n (takeL P v) := by
  refine ⟨by rw [takeL, tkS_length]; exact h.len, fun p hp u hu => ?_, fun u hu => ?_⟩
  · obtain ⟨i, hi, rfl⟩ := List.mem_map.1 hp
    by_cases hc : i < 8 ∧ i ∈ P.getD v []
    · rw [if_pos hc, newN_mem] at hu
      exact hu.1.elim (h.at i u) (h.at v u)
    · rw [if_neg hc] at hu
      exact h.at i u hu
  · by_cases hl : u < P.length
    · have e : (takeL P v).getD u [] = if u < 8 ∧ u ∈ P.getD v [] then newN P v u else P.getD u [] := by
        rw [List.getD_eq_getElem?_getD, List.getElem?_eq_getElem (by rw [takeL, tkS_length]; exact hl)]
        simp [takeL, tkS]
      rw [e] at hu
      by_cases hc : u < 8 ∧ u ∈ P.getD v []
      · rw [if_pos hc, newN_mem] at hu
        exact hu.2.1 rfl
      · rw [if_neg hc] at hu
        exact h.self u hu
    · rw [List.getD_eq_getElem?_getD, List.getElem?_eq_none (by rw [takeL, tkS_length]; omega)] at hu
      simp at hu
theorem fwN_in {f : Nat → Nat} {s : List Nat} : ∀ {k b m : Nat}, fwN f s k = some (b, m) → b ∈ s
  | 0, _, _, h => by cases h
  | k + 1, b, m, h => by
    by_cases hk : k ∈ s
    · rw [fwN, if_pos hk] at h
      cases hf : fwN f s k with
      | none => rw [hf] at h; cases h; exact hk
      | some x =>
        obtain ⟨b', m'⟩ := x
        rw [hf] at h
        simp only at h
        by_cases hl : f k < m'
        · rw [if_pos hl] at h; cases h; exact hk
        · rw [if_neg hl] at h; cases h; exact fwN_in hf
    · rw [fwN, if_neg hk] at h
      exact fwN_in h
theorem fewV_lt {n : Nat} {P : List (List Nat)} {s : List Nat} (h1 : 1 ≤ n) (hs : ∀ u ∈ s, u < n) : fewV P s < n := by
  rw [fewV]
  cases h : fwN (lackN P) s 8 with
  | none => exact h1
  | some x =>
    obtain ⟨b, m⟩ := x
    exact hs b (fwN_in h)
theorem flS_ok {n : Nat} {P : List (List Nat)} (h : Nbr n P) : ∀ k, Nbr n (flS P n k).nei ∧ (∀ u ∈ (flS P n k).lft, u < n) ∧ (flS P n k).ord.length = k ∧ (flS P n k).bag.length = k
  | 0 => ⟨h, fun u hu => upL_mem.1 hu, rfl, rfl⟩
  | k + 1 => by
    obtain ⟨h1, h2, h3, h4⟩ := flS_ok h k
    exact ⟨h1.take _, fun u hu => h2 u (List.mem_filter.1 hu).1, by simp [flS, h3], by simp [flS, h4]⟩
/-- What fill holds: the neighbours' row, nodes, bags. -/
structure FXg (w wr : World) (G : Nat) (nv bv : Value) (o : List Int) (b Q : List Nat) : Prop where
  row : RowU wr G Q
  grow : w.grownBy wr (some G)
  nd : RwI wr w.heap.size nv o
  bg : RwU wr w.heap.size bv b
theorem FXg.below {w wr wr' : World} {G : Nat} {nv bv : Value} {o : List Int} {b Q : List Nat} (h : FXg w wr G nv bv o b Q) (hb : Below wr.heap.size wr wr') : FXg w wr' G nv bv o b Q :=
  ⟨h.row.below hb h.row.lt, grown_more h.grow (row := none) ⟨hb.os, hb.tape, hb.output, hb.size, fun k hk _ => hb.block k hk⟩ (fun r e => by cases e), h.nd.under hb, own_below h.bg hb (Nat.le_refl _)⟩
theorem FXg.nodes {w wr w9 : World} {G : Nat} {nv bv v' : Value} {o o' : List Int} {b Q : List Nat} (h : FXg w wr G nv bv o b Q) (hG : G < w.heap.size) (hr : RwI w9 w.heap.size v' o') (hg : wr.grownBy w9 nv.ownBlock) : FXg w w9 G v' bv o' b Q :=
  ⟨(hg.block G h.row.lt (fun e => by have := h.nd.own G e.symm; omega)).trans h.row, grown_more h.grow hg (fun r e => h.nd.own r e), hr, World.ownsRow.kept h.bg hg (own_types h.nd h.bg (by decide))⟩
theorem FXg.bags {w wr w9 : World} {G : Nat} {nv bv v' : Value} {o : List Int} {b b' Q : List Nat} (h : FXg w wr G nv bv o b Q) (hG : G < w.heap.size) (hr : RwU w9 w.heap.size v' b') (hg : wr.grownBy w9 bv.ownBlock) : FXg w w9 G nv v' o b' Q :=
  ⟨(hg.block G h.row.lt (fun e => by have := h.bg.own G e.symm; omega)).trans h.row, grown_more h.grow hg (fun r e => h.bg.own r e), World.ownsRow.kept h.nd hg (own_types h.bg h.nd (by decide)), hr⟩
theorem FXg.out {w wr w9 : World} {G : Nat} {nv bv : Value} {o : List Int} {b Q Q' : List Nat} (h : FXg w wr G nv bv o b Q) (hG : G < w.heap.size) (hr : RowU w9 G Q') (hg : wr.grownBy w9 (some G)) : FXg w w9 G nv bv o b Q' :=
  ⟨hr, grown_trans h.grow hg, World.ownsRow.kept h.nd hg (own_not h.nd hG), World.ownsRow.kept h.bg hg (own_not h.bg hG)⟩
theorem FXg.drew {w wr : World} {G : Nat} {nv bv : Value} {o : List Int} {b Q : List Nat} (h : FXg w wr G nv bv o b Q) : FXg w wr.drew G nv bv o b Q := ⟨h.row, grown_drew1 h.grow, h.nd, h.bg⟩

set_option maxRecDepth 100000 in
set_option maxHeartbeats 4000000 in
theorem gfill_any (G n c : Nat) (P : List (List Nat)) (w : World) (h1 : 1 ≤ n) (h8 : n ≤ 8) (hU : RowU w G (P.map mskN)) (hP : Nbr n P) :
    Calls Try.prog 51 #[.slice (some ⟨G, 0, none⟩) n c] w fun e w' => ∃ nv bv, e = .returned (.tuple #[nv, bv]) ∧ FXg w w' G nv bv (iL (flS P n n).ord) ((flS P n n).bag.map mskN) ((flS P n n).nei.map mskN) := by
  have hG := hU.lt
  have HOK := hid (fun k => flS_ok hP k)
  have HX0 : Hid (FXg w w G (.slice none 0 0) (.slice none 0 0) (iL (flS P n 0).ord) ((flS P n 0).bag.map mskN) ((flS P n 0).nei.map mskN)) := ⟨hU, ⟨rfl, rfl, rfl, Nat.le_refl _, fun _ _ _ => rfl⟩, ⟨rfl, .inl ⟨rfl, rfl⟩⟩, ⟨rfl, .inl ⟨rfl, rfl⟩⟩⟩
  have HWI := hid (fun (i : Nat) (hi : i < 8) (U : World) => sWith_any (upL i) i U (fun u hu => by have := upL_mem.1 hu; omega) hi)
  have HUL : Hid (∀ i, mskN (i :: upL i) = mskN (upL (i + 1))) := fun i => rfl
  have HSUC : Hid (∀ k, flS P n (k + 1) = ⟨(flS P n k).ord ++ [fewV (flS P n k).nei (flS P n k).lft], (flS P n k).bag ++ [fewV (flS P n k).nei (flS P n k).lft :: (flS P n k).nei.getD (fewV (flS P n k).nei (flS P n k).lft) []], (flS P n k).lft.filter (fun u => decide (u ≠ fewV (flS P n k).nei (flS P n k).lft)), takeL (flS P n k).nei (fewV (flS P n k).nei (flS P n k).lft)⟩) := fun k => rfl
  have HL0 : Hid ((flS P n 0).lft = upL n) := rfl
  generalize flS P n = fl at *
  clear hU hP
  go_enter Try.func51, Try.ntmps51
  go_wp2_with fail
  go_loopw [4, 9] (fun sv iv wr => ∃ i : Nat, i ≤ n ∧ sv = .int .u32 (mskN (upL i) : Nat) ∧ iv = .int .i64 i ∧ wr = w) (fun _ iv _ => n - (intOf iv).toNat)
  case atStart => exact ⟨0, Nat.zero_le _, rfl, rfl, rfl⟩
  case round =>
    obtain ⟨i, hi, rfl, rfl, hwr⟩ := hrel
    replace hwr := hwr.symm
    subst hwr
    by_cases hlt : i < n
    · have HWi := hid (HWI.out i (by omega))
      rw [HUL.out i] at HWi
      generalize mskN (upL i) = m0 at *
      go_wp2_with fail
      refine (HWi.out _).mono ?_
      rintro e w1 ⟨rfl, hw1⟩
      subst hw1
      go_wp2
      go_roundw
      case rel => exact ⟨i + 1, by omega, rfl, by go_num, trivial⟩
      case measure => simp [intOf]; omega
    · obtain rfl : i = n := by omega
      rw [← HL0.out]
      clear hi hlt HWI HUL
      go_wp2_with fail
      go_loopw [2, 3, 4, 18] (fun nv bv sv iv wr' => ∃ k : Nat, k ≤ i ∧ iv = .int .i64 k ∧ sv = .int .u32 (mskN (fl k).lft : Nat) ∧ Hid (FXg w wr' G nv bv (iL (fl k).ord) ((fl k).bag.map mskN) ((fl k).nei.map mskN))) (fun _ _ _ iv _ => i - (intOf iv).toNat)
      case atStart => exact ⟨0, Nat.zero_le _, rfl, rfl, HX0⟩
      case round =>
        obtain ⟨k, hk, rfl, rfl, HX⟩ := hrel
        clear HX0
        by_cases hlt : k < i
        · obtain ⟨hNb, hLf, hOl, hBl⟩ := HOK.out k
          have HSk := hid (HSUC.out k)
          obtain ⟨d2, n2, e2, rfl⟩ : ∃ d n c, u2 = Value.slice d n c := by obtain ⟨d, cd, e, -⟩ := HX.out.nd.ints; exact ⟨_, _, _, e⟩
          obtain ⟨d3, n3, e3, rfl⟩ := HX.out.bg.slv
          generalize fl k = S at *
          have hfv := fewV_lt (P := S.nei) h1 hLf
          have HFW := hid (fun (U : World) (hU : RowU U G (S.nei.map mskN)) => fewest_any G i c S.nei S.lft U hNb.len h8 hU hNb.lt hLf)
          have HTO := hid (fun (U : World) (hU : RowU U G (S.nei.map mskN)) => takeOut_any G i c (fewV S.nei S.lft) S.nei U hNb.len h8 hU hNb.lt hfv (hNb.self _))
          have HWT := hid (fun (U : World) => sWith_any (S.nei.getD (fewV S.nei S.lft) []) (fewV S.nei S.lft) U (fun u hu => by have := hNb.at _ u hu; omega) (by omega))
          have HWO := hid (fun (U : World) => sWithout_any S.lft (fewV S.nei S.lft) U (fun u hu => by have := hLf u hu; omega) (by omega))
          have HCL : Hid (∀ U : World, RowU U G (S.nei.map mskN) → U.cell? ⟨G, fewV S.nei S.lft, none⟩ = some (.int .u32 (mskN (S.nei.getD (fewV S.nei S.lft) []) : Nat))) := fun U hR => by
            have hl := hNb.len
            have := hR.cell (fewV S.nei S.lft) (by rw [List.length_map]; omega)
            rwa [mapU_get (by omega)] at this
          generalize hvv : fewV S.nei S.lft = v at *
          clear hvv hNb hLf
          generalize hm4 : mskN (S.lft.filter fun u => decide (u ≠ v)) = m4 at *
          have HM4 := hid hm4
          clear hm4
          go_wp2_with fail
          refine (HFW.out _ HX.out.row).mono ?_
          rintro e w1 ⟨rfl, hb⟩
          have hX1 := HX.out.below hb
          clear hb HX
          have kc := HCL.out _ hX1.row
          have HM1 : Hid (mskN (v :: S.nei.getD v []) = mskN (v :: S.nei.getD v [])) := rfl
          generalize hm1 : mskN (v :: S.nei.getD v []) = m1 at *
          replace HM1 : Hid (mskN (v :: S.nei.getD v []) = m1) := hm1
          clear hm1
          generalize mskN (S.nei.getD v []) = m0 at *
          go_upto_region 10 with fail
          refine wp_region_held_drew (S := fun u => u.cell? ⟨G, v, none⟩ = some (.int .u32 (m0 : Nat))) (by kernel_rfl) kc (fun hSd => ?_)
          have hX2 := hX1.drew
          have hlo : (iL S.ord).length ≤ 8 := by rw [iL_length]; omega
          have hlb : (S.bag.map mskN).length ≤ 8 := by rw [List.length_map]; omega
          clear kc hX1
          generalize w1.drew = U0 at *
          (try simp only [List.getElem_toArray, List.getElem_cons_zero, List.getElem_cons_succ])
          (try simp only [Act.put, List.setIfInBounds_toArray, List.set_cons_zero, List.set_cons_succ])
          refine wpAnyH_take (i := 0) (oi := _) (v := .slice d2 n2 e2) rfl (by kernel_rfl) (by kernel_rfl) (by kernel_rfl) (fun _ _ _ h => h) (Or.inl ⟨by rfl, ?_⟩) (by assumption) ?_
          · intro u' hSu
            (try simp only [List.getElem_toArray, List.getElem_cons_zero])
            go_simp
          (try simp only [List.getElem_toArray, List.getElem_cons_zero])
          (try simp only [Act.put, List.setIfInBounds_toArray, List.set_cons_zero, List.set_cons_succ])
          refine wpAnyH_take (i := 1) (oi := _) (v := .int .i64 (v : Nat)) rfl (by kernel_rfl) (by kernel_rfl) (by kernel_rfl) (fun _ _ _ h => h) (Or.inl ⟨by rfl, ?_⟩) (by assumption) ?_
          · intro u' hSu
            (try simp only [List.getElem_toArray, List.getElem_cons_zero, List.getElem_cons_succ])
            go_simp
          (try simp only [List.getElem_toArray, List.getElem_cons_zero, List.getElem_cons_succ])
          (try simp only [Act.put, List.setIfInBounds_toArray, List.set_cons_zero, List.set_cons_succ])
          refine wpAnyH_take (i := 4) (oi := _) (v := .slice d3 n3 e3) rfl (by kernel_rfl) (by kernel_rfl) (by kernel_rfl) (fun _ _ _ h => h) (Or.inl ⟨by rfl, ?_⟩) (by assumption) ?_
          · intro u' hSu
            (try simp only [List.getElem_toArray, List.getElem_cons_zero, List.getElem_cons_succ])
            go_simp
          (try simp only [List.getElem_toArray, List.getElem_cons_zero, List.getElem_cons_succ])
          (try simp only [Act.put, List.setIfInBounds_toArray, List.set_cons_zero, List.set_cons_succ])
          refine wpAnyH_take (i := 5) (oi := _) (v := .slice (some ⟨G, 0, none⟩) i c) rfl (by kernel_rfl) (by kernel_rfl) (by kernel_rfl) (fun _ _ _ h => h) (Or.inl ⟨by rfl, ?_⟩) (by assumption) ?_
          · intro u' hSu
            (try simp only [List.getElem_toArray, List.getElem_cons_zero, List.getElem_cons_succ])
            go_simp
          (try simp only [List.getElem_toArray, List.getElem_cons_zero, List.getElem_cons_succ])
          (try simp only [Act.put, List.setIfInBounds_toArray, List.set_cons_zero, List.set_cons_succ])
          refine wpAnyH_take (i := 6) (oi := _) (v := .int .i64 (v : Nat)) rfl (by kernel_rfl) (by kernel_rfl) (by kernel_rfl) (fun _ _ _ h => h) (Or.inl ⟨by rfl, ?_⟩) (by assumption) ?_
          · intro u' hSu
            (try simp only [List.getElem_toArray, List.getElem_cons_zero, List.getElem_cons_succ])
            go_simp
          (try simp only [List.getElem_toArray, List.getElem_cons_zero, List.getElem_cons_succ])
          (try simp only [Act.put, List.setIfInBounds_toArray, List.set_cons_zero, List.set_cons_succ])
          refine wpAnyH_take (i := 7) (oi := _) (v := .pointer (some ⟨G, v, none⟩)) rfl (by kernel_rfl) (by kernel_rfl) (by kernel_rfl) (fun _ _ _ h => h) (Or.inl ⟨by rfl, ?_⟩) (by assumption) ?_
          · intro u' hSu
            (try simp only [List.getElem_toArray, List.getElem_cons_zero, List.getElem_cons_succ])
            go_simp
          (try simp only [List.getElem_toArray, List.getElem_cons_zero, List.getElem_cons_succ])
          (try simp only [Act.put, List.setIfInBounds_toArray, List.set_cons_zero, List.set_cons_succ])
          refine wpAnyH_take (i := 8) (oi := _) (v := .int .u32 (m0 : Nat)) rfl (by kernel_rfl) (by kernel_rfl) (by kernel_rfl) (fun _ _ _ h => h) (Or.inl ⟨by rfl, ?_⟩) (by assumption) ?_
          · intro u' hSu
            (try simp only [List.getElem_toArray, List.getElem_cons_zero, List.getElem_cons_succ])
            have s0 := hSu
            go_simp
          (try simp only [List.getElem_toArray, List.getElem_cons_zero, List.getElem_cons_succ])
          (try simp only [Act.put, List.setIfInBounds_toArray, List.set_cons_zero, List.set_cons_succ])
          refine wpAnyH_take (i := 9) (oi := _) (v := .int .i64 (v : Nat)) rfl (by kernel_rfl) (by kernel_rfl) (by kernel_rfl) (fun _ _ _ h => h) (Or.inl ⟨by rfl, ?_⟩) (by assumption) ?_
          · intro u' hSu
            (try simp only [List.getElem_toArray, List.getElem_cons_zero, List.getElem_cons_succ])
            go_simp
          (try simp only [List.getElem_toArray, List.getElem_cons_zero, List.getElem_cons_succ])
          (try simp only [Act.put, List.setIfInBounds_toArray, List.set_cons_zero, List.set_cons_succ])
          refine wpAnyH_ready (rs := [2]) (by kernel_rfl) (by simp) (AllReadyH.cons rfl ?_ (AllReadyH.nil))
          · intro K' hK'
            (try simp only [List.getElem_toArray, List.getElem_cons_zero, List.getElem_cons_succ])
            go_simp
            have hbB := (Below.refl _ U0).alloc (Nat.le_refl _) (.cells #[.int .i64 (v : Nat)] 3)
            have hX3 := hX2.below hbB
            have HC := (Boxed.new U0 3 (.int .i64 (v : Nat))).cell
            refine hK'.out _ _ ((hbB.cell (p := ⟨G, v, none⟩) hX2.row.lt).trans hSd) (fun hSe => ?_)
            clear hK' K' hSd hX2 hbB
            have hSd := hSe
            clear hSe
            generalize (U0.alloc (.cells #[.int .i64 (v : Nat)] 3)) = U1 at *
            generalize U0.heap.size = BN at *
            (try simp only [List.getElem_toArray, List.getElem_cons_zero, List.getElem_cons_succ])
            (try simp only [Act.put, List.setIfInBounds_toArray, List.set_cons_zero, List.set_cons_succ])
            refine wpAnyH_ready (rs := [3]) (by kernel_rfl) (by simp) (AllReadyH.cons rfl ?_ (AllReadyH.nil))
            · intro K' hK'
              rw [if_pos (by rfl)]
              refine wp_append_int _ _ rfl w.heap.size _ (iL S.ord) (v : Nat) rfl hX3.nd BN rfl HC (by omega) hX3.grow.size ?_
              intro v' w9 hr9 hg9
              obtain ⟨d9, n9, cd9, rfl⟩ : ∃ d n c, v' = Value.slice d n c := by obtain ⟨d, cd, e, -⟩ := hr9.ints; exact ⟨_, _, _, e⟩
              have hX4 := hX3.nodes hG hr9 hg9
              refine hK'.out _ _ ((World.cell?_of_block (hg9.block G hX3.row.lt (fun e => by have := hX3.nd.own G e.symm; omega))).trans hSd) (fun hSe => ?_)
              clear hK' K' hSd hX3 hr9 hg9 HC
              have hSd := hSe
              clear hSe
              (try simp only [List.getElem_toArray, List.getElem_cons_zero, List.getElem_cons_succ])
              (try simp only [Act.put, List.setIfInBounds_toArray, List.set_cons_zero, List.set_cons_succ])
              have hdn : True := trivial
              clear hdn
              generalize hd : d9 = dn at *
              generalize hn9 : n9 = nn at *
              generalize hc9 : cd9 = cn at *
              clear hd hn9 hc9 d9 n9 cd9
              refine wpAnyH_ready (rs := [10]) (by kernel_rfl) (by simp) (AllReadyH.cons rfl ?_ (AllReadyH.nil))
              · intro K' hK'
                (try simp only [List.getElem_toArray, List.getElem_cons_zero, List.getElem_cons_succ])
                go_simp
                refine (HWT.out _).mono ?_
                rintro e U2 ⟨rfl, hU2⟩
                subst hU2
                refine hK'.out _ _ hSd (fun hSe => ?_)
                clear hK' K' hSe
                have hX2 := hX4
                clear hX4
                generalize U2 = U0 at *
                (try simp only [List.getElem_toArray, List.getElem_cons_zero, List.getElem_cons_succ])
                (try simp only [Act.put, List.setIfInBounds_toArray, List.set_cons_zero, List.set_cons_succ])
                refine wpAnyH_ready (rs := [11]) (by kernel_rfl) (by simp) (AllReadyH.cons rfl ?_ (AllReadyH.nil))
                · intro K' hK'
                  (try simp only [List.getElem_toArray, List.getElem_cons_zero, List.getElem_cons_succ])
                  go_simp
                  have hbB := (Below.refl _ U0).alloc (Nat.le_refl _) (.cells #[.int .u32 (m1 : Nat)] 57)
                  have hX3 := hX2.below hbB
                  have HC := (Boxed.new U0 57 (.int .u32 (m1 : Nat))).cell
                  refine hK'.out _ _ ((hbB.cell (p := ⟨G, v, none⟩) hX2.row.lt).trans hSd) (fun hSe => ?_)
                  clear hK' K' hSd hX2 hbB
                  have hSd := hSe
                  clear hSe
                  generalize (U0.alloc (.cells #[.int .u32 (m1 : Nat)] 57)) = U1 at *
                  generalize U0.heap.size = BN at *
                  (try simp only [List.getElem_toArray, List.getElem_cons_zero, List.getElem_cons_succ])
                  (try simp only [Act.put, List.setIfInBounds_toArray, List.set_cons_zero, List.set_cons_succ])
                  refine wpAnyH_ready (rs := [12]) (by kernel_rfl) (by simp) (AllReadyH.cons rfl ?_ (AllReadyH.nil))
                  · intro K' hK'
                    rw [if_pos (by rfl)]
                    refine wp_append_set _ _ rfl w.heap.size _ (S.bag.map mskN) m1 rfl hX3.bg BN rfl HC (by omega) hX3.grow.size ?_
                    intro v' w9 hr9 hg9
                    obtain ⟨d9, n9, cd9, rfl⟩ : ∃ d n c, v' = Value.slice d n c := hr9.slv
                    have hX4 := hX3.bags hG hr9 hg9
                    refine hK'.out _ _ ((World.cell?_of_block (hg9.block G hX3.row.lt (fun e => by have := hX3.bg.own G e.symm; omega))).trans hSd) (fun hSe => ?_)
                    clear hK' K' hSd hX3 hr9 hg9 HC
                    have hSd := hSe
                    clear hSe
                    (try simp only [List.getElem_toArray, List.getElem_cons_zero, List.getElem_cons_succ])
                    (try simp only [Act.put, List.setIfInBounds_toArray, List.set_cons_zero, List.set_cons_succ])
                    refine wpAnyH_take (i := 13) (oi := _) (v := .slice dn nn cn) rfl (by kernel_rfl) (by kernel_rfl) (by kernel_rfl) (fun _ _ _ h => h) (Or.inl ⟨by rfl, ?_⟩) (by assumption) ?_
                    · intro u' hSu
                      (try simp only [List.getElem_toArray, List.getElem_cons_zero, List.getElem_cons_succ])
                      go_simp
                    (try simp only [List.getElem_toArray, List.getElem_cons_zero, List.getElem_cons_succ])
                    (try simp only [Act.put, List.setIfInBounds_toArray, List.set_cons_zero, List.set_cons_succ])
                    refine wpAnyH_take (i := 14) (oi := _) (v := .slice d9 n9 cd9) rfl (by kernel_rfl) (by kernel_rfl) (by kernel_rfl) (fun _ _ _ h => h) (Or.inl ⟨by rfl, ?_⟩) (by assumption) ?_
                    · intro u' hSu
                      (try simp only [List.getElem_toArray, List.getElem_cons_zero, List.getElem_cons_succ])
                      go_simp
                    (try simp only [List.getElem_toArray, List.getElem_cons_zero, List.getElem_cons_succ])
                    (try simp only [Act.put, List.setIfInBounds_toArray, List.set_cons_zero, List.set_cons_succ])
                    refine wpAnyH_done (by kernel_rfl) ?_ _
                    clear hSd
                    have hXb := hX4
                    clear hX4
                    generalize w9 = w3 at *
                    go_wp2_with fail
                    refine (HWO.out _).mono ?_
                    rintro e w4 ⟨rfl, hw4⟩
                    subst hw4
                    go_wp2_with fail
                    refine (HTO.out _ hXb.row).mono ?_
                    rintro e w5 ⟨⟨rr, rfl⟩, hr5, hg5⟩
                    have HX5 := hid (hXb.out hG hr5 hg5)
                    clear hr5 hg5 hXb
                    go_wp2
                    go_roundw
                    case rel => exact ⟨k + 1, by omega, by go_num, by rw [HSk.out]; show _ = Value.int .u32 (mskN (S.lft.filter fun u => decide (u ≠ v)) : Nat); rw [HM4.out], by rw [HSk.out]; show FXg _ _ _ _ _ (iL (S.ord ++ [v])) ((S.bag ++ [v :: S.nei.getD v []]).map mskN) _; rw [iL_append, List.map_append, show [v :: S.nei.getD v []].map mskN = [m1] from by rw [← HM1.out]; rfl]; exact HX5⟩
                    case measure => simp [intOf]; omega
        · obtain rfl : k = i := by omega
          obtain ⟨d2, n2, e2, rfl⟩ : ∃ d n c, u2 = Value.slice d n c := by obtain ⟨d, cd, e, -⟩ := HX.out.nd.ints; exact ⟨_, _, _, e⟩
          obtain ⟨d3, n3, e3, rfl⟩ := HX.out.bg.slv
          go_wp2
          go_ret2
          exact ⟨_, _, rfl, HX.out⟩
end Go.Proofs.Ytockhhleapbpiaa

