/- Package graph: Order. -/
import Derived.Test.YtockhhleapbpiaaOrdCToNeaA
import Derived.Test.YtockhhleapbpiaaAnsAToAnsB
namespace Go.Proofs.Ytockhhleapbpiaa
open Go.RowKit Go.Shelf

set_option maxRecDepth 100000 in
set_option maxHeartbeats 1000000 in
theorem gOrder_any (a : Option Addr) (ca : Nat) (L : List (List Int)) (w : World) (h : LsS w a L) (hl : ∀ l ∈ L, l.length ≤ 140737488355328) :
    Calls Try.prog 8 #[.slice a L.length ca] w fun e w' => Below w.heap.size w w' ∧
      ((gcE L = 0 ∧ ∃ d cd, e = .returned (.tuple #[.slice d (iL (ordN (parN L) L.length)).length cd, .int .i64 0]) ∧ IntS w' d (iL (ordN (parN L) L.length))) ∨ (gcE L ≠ 0 ∧ e = .returned (.tuple #[.slice none 0 0, .int .i64 (gcE L)]))) := by
  have HR := hid (gRead_any a ca L w h hl)
  have HO : Hid (gcE L = 0 → ∀ (G c : Nat) (V : World), RowU V G (masks L) → Calls Try.prog 35 #[.slice (some ⟨G, 0, none⟩) L.length c] V fun e w' => ∃ x, e = .returned x ∧ RwI w' V.heap.size x (iL (ordN (parN L) L.length)) ∧ Below V.heap.size V w') := fun hg G c V hV => by
    have hg' : gB L = true := by
      by_cases e : gB L = true
      · exact e
      · rw [gcE, if_neg e] at hg
        exact absurd hg (by decide)
    have h8 := (gB_parts hg').2.1
    have := order_any G c (parN L) V (by rw [← masks_par]; exact hV) (by rw [parN_length]; exact h8) (gB_par hg')
    rwa [parN_length] at this
  generalize iL (ordN (parN L) L.length) = ol at *
  clear h hl
  go_enter Try.func8, Try.ntmps8
  go_wp2_with fail
  refine HR.out.mono ?_
  rintro e w1 ⟨hb1, ⟨hg, G, rfl, hG, hU⟩ | ⟨hg, rfl⟩⟩
  · have HU := hid hU
    have HB1 := hid hb1
    have HG0 := hid hg
    have HOG := hid (HO.out hg G L.length w1 hU)
    clear hU hb1 hg HO HR
    go_wp2_with fail
    refine HOG.out.mono ?_
    rintro e w2 ⟨x, rfl, hx, hb2⟩
    obtain ⟨d, cd, rfl, hI⟩ := hx.ints
    have HB2 := hid (HB1.out.trans (hb2.mono HB1.out.size))
    have HI := hid hI
    clear hx hb2 hI
    go_wp2
    go_ret2
    exact ⟨HB2.out, .inl ⟨HG0.out, d, cd, rfl, HI.out⟩⟩
  · have HB1 := hid hb1
    have HGN := hid hg
    have hgb : (gcE L == 0) = false := by simpa using hg
    clear hb1 HO HR hg
    generalize hge : gcE L = ge at *
    have HGE := hid hge
    clear hge
    go_wp2
    go_ret2
    exact ⟨HB1.out, .inr ⟨by rw [HGE.out]; exact HGN.out, by rw [HGE.out]; rfl⟩⟩
end Go.Proofs.Ytockhhleapbpiaa


/- The document's answer: Moral. -/
namespace Go.Proofs.Ytockhhleapbpiaa
open Go.RowKit Go.Shelf

theorem own_same3 {w w' : World} {B : Nat} {e : TypeId} {s : Nat} {v : Value} {n : Nat} {xs : List Value} (h : w.ownsRow B e s v n xs) (hk : ∀ g, v.ownBlock = some g → w'.heap[g]? = w.heap[g]?) : w'.ownsRow B e s v n xs := by
  refine ⟨h.1, ?_⟩
  rcases h.2 with h1 | ⟨g, cap, cur, h1, h2, h3, h4⟩
  · exact .inl h1
  · exact .inr ⟨g, cap, cur, h1, h2, (hk g (by rw [h1]; rfl)).trans h3, h4⟩
theorem own_lt3 {w : World} {B : Nat} {e : TypeId} {s : Nat} {v : Value} {n : Nat} {xs : List Value} (h : w.ownsRow B e s v n xs) : ∀ g, v.ownBlock = some g → g < w.heap.size := fun g hg => by
  obtain ⟨c, fr, h1⟩ := own_typed h g hg
  exact (Array.getElem?_eq_some_iff.1 h1).1
/-- The graph under way: lists of the nodes below v are made. -/
structure LM (w : World) (F : Nat → Nat → List Nat) (n v : Nat) (vs : List Value) (W : World) : Prop where
  len : vs.length = n
  row : RowV W w.heap.size vs
  past : ∀ j, j < v → j < n → ∃ x, vs[j]? = some x ∧ RwI W (w.heap.size + 1) x (iL (F j n))
  next : ∀ j, v ≤ j → j < n → vs[j]? = some (.slice none 0 0)
  low : Below w.heap.size w W
/-- The list of v under way. -/
structure LI (w : World) (F : Nat → Nat → List Nat) (n v u : Nat) (vs : List Value) (U : World) (x : Value) (W : World) : Prop where
  len : vs.length = n
  vlt : v < n
  big : w.heap.size < U.heap.size
  size : U.heap.size ≤ W.heap.size
  row : RowV W w.heap.size (vs.set v x)
  own : RwI W U.heap.size x (iL (F v u))
  past : ∀ j, j < v → j < n → ∃ x, vs[j]? = some x ∧ RwI W (w.heap.size + 1) x (iL (F j n)) ∧ ∀ g, x.ownBlock = some g → g < U.heap.size
  next : ∀ j, v < j → j < n → vs[j]? = some (.slice none 0 0)
  low : Below w.heap.size w W
theorem LI.start {w : World} {F : Nat → Nat → List Nat} {n v : Nat} {vs : List Value} {U : World} (h : LM w F n v vs U) (hv : v < n) (hF : F v 0 = []) : LI w F n v 0 vs U (.slice none 0 0) U := by
  have e : vs.set v (.slice none 0 0) = vs := by
    have := h.next v (Nat.le_refl _) hv
    obtain ⟨h1, h2⟩ := List.getElem?_eq_some_iff.1 this
    rw [← h2]
    exact List.set_getElem_self h1
  exact ⟨h.len, hv, h.row.lt, Nat.le_refl _, by rw [e]; exact h.row, by rw [hF]; exact ⟨rfl, .inl ⟨rfl, rfl⟩⟩, fun j h1 h2 => by
    obtain ⟨x, a1, a2⟩ := h.past j h1 h2
    exact ⟨x, a1, a2, own_lt3 a2⟩, fun j h1 h2 => h.next j (by omega) h2, h.low⟩
theorem LI.fin {w : World} {F : Nat → Nat → List Nat} {n v : Nat} {vs : List Value} {U : World} {x : Value} {W : World} (h : LI w F n v n vs U x W) : LM w F n (v + 1) (vs.set v x) W :=
  ⟨by rw [List.length_set]; exact h.len, h.row, fun j h1 h2 => by
    by_cases e : j = v
    · subst e
      exact ⟨x, by rw [List.getElem?_set_self (by rw [h.len]; exact h2)], own_low h.own h.big⟩
    · obtain ⟨y, a1, a2, _⟩ := h.past j (by omega) h2
      exact ⟨y, by rw [List.getElem?_set_ne (fun e' => e e'.symm)]; exact a1, a2⟩, fun j h1 h2 => by
    rw [List.getElem?_set_ne (by omega)]
    exact h.next j (by omega) h2, h.low⟩
theorem LI.below {w : World} {F : Nat → Nat → List Nat} {n v u : Nat} {vs : List Value} {U : World} {x : Value} {W W' : World} (h : LI w F n v u vs U x W) (hb : Below W.heap.size W W') : LI w F n v u vs U x W' :=
  ⟨h.len, h.vlt, h.big, Nat.le_trans h.size hb.size, h.row.below hb h.row.lt, h.own.under hb, fun j h1 h2 => by
    obtain ⟨y, a1, a2, a3⟩ := h.past j h1 h2
    exact ⟨y, a1, a2.under hb, a3⟩, h.next, h.low.trans (hb.mono h.low.size)⟩
theorem LI.skip {w : World} {F : Nat → Nat → List Nat} {n v u : Nat} {vs : List Value} {U : World} {x : Value} {W : World} (h : LI w F n v u vs U x W) (he : F v (u + 1) = F v u) : LI w F n v (u + 1) vs U x W :=
  ⟨h.len, h.vlt, h.big, h.size, h.row, by rw [he]; exact h.own, h.past, h.next, h.low⟩
/-- The append's world: all lies there but the list's own block. -/
theorem LI.grow {w : World} {F : Nat → Nat → List Nat} {n v u : Nat} {vs : List Value} {U : World} {x : Value} {W W' : World} (h : LI w F n v u vs U x W) (hg : W.grownBy W' x.ownBlock) : RowV W' w.heap.size (vs.set v x) ∧ Below w.heap.size w W' ∧ U.heap.size ≤ W'.heap.size ∧ ∀ j, j < v → j < n → ∃ y, vs[j]? = some y ∧ RwI W' (w.heap.size + 1) y (iL (F j n)) ∧ ∀ g, y.ownBlock = some g → g < U.heap.size := by
  have hf := own_from h.own
  have hsame : ∀ k, k < U.heap.size → W'.heap[k]? = W.heap[k]? := fun k hk => hg.block k (Nat.lt_of_lt_of_le hk h.size) (fun e => by have := hf k e.symm; omega)
  refine ⟨(hsame _ h.big).trans h.row, h.low.grown hg h.low.size (fun k e => Nat.le_trans (Nat.le_of_lt h.big) (hf k e)), Nat.le_trans h.size hg.size, fun j h1 h2 => ?_⟩
  obtain ⟨y, a1, a2, a3⟩ := h.past j h1 h2
  exact ⟨y, a1, own_same3 a2 (fun g e => hsame g (a3 g e)), a3⟩
theorem LI.push {w : World} {F : Nat → Nat → List Nat} {n v u : Nat} {vs : List Value} {U : World} {x x' : Value} {W W' : World} (h : LI w F n v u vs U x W) (he : F v (u + 1) = F v u ++ [u]) (hr : RwI W' U.heap.size x' (iL (F v u) ++ [(u : Int)])) (hg : W.grownBy W' x.ownBlock) : LI w F n v (u + 1) vs U x' (W'.setCell ⟨w.heap.size, v, none⟩ x') := by
  obtain ⟨g1, g2, g3, g4⟩ := h.grow hg
  have hfar : ∀ k, k ≠ w.heap.size → (W'.setCell ⟨w.heap.size, v, none⟩ x').heap[k]? = W'.heap[k]? := fun k hk => Below.heap_setCell W' ⟨w.heap.size, v, none⟩ x' k hk
  refine ⟨h.len, h.vlt, h.big, Nat.le_trans g3 (KeepsOthers.setCell W' _ _).size, ?_, ?_, fun j h1 h2 => ?_, h.next, g2.setCell (p := ⟨w.heap.size, v, none⟩) (Nat.le_refl _) _⟩
  · have := g1.set v x'
    rwa [List.set_set] at this
  · rw [he, iL_append]
    exact own_same3 hr (fun g e => hfar g (by have := own_from hr g e; have := h.big; omega))
  · obtain ⟨y, a1, a2, a3⟩ := g4 j h1 h2
    exact ⟨y, a1, own_same3 a2 (fun g e => hfar g (by have := own_from a2 g e; omega)), a3⟩
theorem LM.lists {w : World} {F : Nat → Nat → List Nat} {n : Nat} {vs : List Value} {W : World} (h : LM w F n n vs W) : LsS W (some ⟨w.heap.size, 0, none⟩) (((List.range n).map fun v => iL (F v n))) := fun k hk => by
  have hkn : k < n := by simpa using hk
  obtain ⟨x, a1, a2⟩ := h.past k hkn hkn
  obtain ⟨d, cd, rfl, hi⟩ := a2.ints
  obtain ⟨b1, b2⟩ := List.getElem?_eq_some_iff.1 a1
  have e : (((List.range n).map fun v => iL (F v n)))[k] = iL (F k n) := by simp
  rw [e]
  exact ⟨w.heap.size, 0, d, cd, rfl, h.row.lt, by rw [Nat.zero_add, h.row.cell k b1, b2], hi⟩
theorem mrR_yes {P : List (List Nat)} {n v u : Nat} (h : (mrB P n v u && decide (u ≠ v)) = true) : mrR P n v (u + 1) = mrR P n v u ++ [u] := by
  rw [mrR, List.range_succ, List.filter_append, mrR]
  congr 1
  show List.filter _ [u] = [u]
  simp only [List.filter, h]
theorem mrR_no {P : List (List Nat)} {n v u : Nat} (h : (mrB P n v u && decide (u ≠ v)) = false) : mrR P n v (u + 1) = mrR P n v u := by
  have e : List.filter (fun u => mrB P n v u && decide (u ≠ v)) [u] = [] := by simp only [List.filter, h]
  rw [mrR, List.range_succ, List.filter_append, mrR, e, List.append_nil]
theorem mrR_len (P : List (List Nat)) (n v u : Nat) : (mrR P n v u).length ≤ u := by
  have := List.length_filter_le (fun u => mrB P n v u && decide (u ≠ v)) (List.range u)
  rwa [List.length_range] at this
/-- Beside each other, as far as the first m families say. -/
def mrM (P : List (List Nat)) (v u m : Nat) : Bool := (decide (u ∈ P.getD v []) || decide (v ∈ P.getD u [])) || (List.range m).any fun w => decide (u ∈ P.getD w []) && decide (v ∈ P.getD w [])
theorem mrM_step (P : List (List Nat)) (v u m : Nat) : mrM P v u (m + 1) = (mrM P v u m || (decide (u ∈ P.getD m []) && decide (v ∈ P.getD m []))) := by
  rw [mrM, mrM, List.range_succ, List.any_append]
  simp only [List.any_cons, List.any_nil, Bool.or_false, Bool.or_assoc]

set_option maxRecDepth 100000 in
set_option maxHeartbeats 2000000 in
theorem rMoral_any (a : Option Addr) (ca : Nat) (L : List (List Int)) (w : World) (h : LsS w a L) (hl : ∀ l ∈ L, l.length ≤ 1000) (hL : L.length ≤ 1000) :
    Calls Try.prog 18 #[.slice a L.length ca] w fun e w' => Below w.heap.size w w' ∧
      ((gcE L ≠ 0 ∧ e = .returned (.tuple #[.slice none 0 0, .int .i64 (gcE L)])) ∨
       (gcE L = 0 ∧ ∃ G, e = .returned (.tuple #[.slice (some ⟨G, 0, none⟩) L.length L.length, .int .i64 0]) ∧ LsS w' (some ⟨G, 0, none⟩) ((mrA (parN L) L.length L.length).map memL))) := by
  obtain ⟨i0, hi0, hz0, hz1, hz2⟩ := info_parts Try.infoInts1
  have HG := hid (rGraphCheck_any a ca L w h (fun l hl' => by have := hl l hl'; omega) (by omega))
  by_cases hg : gcE L = 0
  · obtain ⟨h1, h8, hris, -⟩ := gB_parts (gc_parts hg).1
    have hpa : ∀ v, ∀ u ∈ (parN L).getD v [], u < L.length ∧ v < L.length := fun v u hu => pa_lt (gc_parts hg).1 hu
    have HFIN : Hid (((List.range L.length).map fun v => iL (mrR (parN L) L.length v L.length)) = (mrA (parN L) L.length L.length).map memL) := by
      show _ = _
      rw [mrA, List.map_map]
      refine List.map_congr_left fun v hv => ?_
      exact mr_list hpa h8 (List.mem_range.1 hv)
    have HINL : Hid (∀ (v : Nat), v < L.length → ∃ g o b c lv, a = some ⟨g, o, none⟩ ∧ ∀ U : World, Below w.heap.size w U → U.cell? ⟨g, o + v, none⟩ = some (.slice b lv c) ∧ ∀ x : Nat, Calls Try.prog 26 #[.int .i64 (x : Nat), .slice b lv c] U fun r w' => r = .returned (.bool (decide (x ∈ (parN L).getD v []))) ∧ w' = U) := fun v hv => by
      obtain ⟨g, o, b, c, e1, e2, e3, e4⟩ := h v hv
      refine ⟨g, o, b, c, L[v].length, e1, fun U hb => ⟨(hb.cell (p := ⟨g, _, none⟩) e2).trans e3, fun x => ?_⟩⟩
      have := rIn_any (x : Int) b c L[v] U (e4.below hb) (by have := hl _ (List.getElem_mem hv); omega)
      rw [inB_nat (by omega) (ris_nonneg (allRis_at hris hv)), Int.toNat_natCast, ← parN_get hv] at this
      exact this
    have HM0 : Hid (∀ v u, mrM (parN L) v u 0 = (decide (u ∈ (parN L).getD v []) || decide (v ∈ (parN L).getD u []))) := fun v u => by rw [mrM]; simp
    have HMS := hid (fun v u m => mrM_step (parN L) v u m)
    have HMB : Hid (∀ v u, mrM (parN L) v u L.length = mrB (parN L) L.length v u) := fun v u => rfl
    have HRY : Hid (∀ v u, (mrB (parN L) L.length v u && decide (u ≠ v)) = true → mrR (parN L) L.length v (u + 1) = mrR (parN L) L.length v u ++ [u]) := fun v u h => mrR_yes h
    have HRN : Hid (∀ v u, (mrB (parN L) L.length v u && decide (u ≠ v)) = false → mrR (parN L) L.length v (u + 1) = mrR (parN L) L.length v u) := fun v u h => mrR_no h
    have HRL := hid (fun v u => mrR_len (parN L) L.length v u)
    have HR0 : Hid (∀ v, mrR (parN L) L.length v 0 = []) := fun v => rfl
    have HGE := hid hg
    rw [hg] at HG
    clear h hl hg hris hpa
    generalize hP : parN L = P at *
    generalize mrR P L.length = F at *
    have HPP := hid hP
    clear hP
    go_enter Try.func18, Try.ntmps18
    go_wp2_with fail
    refine HG.out.mono ?_
    rintro e w1 ⟨rfl, hb1⟩
    have HB1 := hid hb1
    clear hb1 HG
    go_wp2_with (first
      | (at_make; refine wpList_make_full _ rfl _ _ 22 rfl w1.heap.size 23 i0 (.slice none 0 0) 1 Try.underlying22 hi0 hz0 hz1 .i64 .i64 _ _ L.length rfl rfl (by go_num) (by go_num) (by rw [hz2]; omega) (by unfold maxLen; omega) (Nat.le_refl _) ?_; intro w2 hown2 hgrow2))
    have hb2 := block_of_own hown2
    rw [made_slices] at hb2
    have HM0' : Hid (LM w1 F L.length 0 (List.replicate L.length (.slice none 0 0)) w2) := ⟨by simp, hb2, fun j h => absurd h (by omega), fun j _ h => by rw [List.getElem?_replicate, if_pos h], (Below.refl _ w1).grown hgrow2 (Nat.le_refl _) (fun k e => by cases e)⟩
    clear hown2 hgrow2 hb2
    generalize hn : L.length = n at *
    go_wp2_with fail
    go_loopw [6] (fun vv wr => ∃ (v : Nat) (vs : List Value), v ≤ n ∧ vv = .int .i64 v ∧ Hid (LM w1 F n v vs wr)) (fun vv _ => n - (intOf vv).toNat)
    case atStart => exact ⟨0, _, Nat.zero_le _, rfl, HM0'⟩
    case round =>
      obtain ⟨v, vs, hv, rfl, HM⟩ := hrel
      clear HM0'
      by_cases hvn : v < n
      · have HI0 := hid (LI.start HM.out hvn (HR0.out v))
        clear HM
        generalize wr = U at *
        go_wp2_with fail
        go_loopw [7] (fun uv wr => ∃ (u : Nat) (x : Value), u ≤ n ∧ uv = .int .i64 u ∧ Hid (LI w1 F n v u vs U x wr)) (fun uv _ => n - (intOf uv).toNat)
        case atStart => exact ⟨0, _, Nat.zero_le _, rfl, HI0⟩
        case round =>
          obtain ⟨u, x, hu, rfl, HI⟩ := hrel
          clear HI0
          by_cases hun : u < n
          · obtain ⟨dx, cx, rfl, -⟩ := HI.out.own.ints
            have HBW := hid (HB1.out.trans (HI.out.low.mono HB1.out.size))
            obtain ⟨g, o, b1, c1, l1, rfl, hk1⟩ := HINL.out v hvn
            obtain ⟨g', o', b2, c2, l2, he, hk2⟩ := HINL.out u hun
            cases he
            obtain ⟨k1, hI1⟩ := hk1 wr HBW.out
            obtain ⟨k2, hI2⟩ := hk2 wr HBW.out
            have HI1 := hid (hI1 u)
            have HI2 := hid (hI2 v)
            have HMZ := hid (HM0.out v u)
            have HMT := hid (HMS.out v u)
            have HME := hid (HMB.out v u)
            have HYv := hid (HRY.out v u)
            have HNv := hid (HRN.out v u)
            have hln := HRL.out v u
            clear hk1 hk2 hI1 hI2
            generalize mrM P v u = MM at *
            generalize decide (u ∈ P.getD v []) = p1 at *
            generalize decide (v ∈ P.getD u []) = p2 at *
            go_wp2_with fail
            refine HI1.out.mono ?_
            rintro r w3 ⟨rfl, rfl⟩
            go_wp2_with fail
            refine HI2.out.mono ?_
            rintro r w4 ⟨rfl, rfl⟩
            clear HI1 HI2 k1 k2
            cases p1 with
            | true =>
              go_wp2_with fail
              go_loopw [10, 11] (fun qv mv wq => ∃ m : Nat, m ≤ n ∧ mv = .int .i64 m ∧ qv = .bool (MM m) ∧ wq = w4) (fun _ mv _ => n - (intOf mv).toNat)
              case atStart => exact ⟨0, Nat.zero_le _, rfl, by rw [HMZ.out]; first | done | rfl | simp, rfl⟩
              case round =>
                obtain ⟨m, hm, rfl, rfl, rfl⟩ := hrel
                by_cases hmn : m < n
                · obtain ⟨g', o', b3, c3, l3, he, hk3⟩ := HINL.out m hmn
                  cases he
                  obtain ⟨k3, hI3⟩ := hk3 wr HBW.out
                  have HI3 := hid (hI3 u)
                  have HI4 := hid (hI3 v)
                  have HS := hid (HMT.out m)
                  clear hk3 hI3
                  generalize decide (u ∈ P.getD m []) = p3 at *
                  generalize decide (v ∈ P.getD m []) = p4 at *
                  go_wp2_with fail
                  refine HI3.out.mono ?_
                  rintro r w5 ⟨rfl, rfl⟩
                  go_wp2_with fail
                  refine HI4.out.mono ?_
                  rintro r w6 ⟨rfl, rfl⟩
                  clear HI3 HI4
                  generalize hq1 : MM (m + 1) = q1 at *
                  generalize MM m = q0 at *
                  have HQ := hid hq1
                  clear hq1
                  cases q0 <;> cases p3 <;> cases p4
                  all_goals
                    go_wp2
                    go_roundw
                    case rel => exact ⟨m + 1, by omega, by go_num, by rw [HQ.out, HS.out]; rfl, by first | rfl | trivial⟩
                    case measure => simp [intOf]; omega
                · obtain rfl : m = n := by omega
                  rw [HME.out]
                  clear HMZ HMT HME
                  generalize wr = w4 at *
                  generalize mrB P m v u = q at *
                  cases q with
                  | false =>
                    have HS := hid (HI.out.skip (HNv.out rfl))
                    clear HYv HNv
                    go_wp2
                    go_roundw
                    case rel => exact ⟨u + 1, _, by omega, by go_num, HS⟩
                    case measure => simp [intOf]; omega
                  | true =>
                    by_cases huv : u = v
                    · have hne : (((u : Nat) : Int) != ((v : Nat) : Int)) = false := by rw [huv]; exact bne_self_eq_false _
                      have HS := hid (HI.out.skip (HNv.out (by rw [decide_eq_false (fun h => h huv)]; rfl)))
                      clear HYv HNv huv
                      go_wp2
                      go_roundw
                      case rel => exact ⟨u + 1, _, by omega, by go_num, HS⟩
                      case measure => simp [intOf]; omega
                    · have hne : (((u : Nat) : Int) != ((v : Nat) : Int)) = true := by
                        have : ¬ ((u : Nat) : Int) = ((v : Nat) : Int) := by omega
                        simpa using this
                      have HED := hid (HYv.out (by rw [decide_eq_true huv]; rfl))
                      clear HYv HNv huv
                      have k4 := HI.out.row.cell v (by rw [List.length_set, HI.out.len]; exact hvn)
                      rw [List.getElem_set_self] at k4
                      have HI5 := hid (HI.out.below ((Below.refl _ w4).alloc (Nat.le_refl _) (.cells #[.int .i64 (u : Nat)] 3)))
                      have HIA := hid (one_int w4 (u : Nat))
                      go_wp2_with (at_builtin; refine wpList_append_ints rfl _ _ rfl U.heap.size _ (iL (F v u)) [((u : Nat) : Int)] rfl HI5.out.own (some ⟨w4.heap.size, 0, none⟩) 1 rfl HIA.out (fun e => by cases e) (by rw [iL_length]; simp; omega) (Nat.le_trans HI5.out.size (Nat.le_refl _)) ?_; intro v' w5 hr5 hg5; obtain ⟨d5, cd5, rfl, _⟩ := hr5.ints; have hgr := (HI5.out.grow hg5).1; have k5 := hgr.cell v (by rw [List.length_set, HI5.out.len]; exact hvn); have f5 := hgr.fz v; rw [List.getElem_set_self] at k5)
                      have hS := HI5.out.push HED.out hr5 hg5
                      rw [show (iL (F v u) ++ [(u : Int)]).length = (iL (F v u)).length + 1 by simp] at hS
                      have HS := hid hS
                      clear hr5 hg5 hgr hS
                      go_wp2
                      go_roundw
                      case rel => exact ⟨u + 1, _, by omega, by go_num, HS⟩
                      case measure => simp [intOf]; omega
            | false =>
              go_wp2_with fail
              go_loopw [10, 11] (fun qv mv wq => ∃ m : Nat, m ≤ n ∧ mv = .int .i64 m ∧ qv = .bool (MM m) ∧ wq = w4) (fun _ mv _ => n - (intOf mv).toNat)
              case atStart => exact ⟨0, Nat.zero_le _, rfl, by rw [HMZ.out]; first | done | rfl | simp, rfl⟩
              case round =>
                obtain ⟨m, hm, rfl, rfl, rfl⟩ := hrel
                by_cases hmn : m < n
                · obtain ⟨g', o', b3, c3, l3, he, hk3⟩ := HINL.out m hmn
                  cases he
                  obtain ⟨k3, hI3⟩ := hk3 wr HBW.out
                  have HI3 := hid (hI3 u)
                  have HI4 := hid (hI3 v)
                  have HS := hid (HMT.out m)
                  clear hk3 hI3
                  generalize decide (u ∈ P.getD m []) = p3 at *
                  generalize decide (v ∈ P.getD m []) = p4 at *
                  go_wp2_with fail
                  refine HI3.out.mono ?_
                  rintro r w5 ⟨rfl, rfl⟩
                  go_wp2_with fail
                  refine HI4.out.mono ?_
                  rintro r w6 ⟨rfl, rfl⟩
                  clear HI3 HI4
                  generalize hq1 : MM (m + 1) = q1 at *
                  generalize MM m = q0 at *
                  have HQ := hid hq1
                  clear hq1
                  cases q0 <;> cases p3 <;> cases p4
                  all_goals
                    go_wp2
                    go_roundw
                    case rel => exact ⟨m + 1, by omega, by go_num, by rw [HQ.out, HS.out]; rfl, by first | rfl | trivial⟩
                    case measure => simp [intOf]; omega
                · obtain rfl : m = n := by omega
                  rw [HME.out]
                  clear HMZ HMT HME
                  generalize wr = w4 at *
                  generalize mrB P m v u = q at *
                  cases q with
                  | false =>
                    have HS := hid (HI.out.skip (HNv.out rfl))
                    clear HYv HNv
                    go_wp2
                    go_roundw
                    case rel => exact ⟨u + 1, _, by omega, by go_num, HS⟩
                    case measure => simp [intOf]; omega
                  | true =>
                    by_cases huv : u = v
                    · have hne : (((u : Nat) : Int) != ((v : Nat) : Int)) = false := by rw [huv]; exact bne_self_eq_false _
                      have HS := hid (HI.out.skip (HNv.out (by rw [decide_eq_false (fun h => h huv)]; rfl)))
                      clear HYv HNv huv
                      go_wp2
                      go_roundw
                      case rel => exact ⟨u + 1, _, by omega, by go_num, HS⟩
                      case measure => simp [intOf]; omega
                    · have hne : (((u : Nat) : Int) != ((v : Nat) : Int)) = true := by
                        have : ¬ ((u : Nat) : Int) = ((v : Nat) : Int) := by omega
                        simpa using this
                      have HED := hid (HYv.out (by rw [decide_eq_true huv]; rfl))
                      clear HYv HNv huv
                      have k4 := HI.out.row.cell v (by rw [List.length_set, HI.out.len]; exact hvn)
                      rw [List.getElem_set_self] at k4
                      have HI5 := hid (HI.out.below ((Below.refl _ w4).alloc (Nat.le_refl _) (.cells #[.int .i64 (u : Nat)] 3)))
                      have HIA := hid (one_int w4 (u : Nat))
                      go_wp2_with (at_builtin; refine wpList_append_ints rfl _ _ rfl U.heap.size _ (iL (F v u)) [((u : Nat) : Int)] rfl HI5.out.own (some ⟨w4.heap.size, 0, none⟩) 1 rfl HIA.out (fun e => by cases e) (by rw [iL_length]; simp; omega) (Nat.le_trans HI5.out.size (Nat.le_refl _)) ?_; intro v' w5 hr5 hg5; obtain ⟨d5, cd5, rfl, _⟩ := hr5.ints; have hgr := (HI5.out.grow hg5).1; have k5 := hgr.cell v (by rw [List.length_set, HI5.out.len]; exact hvn); have f5 := hgr.fz v; rw [List.getElem_set_self] at k5)
                      have hS := HI5.out.push HED.out hr5 hg5
                      rw [show (iL (F v u) ++ [(u : Int)]).length = (iL (F v u)).length + 1 by simp] at hS
                      have HS := hid hS
                      clear hr5 hg5 hgr hS
                      go_wp2
                      go_roundw
                      case rel => exact ⟨u + 1, _, by omega, by go_num, HS⟩
                      case measure => simp [intOf]; omega
          · obtain rfl : u = n := by omega
            have HF := hid HI.out.fin
            clear HI
            go_wp2
            go_roundw
            case rel => exact ⟨v + 1, _, by omega, by go_num, HF⟩
            case measure => simp [intOf]; omega
      · obtain rfl : n = v := by omega
        have HLS := HM.out.lists
        rw [HFIN.out] at HLS
        have HBF := HB1.out.trans (HM.out.low.mono HB1.out.size)
        go_wp2
        go_ret2
        exact ⟨HBF, .inr ⟨HGE.out, w1.heap.size, by rw [hn]; rfl, by rw [hn]; exact HLS⟩⟩
  · have HGE := hid hg
    have hne : ((gcE L : Int) != 0) = true := by simpa using hg
    clear h hl hg
    generalize gcE L = ge at *
    go_enter Try.func18, Try.ntmps18
    go_wp2_with fail
    refine HG.out.mono ?_
    rintro e w1 ⟨rfl, hb1⟩
    go_wp2
    go_ret2
    exact ⟨hb1, .inl ⟨HGE.out, rfl⟩⟩
end Go.Proofs.Ytockhhleapbpiaa

