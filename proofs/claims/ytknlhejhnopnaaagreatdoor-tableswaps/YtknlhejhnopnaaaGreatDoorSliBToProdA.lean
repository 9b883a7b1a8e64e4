/- Lists of ints: slices.Grow of nothing, slices.Concat of two. -/
import Derived.Test.YtknlhejhnopnaaaGreatDoorTabMToTabT
import Derived.Lib.AppendZerosOnto
import Derived.Laws.AppendOwnNone
import Derived.Test.YtknlhejhnopnaaaGreatDoorFixAToFixB
import Derived.Laws.EntriesVeiled
namespace Go.Proofs.YtknlhejhnopnaaaGreatDoor
open Go.RowKit Go.Shelf

set_option maxRecDepth 100000 in
set_option maxHeartbeats 400000 in
theorem slGrow_nil (n : Nat) (hn : n ≤ 100000) (w : World) :
    Calls Tryz.prog 134 #[.slice none 0 0, .int .i64 (n : Nat)] w fun e w' => ∃ v, e = .returned v ∧ RwI w' w.heap.size v [] ∧ Below w.heap.size w w' := by
  obtain ⟨i0, hi0, hz0, hz1, hz2⟩ := info_parts Tryz.infoInt
  by_cases h : n = 0
  · subst h
    go_enter Tryz.func134, Tryz.ntmps134
    go_wp2
    go_ret
    exact ⟨_, rfl, ⟨rfl, .inl ⟨rfl, rfl⟩⟩, Below.refl _ _⟩
  · have hold : (Builtin.firstCells i0.size 0 (.slice none 0 0)).run Tryz.prog w.drew = .ok ([] : List Value).toArray w.drew := run_firstCells_none w.drew i0.size 0 0 0
    have hrz : ∀ ty, (Builtin.append_ #[22, 3] ty #[.slice none 0 0, .int .i64 (n : Int)]).run Tryz.prog w = .ok (.slice (some ⟨w.heap.size, 0, none⟩) (0 + n) (grownCap w (0 + n) 0 3)) (w.drew.alloc (.cells (([] : List Value).toArray ++ Builtin.zeroCells (Value.int .i64 0).cells n ++ Builtin.zeroCells (Value.int .i64 0).cells (grownCap w (0 + n) 0 3 - (0 + n))) 3)) := fun ty =>
      Lib.run_append_grow_zeros w 22 3 ty 3 i0 (.int .i64 0) .i64 .i64 Tryz.underlying22 Tryz.underlying3 hi0 hz0 none 0 0 [] hold n (by omega) (by omega) (by omega) (by omega) (by rw [hz2]; omega) (growslice_fits (by omega) (by rw [hz2]; omega))
    have hGn : 0 + n ≤ grownCap w (0 + n) 0 3 := grownCap_ge w _ _ _
    have hGm := grownCap_le_maxLen w (0 + n) 0 3 (by unfold maxLen; omega)
    rw [Nat.zero_add] at hrz hGn hGm
    obtain ⟨G, hG⟩ : ∃ G, G = grownCap w n 0 3 := ⟨_, rfl⟩
    rw [← hG] at hrz hGn hGm
    have HGM := hid hGm
    have hG63 : G ≤ 9223372036854775807 := by unfold maxLen at hGm; omega
    have hn0 : (0 : Int) < (n : Int) := by omega
    clear hold hG hGm
    go_enter Tryz.func134, Tryz.ntmps134
    go_wp2_with (at_builtin; refine Lib.wpList_append_run _ rfl _ _ _ _ rfl _ _ rfl rfl _ _ (hrz _) ?_)
    go_ret
    refine ⟨_, rfl, ⟨rfl, .inr ⟨w.heap.size, G, _, rfl, Nat.le_refl _, heap_alloc_new w.drew _, Nat.zero_le _, HGM.out, ?_, by simp⟩⟩, ((Below.refl _ w).drew).alloc (Nat.le_refl _) _⟩
    simp [size_zeroCells]
    omega
theorem wpList_append_ints {w : World} {ops : Array Oper} {rest : List Oper} {o : Oper} {a : Act} {Q : Exit → Act → World → Prop} (hgd : o.guard = none) (s x : Operand)
    (ho : o.op = .call { callee := .builtin .append, args := #[s, x], argTypes := #[22, 22] }) (base : Nat) (v : Value) (xs la : List Int) (hs : a.eval s = v) (hown : RwI w base v xs) (p : Option Addr) (ca : Nat) (hx : a.eval x = .slice p la.length ca) (hi : IntS w p la) (hp : p = none → ca = 0) (hlen : xs.length + la.length ≤ 100000) (hbase : base ≤ w.heap.size)
    (h : ∀ v' w', RwI w' base v' (xs ++ la) → w.grownBy w' v.ownBlock → wpList Tryz.prog ops Q rest (a.put o.dst v') w') : wpList Tryz.prog ops Q (o :: rest) a w := by
  obtain ⟨i0, hi0, hz0, hz1, hz2⟩ := info_parts Tryz.infoInt
  cases p with
  | none =>
    have hl : la = [] := by
      cases la with
      | nil => rfl
      | cons x l => obtain ⟨g, o, e, _⟩ := hi 0 (by simp); cases e
    subst hl
    have h0 := hp rfl
    subst h0
    have h1 := h v w (by rw [List.append_nil]; exact hown) ⟨rfl, rfl, rfl, Nat.le_refl _, fun _ _ _ => rfl⟩
    exact wpList_append_own_none hgd s x 22 ho base 3 i0 1 Tryz.underlying22 hi0 v xs.length _ hs hown hx h1
  | some ad =>
    refine wpList_append_own _ hgd s x 22 ho base 3 i0 (.int .i64 0) 1 8 Tryz.underlying22 hi0 hz0 hz1 hz2 rfl (by decide) v xs.length _ hs hown ad la.length ca (la.map (Value.int .i64)) hx (by simp) ?_ ?_ (by unfold maxLen; omega) (by omega) hbase ?_
    · intro j u hj
      rw [List.getElem?_map] at hj
      cases hq : la[j]? with
      | none => rw [hq] at hj; cases hj
      | some z =>
        rw [hq] at hj
        cases hj
        obtain ⟨hj1, hj2⟩ := List.getElem?_eq_some_iff.1 hq
        obtain ⟨g, o', e, _, hc⟩ := hi j hj1
        cases e
        rw [← hj2]
        rw [Addr.add]
        by_cases h0 : j = 0
        · subst h0; simpa using hc
        · simpa [h0] using hc
    · intro u hu
      obtain ⟨z, _, rfl⟩ := List.mem_map.1 hu
      rfl
    · intro v' w' h1 h2 _
      refine h v' w' ?_ h2
      rw [RwI, List.length_append, List.map_append]
      exact h1

/-- The first so many of two lists. -/
def firstOf (la lb : List Int) (i : Nat) : List Int := if i = 0 then [] else if i = 1 then la else la ++ lb
theorem RwI.own {w : World} {B : Nat} {v : Value} {l : List Int} (h : RwI w B v l) : ∀ k, v.ownBlock = some k → B ≤ k := by
  intro k hk
  rcases h.2 with ⟨rfl, _⟩ | ⟨g, cap, cur, rfl, h2, _⟩
  · cases hk
  · cases hk
    exact h2

theorem firstOf_len {la lb : List Int} (hla : la.length ≤ 1000) (hlb : lb.length ≤ 1000) (i : Nat) : (firstOf la lb i).length ≤ 2000 := by
  rw [firstOf]
  by_cases h : i = 0
  · rw [if_pos h]; simp
  · rw [if_neg h]
    by_cases h1 : i = 1
    · rw [if_pos h1]; omega
    · rw [if_neg h1, List.length_append]; omega

set_option maxRecDepth 100000 in
set_option maxHeartbeats 800000 in
theorem slConcat_any (R : Nat) (a b : Option Addr) (ca cb : Nat) (la lb : List Int) (w : World) (hR : R < w.heap.size) (r0 : w.cell? ⟨R, 0, none⟩ = some (.slice a la.length ca)) (r1 : w.cell? ⟨R, 1, none⟩ = some (.slice b lb.length cb)) (ha : IntS w a la) (hb : IntS w b lb) (ha0 : a = none → ca = 0) (hb0 : b = none → cb = 0) (hla : la.length ≤ 1000) (hlb : lb.length ≤ 1000) :
    Calls Tryz.prog 99 #[.slice (some ⟨R, 0, none⟩) 2 2] w fun e w' => ∃ v, e = .returned v ∧ RwI w' w.heap.size v (la ++ lb) ∧ Below w.heap.size w w' := by
  have one : ∀ i, i < 2 → ∃ (p : Option Addr) (c : Nat) (l : List Int), w.cell? ⟨R, i, none⟩ = some (.slice p l.length c) ∧ IntS w p l ∧ (p = none → c = 0) ∧ l.length ≤ 1000 ∧ firstOf la lb (i + 1) = firstOf la lb i ++ l := by
    intro i hi
    by_cases h : i = 0
    · subst h
      exact ⟨a, ca, la, r0, ha, ha0, hla, by simp [firstOf]⟩
    · obtain rfl : i = 1 := by omega
      exact ⟨b, cb, lb, r1, hb, hb0, hlb, by simp [firstOf]⟩
  have HONE := hid one
  have HFL := hid (fun i => firstOf_len hla hlb i)
  have h2 : firstOf la lb 2 = la ++ lb := by simp [firstOf]
  rw [← h2]
  have hz : firstOf la lb 0 = [] := rfl
  clear one r0 r1 ha hb ha0 hb0 h2 hla hlb
  generalize firstOf la lb = F at *
  go_enter Tryz.func99, Tryz.ntmps99
  go_wp2_with fail
  go_loopw [3, 11] (fun sv iv wr => ∃ i : Nat, i ≤ 2 ∧ iv = .int .i64 i ∧ sv = .int .i64 ((F i).length : Nat) ∧ Hid (Below w.heap.size w wr)) (fun _ iv _ => 2 - (intOf iv).toNat)
  case atStart => exact ⟨0, by omega, rfl, by rw [hz]; rfl, Below.refl _ _⟩
  case round =>
    obtain ⟨i, hi, rfl, rfl, HW⟩ := hrel
    by_cases hlt : i < 2
    · obtain ⟨p, c, l, hc, hI, hp, hl, hf⟩ := HONE.out i hlt
      have hcw := (HW.out.cell (p := ⟨R, i, none⟩) hR).trans hc
      have hfl := HFL.out i
      have hw1 : IntKind.i64.wrap (((F i).length : Int) + (l.length : Int)) = ((F i).length : Int) + (l.length : Int) := by rw [IntKind.wrap_i64]; omega
      have HE : Hid (((F (i + 1)).length : Int) = ((F i).length : Int) + (l.length : Int)) := by show _ = _; rw [hf, List.length_append]; exact Int.natCast_add _ _
      have hnn : (0 : Int) ≤ ((F i).length : Int) + (l.length : Int) := by omega
      clear hf hc hp hI
      go_wp2
      go_roundw
      case rel => exact ⟨i + 1, by omega, by go_num, by rw [HE.out], HW⟩
      case measure => simp [intOf]; omega
    · obtain rfl : i = 2 := by omega
      have hfl := HFL.out 2
      go_wp2_with fail
      refine (slGrow_nil (F 2).length (by omega) _).mono ?_
      rintro e w1 ⟨v1, rfl, hr1, hb1⟩
      have HB1 := hid (HW.out.trans (hb1.mono HW.out.size))
      have HR1 : Hid (∀ b, b ≤ wr.heap.size → RwI w1 b v1 []) := fun b hb => ⟨hr1.1, hr1.2.imp id (fun ⟨g, cap, cur, h1, h2, h3⟩ => ⟨g, cap, cur, h1, Nat.le_trans hb h2, h3⟩)⟩
      have HR := hid (HR1.out w.heap.size HW.out.size)
      clear hr1 hb1 HR1
      go_wp2_with fail
      go_loopw [6, 27] (fun sv iv wr => ∃ i : Nat, i ≤ 2 ∧ iv = .int .i64 i ∧ Hid (RwI wr w.heap.size sv (F i)) ∧ Hid (Below w.heap.size w wr)) (fun _ iv _ => 2 - (intOf iv).toNat)
      case atStart => exact ⟨0, by omega, rfl, by rw [hz]; exact HR, HB1⟩
      case round =>
        obtain ⟨i, hi, rfl, HRR, HWW⟩ := hrel
        by_cases hlt : i < 2
        · obtain ⟨p, c, l, hc, hI, hp, hl, hf⟩ := HONE.out i hlt
          have hcw := (HWW.out.cell (p := ⟨R, i, none⟩) hR).trans hc
          have hfl := HFL.out i
          have HI := hid (hI.below HWW.out)
          have HP := hid hp
          have HE := hid hf
          have HOWN := hid HRR.out.own
          clear hf hc hp hI
          go_wp2_with (at_builtin; refine wpList_append_ints rfl _ _ rfl w.heap.size _ (F i) l rfl HRR.out p c rfl HI.out HP.out (by omega) HWW.out.size ?_; intro v' w2 hr2 hg2)
          have HR2 := hid hr2
          have HB2 := hid (HWW.out.grown hg2 HWW.out.size HOWN.out)
          clear hr2 hg2
          go_roundw
          case rel => exact ⟨i + 1, by omega, by go_num, by rw [HE.out]; exact HR2, HB2⟩
          case measure => simp [intOf]; omega
        · obtain rfl : i = 2 := by omega
          go_wp2
          go_ret
          exact ⟨_, rfl, HRR.out, HWW.out⟩
end Go.Proofs.YtknlhejhnopnaaaGreatDoor

/- The variables of two tables together. -/
namespace Go.Proofs.YtknlhejhnopnaaaGreatDoor
open Go.RowKit Go.Shelf Go.Sort Go.Lib

theorem rise_extI : ∀ {a b : List Int}, a.Pairwise (· < ·) → b.Pairwise (· < ·) → (∀ x, x ∈ a ↔ x ∈ b) → a = b
  | [], [], _, _, _ => rfl
  | [], y :: b, _, _, h => absurd ((h y).2 List.mem_cons_self) (by simp)
  | x :: a, [], _, _, h => absurd ((h x).1 List.mem_cons_self) (by simp)
  | x :: a, y :: b, ha, hb, h => by
    rw [List.pairwise_cons] at ha hb
    have e : x = y := by
      have h1 := (h x).1 List.mem_cons_self
      have h2 := (h y).2 List.mem_cons_self
      rw [List.mem_cons] at h1 h2
      rcases h1 with h1 | h1
      · exact h1
      · rcases h2 with h2 | h2
        · exact h2.symm
        · have := hb.1 x h1
          have := ha.1 y h2
          omega
    subst e
    rw [rise_extI ha.2 hb.2 fun z => ?_]
    constructor
    · intro hz
      have h1 := (h z).1 (List.mem_cons_of_mem _ hz)
      have := ha.1 z hz
      rw [List.mem_cons] at h1
      rcases h1 with h1 | h1
      · omega
      · exact h1
    · intro hz
      have h1 := (h z).2 (List.mem_cons_of_mem _ hz)
      have := hb.1 z hz
      rw [List.mem_cons] at h1
      rcases h1 with h1 | h1
      · omega
      · exact h1
theorem compact_upto {d : Array Int} (hs : ∀ i j, i ≤ j → j < d.size → d[i]! ≤ d[j]!) : ∀ m, m ≤ d.size → (compactUpTo d m).Pairwise (· < ·) ∧ ∀ x, x ∈ compactUpTo d m ↔ ∃ j, j < m ∧ d[j]! = x
  | 0, _ => ⟨by simp [compactUpTo], fun x => by simp [compactUpTo]⟩
  | m + 1, hm => by
    obtain ⟨h1, h2⟩ := compact_upto hs m (by omega)
    rw [compactUpTo_succ]
    by_cases hk : keeps d m = true
    · rw [if_pos hk]
      constructor
      · rw [List.pairwise_append]
        refine ⟨h1, by simp, fun x hx y hy => ?_⟩
        obtain ⟨j, hj, rfl⟩ := (h2 x).1 hx
        rw [List.mem_singleton] at hy
        subst hy
        rw [keeps, decide_eq_true_iff] at hk
        rcases hk with hk | hk
        · omega
        · have e1 := hs j (m - 1) (by omega) (by omega)
          have e2 := hs (m - 1) m (by omega) (by omega)
          omega
      · intro x
        rw [List.mem_append, h2, List.mem_singleton]
        constructor
        · rintro (⟨j, hj, rfl⟩ | rfl)
          · exact ⟨j, by omega, rfl⟩
          · exact ⟨m, by omega, rfl⟩
        · rintro ⟨j, hj, rfl⟩
          by_cases e : j = m
          · exact .inr (by rw [e])
          · exact .inl ⟨j, by omega, rfl⟩
    · rw [if_neg hk, List.append_nil]
      refine ⟨h1, fun x => ?_⟩
      rw [h2]
      have hk' : ¬ (m = 0 ∨ d[m]! ≠ d[m - 1]!) := fun h => hk (by rw [keeps, decide_eq_true_iff]; exact h)
      have hm0 : m ≠ 0 := fun h => hk' (.inl h)
      have hmm : d[m]! = d[m - 1]! := Classical.byContradiction fun h => hk' (.inr h)
      constructor
      · rintro ⟨j, hj, rfl⟩
        exact ⟨j, by omega, rfl⟩
      · rintro ⟨j, hj, rfl⟩
        by_cases e : j = m
        · exact ⟨m - 1, by omega, by rw [e, hmm]⟩
        · exact ⟨j, by omega, rfl⟩
/-- What together answers. -/
def togL (la lb : List Int) : List Int := Lib.compact ((la ++ lb).mergeSort fun x y => decide (x ≤ y))
theorem togL_rise (la lb : List Int) : (togL la lb).Pairwise (· < ·) ∧ ∀ x, x ∈ togL la lb ↔ x ∈ la ∨ x ∈ lb := by
  have hp : ((la ++ lb).mergeSort fun x y => decide (x ≤ y)).Pairwise (fun x y => decide (x ≤ y) = true) := List.pairwise_mergeSort (fun a b c h1 h2 => by simp at h1 h2 ⊢; omega) (fun a b => by simp; omega) _
  have hm : ∀ x, x ∈ ((la ++ lb).mergeSort fun x y => decide (x ≤ y)) ↔ x ∈ la ∨ x ∈ lb := fun x => by rw [List.mem_mergeSort, List.mem_append]
  rw [togL]
  generalize ((la ++ lb).mergeSort fun x y => decide (x ≤ y)) = zs at hp hm
  have hs : ∀ i j, i ≤ j → j < zs.toArray.size → zs.toArray[i]! ≤ zs.toArray[j]! := fun i j hij hj => by
    have hj' : j < zs.length := by simpa using hj
    rw [getElem!_pos zs.toArray i (by omega), getElem!_pos zs.toArray j hj]
    by_cases e : i = j
    · subst e; exact Int.le_refl _
    · have := List.pairwise_iff_getElem.1 hp i j (by omega) hj' (by omega)
      simpa using this
  obtain ⟨h1, h2⟩ := compact_upto hs zs.toArray.size (Nat.le_refl _)
  have e : Lib.compact zs = compactUpTo zs.toArray zs.toArray.size := by rw [Lib.compact]; simp
  rw [e]
  refine ⟨h1, fun x => ?_⟩
  rw [h2, ← hm]
  constructor
  · rintro ⟨j, hj, rfl⟩
    rw [getElem!_pos zs.toArray j hj]
    simp
  · intro hx
    obtain ⟨j, hj, rfl⟩ := List.getElem_of_mem hx
    exact ⟨j, by simpa using hj, by rw [getElem!_pos zs.toArray j (by simpa using hj)]; simp⟩
theorem togL_nil : togL [] [] = [] := List.eq_nil_iff_forall_not_mem.2 fun x hx => by have := ((togL_rise [] []).2 x).1 hx; simp at this
theorem inB_iff {k : Int} {l : List Int} : inB k l = true ↔ k ∈ l := by simp [inB]
theorem togL_both {la lb : List Int} {n : Nat} (ha : Up la n) (hb : Up lb n) : togL la lb = iL (bothN n la lb) := by
  obtain ⟨h1, h2⟩ := togL_rise la lb
  have ha' := (up_iff.1 ha).1
  have hb' := (up_iff.1 hb).1
  refine rise_extI h1 ?_ fun x => ?_
  · rw [iL, List.pairwise_map]
    exact ((range_rise n).filter _).imp fun h => by omega
  · rw [h2, iL, List.mem_map]
    constructor
    · intro hx
      have hr : 0 ≤ x ∧ x < n := hx.elim (ha' x) (hb' x)
      refine ⟨x.toNat, List.mem_filter.2 ⟨List.mem_range.2 (by omega), ?_⟩, by omega⟩
      rw [Bool.or_eq_true, inB_iff, inB_iff, Int.toNat_of_nonneg hr.1]
      exact hx
    · rintro ⟨v, hv, rfl⟩
      have := (List.mem_filter.1 hv).2
      rw [Bool.or_eq_true, inB_iff, inB_iff] at this
      exact this
theorem togL_up {la lb : List Int} {n : Nat} (ha : Up la n) (hb : Up lb n) : Up (togL la lb) n := by
  obtain ⟨h1, h2⟩ := togL_rise la lb
  exact up_iff.2 ⟨fun x hx => ((h2 x).1 hx).elim ((up_iff.1 ha).1 x) ((up_iff.1 hb).1 x), h1⟩
end Go.Proofs.YtknlhejhnopnaaaGreatDoor

/- Package table: together. -/
namespace Go.Proofs.YtknlhejhnopnaaaGreatDoor
open Go.RowKit Go.Shelf Go.Sort Go.Lib

set_option maxRecDepth 100000 in
set_option maxHeartbeats 800000 in
theorem tTogether_any (a b : Option Addr) (ca cb : Nat) (la lb : List Int) (w : World) (ha : IntS w a la) (hb : IntS w b lb) (ha0 : a = none → ca = 0) (hb0 : b = none → cb = 0) (hla : la.length ≤ 1000) (hlb : lb.length ≤ 1000) :
    Calls Tryz.prog 51 #[.slice a la.length ca, .slice b lb.length cb] w fun e w' => ∃ (d : Option Addr) (cd : Nat), e = .returned (.slice d (togL la lb).length cd) ∧ IntS w' d (togL la lb) ∧ Below w.heap.size w w' := by
  obtain ⟨L, hL⟩ : ∃ L, L = togL la lb := ⟨_, rfl⟩
  rw [← hL]
  have HL := hid hL
  have hb0' : Below w.heap.size w (w.alloc (.cells #[.slice a la.length ca, .slice b lb.length cb] 22)) := (Below.refl _ w).alloc (Nat.le_refl _) _
  have hrow : (w.alloc (.cells #[.slice a la.length ca, .slice b lb.length cb] 22)).heap[w.heap.size]? = some (.cells #[.slice a la.length ca, .slice b lb.length cb] 22 (0, 0)) := heap_alloc_new _ _
  have HCON := hid (slConcat_any w.heap.size a b ca cb la lb (w.alloc (.cells #[.slice a la.length ca, .slice b lb.length cb] 22)) (by simp) (by rw [cell_of_row _ _ _ _ _ (0, 0) hrow]; rfl) (by rw [cell_of_row _ _ _ _ _ (0, 0) hrow]; rfl) (ha.below hb0') (hb.below hb0') ha0 hb0 hla hlb)
  clear hL ha hb ha0 hb0 hrow
  go_enter Tryz.func51, Tryz.ntmps51
  go_wp2_with fail
  generalize (w.alloc (.cells #[.slice a la.length ca, .slice b lb.length cb] 22)) = W at *
  refine HCON.out.mono ?_
  rintro e w1 ⟨v, rfl, hr, hb1⟩
  have hB1 := hb0'.trans (hb1.mono hb0'.size)
  have hs0 := hb0'.size
  rcases hr.cases with ⟨rfl, hnil⟩ | ⟨g, cap, rfl, hg0, hg, hc1, hc2, hh⟩
  · have hL0 : L = [] := by
      have h1 : la = [] := (List.append_eq_nil_iff.1 hnil).1
      have h2 : lb = [] := (List.append_eq_nil_iff.1 hnil).2
      rw [HL.out, h1, h2, togL_nil]
    subst hL0
    go_wp2_with fail
    refine (Tryz.slices_Sort_int_none none 0 _).mono ?_
    rintro e w2 ⟨rfl, rfl⟩
    go_wp2_with fail
    refine (Tryz.slices_Compact_int_empty none 0 _).mono ?_
    rintro e w3 ⟨rfl, rfl⟩
    go_wp2
    go_ret
    exact ⟨none, 0, rfl, fun k hk => absurd hk (by simp), hB1⟩
  · have hll : (la ++ lb).length ≤ 2000 := by rw [List.length_append]; omega
    have hsort := Tryz.slices_Sort_int g 0 cap (la ++ lb) w1 hh hg (by omega)
    have hlen : ((la ++ lb).mergeSort fun x y => decide (x ≤ y)).length = (la ++ lb).length := List.length_mergeSort _
    have hcl := Lib.compact_length_le ((la ++ lb).mergeSort fun x y => decide (x ≤ y))
    rw [← show togL la lb = Lib.compact ((la ++ lb).mergeSort fun x y => decide (x ≤ y)) from rfl, ← HL.out] at hcl
    have HSORT := hid hsort
    have HTOG : Hid (Lib.compact ((la ++ lb).mergeSort fun x y => decide (x ≤ y)) = L) := HL.out.symm
    generalize ((la ++ lb).mergeSort fun x y => decide (x ≤ y)) = zs at *
    have HH := hid hh
    clear hsort hh hr hc2 hb1
    generalize hLL : (la ++ lb).length = n at *
    go_wp2_with fail
    refine HSORT.out.mono ?_
    rintro e w2 ⟨rfl, q, os, rfl⟩
    have hsz : zs.toArray.size = (la ++ lb).toArray.size := by simp; rw [hlen, ← hLL]; simp
    have hH2 : Holds (Value.int .i64) (grow (putRow (Value.int .i64) (Sort.ahead w1 q) g 0 zs.toArray) os) g 0 zs.toArray := fun j hj => by
      obtain ⟨h1, h2⟩ := holds_putRow (Value.int .i64) (Sort.ahead w1 q) g 0 _ zs.toArray HH.out hsz j hj
      have hgp : g < (putRow (Value.int .i64) (Sort.ahead w1 q) g 0 zs.toArray).heap.size := by rw [size_putRow]; exact hg
      refine ⟨(cell?_grow _ _ _ hgp).trans h1, ?_⟩
      rw [frozen?_grow _ _ _ hgp]
      exact h2
    have hgw : g < (grow (putRow (Value.int .i64) (Sort.ahead w1 q) g 0 zs.toArray) os).heap.size := Nat.lt_of_lt_of_le hg (grownBy_sortedI (w := w1) (g := g) (n := q) (os := os) zs.toArray).size
    have hB2 := below_sorted (n := q) (os := os) zs.toArray hB1 hB1.size (show w.heap.size ≤ g by omega)
    generalize grow (putRow (Value.int .i64) (Sort.ahead w1 q) g 0 zs.toArray) os = w2 at *
    have hcomp := Tryz.slices_Compact_int g 0 cap zs w2 hH2 (by omega) (by omega)
    rw [hlen, HTOG.out] at hcomp
    have HCOMP := hid hcomp
    have HH2 := hid hH2
    clear hcomp hH2 hsz
    go_wp2_with fail
    refine HCOMP.out.mono ?_
    rintro e w3 ⟨rfl, q2, rfl⟩
    go_wp2
    go_ret
    have hsum : (L ++ List.replicate (n - L.length) 0).toArray.size = zs.toArray.size := by
      simp
      omega
    exact ⟨some ⟨g, 0, none⟩, cap, rfl, holds_ints (holds_putRow (Value.int .i64) (Sort.ahead w2 q2) g 0 zs.toArray _ HH2.out hsum) (by rw [size_putRow]; exact hgw) (fun j hj => ⟨by simp; omega, by simp [List.getElem_append_left, hj]⟩), below_put_row _ hB2 hB2.size (by omega)⟩
end Go.Proofs.YtknlhejhnopnaaaGreatDoor

/- Package table: the closure of Product. -/
namespace Go.Proofs.YtknlhejhnopnaaaGreatDoor
open Go.RowKit Go.Shelf

set_option maxRecDepth 100000 in
set_option maxHeartbeats 800000 in
theorem prod1_any (Ba Fa Bb Fb : Nat) (c d : Option Addr) (ca cb : Nat) (fa fb : Array Value) (la lb : List Fr) (k P Q : Nat) (hP : P < la.length) (hQ : Q < lb.length) (w : World)
    (hBa : Ba < w.heap.size) (xa : w.cell? ⟨Ba, 1, none⟩ = some (.slice c la.length ca)) (hFa : Fa < w.heap.size) (ya : w.cell? ⟨Fa, 0, none⟩ = some (.func (.func 103) #[] fa)) (hBb : Bb < w.heap.size) (xb : w.cell? ⟨Bb, 1, none⟩ = some (.slice d lb.length cb)) (hFb : Fb < w.heap.size) (yb : w.cell? ⟨Fb, 0, none⟩ = some (.func (.func 103) #[] fb)) (ha : FrS w c la) (hb : FrS w d lb) (wa : fw la ≤ 10000) (wb : fw lb ≤ 10000)
    (h1 : ∀ V, Below w.heap.size w V → Calls Tryz.prog 103 (#[.int .i64 (k : Nat)] ++ fa) V fun e w' => e = .returned (.int .i64 (P : Nat)) ∧ Below V.heap.size V w')
    (h2 : ∀ V, Below w.heap.size w V → Calls Tryz.prog 103 (#[.int .i64 (k : Nat)] ++ fb) V fun e w' => e = .returned (.int .i64 (Q : Nat)) ∧ Below V.heap.size V w') :
    Calls Tryz.prog 54 #[.int .i64 (k : Nat), .pointer (some ⟨Ba, 0, none⟩), .pointer (some ⟨Fa, 0, none⟩), .pointer (some ⟨Bb, 0, none⟩), .pointer (some ⟨Fb, 0, none⟩)] w fun e w' => e = .returned (frV (qF (frQ (celF la P) * frQ (celF lb Q)))) ∧ Below w.heap.size w w' := by
  obtain ⟨g, o, rfl, hg, a0, a1, a2⟩ := ha P hP
  obtain ⟨h, p, rfl, hh, b0, b1, b2⟩ := hb Q hQ
  have hsa := celF_size hP
  have hsb := celF_size hQ
  rw [← celF_eq hP] at a0 a1 a2
  rw [← celF_eq hQ] at b0 b1 b2
  have HC := hid (fun V : World => fMul_q (w := V) (frQ (celF la P) * frQ (celF lb Q)) rfl rfl rfl (show (celF la P).2.1.size + (celF la P).2.2.size ≤ 100000 by omega) (show (celF lb Q).2.1.size + (celF lb Q).2.2.size ≤ 100000 by omega))
  rw [frV_qF]
  have H1 := hid h1
  have H2 := hid h2
  generalize frQ (celF la P) * frQ (celF lb Q) = r at *
  clear ha hb h1 h2 hsa hsb wa wb
  generalize celF la P = f at *
  generalize celF lb Q = f' at *
  obtain ⟨xn, xx, xy⟩ := f
  obtain ⟨yn, yx, yy⟩ := f'
  simp only at a0 a1 a2 b0 b1 b2 HC
  have hb0 : Box (w.alloc (FC false ⟨#[]⟩ ⟨#[]⟩)) w.heap.size false ⟨#[]⟩ ⟨#[]⟩ := Box.new w _ _ _
  have hB : Below w.heap.size w (w.alloc (FC false ⟨#[]⟩ ⟨#[]⟩)) := (Below.refl _ w).alloc (Nat.le_refl _) _
  go_enter Tryz.func54, Tryz.ntmps54
  go_upto_region 1 with fail
  generalize (w.alloc (FC false ⟨#[]⟩ ⟨#[]⟩)) = W at *
  replace hb0 := hb0.drew
  replace hB := hB.drew
  have held : ∀ u, Below w.heap.size w u → u.cell? ⟨Ba, 1, none⟩ = some (.slice (some ⟨g, o, none⟩) la.length ca) ∧ u.cell? ⟨Fa, 0, none⟩ = some (.func (.func 103) #[] fa) ∧ u.cell? ⟨Bb, 1, none⟩ = some (.slice (some ⟨h, p, none⟩) lb.length cb) ∧ u.cell? ⟨Fb, 0, none⟩ = some (.func (.func 103) #[] fb) ∧ u.cell? ⟨g, o + P * 3, none⟩ = some (.bool xn) ∧ u.cell? ⟨g, o + P * 3 + 1, none⟩ = some (.string xx) ∧ u.cell? ⟨g, o + P * 3 + 2, none⟩ = some (.string xy) ∧ u.cell? ⟨h, p + Q * 3, none⟩ = some (.bool yn) ∧ u.cell? ⟨h, p + Q * 3 + 1, none⟩ = some (.string yx) ∧ u.cell? ⟨h, p + Q * 3 + 2, none⟩ = some (.string yy) := fun u e => ⟨(e.cell (p := ⟨Ba, 1, none⟩) hBa).trans xa, (e.cell (p := ⟨Fa, 0, none⟩) hFa).trans ya, (e.cell (p := ⟨Bb, 1, none⟩) hBb).trans xb, (e.cell (p := ⟨Fb, 0, none⟩) hFb).trans yb, (e.cell (p := ⟨g, _, none⟩) hg).trans a0, (e.cell (p := ⟨g, _, none⟩) hg).trans a1, (e.cell (p := ⟨g, _, none⟩) hg).trans a2, (e.cell (p := ⟨h, _, none⟩) hh).trans b0, (e.cell (p := ⟨h, _, none⟩) hh).trans b1, (e.cell (p := ⟨h, _, none⟩) hh).trans b2⟩
  have HELD := hid held
  clear held a0 a1 a2 b0 b1 b2 xa ya xb yb
  refine wp_region_held_drew (S := fun u => u.cell? ⟨Ba, 1, none⟩ = some (.slice (some ⟨g, o, none⟩) la.length ca) ∧ u.cell? ⟨Fa, 0, none⟩ = some (.func (.func 103) #[] fa) ∧ u.cell? ⟨Bb, 1, none⟩ = some (.slice (some ⟨h, p, none⟩) lb.length cb) ∧ u.cell? ⟨Fb, 0, none⟩ = some (.func (.func 103) #[] fb) ∧ u.cell? ⟨g, o + P * 3, none⟩ = some (.bool xn) ∧ u.cell? ⟨g, o + P * 3 + 1, none⟩ = some (.string xx) ∧ u.cell? ⟨g, o + P * 3 + 2, none⟩ = some (.string xy) ∧ u.cell? ⟨h, p + Q * 3, none⟩ = some (.bool yn) ∧ u.cell? ⟨h, p + Q * 3 + 1, none⟩ = some (.string yx) ∧ u.cell? ⟨h, p + Q * 3 + 2, none⟩ = some (.string yy)) (by kernel_rfl) (HELD.out _ hB) (fun hSd => ?_)
  generalize W.drew = u0 at *
  refine wpAnyH_take (i := 0) (oi := _) (v := .pointer (some ⟨Ba, 1, none⟩)) rfl (by kernel_rfl) (by kernel_rfl) (by kernel_rfl) (fun _ _ _ h => h) (Or.inl ⟨by rfl, ?_⟩) (by assumption) ?_
  · intro u' hSu
    (try simp only [List.getElem_toArray, List.getElem_cons_zero])
    go_simp
  (try simp only [List.getElem_toArray, List.getElem_cons_zero])
  (try simp only [Act.put, List.setIfInBounds_toArray, List.set_cons_zero, List.set_cons_succ])
  refine wpAnyH_take (i := 1) (oi := _) (v := .slice (some ⟨g, o, none⟩) la.length ca) rfl (by kernel_rfl) (by kernel_rfl) (by kernel_rfl) (fun _ _ _ h => h) (Or.inl ⟨by rfl, ?_⟩) (by assumption) ?_
  · intro u' hSu
    (try simp only [List.getElem_toArray, List.getElem_cons_zero, List.getElem_cons_succ])
    obtain ⟨s1, s2, s3, s4, s5, s6, s7, s8, s9, s10⟩ := hSu
    go_simp
  (try simp only [List.getElem_toArray, List.getElem_cons_zero, List.getElem_cons_succ])
  (try simp only [Act.put, List.setIfInBounds_toArray, List.set_cons_zero, List.set_cons_succ])
  refine wpAnyH_take (i := 2) (oi := _) (v := .func (.func 103) #[] fa) rfl (by kernel_rfl) (by kernel_rfl) (by kernel_rfl) (fun _ _ _ h => h) (Or.inl ⟨by rfl, ?_⟩) (by assumption) ?_
  · intro u' hSu
    (try simp only [List.getElem_toArray, List.getElem_cons_zero, List.getElem_cons_succ])
    obtain ⟨s1, s2, s3, s4, s5, s6, s7, s8, s9, s10⟩ := hSu
    go_simp
  (try simp only [List.getElem_toArray, List.getElem_cons_zero, List.getElem_cons_succ])
  (try simp only [Act.put, List.setIfInBounds_toArray, List.set_cons_zero, List.set_cons_succ])
  refine wpAnyH_take (i := 3) (oi := _) (v := .int .i64 (k : Nat)) rfl (by kernel_rfl) (by kernel_rfl) (by kernel_rfl) (fun _ _ _ h => h) (Or.inl ⟨by rfl, ?_⟩) (by assumption) ?_
  · intro u' hSu
    (try simp only [List.getElem_toArray, List.getElem_cons_zero, List.getElem_cons_succ])
    go_simp
  (try simp only [List.getElem_toArray, List.getElem_cons_zero, List.getElem_cons_succ])
  (try simp only [Act.put, List.setIfInBounds_toArray, List.set_cons_zero, List.set_cons_succ])
  refine wpAnyH_take (i := 7) (oi := _) (v := .pointer (some ⟨Bb, 1, none⟩)) rfl (by kernel_rfl) (by kernel_rfl) (by kernel_rfl) (fun _ _ _ h => h) (Or.inl ⟨by rfl, ?_⟩) (by assumption) ?_
  · intro u' hSu
    (try simp only [List.getElem_toArray, List.getElem_cons_zero, List.getElem_cons_succ])
    go_simp
  (try simp only [List.getElem_toArray, List.getElem_cons_zero, List.getElem_cons_succ])
  (try simp only [Act.put, List.setIfInBounds_toArray, List.set_cons_zero, List.set_cons_succ])
  refine wpAnyH_take (i := 8) (oi := _) (v := .slice (some ⟨h, p, none⟩) lb.length cb) rfl (by kernel_rfl) (by kernel_rfl) (by kernel_rfl) (fun _ _ _ h => h) (Or.inl ⟨by rfl, ?_⟩) (by assumption) ?_
  · intro u' hSu
    (try simp only [List.getElem_toArray, List.getElem_cons_zero, List.getElem_cons_succ])
    obtain ⟨s1, s2, s3, s4, s5, s6, s7, s8, s9, s10⟩ := hSu
    go_simp
  (try simp only [List.getElem_toArray, List.getElem_cons_zero, List.getElem_cons_succ])
  (try simp only [Act.put, List.setIfInBounds_toArray, List.set_cons_zero, List.set_cons_succ])
  refine wpAnyH_take (i := 9) (oi := _) (v := .func (.func 103) #[] fb) rfl (by kernel_rfl) (by kernel_rfl) (by kernel_rfl) (fun _ _ _ h => h) (Or.inl ⟨by rfl, ?_⟩) (by assumption) ?_
  · intro u' hSu
    (try simp only [List.getElem_toArray, List.getElem_cons_zero, List.getElem_cons_succ])
    obtain ⟨s1, s2, s3, s4, s5, s6, s7, s8, s9, s10⟩ := hSu
    go_simp
  (try simp only [List.getElem_toArray, List.getElem_cons_zero, List.getElem_cons_succ])
  (try simp only [Act.put, List.setIfInBounds_toArray, List.set_cons_zero, List.set_cons_succ])
  refine wpAnyH_take (i := 10) (oi := _) (v := .int .i64 (k : Nat)) rfl (by kernel_rfl) (by kernel_rfl) (by kernel_rfl) (fun _ _ _ h => h) (Or.inl ⟨by rfl, ?_⟩) (by assumption) ?_
  · intro u' hSu
    (try simp only [List.getElem_toArray, List.getElem_cons_zero, List.getElem_cons_succ])
    go_simp
  (try simp only [List.getElem_toArray, List.getElem_cons_zero, List.getElem_cons_succ])
  (try simp only [Act.put, List.setIfInBounds_toArray, List.set_cons_zero, List.set_cons_succ])
  refine wpAnyH_ready (rs := [4]) (by kernel_rfl) (by simp) (AllReadyH.cons rfl ?_ (AllReadyH.nil))
  · intro K' hK'
    (try simp only [List.getElem_toArray, List.getElem_cons_zero, List.getElem_cons_succ])
    go_simp
    refine (H1.out _ hB).mono ?_
    rintro e u1 ⟨rfl, hb⟩
    replace hb0 := hb0.below hb hb0.lt
    replace hB := hB.trans (hb.mono hB.size)
    refine hK'.out _ _ (HELD.out _ hB) (fun hSe => ?_)
    clear hK' K' hSd
    have hSd := hSe
    clear hSe hb
    (try simp only [List.getElem_toArray, List.getElem_cons_zero, List.getElem_cons_succ])
    (try simp only [Act.put, List.setIfInBounds_toArray, List.set_cons_zero, List.set_cons_succ])
    refine wpAnyH_take (i := 5) (oi := _) (v := .pointer (some ⟨g, o + P * 3, none⟩)) rfl (by kernel_rfl) (by kernel_rfl) (by kernel_rfl) (fun _ _ _ h => h) (Or.inl ⟨by rfl, ?_⟩) (by assumption) ?_
    · intro u' hSu
      (try simp only [List.getElem_toArray, List.getElem_cons_zero, List.getElem_cons_succ])
      go_simp
    (try simp only [List.getElem_toArray, List.getElem_cons_zero, List.getElem_cons_succ])
    (try simp only [Act.put, List.setIfInBounds_toArray, List.set_cons_zero, List.set_cons_succ])
    refine wpAnyH_take (i := 6) (oi := _) (v := .agg #[.bool xn, .string xx, .string xy]) rfl (by kernel_rfl) (by kernel_rfl) (by kernel_rfl) (fun _ _ _ h => h) (Or.inl ⟨by rfl, ?_⟩) (by assumption) ?_
    · intro u' hSu
      (try simp only [List.getElem_toArray, List.getElem_cons_zero, List.getElem_cons_succ])
      obtain ⟨s1, s2, s3, s4, s5, s6, s7, s8, s9, s10⟩ := hSu
      go_simp
    (try simp only [List.getElem_toArray, List.getElem_cons_zero, List.getElem_cons_succ])
    (try simp only [Act.put, List.setIfInBounds_toArray, List.set_cons_zero, List.set_cons_succ])
    refine wpAnyH_ready (rs := [11]) (by kernel_rfl) (by simp) (AllReadyH.cons rfl ?_ (AllReadyH.nil))
    · intro K' hK'
      (try simp only [List.getElem_toArray, List.getElem_cons_zero, List.getElem_cons_succ])
      go_simp
      refine (H2.out _ hB).mono ?_
      rintro e u2 ⟨rfl, hb⟩
      replace hb0 := hb0.below hb hb0.lt
      replace hB := hB.trans (hb.mono hB.size)
      refine hK'.out _ _ (HELD.out _ hB) (fun hSe => ?_)
      clear hK' K' hSd
      have hSd := hSe
      clear hSe hb
      (try simp only [List.getElem_toArray, List.getElem_cons_zero, List.getElem_cons_succ])
      (try simp only [Act.put, List.setIfInBounds_toArray, List.set_cons_zero, List.set_cons_succ])
      refine wpAnyH_take (i := 12) (oi := _) (v := .pointer (some ⟨h, p + Q * 3, none⟩)) rfl (by kernel_rfl) (by kernel_rfl) (by kernel_rfl) (fun _ _ _ h => h) (Or.inl ⟨by rfl, ?_⟩) (by assumption) ?_
      · intro u' hSu
        (try simp only [List.getElem_toArray, List.getElem_cons_zero, List.getElem_cons_succ])
        go_simp
      (try simp only [List.getElem_toArray, List.getElem_cons_zero, List.getElem_cons_succ])
      (try simp only [Act.put, List.setIfInBounds_toArray, List.set_cons_zero, List.set_cons_succ])
      refine wpAnyH_take (i := 13) (oi := _) (v := .agg #[.bool yn, .string yx, .string yy]) rfl (by kernel_rfl) (by kernel_rfl) (by kernel_rfl) (fun _ _ _ h => h) (Or.inl ⟨by rfl, ?_⟩) (by assumption) ?_
      · intro u' hSu
        (try simp only [List.getElem_toArray, List.getElem_cons_zero, List.getElem_cons_succ])
        obtain ⟨s1, s2, s3, s4, s5, s6, s7, s8, s9, s10⟩ := hSu
        go_simp
      (try simp only [List.getElem_toArray, List.getElem_cons_zero, List.getElem_cons_succ])
      (try simp only [Act.put, List.setIfInBounds_toArray, List.set_cons_zero, List.set_cons_succ])
      refine wpAnyH_ready (rs := [14]) (by kernel_rfl) (by simp) (AllReadyH.cons rfl ?_ (AllReadyH.nil))
      · intro K' hK'
        (try simp only [List.getElem_toArray, List.getElem_cons_zero, List.getElem_cons_succ])
        go_simp
        refine (HC.out _).mono ?_
        rintro e u3 ⟨rfl, hb⟩
        replace hb0 := hb0.below hb hb0.lt
        replace hB := hB.trans (hb.mono hB.size)
        refine hK'.out _ _ (HELD.out _ hB) (fun hSe => ?_)
        clear hK' K' hSd
        have hSd := hSe
        clear hSe hb
        (try simp only [List.getElem_toArray, List.getElem_cons_zero, List.getElem_cons_succ])
        (try simp only [Act.put, List.setIfInBounds_toArray, List.set_cons_zero, List.set_cons_succ])
        obtain ⟨k0, k1, k2, f0, f1, f2⟩ := hb0.facts
        refine wpAnyH_ready (rs := [15]) (by kernel_rfl) (by simp) (AllReadyH.cons rfl ?_ (AllReadyH.nil))
        · intro K' hK'
          (try simp only [List.getElem_toArray, List.getElem_cons_zero, List.getElem_cons_succ])
          go_simp
          have hput := hb0.put (sgn r) (nu r) (de r)
          have hBp := below_put hB (g := w.heap.size) (Nat.le_refl _) (.bool (sgn r)) (.string (nu r)) (.string (de r))
          generalize (((u3.setCell ⟨w.heap.size, 0, none⟩ (.bool (sgn r))).setCell ⟨w.heap.size, 1, none⟩ (.string (nu r))).setCell ⟨w.heap.size, 2, none⟩ (.string (de r))) = v9 at *
          refine hK'.out _ _ (HELD.out _ hBp) (fun _ => wpAnyH_done (by kernel_rfl) ?_ _)
          clear hK' K' hSd
          go_wp2
          refine bodyPost_ret (hput.result rfl _ rfl) rfl ?_
          exact ⟨rfl, hBp⟩
end Go.Proofs.YtknlhejhnopnaaaGreatDoor
