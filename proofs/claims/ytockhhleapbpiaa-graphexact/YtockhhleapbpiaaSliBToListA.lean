/- Lists of ints: slices.Grow of nothing, slices.Concat of two. -/
import Derived.Test.YtockhhleapbpiaaFillAToTabT
import Derived.Lib.AppendZerosOnto
import Derived.Laws.AppendOwnNone
import Derived.Test.YtockhhleapbpiaaSetCToOrdA
import Derived.WalkMore
import Derived.RangeFuncBox
namespace Go.Proofs.Ytockhhleapbpiaa
open Go.RowKit Go.Shelf

set_option maxRecDepth 100000 in
set_option maxHeartbeats 400000 in
theorem slGrow_nil (n : Nat) (hn : n ≤ 100000) (w : World) :
    Calls Try.prog 93 #[.slice none 0 0, .int .i64 (n : Nat)] w fun e w' => ∃ v, e = .returned v ∧ RwI w' w.heap.size v [] ∧ Below w.heap.size w w' := by
  obtain ⟨i0, hi0, hz0, hz1, hz2⟩ := info_parts Try.infoInt
  by_cases h : n = 0
  · subst h
    go_enter Try.func93, Try.ntmps93
    go_wp2
    go_ret
    exact ⟨_, rfl, ⟨rfl, .inl ⟨rfl, rfl⟩⟩, Below.refl _ _⟩
  · have hold : (Builtin.firstCells i0.size 0 (.slice none 0 0)).run Try.prog w.drew = .ok ([] : List Value).toArray w.drew := run_firstCells_none w.drew i0.size 0 0 0
    have hrz : ∀ ty, (Builtin.append_ #[23, 3] ty #[.slice none 0 0, .int .i64 (n : Int)]).run Try.prog w = .ok (.slice (some ⟨w.heap.size, 0, none⟩) (0 + n) (grownCap w (0 + n) 0 3)) (w.drew.alloc (.cells (([] : List Value).toArray ++ Builtin.zeroCells (Value.int .i64 0).cells n ++ Builtin.zeroCells (Value.int .i64 0).cells (grownCap w (0 + n) 0 3 - (0 + n))) 3)) := fun ty =>
      Lib.run_append_grow_zeros w 23 3 ty 3 i0 (.int .i64 0) .i64 .i64 Try.underlying23 Try.underlying3 hi0 hz0 none 0 0 [] hold n (by omega) (by omega) (by omega) (by omega) (by rw [hz2]; omega) (growslice_fits (by omega) (by rw [hz2]; omega))
    have hGn : 0 + n ≤ grownCap w (0 + n) 0 3 := grownCap_ge w _ _ _
    have hGm := grownCap_le_maxLen w (0 + n) 0 3 (by unfold maxLen; omega)
    rw [Nat.zero_add] at hrz hGn hGm
    obtain ⟨G, hG⟩ : ∃ G, G = grownCap w n 0 3 := ⟨_, rfl⟩
    rw [← hG] at hrz hGn hGm
    have HGM := hid hGm
    have hG63 : G ≤ 9223372036854775807 := by unfold maxLen at hGm; omega
    have hn0 : (0 : Int) < (n : Int) := by omega
    clear hold hG hGm
    go_enter Try.func93, Try.ntmps93
    go_wp2_with (at_builtin; refine Lib.wpList_append_run _ rfl _ _ _ _ rfl _ _ rfl rfl _ _ (hrz _) ?_)
    go_ret
    refine ⟨_, rfl, ⟨rfl, .inr ⟨w.heap.size, G, _, rfl, Nat.le_refl _, heap_alloc_new w.drew _, Nat.zero_le _, HGM.out, ?_, by simp⟩⟩, ((Below.refl _ w).drew).alloc (Nat.le_refl _) _⟩
    simp [size_zeroCells]
    omega
theorem wpList_append_ints {w : World} {ops : Array Oper} {rest : List Oper} {o : Oper} {a : Act} {Q : Exit → Act → World → Prop} (hgd : o.guard = none) (s x : Operand)
    (ho : o.op = .call { callee := .builtin .append, args := #[s, x], argTypes := #[23, 23] }) (base : Nat) (v : Value) (xs la : List Int) (hs : a.eval s = v) (hown : RwI w base v xs) (p : Option Addr) (ca : Nat) (hx : a.eval x = .slice p la.length ca) (hi : IntS w p la) (hp : p = none → ca = 0) (hlen : xs.length + la.length ≤ 100000) (hbase : base ≤ w.heap.size)
    (h : ∀ v' w', RwI w' base v' (xs ++ la) → w.grownBy w' v.ownBlock → wpList Try.prog ops Q rest (a.put o.dst v') w') : wpList Try.prog ops Q (o :: rest) a w := by
  obtain ⟨i0, hi0, hz0, hz1, hz2⟩ := info_parts Try.infoInt
  cases p with
  | none =>
    have hl : la = [] := by
      cases la with
      | nil => rfl
      | cons x l => obtain ⟨g, o, e, _⟩ := hi 0 (by simp); cases e
    subst hl
    have h0 := hp rfl
    subst h0
    have h1 := h v w (by rw [List.append_nil]; exact hown) ⟨rfl, rfl, rfl, Nat.le_refl _, fun _ _ _ => rfl⟩
    exact wpList_append_own_none hgd s x 23 ho base 3 i0 1 Try.underlying23 hi0 v xs.length _ hs hown hx h1
  | some ad =>
    refine wpList_append_own _ hgd s x 23 ho base 3 i0 (.int .i64 0) 1 8 Try.underlying23 hi0 hz0 hz1 hz2 rfl (by decide) v xs.length _ hs hown ad la.length ca (la.map (Value.int .i64)) hx (by simp) ?_ ?_ (by unfold maxLen; omega) (by omega) hbase ?_
    · intro j u hj
      rw [List.getElem?_map] at hj
      cases hq : la[j]? with
      | none => rw [hq] at hj; cases hj
      | some z =>
        rw [hq] at hj
        cases hj
        obtain ⟨hj1, hj2⟩ := List.getElem?_eq_some_iff.1 hq
        obtain ⟨g, o', e, _, hc⟩ := hi j hj1
        cases e
        rw [← hj2]
        rw [Addr.add]
        by_cases h0 : j = 0
        · subst h0; simpa using hc
        · simpa [h0] using hc
    · intro u hu
      obtain ⟨z, _, rfl⟩ := List.mem_map.1 hu
      rfl
    · intro v' w' h1 h2 _
      refine h v' w' ?_ h2
      rw [RwI, List.length_append, List.map_append]
      exact h1

/-- The first so many of two lists. -/
def firstOf (la lb : List Int) (i : Nat) : List Int := if i = 0 then [] else if i = 1 then la else la ++ lb
theorem RwI.own {w : World} {B : Nat} {v : Value} {l : List Int} (h : RwI w B v l) : ∀ k, v.ownBlock = some k → B ≤ k := by
  intro k hk
  rcases h.2 with ⟨rfl, _⟩ | ⟨g, cap, cur, rfl, h2, _⟩
  · cases hk
  · cases hk
    exact h2

theorem firstOf_len {la lb : List Int} (hla : la.length ≤ 1000) (hlb : lb.length ≤ 1000) (i : Nat) : (firstOf la lb i).length ≤ 2000 := by
  rw [firstOf]
  by_cases h : i = 0
  · rw [if_pos h]; simp
  · rw [if_neg h]
    by_cases h1 : i = 1
    · rw [if_pos h1]; omega
    · rw [if_neg h1, List.length_append]; omega

set_option maxRecDepth 100000 in
set_option maxHeartbeats 800000 in
theorem slConcat_any (R : Nat) (a b : Option Addr) (ca cb : Nat) (la lb : List Int) (w : World) (hR : R < w.heap.size) (r0 : w.cell? ⟨R, 0, none⟩ = some (.slice a la.length ca)) (r1 : w.cell? ⟨R, 1, none⟩ = some (.slice b lb.length cb)) (ha : IntS w a la) (hb : IntS w b lb) (ha0 : a = none → ca = 0) (hb0 : b = none → cb = 0) (hla : la.length ≤ 1000) (hlb : lb.length ≤ 1000) :
    Calls Try.prog 86 #[.slice (some ⟨R, 0, none⟩) 2 2] w fun e w' => ∃ v, e = .returned v ∧ RwI w' w.heap.size v (la ++ lb) ∧ Below w.heap.size w w' := by
  have one : ∀ i, i < 2 → ∃ (p : Option Addr) (c : Nat) (l : List Int), w.cell? ⟨R, i, none⟩ = some (.slice p l.length c) ∧ IntS w p l ∧ (p = none → c = 0) ∧ l.length ≤ 1000 ∧ firstOf la lb (i + 1) = firstOf la lb i ++ l := by
    intro i hi
    by_cases h : i = 0
    · subst h
      exact ⟨a, ca, la, r0, ha, ha0, hla, by simp [firstOf]⟩
    · obtain rfl : i = 1 := by omega
      exact ⟨b, cb, lb, r1, hb, hb0, hlb, by simp [firstOf]⟩
  have HONE := hid one
  have HFL := hid (fun i => firstOf_len hla hlb i)
  have h2 : firstOf la lb 2 = la ++ lb := by simp [firstOf]
  rw [← h2]
  have hz : firstOf la lb 0 = [] := rfl
  clear one r0 r1 ha hb ha0 hb0 h2 hla hlb
  generalize firstOf la lb = F at *
  go_enter Try.func86, Try.ntmps86
  go_wp2_with fail
  go_loopw [3, 11] (fun sv iv wr => ∃ i : Nat, i ≤ 2 ∧ iv = .int .i64 i ∧ sv = .int .i64 ((F i).length : Nat) ∧ Hid (Below w.heap.size w wr)) (fun _ iv _ => 2 - (intOf iv).toNat)
  case atStart => exact ⟨0, by omega, rfl, by rw [hz]; rfl, Below.refl _ _⟩
  case round =>
    obtain ⟨i, hi, rfl, rfl, HW⟩ := hrel
    by_cases hlt : i < 2
    · obtain ⟨p, c, l, hc, hI, hp, hl, hf⟩ := HONE.out i hlt
      have hcw := (HW.out.cell (p := ⟨R, i, none⟩) hR).trans hc
      have hfl := HFL.out i
      have hw1 : IntKind.i64.wrap (((F i).length : Int) + (l.length : Int)) = ((F i).length : Int) + (l.length : Int) := by rw [IntKind.wrap_i64]; omega
      have HE : Hid (((F (i + 1)).length : Int) = ((F i).length : Int) + (l.length : Int)) := by show _ = _; rw [hf, List.length_append]; exact Int.natCast_add _ _
      have hnn : (0 : Int) ≤ ((F i).length : Int) + (l.length : Int) := by omega
      clear hf hc hp hI
      go_wp2
      go_roundw
      case rel => exact ⟨i + 1, by omega, by go_num, by rw [HE.out], HW⟩
      case measure => simp [intOf]; omega
    · obtain rfl : i = 2 := by omega
      have hfl := HFL.out 2
      go_wp2_with fail
      refine (slGrow_nil (F 2).length (by omega) _).mono ?_
      rintro e w1 ⟨v1, rfl, hr1, hb1⟩
      have HB1 := hid (HW.out.trans (hb1.mono HW.out.size))
      have HR1 : Hid (∀ b, b ≤ wr.heap.size → RwI w1 b v1 []) := fun b hb => ⟨hr1.1, hr1.2.imp id (fun ⟨g, cap, cur, h1, h2, h3⟩ => ⟨g, cap, cur, h1, Nat.le_trans hb h2, h3⟩)⟩
      have HR := hid (HR1.out w.heap.size HW.out.size)
      clear hr1 hb1 HR1
      go_wp2_with fail
      go_loopw [6, 27] (fun sv iv wr => ∃ i : Nat, i ≤ 2 ∧ iv = .int .i64 i ∧ Hid (RwI wr w.heap.size sv (F i)) ∧ Hid (Below w.heap.size w wr)) (fun _ iv _ => 2 - (intOf iv).toNat)
      case atStart => exact ⟨0, by omega, rfl, by rw [hz]; exact HR, HB1⟩
      case round =>
        obtain ⟨i, hi, rfl, HRR, HWW⟩ := hrel
        by_cases hlt : i < 2
        · obtain ⟨p, c, l, hc, hI, hp, hl, hf⟩ := HONE.out i hlt
          have hcw := (HWW.out.cell (p := ⟨R, i, none⟩) hR).trans hc
          have hfl := HFL.out i
          have HI := hid (hI.below HWW.out)
          have HP := hid hp
          have HE := hid hf
          have HOWN := hid HRR.out.own
          clear hf hc hp hI
          go_wp2_with (at_builtin; refine wpList_append_ints rfl _ _ rfl w.heap.size _ (F i) l rfl HRR.out p c rfl HI.out HP.out (by omega) HWW.out.size ?_; intro v' w2 hr2 hg2)
          have HR2 := hid hr2
          have HB2 := hid (HWW.out.grown hg2 HWW.out.size HOWN.out)
          clear hr2 hg2
          go_roundw
          case rel => exact ⟨i + 1, by omega, by go_num, by rw [HE.out]; exact HR2, HB2⟩
          case measure => simp [intOf]; omega
        · obtain rfl : i = 2 := by omega
          go_wp2
          go_ret
          exact ⟨_, rfl, HRR.out, HWW.out⟩
end Go.Proofs.Ytockhhleapbpiaa


/- Package graph: order, read, Check. -/
namespace Go.Proofs.Ytockhhleapbpiaa
open Go.RowKit Go.Shelf

theorem one_int (w : World) (u : Int) : IntS (w.alloc (.cells #[.int .i64 u] 3)) (some ⟨w.heap.size, 0, none⟩) [u] := fun k hk => by
  obtain rfl : k = 0 := by simp at hk; omega
  exact ⟨w.heap.size, 0, rfl, by simp, (Boxed.new w _ _).cell⟩
theorem RwI.under {w w' : World} {B : Nat} {v : Value} {l : List Int} (h : RwI w B v l) (hb : Below w.heap.size w w') : RwI w' B v l := by
  refine ⟨h.1, h.2.imp id ?_⟩
  rintro ⟨g, cap, cur, h1, h2, h3, h4⟩
  exact ⟨g, cap, cur, h1, h2, (hb.block g (Array.getElem?_eq_some_iff.1 h3).1).trans h3, h4⟩
theorem free_out {P : List (List Nat)} {out : List Nat} {v : Nat} (h : v ∈ out) : freeB P out v = false := by simp [freeB, h]
theorem free_par {P : List (List Nat)} {out p : List Nat} {v : Nat} (hp : P.getD v [] = p) (h : ¬ ∀ u ∈ p, u ∈ out) : freeB P out v = false := by rw [freeB, hp, decide_eq_false h, Bool.and_false]
theorem free_yes {P : List (List Nat)} {out p : List Nat} {v : Nat} (hp : P.getD v [] = p) (h : ¬ v ∈ out) (h' : ∀ u ∈ p, u ∈ out) : freeB P out v = true := by rw [freeB, hp, decide_eq_true h', decide_eq_false h]; rfl

set_option maxRecDepth 100000 in
set_option maxHeartbeats 1000000 in
theorem order_any (G c : Nat) (P : List (List Nat)) (w : World) (hU : RowU w G (P.map mskN)) (hn : P.length ≤ 8) (hP : ∀ p ∈ P, ∀ u ∈ p, u < 8) :
    Calls Try.prog 35 #[.slice (some ⟨G, 0, none⟩) P.length c] w fun e w' => ∃ x, e = .returned x ∧ RwI w' w.heap.size x (iL (ordN P P.length)) ∧ Below w.heap.size w w' := by
  obtain ⟨i0, hi0, hz0, hz1, hz2⟩ := info_parts Try.infoInt
  have HU := hid hU
  have HP : Hid (∀ i, i < P.length → (∀ u ∈ P.getD i [], u < 8) ∧ ∃ h : i < (P.map mskN).length, (P.map mskN)[i] = mskN (P.getD i [])) := fun i hi => by
    have e : P.getD i [] = P[i] := by rw [List.getD_eq_getElem?_getD, List.getElem?_eq_getElem hi]; rfl
    rw [e]
    exact ⟨hP _ (List.getElem_mem hi), by simpa using hi, by simp⟩
  have HOL : Hid (∀ k, ∀ u ∈ ordN P k, u < 8) := fun k u hu => Nat.lt_of_lt_of_le (ord_lt P k u hu) hn
  have HLN := hid (ord_len P)
  have HSO : Hid (∀ k v, v < P.length → freeB P (ordN P k) v = true → (∀ u, u < v → freeB P (ordN P k) u = false) → ordN P (k + 1) = ordN P k ++ [v]) := fun k v h1 h2 h3 => ord_some (next_some h1 h2 h3)
  have HST : Hid (∀ k, k ≤ P.length → (∀ u, u < P.length → freeB P (ordN P k) u = false) → ordN P P.length = ordN P k) := fun k h1 h2 => ord_stuck (next_none h2) h1
  have HO0 : Hid (ordN P 0 = []) := rfl
  generalize hF : ordN P = F at *
  clear hU hP hF
  go_enter Try.func35, Try.ntmps35
  go_wp2_with fail
  go_step3
  go_wp2_with (first
    | (at_make; refine wpList_make_own _ rfl _ _ 23 rfl w.heap.size 3 i0 (.int .i64 0) 1 Try.underlying23 hi0 hz0 hz1 .i64 .i64 _ P.length rfl rfl (by go_num) (by rw [hz2]; omega) (by unfold maxLen; omega) (Nat.le_refl _) ?_; intro w2 hown2 hgrow2))
  have HI : Hid (RwI w2 w.heap.size (.slice (some ⟨w.heap.size, 0, none⟩) 0 P.length) []) := hown2
  have HB2 : Hid (Below w.heap.size w w2) := (Below.refl _ w).grown hgrow2 (Nat.le_refl _) (fun k e => by cases e)
  clear hown2 hgrow2
  go_wp2_with fail
  go_step3
  go_wp2_with fail
  go_loopw [3, 4, 12] (fun sv lv iv wr => ∃ k : Nat, k ≤ P.length ∧ iv = .int .i64 k ∧ sv = .int .u32 (mskN (F k) : Nat) ∧ Hid (RwI wr w.heap.size lv (iL (F k))) ∧ Hid (Below w.heap.size w wr)) (fun _ _ iv _ => P.length - (intOf iv).toNat)
  case atStart => exact ⟨0, Nat.zero_le _, rfl, by rw [HO0.out]; rfl, by rw [HO0.out]; exact HI, HB2⟩
  case round =>
    obtain ⟨k, hk, rfl, rfl, HR, HB⟩ := hrel
    clear HI HB2
    by_cases hlt : k < P.length
    · have HUW := hid (HU.out.below HB.out HU.out.lt)
      go_wp2_with fail
      go_loopw [3, 4, 16] (fun sv lv jv wq => ∃ v : Nat, v ≤ P.length ∧ jv = .int .i64 v ∧ sv = .int .u32 (mskN (F k) : Nat) ∧ lv = u4 ∧ Hid (∀ u, u < v → freeB P (F k) u = false) ∧ wq = wr) (fun _ _ jv _ => P.length - (intOf jv).toNat)
      case atStart => exact ⟨0, Nat.zero_le _, rfl, rfl, rfl, fun u h => absurd h (by omega), rfl⟩
      case round =>
        obtain ⟨v, hv, rfl, rfl, rfl, HN, rfl⟩ := hrel
        by_cases hvl : v < P.length
        · obtain ⟨hp8, hm1, hm2⟩ := HP.out v hvl
          have c0 := HUW.out.cell v hm1
          rw [hm2] at c0
          have HP8 := hid hp8
          have HFO : Hid (v ∈ F k → freeB P (F k) v = false) := free_out
          have HFP : Hid (¬ (∀ u ∈ P.getD v [], u ∈ F k) → freeB P (F k) v = false) := free_par rfl
          have HFY : Hid (¬ v ∈ F k → (∀ u ∈ P.getD v [], u ∈ F k) → freeB P (F k) v = true) := free_yes rfl
          have HNX : Hid (freeB P (F k) v = false → ∀ u, u < v + 1 → freeB P (F k) u = false) := fun h u hu => by
            rcases Nat.lt_or_ge u v with h2 | h2
            · exact HN.out u h2
            · obtain rfl : u = v := by omega
              exact h
          clear hp8 hm1 hm2
          generalize P.getD v [] = p at *
          go_wp2_with fail
          refine (sHas_any (F k) v _ (HOL.out k) (by omega)).mono ?_
          rintro e w3 ⟨rfl, rfl⟩
          by_cases hin : v ∈ F k
          · rw [decide_eq_true hin]
            have HE := hid (HNX.out (HFO.out hin))
            clear hin
            go_wp2
            go_roundw
            case rel => exact ⟨v + 1, by omega, by go_num, rfl, rfl, HE, trivial⟩
            case measure => simp [intOf]; omega
          · rw [decide_eq_false hin]
            have HIN := hid hin
            clear hin
            go_wp2_with fail
            refine (sHolds_any (F k) p _ (HOL.out k) HP8.out).mono ?_
            rintro e w4 ⟨rfl, rfl⟩
            by_cases hh : ∀ u ∈ p, u ∈ F k
            · rw [decide_eq_true hh]
              have hS := HSO.out k v hvl (HFY.out HIN.out hh) HN.out
              have HM : Hid (mskN (v :: F k) = mskN (F (k + 1))) := msk_ext fun z => by rw [hS, List.mem_cons, List.mem_append, List.mem_singleton]; exact or_comm
              have HIL : Hid (iL (F (k + 1)) = iL (F k) ++ [(v : Int)]) := by show _ = _; rw [hS, iL_append]; rfl
              have HLK : Hid ((iL (F k)).length ≤ 8) := by
                have := HLN.out k
                show (iL (F k)).length ≤ 8
                rw [iL_length]
                omega
              clear hh hS
              have HOWN := hid HR.out.own
              have HRA : Hid (RwI (w4.alloc (.cells #[.int .i64 (v : Nat)] 3)) w.heap.size _ (iL (F k))) := World.ownsRow.alloc HR.out _
              have HBA := hid (HB.out.alloc HB.out.size (.cells #[.int .i64 (v : Nat)] 3))
              have HIA := hid (one_int w4 (v : Nat))
              go_wp2_with (at_builtin; refine wpList_append_ints rfl _ _ rfl w.heap.size _ (iL (F k)) [((v : Nat) : Int)] rfl HRA.out (some ⟨w4.heap.size, 0, none⟩) 1 rfl HIA.out (fun e => by cases e) (by have := HLK.out; simp; omega) HBA.out.size ?_; intro v' w5 hr5 hg5)
              have HR5 := hid hr5
              have HB5 := hid (HBA.out.grown hg5 HBA.out.size HOWN.out)
              clear hr5 hg5
              refine (sWith_any (F k) v _ (HOL.out k) (by omega)).mono ?_
              rintro e w6 ⟨rfl, rfl⟩
              rw [HM.out]
              go_wp2
              go_roundw
              case rel => exact ⟨k + 1, by omega, by go_num, rfl, by rw [HIL.out]; exact HR5, HB5⟩
              case measure => simp [intOf]; omega
            · rw [decide_eq_false hh]
              have HE := hid (HNX.out (HFP.out hh))
              clear hh
              go_wp2
              go_roundw
              case rel => exact ⟨v + 1, by omega, by go_num, rfl, rfl, HE, trivial⟩
              case measure => simp [intOf]; omega
        · obtain rfl : v = P.length := by omega
          have HE := hid (HST.out k hk HN.out)
          go_wp2
          try rw [Exit.noGoto_ret]
          go_ret
          exact ⟨_, rfl, by rw [HE.out]; exact HR.out, HB.out⟩
    · obtain rfl : k = P.length := by omega
      go_wp2
      try rw [Exit.noGoto_ret]
      go_ret
      exact ⟨_, rfl, HR.out, HB.out⟩
end Go.Proofs.Ytockhhleapbpiaa


/- Sets of package graph: count, without, list. -/
namespace Go.Proofs.Ytockhhleapbpiaa
open Go.RowKit Go.Shelf

attribute [local go_sem] Oper.semAt_some

set_option maxRecDepth 100000 in
set_option maxHeartbeats 400000 in
theorem sCount_any (s : List Nat) (w : World) (hs : ∀ u ∈ s, u < 8) :
    Calls Try.prog 72 #[.int .u32 (mskN s : Nat)] w fun e w' => e = .returned (.int .i64 ((memU s 8).length : Nat)) ∧ ∃ k, w' = w.drewN k := by
  have hm := msk_lt hs
  have HO := hid (fun U => onesCount_any (mskN s) U hm)
  rw [pop_msk] at HO
  generalize (memU s 8).length = c at *
  generalize mskN s = m at *
  go_enter Try.func72, Try.ntmps72
  go_wp2_with fail
  refine (HO.out _).mono ?_
  rintro e w1 ⟨rfl, k, rfl⟩
  go_wp2
  go_ret
  exact ⟨rfl, k, rfl⟩
theorem msk_without (s : List Nat) (v : Nat) (hs : ∀ u ∈ s, u < 8) (hv : v < 8) : mskN s &&& (4294967295 - 2 ^ v) = mskN (s.filter fun u => decide (u ≠ v)) := by
  have h2 : 2 ^ v < 2 ^ 8 := Nat.pow_lt_pow_right (by decide) hv
  have e : 4294967295 - 2 ^ v = 2 ^ 32 - (2 ^ v + 1) := by omega
  have hs' : 2 ^ v < 2 ^ 32 := by omega
  apply Nat.eq_of_testBit_eq
  intro i
  rw [e, Nat.testBit_and, Nat.testBit_two_pow_sub_succ hs', msk_bit, msk_bit, Nat.testBit_two_pow]
  by_cases hi : i ∈ s
  · have h8 := hs i hi
    have h32 : i < 32 := by omega
    by_cases hvi : v = i
    · subst hvi; simp [hi]
    · have h' : ¬ i = v := fun e => hvi e.symm
      simp [hi, h32, hvi, h']
  · simp [hi]
set_option maxRecDepth 100000 in
set_option maxHeartbeats 400000 in
theorem sWithout_any (s : List Nat) (v : Nat) (w : World) (hs : ∀ u ∈ s, u < 8) (hv : v < 8) :
    Calls Try.prog 48 #[.int .u32 (mskN s : Nat), .int .i64 (v : Nat)] w fun e w' => e = .returned (.int .u32 (mskN (s.filter fun u => decide (u ≠ v)) : Nat)) ∧ w' = w := by
  have hm := msk_lt hs
  have h2 : 2 ^ v < 256 := show 2 ^ v < 2 ^ 8 from Nat.pow_lt_pow_right (by decide) hv
  have HE : Hid (bits BinOp.andNot IntKind.u32 (mskN s : Nat) (2 ^ v % 4294967296) = ((mskN (s.filter fun u => decide (u ≠ v)) : Nat) : Int)) := by
    show _ = _
    have e : ((2 : Int) ^ v % 4294967296) = ((2 ^ v : Nat) : Int) := by
      have e2 : ((2 : Int) ^ v) = ((2 ^ v : Nat) : Int) := by rw [Int.natCast_pow]; rfl
      rw [e2]
      generalize (2 ^ v : Nat) = q at *
      omega
    rw [e, u32_andNot_nat _ _ (by omega) (by omega), msk_without s v hs hv]
  generalize mskN (s.filter fun u => decide (u ≠ v)) = r at *
  generalize mskN s = m at *
  go_enter Try.func48, Try.ntmps48
  go_wp2
  go_ret
  exact ⟨by rw [HE.out]; rfl, rfl⟩
theorem iL_iv (l : List Nat) : (iL l).map (Value.int .i64) = l.map iv := by simp [iL, iv]

set_option maxRecDepth 100000 in
set_option maxHeartbeats 2000000 in
theorem list_any (s : List Nat) (w : World) (hs : ∀ u ∈ s, u < 8) :
    Calls Try.prog 39 #[.int .u32 (mskN s : Nat)] w fun e w' => ∃ v, e = .returned v ∧ RwI w' w.heap.size v (iL (memU s 8)) ∧ Below w.heap.size w w' := by
  refine (callsIn_wide (n := 6)).1 ?_
  obtain ⟨i0, hi, hz0, hz1, hz2⟩ := info_parts Try.infoInt
  have hc8 := memU_len s 8
  have HC := hid (fun U => sCount_any s U hs)
  obtain ⟨cl, hcl⟩ : ∃ cl, cl = (memU s 8).length := ⟨_, rfl⟩
  rw [← hcl] at HC hc8
  clear hcl
  refine callsIn_of_wp_marks Try.func39 rfl trivial ?_ rfl
  simp only [Try.ntmps39, List.size_toArray, List.length_cons, List.length_nil, Nat.reduceAdd, Nat.reduceSub, Array.replicate_succ, Array.replicate_zero, List.push_toArray, List.append_toArray, List.nil_append, List.cons_append]
  gi_wp2_with (first
    | (refine ⟨trivial, ?_⟩; gi_at_call 72; refine (callsIn_wide.2 (HC.out _)).mono ?_; rintro e w0 ⟨rfl, hw0⟩)
    | (gi_at_make; refine wpListIn_make_own _ rfl _ _ 23 rfl w.heap.size 3 i0 (.int .i64 0) 1 Try.underlying23 hi hz0 hz1 .i64 .i64 _ cl rfl rfl (by omega) (by rw [hz2]; omega) (by unfold maxLen; omega) (by obtain ⟨k, rfl⟩ := hw0; exact Nat.le_refl _) ?_; intro w1 hown1 hgrow1))
  have hb0 : Below w.heap.size w w0 := by obtain ⟨k, rfl⟩ := hw0; exact below_drewN (Below.refl _ w) k
  have hs0 : w0.heap.size = w.heap.size := by obtain ⟨k, rfl⟩ := hw0; rfl
  clear hw0
  have hsz1 := hgrow1.size
  have hB1 : Below w.heap.size w w1 := hb0.grown hgrow1 (by omega) (fun k e => by cases e)
  have bO := Boxed.new w1 23 (.slice (some ⟨w0.heap.size, 0, none⟩) 0 cl)
  have hB2 : Below w.heap.size w (w1.alloc (.cells #[.slice (some ⟨w0.heap.size, 0, none⟩) 0 cl] 23)) := hB1.alloc (by omega) _
  have hsz1' : w.heap.size ≤ w1.heap.size := by omega
  clear hs0 hsz1
  refine wp_each (by omega) s hs rfl rfl
    (fun k V => (∃ v, Boxed V w1.heap.size 23 v ∧ V.ownsRow w.heap.size 3 1 v (memU s k).length ((memU s k).map iv) ∧ True) ∧ Below w.heap.size w V)
    (OwnFrom.and (Own.from (holdsRow_own w.heap.size w1.heap.size 23 3 1 (fun k : Nat => (memU s k).length) (fun k => (memU s k).map iv) (fun _ _ => True)) _) (ownFrom_below (Nat.le_refl _) (by simp; omega)))
    ⟨⟨_, bO, hown1.alloc _, trivial⟩, hB2⟩
    (fun k => { tmps := #[.int .u32 (mskN s : Nat), undef, .slice none 0 0, .pointer (some ⟨w1.heap.size, 0, none⟩), .int .i64 (k : Nat), .int .u32 (mskN s : Nat), .int .i64 (cl : Nat), .slice (some ⟨w0.heap.size, 0, none⟩) 0 cl, .int .u32 (mskN s : Nat), .func (.func 47) #[.int .u32 (mskN s : Nat)] #[], .int .i64 (k : Nat), undef, undef, undef, undef, undef], defers := [] }) ?assign ?body ?skip ?done
  case assign =>
    intro l k W K hK
    gi_wp2
    exact hK
  case body =>
    rintro l k V hk hm ⟨⟨v, hv, hrow, _⟩, hB⟩
    have hc := hv.cell
    have hl8 := memU_len s k
    gi_wp2_with (gi_at_builtin; refine wpListIn_append_own _ rfl _ _ 23 rfl w.heap.size 3 i0 (.int .i64 0) 1 8 Try.underlying23 hi hz0 hz1 hz2 rfl (by decide) _ _ _ rfl (hrow.alloc _) ⟨V.heap.size, 0, none⟩ 1 1 [.int .i64 (k : Nat)] rfl rfl (cell_one_new _ _ _) (by simp [Value.oneCell']) (by unfold maxLen; omega) (by omega) (by have := hB.size; simp; omega) ?_; intro v' w3 hown' hgrow _; obtain ⟨g', cap', rfl⟩ := ownsRow_succ hown'; obtain ⟨hv1, hv2, hr2, hk2, hb2⟩ := hv.appended (by decide) hrow hB.size hsz1' hown' hgrow; have hc1 := hv1.cell; have hf1 := hv1.frozen)
    exact ⟨hk2.from _, ⟨⟨_, hv2, by rw [memU_yes hm]; simpa [iv] using hr2, trivial⟩, hB.trans hb2⟩⟩
  case skip =>
    rintro k V hk hm h
    rwa [memU_no hm]
  case done =>
    rintro D V hD ⟨⟨v, hv, hrow, _⟩, hB⟩ hK
    have hc := hv.cell
    gi_wp2
    refine ⟨by simp, .inl ⟨_, _, rfl, run_takeDeferred hK, ?_⟩⟩
    refine ⟨_, results_tmp rfl _ _ _, v, rfl, ?_, hB.trans (belowK_b (w := w) (Nat.le_refl _) V D _ _ (by simp at hD; omega) hK rfl rfl)⟩
    rw [RwI, iL_iv, iL_length]
    exact ownsRow_putObj hrow _ hK rfl
end Go.Proofs.Ytockhhleapbpiaa

