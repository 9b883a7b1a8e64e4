/- Plain: the order of nodes, each behind its parents, the least first. -/
import Derived.Test.YthcfgoknphpkdaaSetAToCntA
import Derived.Test.YthcfgoknphpkdaaSliAToUniA
import Derived.WalkMore
import Derived.RangeFuncBox
import Derived.Test.YthcfgoknphpkdaaIterBToBestA
namespace Go.Proofs.Ythcfgoknphpkdaa

/-- May a node come next? -/
def freeB (P : List (List Nat)) (out : List Nat) (v : Nat) : Bool := !decide (v ∈ out) && decide (∀ u ∈ P.getD v [], u ∈ out)
/-- The least that may. -/
def nextV (P : List (List Nat)) (out : List Nat) : Option Nat := (List.range P.length).find? (freeB P out)
/-- Those that stand there behind k steps. -/
def ordN (P : List (List Nat)) : Nat → List Nat
  | 0 => []
  | k + 1 => match nextV P (ordN P k) with
    | some v => ordN P k ++ [v]
    | none => ordN P k
theorem find_range {p : Nat → Bool} : ∀ {n v : Nat}, v < n → p v = true → (∀ u, u < v → p u = false) → (List.range n).find? p = some v := by
  intro n
  induction n with
  | zero => intro v h; omega
  | succ n ih =>
    intro v hv hp hu
    rw [List.range_succ, List.find?_append]
    rcases Nat.lt_or_ge v n with h | h
    · rw [ih h hp hu]; rfl
    · obtain rfl : v = n := by omega
      have : (List.range v).find? p = none := List.find?_eq_none.2 fun u hu' => by rw [hu u (List.mem_range.1 hu')]; decide
      rw [this]
      simp [hp]
theorem next_some {P : List (List Nat)} {out : List Nat} {v : Nat} (hv : v < P.length) (hp : freeB P out v = true) (hu : ∀ u, u < v → freeB P out u = false) : nextV P out = some v := find_range hv hp hu
theorem next_none {P : List (List Nat)} {out : List Nat} (hu : ∀ u, u < P.length → freeB P out u = false) : nextV P out = none := List.find?_eq_none.2 fun u hu' => by rw [hu u (List.mem_range.1 hu')]; decide
theorem ord_some {P : List (List Nat)} {k v : Nat} (h : nextV P (ordN P k) = some v) : ordN P (k + 1) = ordN P k ++ [v] := by rw [ordN, h]
theorem ord_none {P : List (List Nat)} {k : Nat} (h : nextV P (ordN P k) = none) : ∀ j, ordN P (k + j) = ordN P k
  | 0 => rfl
  | j + 1 => by
    have ih := ord_none h j
    show ordN P (k + j + 1) = _
    rw [ordN, ih, h]
theorem ord_stuck {P : List (List Nat)} {k n : Nat} (h : nextV P (ordN P k) = none) (hk : k ≤ n) : ordN P n = ordN P k := by
  have := ord_none h (n - k)
  rwa [show k + (n - k) = n by omega] at this
theorem ord_len (P : List (List Nat)) : ∀ k, (ordN P k).length ≤ k
  | 0 => Nat.le_refl _
  | k + 1 => by
    have := ord_len P k
    rw [ordN]
    cases nextV P (ordN P k) with
    | none => show (ordN P k).length ≤ _; omega
    | some v => show (ordN P k ++ [v]).length ≤ _; rw [List.length_append]; simp; omega
theorem ord_lt (P : List (List Nat)) : ∀ k, ∀ v ∈ ordN P k, v < P.length
  | 0, v, hv => by cases hv
  | k + 1, v, hv => by
    rw [ordN] at hv
    cases e : nextV P (ordN P k) with
    | none => rw [e] at hv; exact ord_lt P k v hv
    | some u =>
      rw [e] at hv
      rcases List.mem_append.1 hv with h | h
      · exact ord_lt P k v h
      · obtain rfl := List.mem_singleton.1 h
        exact List.mem_range.1 (List.mem_of_find?_eq_some e)
theorem ord_full (P : List (List Nat)) {k : Nat} (h : nextV P (ordN P k) = none) (hk : k < P.length) : (ordN P P.length).length < P.length := by
  rw [ord_stuck h (Nat.le_of_lt hk)]
  have := ord_len P k
  omega
/-- The parents, as numbers. -/
def parN (L : List (List Int)) : List (List Nat) := L.map toN
theorem parN_length (L : List (List Int)) : (parN L).length = L.length := by simp [parN]
theorem parN_get {L : List (List Int)} {i : Nat} (h : i < L.length) : (parN L).getD i [] = toN L[i] := by simp [parN, List.getD_eq_getElem?_getD, h]
theorem masks_par (L : List (List Int)) : masks L = (parN L).map mskN := by simp [masks, parN]
theorem iL_append (a b : List Nat) : iL (a ++ b) = iL a ++ iL b := by simp [iL]
/-- What Check answers. -/
def gcE (L : List (List Int)) : Int := if gB L = true then (if (ordN (parN L) L.length).length < L.length then 10 else 0) else 11
end Go.Proofs.Ythcfgoknphpkdaa


/- Package graph: order, read, Check. -/
namespace Go.Proofs.Ythcfgoknphpkdaa
open Go.RowKit Go.Shelf

theorem one_int (w : World) (u : Int) : IntS (w.alloc (.cells #[.int .i64 u] 3)) (some ⟨w.heap.size, 0, none⟩) [u] := fun k hk => by
  obtain rfl : k = 0 := by simp at hk; omega
  exact ⟨w.heap.size, 0, rfl, by simp, (Boxed.new w _ _).cell⟩
theorem RwI.under {w w' : World} {B : Nat} {v : Value} {l : List Int} (h : RwI w B v l) (hb : Below w.heap.size w w') : RwI w' B v l := by
  refine ⟨h.1, h.2.imp id ?_⟩
  rintro ⟨g, cap, cur, h1, h2, h3, h4⟩
  exact ⟨g, cap, cur, h1, h2, (hb.block g (Array.getElem?_eq_some_iff.1 h3).1).trans h3, h4⟩
theorem free_out {P : List (List Nat)} {out : List Nat} {v : Nat} (h : v ∈ out) : freeB P out v = false := by simp [freeB, h]
theorem free_par {P : List (List Nat)} {out p : List Nat} {v : Nat} (hp : P.getD v [] = p) (h : ¬ ∀ u ∈ p, u ∈ out) : freeB P out v = false := by rw [freeB, hp, decide_eq_false h, Bool.and_false]
theorem free_yes {P : List (List Nat)} {out p : List Nat} {v : Nat} (hp : P.getD v [] = p) (h : ¬ v ∈ out) (h' : ∀ u ∈ p, u ∈ out) : freeB P out v = true := by rw [freeB, hp, decide_eq_true h', decide_eq_false h]; rfl

set_option maxRecDepth 100000 in
set_option maxHeartbeats 1000000 in
theorem order_any (G c : Nat) (P : List (List Nat)) (w : World) (hU : RowU w G (P.map mskN)) (hn : P.length ≤ 8) (hP : ∀ p ∈ P, ∀ u ∈ p, u < 8) :
    Calls Try.prog 25 #[.slice (some ⟨G, 0, none⟩) P.length c] w fun e w' => ∃ x, e = .returned x ∧ RwI w' w.heap.size x (iL (ordN P P.length)) ∧ Below w.heap.size w w' := by
  obtain ⟨i0, hi0, hz0, hz1, hz2⟩ := info_parts Try.infoInt
  have HU := hid hU
  have HP : Hid (∀ i, i < P.length → (∀ u ∈ P.getD i [], u < 8) ∧ ∃ h : i < (P.map mskN).length, (P.map mskN)[i] = mskN (P.getD i [])) := fun i hi => by
    have e : P.getD i [] = P[i] := by rw [List.getD_eq_getElem?_getD, List.getElem?_eq_getElem hi]; rfl
    rw [e]
    exact ⟨hP _ (List.getElem_mem hi), by simpa using hi, by simp⟩
  have HOL : Hid (∀ k, ∀ u ∈ ordN P k, u < 8) := fun k u hu => Nat.lt_of_lt_of_le (ord_lt P k u hu) hn
  have HLN := hid (ord_len P)
  have HSO : Hid (∀ k v, v < P.length → freeB P (ordN P k) v = true → (∀ u, u < v → freeB P (ordN P k) u = false) → ordN P (k + 1) = ordN P k ++ [v]) := fun k v h1 h2 h3 => ord_some (next_some h1 h2 h3)
  have HST : Hid (∀ k, k ≤ P.length → (∀ u, u < P.length → freeB P (ordN P k) u = false) → ordN P P.length = ordN P k) := fun k h1 h2 => ord_stuck (next_none h2) h1
  have HO0 : Hid (ordN P 0 = []) := rfl
  generalize hF : ordN P = F at *
  clear hU hP hF
  go_enter Try.func25, Try.ntmps25
  go_wp2_with fail
  go_step3
  go_wp2_with (first
    | (at_make; refine wpList_make_own _ rfl _ _ 23 rfl w.heap.size 3 i0 (.int .i64 0) 1 Try.underlying23 hi0 hz0 hz1 .i64 .i64 _ P.length rfl rfl (by go_num) (by rw [hz2]; omega) (by unfold maxLen; omega) (Nat.le_refl _) ?_; intro w2 hown2 hgrow2))
  have HI : Hid (RwI w2 w.heap.size (.slice (some ⟨w.heap.size, 0, none⟩) 0 P.length) []) := hown2
  have HB2 : Hid (Below w.heap.size w w2) := (Below.refl _ w).grown hgrow2 (Nat.le_refl _) (fun k e => by cases e)
  clear hown2 hgrow2
  go_wp2_with fail
  go_step3
  go_wp2_with fail
  go_loopw [3, 4, 12] (fun sv lv iv wr => ∃ k : Nat, k ≤ P.length ∧ iv = .int .i64 k ∧ sv = .int .u32 (mskN (F k) : Nat) ∧ Hid (RwI wr w.heap.size lv (iL (F k))) ∧ Hid (Below w.heap.size w wr)) (fun _ _ iv _ => P.length - (intOf iv).toNat)
  case atStart => exact ⟨0, Nat.zero_le _, rfl, by rw [HO0.out]; rfl, by rw [HO0.out]; exact HI, HB2⟩
  case round =>
    obtain ⟨k, hk, rfl, rfl, HR, HB⟩ := hrel
    clear HI HB2
    by_cases hlt : k < P.length
    · have HUW := hid (HU.out.below HB.out HU.out.lt)
      go_wp2_with fail
      go_loopw [3, 4, 16] (fun sv lv jv wq => ∃ v : Nat, v ≤ P.length ∧ jv = .int .i64 v ∧ sv = .int .u32 (mskN (F k) : Nat) ∧ lv = u4 ∧ Hid (∀ u, u < v → freeB P (F k) u = false) ∧ wq = wr) (fun _ _ jv _ => P.length - (intOf jv).toNat)
      case atStart => exact ⟨0, Nat.zero_le _, rfl, rfl, rfl, fun u h => absurd h (by omega), rfl⟩
      case round =>
        obtain ⟨v, hv, rfl, rfl, rfl, HN, rfl⟩ := hrel
        by_cases hvl : v < P.length
        · obtain ⟨hp8, hm1, hm2⟩ := HP.out v hvl
          have c0 := HUW.out.cell v hm1
          rw [hm2] at c0
          have HP8 := hid hp8
          have HFO : Hid (v ∈ F k → freeB P (F k) v = false) := free_out
          have HFP : Hid (¬ (∀ u ∈ P.getD v [], u ∈ F k) → freeB P (F k) v = false) := free_par rfl
          have HFY : Hid (¬ v ∈ F k → (∀ u ∈ P.getD v [], u ∈ F k) → freeB P (F k) v = true) := free_yes rfl
          have HNX : Hid (freeB P (F k) v = false → ∀ u, u < v + 1 → freeB P (F k) u = false) := fun h u hu => by
            rcases Nat.lt_or_ge u v with h2 | h2
            · exact HN.out u h2
            · obtain rfl : u = v := by omega
              exact h
          clear hp8 hm1 hm2
          generalize P.getD v [] = p at *
          go_wp2_with fail
          refine (sHas_any (F k) v _ (HOL.out k) (by omega)).mono ?_
          rintro e w3 ⟨rfl, rfl⟩
          by_cases hin : v ∈ F k
          · rw [decide_eq_true hin]
            have HE := hid (HNX.out (HFO.out hin))
            clear hin
            go_wp2
            go_roundw
            case rel => exact ⟨v + 1, by omega, by go_num, rfl, rfl, HE, trivial⟩
            case measure => simp [intOf]; omega
          · rw [decide_eq_false hin]
            have HIN := hid hin
            clear hin
            go_wp2_with fail
            refine (sHolds_any (F k) p _ (HOL.out k) HP8.out).mono ?_
            rintro e w4 ⟨rfl, rfl⟩
            by_cases hh : ∀ u ∈ p, u ∈ F k
            · rw [decide_eq_true hh]
              have hS := HSO.out k v hvl (HFY.out HIN.out hh) HN.out
              have HM : Hid (mskN (v :: F k) = mskN (F (k + 1))) := msk_ext fun z => by rw [hS, List.mem_cons, List.mem_append, List.mem_singleton]; exact or_comm
              have HIL : Hid (iL (F (k + 1)) = iL (F k) ++ [(v : Int)]) := by show _ = _; rw [hS, iL_append]; rfl
              have HLK : Hid ((iL (F k)).length ≤ 8) := by
                have := HLN.out k
                show (iL (F k)).length ≤ 8
                rw [iL_length]
                omega
              clear hh hS
              have HOWN := hid HR.out.own
              have HRA : Hid (RwI (w4.alloc (.cells #[.int .i64 (v : Nat)] 3)) w.heap.size _ (iL (F k))) := World.ownsRow.alloc HR.out _
              have HBA := hid (HB.out.alloc HB.out.size (.cells #[.int .i64 (v : Nat)] 3))
              have HIA := hid (one_int w4 (v : Nat))
              go_wp2_with (at_builtin; refine wpList_append_ints rfl _ _ rfl w.heap.size _ (iL (F k)) [((v : Nat) : Int)] rfl HRA.out (some ⟨w4.heap.size, 0, none⟩) 1 rfl HIA.out (fun e => by cases e) (by have := HLK.out; simp; omega) HBA.out.size ?_; intro v' w5 hr5 hg5)
              have HR5 := hid hr5
              have HB5 := hid (HBA.out.grown hg5 HBA.out.size HOWN.out)
              clear hr5 hg5
              refine (sWith_any (F k) v _ (HOL.out k) (by omega)).mono ?_
              rintro e w6 ⟨rfl, rfl⟩
              rw [HM.out]
              go_wp2
              go_roundw
              case rel => exact ⟨k + 1, by omega, by go_num, rfl, by rw [HIL.out]; exact HR5, HB5⟩
              case measure => simp [intOf]; omega
            · rw [decide_eq_false hh]
              have HE := hid (HNX.out (HFP.out hh))
              clear hh
              go_wp2
              go_roundw
              case rel => exact ⟨v + 1, by omega, by go_num, rfl, rfl, HE, trivial⟩
              case measure => simp [intOf]; omega
        · obtain rfl : v = P.length := by omega
          have HE := hid (HST.out k hk HN.out)
          go_wp2
          try rw [Exit.noGoto_ret]
          go_ret
          exact ⟨_, rfl, by rw [HE.out]; exact HR.out, HB.out⟩
    · obtain rfl : k = P.length := by omega
      go_wp2
      try rw [Exit.noGoto_ret]
      go_ret
      exact ⟨_, rfl, HR.out, HB.out⟩
end Go.Proofs.Ythcfgoknphpkdaa


/- Sets of package graph: count, without, list. -/
namespace Go.Proofs.Ythcfgoknphpkdaa
open Go.RowKit Go.Shelf

attribute [local go_sem] Oper.semAt_some

set_option maxRecDepth 100000 in
set_option maxHeartbeats 400000 in
theorem sCount_any (s : List Nat) (w : World) (hs : ∀ u ∈ s, u < 8) :
    Calls Try.prog 55 #[.int .u32 (mskN s : Nat)] w fun e w' => e = .returned (.int .i64 ((memU s 8).length : Nat)) ∧ ∃ k, w' = w.drewN k := by
  have hm := msk_lt hs
  have HO := hid (fun U => onesCount_any (mskN s) U hm)
  rw [pop_msk] at HO
  generalize (memU s 8).length = c at *
  generalize mskN s = m at *
  go_enter Try.func55, Try.ntmps55
  go_wp2_with fail
  refine (HO.out _).mono ?_
  rintro e w1 ⟨rfl, k, rfl⟩
  go_wp2
  go_ret
  exact ⟨rfl, k, rfl⟩
theorem msk_without (s : List Nat) (v : Nat) (hs : ∀ u ∈ s, u < 8) (hv : v < 8) : mskN s &&& (4294967295 - 2 ^ v) = mskN (s.filter fun u => decide (u ≠ v)) := by
  have h2 : 2 ^ v < 2 ^ 8 := Nat.pow_lt_pow_right (by decide) hv
  have e : 4294967295 - 2 ^ v = 2 ^ 32 - (2 ^ v + 1) := by omega
  have hs' : 2 ^ v < 2 ^ 32 := by omega
  apply Nat.eq_of_testBit_eq
  intro i
  rw [e, Nat.testBit_and, Nat.testBit_two_pow_sub_succ hs', msk_bit, msk_bit, Nat.testBit_two_pow]
  by_cases hi : i ∈ s
  · have h8 := hs i hi
    have h32 : i < 32 := by omega
    by_cases hvi : v = i
    · subst hvi; simp [hi]
    · have h' : ¬ i = v := fun e => hvi e.symm
      simp [hi, h32, hvi, h']
  · simp [hi]
set_option maxRecDepth 100000 in
set_option maxHeartbeats 400000 in
theorem sWithout_any (s : List Nat) (v : Nat) (w : World) (hs : ∀ u ∈ s, u < 8) (hv : v < 8) :
    Calls Try.prog 39 #[.int .u32 (mskN s : Nat), .int .i64 (v : Nat)] w fun e w' => e = .returned (.int .u32 (mskN (s.filter fun u => decide (u ≠ v)) : Nat)) ∧ w' = w := by
  have hm := msk_lt hs
  have h2 : 2 ^ v < 256 := show 2 ^ v < 2 ^ 8 from Nat.pow_lt_pow_right (by decide) hv
  have HE : Hid (bits BinOp.andNot IntKind.u32 (mskN s : Nat) (2 ^ v % 4294967296) = ((mskN (s.filter fun u => decide (u ≠ v)) : Nat) : Int)) := by
    show _ = _
    have e : ((2 : Int) ^ v % 4294967296) = ((2 ^ v : Nat) : Int) := by
      have e2 : ((2 : Int) ^ v) = ((2 ^ v : Nat) : Int) := by rw [Int.natCast_pow]; rfl
      rw [e2]
      generalize (2 ^ v : Nat) = q at *
      omega
    rw [e, u32_andNot_nat _ _ (by omega) (by omega), msk_without s v hs hv]
  generalize mskN (s.filter fun u => decide (u ≠ v)) = r at *
  generalize mskN s = m at *
  go_enter Try.func39, Try.ntmps39
  go_wp2
  go_ret
  exact ⟨by rw [HE.out]; rfl, rfl⟩
theorem iL_iv (l : List Nat) : (iL l).map (Value.int .i64) = l.map iv := by simp [iL, iv]

set_option maxRecDepth 100000 in
set_option maxHeartbeats 2000000 in
theorem list_any (s : List Nat) (w : World) (hs : ∀ u ∈ s, u < 8) :
    Calls Try.prog 30 #[.int .u32 (mskN s : Nat)] w fun e w' => ∃ v, e = .returned v ∧ RwI w' w.heap.size v (iL (memU s 8)) ∧ Below w.heap.size w w' := by
  refine (callsIn_wide (n := 6)).1 ?_
  obtain ⟨i0, hi, hz0, hz1, hz2⟩ := info_parts Try.infoInt
  have hc8 := memU_len s 8
  have HC := hid (fun U => sCount_any s U hs)
  obtain ⟨cl, hcl⟩ : ∃ cl, cl = (memU s 8).length := ⟨_, rfl⟩
  rw [← hcl] at HC hc8
  clear hcl
  refine callsIn_of_wp_marks Try.func30 rfl trivial ?_ rfl
  simp only [Try.ntmps30, List.size_toArray, List.length_cons, List.length_nil, Nat.reduceAdd, Nat.reduceSub, Array.replicate_succ, Array.replicate_zero, List.push_toArray, List.append_toArray, List.nil_append, List.cons_append]
  gi_wp2_with (first
    | (refine ⟨trivial, ?_⟩; gi_at_call 55; refine (callsIn_wide.2 (HC.out _)).mono ?_; rintro e w0 ⟨rfl, hw0⟩)
    | (gi_at_make; refine wpListIn_make_own _ rfl _ _ 23 rfl w.heap.size 3 i0 (.int .i64 0) 1 Try.underlying23 hi hz0 hz1 .i64 .i64 _ cl rfl rfl (by omega) (by rw [hz2]; omega) (by unfold maxLen; omega) (by obtain ⟨k, rfl⟩ := hw0; exact Nat.le_refl _) ?_; intro w1 hown1 hgrow1))
  have hb0 : Below w.heap.size w w0 := by obtain ⟨k, rfl⟩ := hw0; exact below_drewN (Below.refl _ w) k
  have hs0 : w0.heap.size = w.heap.size := by obtain ⟨k, rfl⟩ := hw0; rfl
  clear hw0
  have hsz1 := hgrow1.size
  have hB1 : Below w.heap.size w w1 := hb0.grown hgrow1 (by omega) (fun k e => by cases e)
  have bO := Boxed.new w1 23 (.slice (some ⟨w0.heap.size, 0, none⟩) 0 cl)
  have hB2 : Below w.heap.size w (w1.alloc (.cells #[.slice (some ⟨w0.heap.size, 0, none⟩) 0 cl] 23)) := hB1.alloc (by omega) _
  have hsz1' : w.heap.size ≤ w1.heap.size := by omega
  clear hs0 hsz1
  refine wp_each (by omega) s hs rfl rfl
    (fun k V => (∃ v, Boxed V w1.heap.size 23 v ∧ V.ownsRow w.heap.size 3 1 v (memU s k).length ((memU s k).map iv) ∧ True) ∧ Below w.heap.size w V)
    (OwnFrom.and (Own.from (holdsRow_own w.heap.size w1.heap.size 23 3 1 (fun k : Nat => (memU s k).length) (fun k => (memU s k).map iv) (fun _ _ => True)) _) (ownFrom_below (Nat.le_refl _) (by simp; omega)))
    ⟨⟨_, bO, hown1.alloc _, trivial⟩, hB2⟩
    (fun k => { tmps := #[.int .u32 (mskN s : Nat), undef, .slice none 0 0, .pointer (some ⟨w1.heap.size, 0, none⟩), .int .i64 (k : Nat), .int .u32 (mskN s : Nat), .int .i64 (cl : Nat), .slice (some ⟨w0.heap.size, 0, none⟩) 0 cl, .int .u32 (mskN s : Nat), .func (.func 38) #[.int .u32 (mskN s : Nat)] #[], .int .i64 (k : Nat), undef, undef, undef, undef, undef], defers := [] }) ?assign ?body ?skip ?done
  case assign =>
    intro l k W K hK
    gi_wp2
    exact hK
  case body =>
    rintro l k V hk hm ⟨⟨v, hv, hrow, _⟩, hB⟩
    have hc := hv.cell
    have hl8 := memU_len s k
    gi_wp2_with (gi_at_builtin; refine wpListIn_append_own _ rfl _ _ 23 rfl w.heap.size 3 i0 (.int .i64 0) 1 8 Try.underlying23 hi hz0 hz1 hz2 rfl (by decide) _ _ _ rfl (hrow.alloc _) ⟨V.heap.size, 0, none⟩ 1 1 [.int .i64 (k : Nat)] rfl rfl (cell_one_new _ _ _) (by simp [Value.oneCell']) (by unfold maxLen; omega) (by omega) (by have := hB.size; simp; omega) ?_; intro v' w3 hown' hgrow _; obtain ⟨g', cap', rfl⟩ := ownsRow_succ hown'; obtain ⟨hv1, hv2, hr2, hk2, hb2⟩ := hv.appended (by decide) hrow hB.size hsz1' hown' hgrow; have hc1 := hv1.cell; have hf1 := hv1.frozen)
    exact ⟨hk2.from _, ⟨⟨_, hv2, by rw [memU_yes hm]; simpa [iv] using hr2, trivial⟩, hB.trans hb2⟩⟩
  case skip =>
    rintro k V hk hm h
    rwa [memU_no hm]
  case done =>
    rintro D V hD ⟨⟨v, hv, hrow, _⟩, hB⟩ hK
    have hc := hv.cell
    gi_wp2
    refine ⟨by simp, .inl ⟨_, _, rfl, run_takeDeferred hK, ?_⟩⟩
    refine ⟨_, results_tmp rfl _ _ _, v, rfl, ?_, hB.trans (belowK_b (w := w) (Nat.le_refl _) V D _ _ (by simp at hD; omega) hK rfl rfl)⟩
    rw [RwI, iL_iv, iL_length]
    exact ownsRow_putObj hrow _ hK rfl
end Go.Proofs.Ythcfgoknphpkdaa


/- Sets as bits: together, in common, one without the other. (Plain.) -/
namespace Go.Proofs.Ythcfgoknphpkdaa
open Go.RowKit Go.Shelf

theorem msk_or (a b : List Nat) : mskN a ||| mskN b = mskN (a ++ b) := by
  apply Nat.eq_of_testBit_eq
  intro i
  rw [Nat.testBit_or, msk_bit, msk_bit, msk_bit]
  by_cases h : i ∈ a <;> by_cases h2 : i ∈ b <;> simp [h, h2]
theorem msk_and (a b : List Nat) : mskN a &&& mskN b = mskN (a.filter fun x => decide (x ∈ b)) := by
  apply Nat.eq_of_testBit_eq
  intro i
  rw [Nat.testBit_and, msk_bit, msk_bit, msk_bit]
  by_cases h : i ∈ a <;> by_cases h2 : i ∈ b <;> simp [h, h2]
theorem msk_andNot (a b : List Nat) (ha : ∀ u ∈ a, u < 8) (hb : ∀ u ∈ b, u < 8) : mskN a &&& (4294967295 - mskN b) = mskN (a.filter fun x => decide (¬ x ∈ b)) := by
  have h1 := msk_lt hb
  have e : 4294967295 - mskN b = 2 ^ 32 - (mskN b + 1) := by omega
  have hs' : mskN b < 2 ^ 32 := by omega
  apply Nat.eq_of_testBit_eq
  intro i
  rw [e, Nat.testBit_and, Nat.testBit_two_pow_sub_succ hs', msk_bit, msk_bit, msk_bit]
  by_cases h : i ∈ a
  · have h8 := ha i h
    have h32 : i < 32 := by omega
    by_cases h2 : i ∈ b <;> simp [h, h2, h32]
  · simp [h]
theorem bits_or (a b : List Nat) (ha : ∀ u ∈ a, u < 8) (hb : ∀ u ∈ b, u < 8) : bits BinOp.or IntKind.u32 (mskN a : Nat) (mskN b : Nat) = ((mskN (a ++ b) : Nat) : Int) := by
  have h1 := msk_lt ha
  have h2 := msk_lt hb
  rw [u32_or_nat _ _ (by omega) (by omega), msk_or]
theorem bits_and (a b : List Nat) (ha : ∀ u ∈ a, u < 8) (hb : ∀ u ∈ b, u < 8) : bits BinOp.and IntKind.u32 (mskN a : Nat) (mskN b : Nat) = ((mskN (a.filter fun x => decide (x ∈ b)) : Nat) : Int) := by
  have h1 := msk_lt ha
  have h2 := msk_lt hb
  rw [u32_and_nat _ _ (by omega) (by omega), msk_and]
theorem bits_andNot (a b : List Nat) (ha : ∀ u ∈ a, u < 8) (hb : ∀ u ∈ b, u < 8) : bits BinOp.andNot IntKind.u32 (mskN a : Nat) (mskN b : Nat) = ((mskN (a.filter fun x => decide (¬ x ∈ b)) : Nat) : Int) := by
  have h1 := msk_lt ha
  have h2 := msk_lt hb
  rw [u32_andNot_nat _ _ (by omega) (by omega), msk_andNot a b ha hb]
theorem fil_small {s : List Nat} (h : ∀ u ∈ s, u < 8) (p : Nat → Bool) : ∀ u ∈ s.filter p, u < 8 := fun u hu => h u (List.mem_filter.1 hu).1
theorem app_small {a b : List Nat} (ha : ∀ u ∈ a, u < 8) (hb : ∀ u ∈ b, u < 8) : ∀ u ∈ a ++ b, u < 8 := fun u hu => (List.mem_append.1 hu).elim (ha u) (hb u)
theorem getD_small {P : List (List Nat)} (hP : ∀ p ∈ P, ∀ u ∈ p, u < 8) (v : Nat) : ∀ u ∈ P.getD v [], u < 8 := by
  by_cases h : v < P.length
  · rw [List.getD_eq_getElem?_getD, List.getElem?_eq_getElem h]; exact hP _ (List.getElem_mem h)
  · rw [List.getD_eq_getElem?_getD, List.getElem?_eq_none (by omega)]; intro u hu; simp at hu
theorem mapU_get {P : List (List Nat)} {v : Nat} (h : v < P.length) : (P.map mskN)[v]'(by rw [List.length_map]; exact h) = mskN (P.getD v []) := by rw [List.getElem_map, List.getD_eq_getElem?_getD, List.getElem?_eq_getElem h]; rfl
/-- Of a node's neighbours: how many of the others one of them has not. -/
def lackE (B : List (List Nat)) (v u : Nat) : Nat := (memU (((B.getD v []).filter fun x => decide (¬ x ∈ B.getD u [])).filter fun x => decide (x ≠ u)) 8).length
/-- All that together. -/
def endsN (B : List (List Nat)) (v k : Nat) : Nat := ((memU (B.getD v []) k).map (lackE B v)).sum
theorem endsN_yes {B : List (List Nat)} {v k : Nat} (h : k ∈ B.getD v []) : endsN B v (k + 1) = endsN B v k + lackE B v k := by rw [endsN, memU_yes h, List.map_append, List.sum_append, endsN]; simp
theorem endsN_no {B : List (List Nat)} {v k : Nat} (h : ¬ k ∈ B.getD v []) : endsN B v (k + 1) = endsN B v k := by rw [endsN, memU_no h, endsN]
theorem lackE_le (B : List (List Nat)) (v u : Nat) : lackE B v u ≤ 8 := memU_len _ _
theorem endsN_le (B : List (List Nat)) (v : Nat) : ∀ k, endsN B v k ≤ 8 * k
  | 0 => by simp [endsN, memU]
  | k + 1 => by
    have h1 := endsN_le B v k
    have h2 := lackE_le B v k
    by_cases h : k ∈ B.getD v []
    · rw [endsN_yes h]; omega
    · rw [endsN_no h]; omega
/-- How many edges a node's neighbours lack. -/
def lackN (B : List (List Nat)) (v : Nat) : Nat := endsN B v 8 / 2
end Go.Proofs.Ythcfgoknphpkdaa


/- Package graph: lacking. -/
namespace Go.Proofs.Ythcfgoknphpkdaa
open Go.RowKit Go.Shelf

attribute [local go_sem] Oper.semAt_some

theorem boxed_offB {W : World} {B : Nat} {t : TypeId} {v : Value} (h : Boxed W B t v) (b j : Nat) (y : Value) (hne : B ≠ b) : Boxed (W.setCell ⟨b, j, none⟩ y) B t v := (Below.heap_setCell W ⟨b, j, none⟩ y B hne).trans h
theorem boxed_at {W W' : World} {B b : Nat} {t : TypeId} {v : Value} (h : Boxed W B t v) (hb : Below b W W') (hB : B < b) : Boxed W' B t v := (hb.block B hB).trans h
theorem keeps_of_below {V V' : World} (h : Below V.heap.size V V') : KeepsOthers V V' := ⟨h.size, fun k _ hk _ => (h.block k (Array.getElem?_eq_some_iff.1 hk).1).trans hk⟩

theorem keeps_drewN {V U : World} (h : KeepsOthers V U) (k : Nat) : KeepsOthers V (U.drewN k) := ⟨h.1, h.2⟩

end Go.Proofs.Ythcfgoknphpkdaa


/- Package graph: takeOut. -/
namespace Go.Proofs.Ythcfgoknphpkdaa
open Go.RowKit Go.Shelf

attribute [local go_sem] Oper.semAt_some

/-- What a neighbour's neighbours become. -/
def newN (P : List (List Nat)) (v u : Nat) : List Nat := ((P.getD u [] ++ P.getD v []).filter fun x => decide (x ≠ u)).filter fun x => decide (x ≠ v)
/-- Neighbours, where those of v below k know each other, and v no more. -/
def tkS (P : List (List Nat)) (v k : Nat) : List (List Nat) := (List.range P.length).map fun u => if u < k ∧ u ∈ P.getD v [] then newN P v u else P.getD u []
theorem tkS_length (P : List (List Nat)) (v k : Nat) : (tkS P v k).length = P.length := by simp [tkS]
theorem tkS_zero (P : List (List Nat)) (v : Nat) : tkS P v 0 = P := by
  apply List.ext_getElem (by simp [tkS])
  intro i h1 h2
  simp [tkS, List.getD_eq_getElem?_getD, h2]
theorem tkS_yes {P : List (List Nat)} {v k : Nat} (hm : k ∈ P.getD v []) : tkS P v (k + 1) = (tkS P v k).set k (newN P v k) := by
  apply List.ext_getElem (by simp [tkS])
  intro i h1 h2
  rw [List.getElem_set]
  simp only [tkS, List.getElem_map, List.getElem_range]
  by_cases h : k = i
  · subst h
    rw [if_pos ⟨by omega, hm⟩, if_pos rfl]
  · rw [if_neg h]
    have e : (i < k + 1 ∧ i ∈ P.getD v []) ↔ (i < k ∧ i ∈ P.getD v []) := ⟨fun ⟨a, b⟩ => ⟨by omega, b⟩, fun ⟨a, b⟩ => ⟨by omega, b⟩⟩
    simp only [e]
theorem tkS_no {P : List (List Nat)} {v k : Nat} (hm : ¬ k ∈ P.getD v []) : tkS P v (k + 1) = tkS P v k := by
  apply List.map_congr_left
  intro i hi
  have e : (i < k + 1 ∧ i ∈ P.getD v []) ↔ (i < k ∧ i ∈ P.getD v []) := ⟨fun ⟨a, b⟩ => ⟨by rcases Nat.lt_or_ge i k with h | h; exact h; exact absurd (show i = k by omega) (fun e => hm (e ▸ b)), b⟩, fun ⟨a, b⟩ => ⟨by omega, b⟩⟩
  simp only [e]
theorem tkS_at {P : List (List Nat)} {v k u : Nat} (hu : u < P.length) (h : ¬ (u < k ∧ u ∈ P.getD v [])) : (tkS P v k).getD u [] = P.getD u [] := by
  have h1 : u < (tkS P v k).length := by rw [tkS_length]; exact hu
  have e : (tkS P v k).getD u [] = (tkS P v k)[u] := by rw [List.getD_eq_getElem?_getD, List.getElem?_eq_getElem h1]; rfl
  rw [e]
  simp only [tkS, List.getElem_map, List.getElem_range]
  rw [if_neg h]
/-- Neighbours behind a node's going. -/
def takeL (P : List (List Nat)) (v : Nat) : List (List Nat) := tkS P v 8
theorem rowU_own {β : Type} (g : Nat) (f : β → List Nat) : Own (fun s W => RowU W g (f s)) := fun s X Y row hs hg hrow => by
  refine (hg.block g hs.lt (fun e => ?_)).trans hs
  obtain ⟨o, ho, hc⟩ := hrow g e.symm
  rw [hs] at ho
  cases ho
  cases hc
theorem ownFrom_grown {β : Type} {w : World} {G B : Nat} (hB : w.heap.size ≤ B) : OwnFrom B (fun (_ : β) W => w.grownBy W (some G)) := fun _ W W' row hs hg hr =>
  ⟨hg.os.trans hs.os, hg.tape.trans hs.tape, hg.output.trans hs.output, Nat.le_trans hs.size hg.size, fun k hk hne => (hg.block k (Nat.lt_of_lt_of_le hk hs.size) (fun e => by
    have := (hr k e.symm).1
    omega)).trans (hs.block k hk hne)⟩
theorem grown_of_below {w w' : World} (h : Below w.heap.size w w') (G : Nat) : w.grownBy w' (some G) := ⟨h.os, h.tape, h.output, h.size, fun k hk _ => h.block k hk⟩
theorem grown_trans {a b c : World} {G : Nat} (h : a.grownBy b (some G)) (k : b.grownBy c (some G)) : a.grownBy c (some G) :=
  ⟨k.os.trans h.os, k.tape.trans h.tape, k.output.trans h.output, Nat.le_trans h.size k.size, fun i hi hne => (k.block i (Nat.lt_of_lt_of_le hi h.size) hne).trans (h.block i hi hne)⟩
theorem grown_set (w : World) (G j : Nat) (y : Value) : w.grownBy (w.setCell ⟨G, j, none⟩ y) (some G) := ⟨rfl, rfl, rfl, by simp, fun k _ hne => Below.heap_setCell w ⟨G, j, none⟩ y k (fun e => hne (congrArg some e))⟩
theorem grown_drew1 {a b : World} {G : Nat} (h : a.grownBy b (some G)) : a.grownBy b.drew (some G) := ⟨h.os, h.tape, h.output, h.size, h.block⟩

end Go.Proofs.Ythcfgoknphpkdaa


/- Package graph: fewestLacking. -/
namespace Go.Proofs.Ythcfgoknphpkdaa
open Go.RowKit Go.Shelf

attribute [local go_sem] Oper.semAt_some

/-- The one of a set, as far as k, that has the least, and that; of several the least one. -/
def fwN (f : Nat → Nat) (s : List Nat) : Nat → Option (Nat × Nat)
  | 0 => none
  | k + 1 => if k ∈ s then (match fwN f s k with | none => some (k, f k) | some (b, m) => if f k < m then some (k, f k) else some (b, m)) else fwN f s k
def fwB : Option (Nat × Nat) → Nat
  | none => 0
  | some (b, _) => b
def fwM : Option (Nat × Nat) → Int
  | none => -1
  | some (_, m) => (m : Int)
theorem fwN_no {f : Nat → Nat} {s : List Nat} {k : Nat} (h : ¬ k ∈ s) : fwN f s (k + 1) = fwN f s k := by rw [fwN, if_neg h]
theorem fwN_first {f : Nat → Nat} {s : List Nat} {k : Nat} (h : k ∈ s) (e : fwN f s k = none) : fwN f s (k + 1) = some (k, f k) := by rw [fwN, if_pos h, e]
theorem fwN_less {f : Nat → Nat} {s : List Nat} {k b m : Nat} (h : k ∈ s) (e : fwN f s k = some (b, m)) (hl : f k < m) : fwN f s (k + 1) = some (k, f k) := by rw [fwN, if_pos h, e]; exact if_pos hl
theorem fwN_more {f : Nat → Nat} {s : List Nat} {k b m : Nat} (h : k ∈ s) (e : fwN f s k = some (b, m)) (hl : ¬ f k < m) : fwN f s (k + 1) = some (b, m) := by rw [fwN, if_pos h, e]; exact if_neg hl
/-- The node that is taken out next. -/
def fewV (P : List (List Nat)) (s : List Nat) : Nat := fwB (fwN (lackN P) s 8)
theorem lackN_le (P : List (List Nat)) (v : Nat) : lackN P v ≤ 32 := by
  have := endsN_le P v 8
  rw [lackN]; omega

end Go.Proofs.Ythcfgoknphpkdaa


/- Sets of package graph: lists. -/
namespace Go.Proofs.Ythcfgoknphpkdaa
open Go.RowKit Go.Shelf

/-- The block g holds these slices of ints. -/
def RowV (w : World) (g : Nat) (l : List Value) : Prop := w.heap[g]? = some (.cells l.toArray 23 (0, 0))
theorem RowV.cell {w : World} {g : Nat} {l : List Value} (h : RowV w g l) (j : Nat) (hj : j < l.length) : w.cell? ⟨g, j, none⟩ = some l[j] := by
  rw [cell_of_row w g j _ _ (0, 0) h]
  simp [hj]
theorem RowV.fz {w : World} {g : Nat} {l : List Value} (h : RowV w g l) (j : Nat) : w.frozen? ⟨g, j, none⟩ = false := frozen_of_row w g j _ _ h
theorem RowV.lt {w : World} {g : Nat} {l : List Value} (h : RowV w g l) : g < w.heap.size := (Array.getElem?_eq_some_iff.1 h).1
theorem RowV.below {w w' : World} {g b : Nat} {l : List Value} (h : RowV w g l) (hb : Below b w w') (hg : g < b) : RowV w' g l := (hb.block g hg).trans h
theorem RowV.set {w : World} {g : Nat} {l : List Value} (h : RowV w g l) (j : Nat) (y : Value) : RowV (w.setCell ⟨g, j, none⟩ y) g (l.set j y) := by
  have h2 := heap_setCell_same w g j _ _ y h
  rw [RowV, h2]
  simp
theorem Try.infoInts1 : (Try.prog.info? 23).map (fun i => (i.zero, i.size, i.bytes)) = some (some (.slice none 0 0), 1, 24) := by kernel_rfl
theorem made_slices (n : Nat) : (madeCells (Value.slice none 0 0).cells (n * 1)).toList = List.replicate n (Value.slice none 0 0) := by
  rw [show (Value.slice none 0 0).cells = #[Value.slice none 0 0] from rfl, toList_madeCells_one, Nat.mul_one]
/-- What a set's list holds. -/
def memL (s : List Nat) : List Int := iL (memU s 8)
/-- Lists that are written as far as i. -/
def SoFar (w : World) (P : List (List Nat)) (l : List Value) (i : Nat) : Prop := l.length = P.length ∧ ∀ j (hj : j < P.length), j < i → ∃ d cd, l[j]? = some (.slice d (memL P[j]).length cd) ∧ IntS w d (memL P[j])
theorem SoFar.below {w w' : World} {P : List (List Nat)} {l : List Value} {i : Nat} (h : SoFar w P l i) (hb : Below w.heap.size w w') : SoFar w' P l i := ⟨h.1, fun j hj hi => by
  obtain ⟨d, cd, h1, h2⟩ := h.2 j hj hi
  exact ⟨d, cd, h1, h2.below hb⟩⟩
theorem IntS.off {w : World} {d : Option Addr} {l : List Int} (h : IntS w d l) {g j : Nat} {y : Value} (hne : ∀ g' o', d = some ⟨g', o', none⟩ → l ≠ [] → g' ≠ g) : IntS (w.setCell ⟨g, j, none⟩ y) d l := fun k hk => by
  obtain ⟨g', o', h1, h2, h3⟩ := h k hk
  have hn := hne g' o' h1 (fun e => by rw [e] at hk; simp at hk)
  refine ⟨g', o', h1, by simpa using h2, ?_⟩
  rw [← h3]
  have e := Below.heap_setCell w ⟨g, j, none⟩ y g' (by show g' ≠ g; exact hn)
  exact World.cell?_of_block e
theorem ints_ne {w : World} {d : Option Addr} {l : List Int} {g : Nat} {vs : List Value} (h : IntS w d l) (hg : RowV w g vs) (hv : ∀ v ∈ vs, ∃ a n c, v = .slice a n c) : ∀ g' o', d = some ⟨g', o', none⟩ → l ≠ [] → g' ≠ g := fun g' o' hd hl e => by
  subst e
  have hp : 0 < l.length := List.length_pos_iff.2 hl
  obtain ⟨g2, o2, h1, h2, h3⟩ := h 0 hp
  rw [hd] at h1
  cases h1
  rw [cell_of_row w g' _ _ _ (0, 0) hg] at h3
  rw [List.getElem?_toArray] at h3
  obtain ⟨a, n, c, e⟩ := hv _ (List.mem_of_getElem? h3)
  cases e
/-- A block of slices: each is one. -/
def Slv (l : List Value) : Prop := ∀ v ∈ l, ∃ a n c, v = Value.slice a n c

set_option maxRecDepth 100000 in
set_option maxHeartbeats 1000000 in
theorem lists_any (a : Option Addr) (ca : Nat) (P : List (List Nat)) (w : World) (hP : ∀ p ∈ P, ∀ u ∈ p, u < 8) (hn : P.length ≤ 5000) (hS : ∀ k (h : k < P.length), ∃ g o, a = some ⟨g, o, none⟩ ∧ g < w.heap.size ∧ w.cell? ⟨g, o + k, none⟩ = some (.int .u32 (mskN P[k] : Nat))) :
    Calls Try.prog 40 #[.slice a P.length ca] w fun e w' => ∃ G, e = .returned (.slice (some ⟨G, 0, none⟩) P.length P.length) ∧ w.heap.size ≤ G ∧ LsS w' (some ⟨G, 0, none⟩) (P.map memL) ∧ Below w.heap.size w w' := by
  obtain ⟨i0, hi0, hz0, hz1, hz2⟩ := info_parts Try.infoInts1
  have HS := hid hS
  have HP := hid hP
  have HLI := hid (fun (s : List Nat) (hs : ∀ u ∈ s, u < 8) (U : World) => list_any s U hs)
  clear hS hP
  go_enter Try.func40, Try.ntmps40
  go_wp2_with (first
    | (at_make; refine wpList_make_full _ rfl _ _ 22 rfl w.heap.size 23 i0 (.slice none 0 0) 1 Try.underlying22 hi0 hz0 hz1 .i64 .i64 _ _ P.length rfl rfl (by go_num) (by go_num) (by rw [hz2]; omega) (by unfold maxLen; omega) (Nat.le_refl _) ?_; intro w2 hown2 hgrow2))
  have hb2 := block_of_own hown2
  rw [made_slices] at hb2
  have HB2 : Hid (Below w.heap.size w w2) := (Below.refl _ w).grown hgrow2 (Nat.le_refl _) (fun k e => by cases e)
  have HI : Hid (RowV w2 w.heap.size (List.replicate P.length (.slice none 0 0))) := hb2
  clear hown2 hgrow2 hb2
  go_wp2_with fail
  go_loopw [11] (fun iv wr => ∃ (i : Nat) (vs : List Value), i ≤ P.length ∧ iv = .int .i64 i ∧ Hid (RowV wr w.heap.size vs) ∧ Hid (SoFar wr P vs i) ∧ Hid (Slv vs) ∧ Hid (Below w.heap.size w wr)) (fun iv _ => P.length - (intOf iv).toNat)
  case atStart => exact ⟨0, _, Nat.zero_le _, rfl, HI, ⟨by simp, fun j _ h => absurd h (by omega)⟩, fun v hv => ⟨none, 0, 0, (List.mem_replicate.1 hv).2⟩, HB2⟩
  case round =>
    obtain ⟨i, vs, hi, rfl, HR, HSF, HSV, HB⟩ := hrel
    clear HI HB2
    by_cases hlt : i < P.length
    · obtain ⟨g, o, rfl, hg, c0⟩ := HS.out i hlt
      have c1 := (HB.out.cell (p := ⟨g, o + i, none⟩) hg).trans c0
      have HL := hid (HLI.out P[i] (HP.out _ (List.getElem_mem hlt)))
      have hlv := HSF.out.1
      clear c0
      go_wp2_with fail
      refine (HL.out _).mono ?_
      rintro e w3 ⟨v, rfl, hv, hb3⟩
      obtain ⟨d, cd, rfl, hI⟩ := hv.ints
      have hR3 := HR.out.below hb3 HR.out.lt
      have hSF3 := HSF.out.below hb3
      have k3 := hR3.cell i (by omega)
      have f3 := hR3.fz i
      have HBS := hid ((HB.out.trans (hb3.mono HB.out.size)).setCell (p := ⟨w.heap.size, i, none⟩) (Nat.le_refl _) (.slice d (memL P[i]).length cd))
      have HR4 := hid (hR3.set i (.slice d (memL P[i]).length cd))
      have HSV4 : Hid (Slv (vs.set i (.slice d (memL P[i]).length cd))) := fun x hx => by
        rcases List.mem_or_eq_of_mem_set hx with h | h
        · exact HSV.out x h
        · exact ⟨_, _, _, h⟩
      have HSF4 : Hid (SoFar (w3.setCell ⟨w.heap.size, i, none⟩ (.slice d (memL P[i]).length cd)) P (vs.set i (.slice d (memL P[i]).length cd)) (i + 1)) := by
        refine ⟨by rw [List.length_set]; exact hlv, fun j hj hji => ?_⟩
        by_cases e : j = i
        · subst e
          exact ⟨d, cd, by rw [List.getElem?_set_self (by omega)], IntS.off hI (ints_ne hI hR3 HSV.out)⟩
        · obtain ⟨d', cd', h1, h2⟩ := hSF3.2 j hj (by omega)
          exact ⟨d', cd', by rw [List.getElem?_set_ne (fun e' => e e'.symm)]; exact h1, IntS.off h2 (ints_ne h2 hR3 HSV.out)⟩
      rw [show iL (memU P[i] 8) = memL P[i] from rfl]
      generalize (memL P[i]).length = ln at *
      generalize vs[i]'(by omega) = z at *
      clear hR3 hSF3 hb3 hI hv c1
      go_wp2
      go_roundw
      case rel => exact ⟨i + 1, _, by omega, by go_num, HR4, HSF4, HSV4, HBS⟩
      case measure => simp [intOf]; omega
    · obtain rfl : i = P.length := by omega
      have HFI : Hid (LsS wr (some ⟨w.heap.size, 0, none⟩) (P.map memL)) := fun k hk => by
        rw [List.length_map] at hk
        obtain ⟨d, cd, h1, h2⟩ := HSF.out.2 k hk hk
        obtain ⟨h3, h4⟩ := List.getElem?_eq_some_iff.1 h1
        refine ⟨w.heap.size, 0, d, cd, rfl, HR.out.lt, ?_, by rw [List.getElem_map]; exact h2⟩
        rw [Nat.zero_add, HR.out.cell k h3, h4, List.getElem_map]
      go_wp2
      go_ret
      exact ⟨w.heap.size, rfl, Nat.le_refl _, HFI.out, HB.out⟩
end Go.Proofs.Ythcfgoknphpkdaa

