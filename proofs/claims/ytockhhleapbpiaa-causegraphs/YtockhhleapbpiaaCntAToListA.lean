/- How many numbers a set has: bits.OnesCount32, count. -/
import Derived.Test.YtockhhleapbpiaaSetBToEachA
import Derived.BigQuiet
import Derived.Test.YtockhhleapbpiaaSliAToTogA
import Derived.WalkMore
import Derived.RangeFuncBox
namespace Go.Proofs.Ytockhhleapbpiaa
open Go.RowKit Go.Shelf

/-- The table of package math/bits: how many bits a byte has. -/
def popT : ByteArray := ⟨(([0, 1, 1, 2, 1, 2, 2, 3, 1, 2, 2, 3, 2, 3, 3, 4, 1, 2, 2, 3, 2, 3, 3, 4, 2, 3, 3, 4, 3, 4, 4, 5, 1, 2, 2, 3, 2, 3, 3, 4, 2, 3, 3, 4, 3, 4, 4, 5, 2, 3, 3, 4, 3, 4, 4, 5, 3, 4, 4, 5, 4, 5, 5, 6].append [1, 2, 2, 3, 2, 3, 3, 4, 2, 3, 3, 4, 3, 4, 4, 5, 2, 3, 3, 4, 3, 4, 4, 5, 3, 4, 4, 5, 4, 5, 5, 6, 2, 3, 3, 4, 3, 4, 4, 5, 3, 4, 4, 5, 4, 5, 5, 6, 3, 4, 4, 5, 4, 5, 5, 6, 4, 5, 5, 6, 5, 6, 6, 7]).append ([1, 2, 2, 3, 2, 3, 3, 4, 2, 3, 3, 4, 3, 4, 4, 5, 2, 3, 3, 4, 3, 4, 4, 5, 3, 4, 4, 5, 4, 5, 5, 6, 2, 3, 3, 4, 3, 4, 4, 5, 3, 4, 4, 5, 4, 5, 5, 6, 3, 4, 4, 5, 4, 5, 5, 6, 4, 5, 5, 6, 5, 6, 6, 7].append [2, 3, 3, 4, 3, 4, 4, 5, 3, 4, 4, 5, 4, 5, 5, 6, 3, 4, 4, 5, 4, 5, 5, 6, 4, 5, 5, 6, 5, 6, 6, 7, 3, 4, 4, 5, 4, 5, 5, 6, 4, 5, 5, 6, 5, 6, 6, 7, 4, 5, 5, 6, 5, 6, 6, 7, 5, 6, 6, 7, 6, 7, 7, 8])).toArray⟩
/-- The numbers of a set below k, rising. -/
def memU (s : List Nat) (k : Nat) : List Nat := (List.range k).filter fun v => decide (v ∈ s)
theorem memU_yes {s : List Nat} {k : Nat} (h : k ∈ s) : memU s (k + 1) = memU s k ++ [k] := by rw [memU, List.range_succ, List.filter_append, memU]; simp [h]
theorem memU_no {s : List Nat} {k : Nat} (h : ¬ k ∈ s) : memU s (k + 1) = memU s k := by rw [memU, List.range_succ, List.filter_append, memU]; simp [h]
theorem memU_mem {s : List Nat} {k v : Nat} : v ∈ memU s k ↔ v < k ∧ v ∈ s := by simp [memU]
theorem memU_len (s : List Nat) (k : Nat) : (memU s k).length ≤ k := by
  have := List.length_filter_le (fun v => decide (v ∈ s)) (List.range k)
  simpa [memU] using this
/-- How many bits a byte has. -/
def popN (m : Nat) : Nat := ((List.range 8).filter fun v => m.testBit v).length
theorem pop_msk (s : List Nat) : popN (mskN s) = (memU s 8).length := by
  rw [popN, memU]
  congr 1
  exact List.filter_congr fun v _ => msk_bit s v
theorem popT_all : ((List.range 256).all fun m => decide (popT.data.toList[m]? = some (UInt8.ofNat (popN m)))) = true := by decide +kernel
theorem popT_at {m : Nat} (h : m < 256) : popT.data.toList[m]? = some (UInt8.ofNat (popN m)) := of_decide_eq_true (List.all_eq_true.1 popT_all m (List.mem_range.2 h))
theorem popT_size : popT.size = 256 := by decide +kernel
theorem popN_le (m : Nat) : popN m ≤ 8 := by
  have := List.length_filter_le (fun v => m.testBit v) (List.range 8)
  simpa [popN] using this

set_option maxRecDepth 100000 in
set_option maxHeartbeats 1000000 in
theorem onesCount_any (m : Nat) (w : World) (hm : m < 256) :
    Calls Try.prog 88 #[.int .u32 (m : Nat)] w fun e w' => e = .returned (.int .i64 (popN m : Nat)) ∧ ∃ k, w' = w.drewN k := by
  have h24 : (m : Int) / 16777216 = 0 := by omega
  have h16 : (m : Int) / 65536 = 0 := by omega
  have h8 : (m : Int) / 256 = 0 := by omega
  have ha : bits BinOp.and IntKind.u32 (m : Nat) 255 = ((m : Nat) : Int) := by
    have e : (255 : Int) = ((255 : Nat) : Int) := rfl
    rw [e, u32_and_nat _ _ (by omega) (by omega), show (255 : Nat) = 2 ^ 8 - 1 from rfl, Nat.and_two_pow_sub_one_eq_mod]
    omega
  have hz : bits BinOp.and IntKind.u32 0 255 = 0 := by decide
  have hsz := popT_size
  have hlt : m < popT.size := by omega
  have hat : ∀ i (h : i < popT.size), popT[i] = UInt8.ofNat (popN i) := fun i h => by
    have h1 := popT_at (m := i) (by omega)
    rw [Array.getElem?_toList] at h1
    obtain ⟨h2, h3⟩ := Array.getElem?_eq_some_iff.1 h1
    exact h3
  have h0 : popT[0]'(by omega) = 0 := hat 0 (by omega)
  obtain ⟨q, hq1, hq2⟩ : ∃ q : UInt8, popT[m]'hlt = q ∧ q.toNat = popN m := ⟨_, hat m hlt, by
    have := popN_le m
    rw [UInt8.toNat_ofNat']
    omega⟩
  have hw0 : IntKind.u8.wrap 0 = 0 := by decide
  have hql := popN_le m
  rw [← hq2] at hql
  have hwq : IntKind.u8.wrap ((q.toNat : Nat) : Int) = ((q.toNat : Nat) : Int) := by
    have : (q.toNat : Int) < 256 := by omega
    rw [IntKind.wrap_u8]
    omega
  have HQ2 := hid hq2
  clear hat hq2
  have hp : popT = ⟨(([0, 1, 1, 2, 1, 2, 2, 3, 1, 2, 2, 3, 2, 3, 3, 4, 1, 2, 2, 3, 2, 3, 3, 4, 2, 3, 3, 4, 3, 4, 4, 5, 1, 2, 2, 3, 2, 3, 3, 4, 2, 3, 3, 4, 3, 4, 4, 5, 2, 3, 3, 4, 3, 4, 4, 5, 3, 4, 4, 5, 4, 5, 5, 6].append [1, 2, 2, 3, 2, 3, 3, 4, 2, 3, 3, 4, 3, 4, 4, 5, 2, 3, 3, 4, 3, 4, 4, 5, 3, 4, 4, 5, 4, 5, 5, 6, 2, 3, 3, 4, 3, 4, 4, 5, 3, 4, 4, 5, 4, 5, 5, 6, 3, 4, 4, 5, 4, 5, 5, 6, 4, 5, 5, 6, 5, 6, 6, 7]).append ([1, 2, 2, 3, 2, 3, 3, 4, 2, 3, 3, 4, 3, 4, 4, 5, 2, 3, 3, 4, 3, 4, 4, 5, 3, 4, 4, 5, 4, 5, 5, 6, 2, 3, 3, 4, 3, 4, 4, 5, 3, 4, 4, 5, 4, 5, 5, 6, 3, 4, 4, 5, 4, 5, 5, 6, 4, 5, 5, 6, 5, 6, 6, 7].append [2, 3, 3, 4, 3, 4, 4, 5, 3, 4, 4, 5, 4, 5, 5, 6, 3, 4, 4, 5, 4, 5, 5, 6, 4, 5, 5, 6, 5, 6, 6, 7, 3, 4, 4, 5, 4, 5, 5, 6, 4, 5, 5, 6, 5, 6, 6, 7, 4, 5, 5, 6, 5, 6, 6, 7, 5, 6, 6, 7, 6, 7, 7, 8])).toArray⟩ := rfl
  go_enter Try.func88, Try.ntmps88
  go_upto_region 1 with fail
  rw [← hp]
  clear hp
  go_quiet (fail)
  go_wp2
  go_ret
  exact ⟨by rw [← HQ2.out]; rfl, _, rfl⟩
end Go.Proofs.Ytockhhleapbpiaa


/- Plain: the order of nodes, each behind its parents, the least first. -/
namespace Go.Proofs.Ytockhhleapbpiaa

/-- May a node come next? -/
def freeB (P : List (List Nat)) (out : List Nat) (v : Nat) : Bool := !decide (v ∈ out) && decide (∀ u ∈ P.getD v [], u ∈ out)
/-- The least that may. -/
def nextV (P : List (List Nat)) (out : List Nat) : Option Nat := (List.range P.length).find? (freeB P out)
/-- Those that stand there behind k steps. -/
def ordN (P : List (List Nat)) : Nat → List Nat
  | 0 => []
  | k + 1 => match nextV P (ordN P k) with
    | some v => ordN P k ++ [v]
    | none => ordN P k
theorem find_range {p : Nat → Bool} : ∀ {n v : Nat}, v < n → p v = true → (∀ u, u < v → p u = false) → (List.range n).find? p = some v := by
  intro n
  induction n with
  | zero => intro v h; omega
  | succ n ih =>
    intro v hv hp hu
    rw [List.range_succ, List.find?_append]
    rcases Nat.lt_or_ge v n with h | h
    · rw [ih h hp hu]; rfl
    · obtain rfl : v = n := by omega
      have : (List.range v).find? p = none := List.find?_eq_none.2 fun u hu' => by rw [hu u (List.mem_range.1 hu')]; decide
      rw [this]
      simp [hp]
theorem next_some {P : List (List Nat)} {out : List Nat} {v : Nat} (hv : v < P.length) (hp : freeB P out v = true) (hu : ∀ u, u < v → freeB P out u = false) : nextV P out = some v := find_range hv hp hu
theorem next_none {P : List (List Nat)} {out : List Nat} (hu : ∀ u, u < P.length → freeB P out u = false) : nextV P out = none := List.find?_eq_none.2 fun u hu' => by rw [hu u (List.mem_range.1 hu')]; decide
theorem ord_some {P : List (List Nat)} {k v : Nat} (h : nextV P (ordN P k) = some v) : ordN P (k + 1) = ordN P k ++ [v] := by rw [ordN, h]
theorem ord_none {P : List (List Nat)} {k : Nat} (h : nextV P (ordN P k) = none) : ∀ j, ordN P (k + j) = ordN P k
  | 0 => rfl
  | j + 1 => by
    have ih := ord_none h j
    show ordN P (k + j + 1) = _
    rw [ordN, ih, h]
theorem ord_stuck {P : List (List Nat)} {k n : Nat} (h : nextV P (ordN P k) = none) (hk : k ≤ n) : ordN P n = ordN P k := by
  have := ord_none h (n - k)
  rwa [show k + (n - k) = n by omega] at this
theorem ord_len (P : List (List Nat)) : ∀ k, (ordN P k).length ≤ k
  | 0 => Nat.le_refl _
  | k + 1 => by
    have := ord_len P k
    rw [ordN]
    cases nextV P (ordN P k) with
    | none => show (ordN P k).length ≤ _; omega
    | some v => show (ordN P k ++ [v]).length ≤ _; rw [List.length_append]; simp; omega
theorem ord_lt (P : List (List Nat)) : ∀ k, ∀ v ∈ ordN P k, v < P.length
  | 0, v, hv => by cases hv
  | k + 1, v, hv => by
    rw [ordN] at hv
    cases e : nextV P (ordN P k) with
    | none => rw [e] at hv; exact ord_lt P k v hv
    | some u =>
      rw [e] at hv
      rcases List.mem_append.1 hv with h | h
      · exact ord_lt P k v h
      · obtain rfl := List.mem_singleton.1 h
        exact List.mem_range.1 (List.mem_of_find?_eq_some e)
theorem ord_full (P : List (List Nat)) {k : Nat} (h : nextV P (ordN P k) = none) (hk : k < P.length) : (ordN P P.length).length < P.length := by
  rw [ord_stuck h (Nat.le_of_lt hk)]
  have := ord_len P k
  omega
/-- The parents, as numbers. -/
def parN (L : List (List Int)) : List (List Nat) := L.map toN
theorem parN_length (L : List (List Int)) : (parN L).length = L.length := by simp [parN]
theorem parN_get {L : List (List Int)} {i : Nat} (h : i < L.length) : (parN L).getD i [] = toN L[i] := by simp [parN, List.getD_eq_getElem?_getD, h]
theorem masks_par (L : List (List Int)) : masks L = (parN L).map mskN := by simp [masks, parN]
theorem iL_append (a b : List Nat) : iL (a ++ b) = iL a ++ iL b := by simp [iL]
/-- What Check answers. -/
def gcE (L : List (List Int)) : Int := if gB L = true then (if (ordN (parN L) L.length).length < L.length then 10 else 0) else 11
end Go.Proofs.Ytockhhleapbpiaa


/- Package graph: order, read, Check. -/
namespace Go.Proofs.Ytockhhleapbpiaa
open Go.RowKit Go.Shelf

theorem one_int (w : World) (u : Int) : IntS (w.alloc (.cells #[.int .i64 u] 3)) (some ⟨w.heap.size, 0, none⟩) [u] := fun k hk => by
  obtain rfl : k = 0 := by simp at hk; omega
  exact ⟨w.heap.size, 0, rfl, by simp, (Boxed.new w _ _).cell⟩
theorem RwI.under {w w' : World} {B : Nat} {v : Value} {l : List Int} (h : RwI w B v l) (hb : Below w.heap.size w w') : RwI w' B v l := by
  refine ⟨h.1, h.2.imp id ?_⟩
  rintro ⟨g, cap, cur, h1, h2, h3, h4⟩
  exact ⟨g, cap, cur, h1, h2, (hb.block g (Array.getElem?_eq_some_iff.1 h3).1).trans h3, h4⟩
theorem free_out {P : List (List Nat)} {out : List Nat} {v : Nat} (h : v ∈ out) : freeB P out v = false := by simp [freeB, h]
theorem free_par {P : List (List Nat)} {out p : List Nat} {v : Nat} (hp : P.getD v [] = p) (h : ¬ ∀ u ∈ p, u ∈ out) : freeB P out v = false := by rw [freeB, hp, decide_eq_false h, Bool.and_false]
theorem free_yes {P : List (List Nat)} {out p : List Nat} {v : Nat} (hp : P.getD v [] = p) (h : ¬ v ∈ out) (h' : ∀ u ∈ p, u ∈ out) : freeB P out v = true := by rw [freeB, hp, decide_eq_true h', decide_eq_false h]; rfl

set_option maxRecDepth 100000 in
set_option maxHeartbeats 1000000 in
theorem order_any (G c : Nat) (P : List (List Nat)) (w : World) (hU : RowU w G (P.map mskN)) (hn : P.length ≤ 8) (hP : ∀ p ∈ P, ∀ u ∈ p, u < 8) :
    Calls Try.prog 35 #[.slice (some ⟨G, 0, none⟩) P.length c] w fun e w' => ∃ x, e = .returned x ∧ RwI w' w.heap.size x (iL (ordN P P.length)) ∧ Below w.heap.size w w' := by
  obtain ⟨i0, hi0, hz0, hz1, hz2⟩ := info_parts Try.infoInt
  have HU := hid hU
  have HP : Hid (∀ i, i < P.length → (∀ u ∈ P.getD i [], u < 8) ∧ ∃ h : i < (P.map mskN).length, (P.map mskN)[i] = mskN (P.getD i [])) := fun i hi => by
    have e : P.getD i [] = P[i] := by rw [List.getD_eq_getElem?_getD, List.getElem?_eq_getElem hi]; rfl
    rw [e]
    exact ⟨hP _ (List.getElem_mem hi), by simpa using hi, by simp⟩
  have HOL : Hid (∀ k, ∀ u ∈ ordN P k, u < 8) := fun k u hu => Nat.lt_of_lt_of_le (ord_lt P k u hu) hn
  have HLN := hid (ord_len P)
  have HSO : Hid (∀ k v, v < P.length → freeB P (ordN P k) v = true → (∀ u, u < v → freeB P (ordN P k) u = false) → ordN P (k + 1) = ordN P k ++ [v]) := fun k v h1 h2 h3 => ord_some (next_some h1 h2 h3)
  have HST : Hid (∀ k, k ≤ P.length → (∀ u, u < P.length → freeB P (ordN P k) u = false) → ordN P P.length = ordN P k) := fun k h1 h2 => ord_stuck (next_none h2) h1
  have HO0 : Hid (ordN P 0 = []) := rfl
  generalize hF : ordN P = F at *
  clear hU hP hF
  go_enter Try.func35, Try.ntmps35
  go_wp2_with fail
  go_step3
  go_wp2_with (first
    | (at_make; refine wpList_make_own _ rfl _ _ 23 rfl w.heap.size 3 i0 (.int .i64 0) 1 Try.underlying23 hi0 hz0 hz1 .i64 .i64 _ P.length rfl rfl (by go_num) (by rw [hz2]; omega) (by unfold maxLen; omega) (Nat.le_refl _) ?_; intro w2 hown2 hgrow2))
  have HI : Hid (RwI w2 w.heap.size (.slice (some ⟨w.heap.size, 0, none⟩) 0 P.length) []) := hown2
  have HB2 : Hid (Below w.heap.size w w2) := (Below.refl _ w).grown hgrow2 (Nat.le_refl _) (fun k e => by cases e)
  clear hown2 hgrow2
  go_wp2_with fail
  go_step3
  go_wp2_with fail
  go_loopw [3, 4, 12] (fun sv lv iv wr => ∃ k : Nat, k ≤ P.length ∧ iv = .int .i64 k ∧ sv = .int .u32 (mskN (F k) : Nat) ∧ Hid (RwI wr w.heap.size lv (iL (F k))) ∧ Hid (Below w.heap.size w wr)) (fun _ _ iv _ => P.length - (intOf iv).toNat)
  case atStart => exact ⟨0, Nat.zero_le _, rfl, by rw [HO0.out]; rfl, by rw [HO0.out]; exact HI, HB2⟩
  case round =>
    obtain ⟨k, hk, rfl, rfl, HR, HB⟩ := hrel
    clear HI HB2
    by_cases hlt : k < P.length
    · have HUW := hid (HU.out.below HB.out HU.out.lt)
      go_wp2_with fail
      go_loopw [3, 4, 16] (fun sv lv jv wq => ∃ v : Nat, v ≤ P.length ∧ jv = .int .i64 v ∧ sv = .int .u32 (mskN (F k) : Nat) ∧ lv = u4 ∧ Hid (∀ u, u < v → freeB P (F k) u = false) ∧ wq = wr) (fun _ _ jv _ => P.length - (intOf jv).toNat)
      case atStart => exact ⟨0, Nat.zero_le _, rfl, rfl, rfl, fun u h => absurd h (by omega), rfl⟩
      case round =>
        obtain ⟨v, hv, rfl, rfl, rfl, HN, rfl⟩ := hrel
        by_cases hvl : v < P.length
        · obtain ⟨hp8, hm1, hm2⟩ := HP.out v hvl
          have c0 := HUW.out.cell v hm1
          rw [hm2] at c0
          have HP8 := hid hp8
          have HFO : Hid (v ∈ F k → freeB P (F k) v = false) := free_out
          have HFP : Hid (¬ (∀ u ∈ P.getD v [], u ∈ F k) → freeB P (F k) v = false) := free_par rfl
          have HFY : Hid (¬ v ∈ F k → (∀ u ∈ P.getD v [], u ∈ F k) → freeB P (F k) v = true) := free_yes rfl
          have HNX : Hid (freeB P (F k) v = false → ∀ u, u < v + 1 → freeB P (F k) u = false) := fun h u hu => by
            rcases Nat.lt_or_ge u v with h2 | h2
            · exact HN.out u h2
            · obtain rfl : u = v := by omega
              exact h
          clear hp8 hm1 hm2
          generalize P.getD v [] = p at *
          go_wp2_with fail
          refine (sHas_any (F k) v _ (HOL.out k) (by omega)).mono ?_
          rintro e w3 ⟨rfl, rfl⟩
          by_cases hin : v ∈ F k
          · rw [decide_eq_true hin]
            have HE := hid (HNX.out (HFO.out hin))
            clear hin
            go_wp2
            go_roundw
            case rel => exact ⟨v + 1, by omega, by go_num, rfl, rfl, HE, trivial⟩
            case measure => simp [intOf]; omega
          · rw [decide_eq_false hin]
            have HIN := hid hin
            clear hin
            go_wp2_with fail
            refine (sHolds_any (F k) p _ (HOL.out k) HP8.out).mono ?_
            rintro e w4 ⟨rfl, rfl⟩
            by_cases hh : ∀ u ∈ p, u ∈ F k
            · rw [decide_eq_true hh]
              have hS := HSO.out k v hvl (HFY.out HIN.out hh) HN.out
              have HM : Hid (mskN (v :: F k) = mskN (F (k + 1))) := msk_ext fun z => by rw [hS, List.mem_cons, List.mem_append, List.mem_singleton]; exact or_comm
              have HIL : Hid (iL (F (k + 1)) = iL (F k) ++ [(v : Int)]) := by show _ = _; rw [hS, iL_append]; rfl
              have HLK : Hid ((iL (F k)).length ≤ 8) := by
                have := HLN.out k
                show (iL (F k)).length ≤ 8
                rw [iL_length]
                omega
              clear hh hS
              have HOWN := hid HR.out.own
              have HRA : Hid (RwI (w4.alloc (.cells #[.int .i64 (v : Nat)] 3)) w.heap.size _ (iL (F k))) := World.ownsRow.alloc HR.out _
              have HBA := hid (HB.out.alloc HB.out.size (.cells #[.int .i64 (v : Nat)] 3))
              have HIA := hid (one_int w4 (v : Nat))
              go_wp2_with (at_builtin; refine wpList_append_ints rfl _ _ rfl w.heap.size _ (iL (F k)) [((v : Nat) : Int)] rfl HRA.out (some ⟨w4.heap.size, 0, none⟩) 1 rfl HIA.out (fun e => by cases e) (by have := HLK.out; simp; omega) HBA.out.size ?_; intro v' w5 hr5 hg5)
              have HR5 := hid hr5
              have HB5 := hid (HBA.out.grown hg5 HBA.out.size HOWN.out)
              clear hr5 hg5
              refine (sWith_any (F k) v _ (HOL.out k) (by omega)).mono ?_
              rintro e w6 ⟨rfl, rfl⟩
              rw [HM.out]
              go_wp2
              go_roundw
              case rel => exact ⟨k + 1, by omega, by go_num, rfl, by rw [HIL.out]; exact HR5, HB5⟩
              case measure => simp [intOf]; omega
            · rw [decide_eq_false hh]
              have HE := hid (HNX.out (HFP.out hh))
              clear hh
              go_wp2
              go_roundw
              case rel => exact ⟨v + 1, by omega, by go_num, rfl, rfl, HE, trivial⟩
              case measure => simp [intOf]; omega
        · obtain rfl : v = P.length := by omega
          have HE := hid (HST.out k hk HN.out)
          go_wp2
          try rw [Exit.noGoto_ret]
          go_ret
          exact ⟨_, rfl, by rw [HE.out]; exact HR.out, HB.out⟩
    · obtain rfl : k = P.length := by omega
      go_wp2
      try rw [Exit.noGoto_ret]
      go_ret
      exact ⟨_, rfl, HR.out, HB.out⟩
end Go.Proofs.Ytockhhleapbpiaa


/- Sets of package graph: count, without, list. -/
namespace Go.Proofs.Ytockhhleapbpiaa
open Go.RowKit Go.Shelf

attribute [local go_sem] Oper.semAt_some

set_option maxRecDepth 100000 in
set_option maxHeartbeats 400000 in
theorem sCount_any (s : List Nat) (w : World) (hs : ∀ u ∈ s, u < 8) :
    Calls Try.prog 72 #[.int .u32 (mskN s : Nat)] w fun e w' => e = .returned (.int .i64 ((memU s 8).length : Nat)) ∧ ∃ k, w' = w.drewN k := by
  have hm := msk_lt hs
  have HO := hid (fun U => onesCount_any (mskN s) U hm)
  rw [pop_msk] at HO
  generalize (memU s 8).length = c at *
  generalize mskN s = m at *
  go_enter Try.func72, Try.ntmps72
  go_wp2_with fail
  refine (HO.out _).mono ?_
  rintro e w1 ⟨rfl, k, rfl⟩
  go_wp2
  go_ret
  exact ⟨rfl, k, rfl⟩
theorem msk_without (s : List Nat) (v : Nat) (hs : ∀ u ∈ s, u < 8) (hv : v < 8) : mskN s &&& (4294967295 - 2 ^ v) = mskN (s.filter fun u => decide (u ≠ v)) := by
  have h2 : 2 ^ v < 2 ^ 8 := Nat.pow_lt_pow_right (by decide) hv
  have e : 4294967295 - 2 ^ v = 2 ^ 32 - (2 ^ v + 1) := by omega
  have hs' : 2 ^ v < 2 ^ 32 := by omega
  apply Nat.eq_of_testBit_eq
  intro i
  rw [e, Nat.testBit_and, Nat.testBit_two_pow_sub_succ hs', msk_bit, msk_bit, Nat.testBit_two_pow]
  by_cases hi : i ∈ s
  · have h8 := hs i hi
    have h32 : i < 32 := by omega
    by_cases hvi : v = i
    · subst hvi; simp [hi]
    · have h' : ¬ i = v := fun e => hvi e.symm
      simp [hi, h32, hvi, h']
  · simp [hi]
set_option maxRecDepth 100000 in
set_option maxHeartbeats 400000 in
theorem sWithout_any (s : List Nat) (v : Nat) (w : World) (hs : ∀ u ∈ s, u < 8) (hv : v < 8) :
    Calls Try.prog 48 #[.int .u32 (mskN s : Nat), .int .i64 (v : Nat)] w fun e w' => e = .returned (.int .u32 (mskN (s.filter fun u => decide (u ≠ v)) : Nat)) ∧ w' = w := by
  have hm := msk_lt hs
  have h2 : 2 ^ v < 256 := show 2 ^ v < 2 ^ 8 from Nat.pow_lt_pow_right (by decide) hv
  have HE : Hid (bits BinOp.andNot IntKind.u32 (mskN s : Nat) (2 ^ v % 4294967296) = ((mskN (s.filter fun u => decide (u ≠ v)) : Nat) : Int)) := by
    show _ = _
    have e : ((2 : Int) ^ v % 4294967296) = ((2 ^ v : Nat) : Int) := by
      have e2 : ((2 : Int) ^ v) = ((2 ^ v : Nat) : Int) := by rw [Int.natCast_pow]; rfl
      rw [e2]
      generalize (2 ^ v : Nat) = q at *
      omega
    rw [e, u32_andNot_nat _ _ (by omega) (by omega), msk_without s v hs hv]
  generalize mskN (s.filter fun u => decide (u ≠ v)) = r at *
  generalize mskN s = m at *
  go_enter Try.func48, Try.ntmps48
  go_wp2
  go_ret
  exact ⟨by rw [HE.out]; rfl, rfl⟩
theorem iL_iv (l : List Nat) : (iL l).map (Value.int .i64) = l.map iv := by simp [iL, iv]

set_option maxRecDepth 100000 in
set_option maxHeartbeats 2000000 in
theorem list_any (s : List Nat) (w : World) (hs : ∀ u ∈ s, u < 8) :
    Calls Try.prog 39 #[.int .u32 (mskN s : Nat)] w fun e w' => ∃ v, e = .returned v ∧ RwI w' w.heap.size v (iL (memU s 8)) ∧ Below w.heap.size w w' := by
  refine (callsIn_wide (n := 6)).1 ?_
  obtain ⟨i0, hi, hz0, hz1, hz2⟩ := info_parts Try.infoInt
  have hc8 := memU_len s 8
  have HC := hid (fun U => sCount_any s U hs)
  obtain ⟨cl, hcl⟩ : ∃ cl, cl = (memU s 8).length := ⟨_, rfl⟩
  rw [← hcl] at HC hc8
  clear hcl
  refine callsIn_of_wp_marks Try.func39 rfl trivial ?_ rfl
  simp only [Try.ntmps39, List.size_toArray, List.length_cons, List.length_nil, Nat.reduceAdd, Nat.reduceSub, Array.replicate_succ, Array.replicate_zero, List.push_toArray, List.append_toArray, List.nil_append, List.cons_append]
  gi_wp2_with (first
    | (refine ⟨trivial, ?_⟩; gi_at_call 72; refine (callsIn_wide.2 (HC.out _)).mono ?_; rintro e w0 ⟨rfl, hw0⟩)
    | (gi_at_make; refine wpListIn_make_own _ rfl _ _ 23 rfl w.heap.size 3 i0 (.int .i64 0) 1 Try.underlying23 hi hz0 hz1 .i64 .i64 _ cl rfl rfl (by omega) (by rw [hz2]; omega) (by unfold maxLen; omega) (by obtain ⟨k, rfl⟩ := hw0; exact Nat.le_refl _) ?_; intro w1 hown1 hgrow1))
  have hb0 : Below w.heap.size w w0 := by obtain ⟨k, rfl⟩ := hw0; exact below_drewN (Below.refl _ w) k
  have hs0 : w0.heap.size = w.heap.size := by obtain ⟨k, rfl⟩ := hw0; rfl
  clear hw0
  have hsz1 := hgrow1.size
  have hB1 : Below w.heap.size w w1 := hb0.grown hgrow1 (by omega) (fun k e => by cases e)
  have bO := Boxed.new w1 23 (.slice (some ⟨w0.heap.size, 0, none⟩) 0 cl)
  have hB2 : Below w.heap.size w (w1.alloc (.cells #[.slice (some ⟨w0.heap.size, 0, none⟩) 0 cl] 23)) := hB1.alloc (by omega) _
  have hsz1' : w.heap.size ≤ w1.heap.size := by omega
  clear hs0 hsz1
  refine wp_each (by omega) s hs rfl rfl
    (fun k V => (∃ v, Boxed V w1.heap.size 23 v ∧ V.ownsRow w.heap.size 3 1 v (memU s k).length ((memU s k).map iv) ∧ True) ∧ Below w.heap.size w V)
    (OwnFrom.and (Own.from (holdsRow_own w.heap.size w1.heap.size 23 3 1 (fun k : Nat => (memU s k).length) (fun k => (memU s k).map iv) (fun _ _ => True)) _) (ownFrom_below (Nat.le_refl _) (by simp; omega)))
    ⟨⟨_, bO, hown1.alloc _, trivial⟩, hB2⟩
    (fun k => { tmps := #[.int .u32 (mskN s : Nat), undef, .slice none 0 0, .pointer (some ⟨w1.heap.size, 0, none⟩), .int .i64 (k : Nat), .int .u32 (mskN s : Nat), .int .i64 (cl : Nat), .slice (some ⟨w0.heap.size, 0, none⟩) 0 cl, .int .u32 (mskN s : Nat), .func (.func 47) #[.int .u32 (mskN s : Nat)] #[], .int .i64 (k : Nat), undef, undef, undef, undef, undef], defers := [] }) ?assign ?body ?skip ?done
  case assign =>
    intro l k W K hK
    gi_wp2
    exact hK
  case body =>
    rintro l k V hk hm ⟨⟨v, hv, hrow, _⟩, hB⟩
    have hc := hv.cell
    have hl8 := memU_len s k
    gi_wp2_with (gi_at_builtin; refine wpListIn_append_own _ rfl _ _ 23 rfl w.heap.size 3 i0 (.int .i64 0) 1 8 Try.underlying23 hi hz0 hz1 hz2 rfl (by decide) _ _ _ rfl (hrow.alloc _) ⟨V.heap.size, 0, none⟩ 1 1 [.int .i64 (k : Nat)] rfl rfl (cell_one_new _ _ _) (by simp [Value.oneCell']) (by unfold maxLen; omega) (by omega) (by have := hB.size; simp; omega) ?_; intro v' w3 hown' hgrow _; obtain ⟨g', cap', rfl⟩ := ownsRow_succ hown'; obtain ⟨hv1, hv2, hr2, hk2, hb2⟩ := hv.appended (by decide) hrow hB.size hsz1' hown' hgrow; have hc1 := hv1.cell; have hf1 := hv1.frozen)
    exact ⟨hk2.from _, ⟨⟨_, hv2, by rw [memU_yes hm]; simpa [iv] using hr2, trivial⟩, hB.trans hb2⟩⟩
  case skip =>
    rintro k V hk hm h
    rwa [memU_no hm]
  case done =>
    rintro D V hD ⟨⟨v, hv, hrow, _⟩, hB⟩ hK
    have hc := hv.cell
    gi_wp2
    refine ⟨by simp, .inl ⟨_, _, rfl, run_takeDeferred hK, ?_⟩⟩
    refine ⟨_, results_tmp rfl _ _ _, v, rfl, ?_, hB.trans (belowK_b (w := w) (Nat.le_refl _) V D _ _ (by simp at hD; omega) hK rfl rfl)⟩
    rw [RwI, iL_iv, iL_length]
    exact ownsRow_putObj hrow _ hK rfl
end Go.Proofs.Ytockhhleapbpiaa

