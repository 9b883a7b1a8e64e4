/- Package graph: lists of lists, and their sets. -/
import Derived.Test.YtmdjhefcohcjhaaGreatDoorTabP1ToNum
import Derived.Test.YtmdjhefcohcjhaaGreatDoorRefSToTabR5
import Derived.Laws.EntriesVeiled
import Derived.Test.YtmdjhefcohcjhaaGreatDoorReckAToNumG
namespace Go.Proofs.YtmdjhefcohcjhaaGreatDoor
open Go.RowKit

/-- A list of lists of ints in memory. -/
def LsS (w : World) (a : Option Addr) (L : List (List Int)) : Prop := ∀ k (h : k < L.length), ∃ g o b c, a = some ⟨g, o, none⟩ ∧ g < w.heap.size ∧ w.cell? ⟨g, o + k, none⟩ = some (.slice b L[k].length c) ∧ IntS w b L[k]
theorem LsS.below {w w' : World} {a : Option Addr} {L : List (List Int)} (h : LsS w a L) (hb : Below w.heap.size w w') : LsS w' a L := fun k hk => by
  obtain ⟨g, o, b, c, h1, h2, h3, h4⟩ := h k hk
  exact ⟨g, o, b, c, h1, Nat.lt_of_lt_of_le h2 hb.size, (hb.cell (p := ⟨g, o + k, none⟩) h2).trans h3, h4.below hb⟩
/-- What is nil in a list of lists has no room. -/
def LsN (w : World) (a : Option Addr) (L : List (List Int)) : Prop := ∀ k, k < L.length → ∀ g o b n c, a = some ⟨g, o, none⟩ → w.cell? ⟨g, o + k, none⟩ = some (.slice b n c) → b = none → c = 0
theorem LsN.below {w w' : World} {a : Option Addr} {L : List (List Int)} (h : LsN w a L) (hl : LsS w a L) (hb : Below w.heap.size w w') : LsN w' a L := fun k hk g o b n c ha hc hn => by
  obtain ⟨g', o', _, _, e, hg, _⟩ := hl k hk
  rw [ha] at e
  cases e
  exact h k hk g o b n c ha ((hb.cell (p := ⟨g, o + k, none⟩) hg).symm.trans hc) hn
abbrev uv (x : Nat) : Value := .int .u32 (x : Int)
/-- The block g holds these sets. -/
def RowU (w : World) (g : Nat) (l : List Nat) : Prop := w.heap[g]? = some (.cells (l.map uv).toArray 103 (0, 0))
theorem RowU.cell {w : World} {g : Nat} {l : List Nat} (h : RowU w g l) (j : Nat) (hj : j < l.length) : w.cell? ⟨g, j, none⟩ = some (.int .u32 (l[j] : Nat)) := by
  rw [cell_of_row w g j _ _ (0, 0) h]
  simp [uv, hj]
theorem RowU.fz {w : World} {g : Nat} {l : List Nat} (h : RowU w g l) (j : Nat) : w.frozen? ⟨g, j, none⟩ = false := frozen_of_row w g j _ _ h
theorem RowU.lt {w : World} {g : Nat} {l : List Nat} (h : RowU w g l) : g < w.heap.size := (Array.getElem?_eq_some_iff.1 h).1
theorem RowU.below {w w' : World} {g b : Nat} {l : List Nat} (h : RowU w g l) (hb : Below b w w') (hg : g < b) : RowU w' g l := (hb.block g hg).trans h
theorem RowU.set {w : World} {g : Nat} {l : List Nat} (h : RowU w g l) (j y : Nat) : RowU (w.setCell ⟨g, j, none⟩ (.int .u32 (y : Int))) g (l.set j y) := by
  have h2 := heap_setCell_same w g j _ _ (.int .u32 (y : Int)) h
  rw [RowU, h2]
  simp [List.map_set, uv]
theorem made_sets (n : Nat) : (madeCells (Value.int .u32 0).cells (n * 1)).toList = (List.replicate n (0 : Nat)).map uv := by
  rw [show (Value.int .u32 0).cells = #[Value.int .u32 0] from rfl, toList_madeCells_one, Nat.mul_one, List.map_replicate]; rfl
theorem Tryz.infoSet : (Tryz.prog.info? 103).map (fun i => (i.zero, i.size, i.bytes)) = some (some (.int .u32 0), 1, 4) := by kernel_rfl

/-- All lists rise. -/
def allRis (L : List (List Int)) (n : Nat) : Bool := L.all fun l => risB l n
/-- Their sets. -/
def masks (L : List (List Int)) : List Nat := L.map fun l => mskN (toN l)
theorem masks_length (L : List (List Int)) : (masks L).length = L.length := by simp [masks]
theorem allRis_bad {L : List (List Int)} {n i : Nat} (h : i < L.length) (e : risB L[i] n = false) : allRis L n = false := by
  rw [allRis, List.all_eq_false]; exact ⟨L[i], List.getElem_mem h, by rw [e]; decide⟩
theorem setA_yes {l : List Int} {n : Nat} (h : risB l n = true) : setA l n = mskN (toN l) := if_pos h

set_option maxRecDepth 100000 in
set_option maxHeartbeats 1000000 in
theorem setsOf_any (a : Option Addr) (ca n : Nat) (L : List (List Int)) (w : World) (h : LsS w a L) (hL : L.length ≤ 8) (hn : n ≤ 8) (hl : ∀ l ∈ L, l.length ≤ 140737488355328) :
    Calls Tryz.prog 77 #[.slice a L.length ca, .int .i64 (n : Nat)] w fun e w' => Below w.heap.size w w' ∧
      ((allRis L n = true ∧ ∃ G, e = .returned (.tuple #[.slice (some ⟨G, 0, none⟩) L.length L.length, .bool true]) ∧ w.heap.size ≤ G ∧ RowU w' G (masks L)) ∨ (allRis L n = false ∧ e = .returned (.tuple #[.slice none 0 0, .bool false]))) := by
  obtain ⟨i0, hi0, hz0, hz1, hz2⟩ := info_parts Tryz.infoSet
  have HF := hid h
  have HB := hid (fun i h e => allRis_bad (L := L) (n := n) (i := i) h e)
  have HT : Hid ((∀ i (h : i < L.length), risB L[i] n = true) → allRis L n = true) := fun h => List.all_eq_true.2 fun l hl => by
    obtain ⟨i, hi, rfl⟩ := List.getElem_of_mem hl
    exact h i hi
  have HM : Hid (∀ i (h : i < L.length), (masks L)[i]? = some (mskN (toN L[i]))) := fun i h => by simp [masks, h]
  have HSZ := hid hl
  have hml := masks_length L
  generalize allRis L n = rb at *
  generalize masks L = ms at *
  clear h hl
  go_enter Tryz.func77, Tryz.ntmps77
  go_wp2_with (first
    | (at_make; refine wpList_make_full _ rfl _ _ 57 rfl w.heap.size 103 i0 (.int .u32 0) 1 Tryz.underlying57 hi0 hz0 hz1 .i64 .i64 _ _ L.length rfl rfl (by go_num) (by go_num) (by rw [hz2]; omega) (by unfold maxLen; omega) (Nat.le_refl _) ?_; intro w2 hown2 hgrow2))
  have hb2 := block_of_own hown2
  rw [made_sets] at hb2
  have HB2 : Hid (Below w.heap.size w w2) := (Below.refl _ w).grown hgrow2 (Nat.le_refl _) (fun k e => by cases e)
  have HI : Hid (RowU w2 w.heap.size (List.replicate L.length 0)) := hb2
  clear hown2 hgrow2 hb2
  go_wp2_with fail
  go_loopw [15] (fun iv wr => ∃ i : Nat, i ≤ L.length ∧ iv = .int .i64 i ∧ Hid (∀ j (h : j < L.length), j < i → risB L[j] n = true) ∧ Hid (RowU wr w.heap.size (partD ms i)) ∧ Hid (Below w.heap.size w wr)) (fun iv _ => L.length - (intOf iv).toNat)
  case atStart => exact ⟨0, Nat.zero_le _, rfl, fun j _ h => absurd h (by omega), by rw [partD_zero, hml]; exact HI, HB2⟩
  case round =>
    obtain ⟨i, hi, rfl, HR, HU, HBW⟩ := hrel
    clear HI HB2
    by_cases hlt : i < L.length
    · obtain ⟨g, o, b, c, rfl, hg, c0, hI⟩ := (HF.out.below HBW.out) i hlt
      have hll := HSZ.out L[i] (List.getElem_mem hlt)
      have HII := hid hI
      clear hI
      have HBi := hid (HB.out i hlt)
      have HMi := hid (HM.out i hlt)
      have HRi : Hid (risB L[i] n = true → ∀ j (h : j < L.length), j < i + 1 → risB L[j] n = true) := fun h j hj hji => by
        rcases Nat.lt_or_ge j i with h2 | h2
        · exact HR.out j hj h2
        · obtain rfl : j = i := by omega
          exact h
      have HSA : Hid (risB L[i] n = true → setA L[i] n = mskN (toN L[i])) := setA_yes
      generalize L[i] = l at *
      go_wp2_with fail
      refine (setOf_any b c l n _ HII.out hll hn).mono ?_
      rintro e w3 ⟨rfl, rfl⟩
      cases hr : risB l n with
      | false =>
        have HE := hid (HBi.out hr)
        generalize setA l n = s at *
        go_wp2
        go_ret2
        exact ⟨HBW.out, .inr ⟨HE.out, rfl⟩⟩
      | true =>
        rw [HSA.out hr]
        have HPR := hid (HRi.out hr)
        have k0 := HU.out.cell i (by rw [partD_length _ (by omega)]; omega)
        have f0 := HU.out.fz i
        have HSE := hid (HU.out.set i (mskN (toN l)))
        have HPS : Hid ((partD ms i).set i (mskN (toN l)) = partD ms (i + 1)) := by
          show _ = _
          obtain ⟨h1, h2⟩ := List.getElem?_eq_some_iff.1 HMi.out
          rw [← h2]
          exact partD_set ms h1
        rw [HPS.out] at HSE
        have HBS := hid (HBW.out.setCell (p := ⟨w.heap.size, i, none⟩) (Nat.le_refl _) (.int .u32 (mskN (toN l) : Nat)))
        clear hr
        generalize mskN (toN l) = s at *
        generalize (partD ms i)[i]'(by rw [partD_length _ (by omega)]; omega) = z at *
        go_wp2
        go_roundw
        case rel => exact ⟨i + 1, by omega, by go_num, HPR, HSE, HBS⟩
        case measure => simp [intOf]; omega
    · obtain rfl : i = L.length := by omega
      have HE := hid (HT.out fun j hj => HR.out j hj hj)
      have hU := HU.out
      rw [← hml, partD_all] at hU
      have HUU := hid hU
      clear hU
      go_wp2
      go_ret2
      exact ⟨HBW.out, .inl ⟨HE.out, _, rfl, Nat.le_refl _, HUU.out⟩⟩
end Go.Proofs.YtmdjhefcohcjhaaGreatDoor


/- Package graph: readOthers. -/
namespace Go.Proofs.YtmdjhefcohcjhaaGreatDoor
open Go.RowKit

/-- No list has its own number. -/
def noSelf (L : List (List Int)) : Bool := (List.range L.length).all fun v => !decide (v ∈ toN (L.getD v []))
/-- Lists of other nodes. -/
def gB (L : List (List Int)) : Bool := decide (1 ≤ L.length ∧ L.length ≤ 8) && allRis L L.length && noSelf L

set_option maxRecDepth 100000 in
set_option maxHeartbeats 400000 in
theorem mayCount_any (n : Nat) (w : World) :
    Calls Tryz.prog 76 #[.int .i64 (n : Nat)] w fun e w' => e = .returned (.bool (decide (1 ≤ n ∧ n ≤ 8))) ∧ w' = w := by
  by_cases h1 : 1 ≤ n
  · by_cases h2 : n ≤ 8
    · rw [decide_eq_true (p := 1 ≤ n ∧ n ≤ 8) ⟨h1, h2⟩]
      have e1 : (1 : Int) ≤ (n : Int) := by omega
      have e2 : (n : Int) ≤ 8 := by omega
      go_enter Tryz.func76, Tryz.ntmps76
      go_wp2
      go_ret
      exact ⟨rfl, rfl⟩
    · rw [decide_eq_false (p := 1 ≤ n ∧ n ≤ 8) (fun h => h2 h.2)]
      have e1 : (1 : Int) ≤ (n : Int) := by omega
      have HE : Hid (decide ((n : Int) ≤ 8) = false) := decide_eq_false (by omega)
      clear h2
      go_enter Tryz.func76, Tryz.ntmps76
      go_wp2
      go_ret
      exact ⟨by rw [HE.out]; rfl, rfl⟩
  · rw [decide_eq_false (p := 1 ≤ n ∧ n ≤ 8) (fun h => h1 h.1)]
    obtain rfl : n = 0 := by omega
    clear h1
    go_enter Tryz.func76, Tryz.ntmps76
    go_wp2
    go_ret
    exact ⟨rfl, rfl⟩
theorem ris_all {l : List Int} {n : Nat} (hn : n ≤ 8) (h : risB l n = true) : ∀ u ∈ toN l, u < 8 := by
  have := ris_small (l := l) (n := n) (i := l.length) hn h (Nat.le_refl _)
  rwa [List.take_length] at this
theorem allRis_at {L : List (List Int)} {n i : Nat} (h : allRis L n = true) (hi : i < L.length) : risB L[i] n = true := List.all_eq_true.1 h _ (List.getElem_mem hi)
theorem noSelf_bad {L : List (List Int)} {i : Nat} (h : i < L.length) (e : i ∈ toN L[i]) : noSelf L = false := by
  rw [noSelf, List.all_eq_false]
  refine ⟨i, List.mem_range.2 h, ?_⟩
  rw [List.getD_eq_getElem?_getD, List.getElem?_eq_getElem h]
  simpa using e
theorem noSelf_good {L : List (List Int)} (h : ∀ i (hi : i < L.length), ¬ i ∈ toN L[i]) : noSelf L = true := by
  rw [noSelf, List.all_eq_true]
  intro i hi
  have hi' := List.mem_range.1 hi
  rw [List.getD_eq_getElem?_getD, List.getElem?_eq_getElem hi']
  simpa using h i hi'

set_option maxRecDepth 100000 in
set_option maxHeartbeats 1000000 in
theorem readOthers_any (a : Option Addr) (ca : Nat) (L : List (List Int)) (w : World) (h : LsS w a L) (hl : ∀ l ∈ L, l.length ≤ 140737488355328) :
    Calls Tryz.prog 47 #[.slice a L.length ca] w fun e w' => Below w.heap.size w w' ∧
      ((gB L = true ∧ ∃ G, e = .returned (.tuple #[.slice (some ⟨G, 0, none⟩) L.length L.length, .bool true]) ∧ w.heap.size ≤ G ∧ RowU w' G (masks L)) ∨ (gB L = false ∧ ∃ v, e = .returned (.tuple #[v, .bool false]))) := by
  have HF := hid h
  have HL := hid hl
  have HG : Hid (gB L = (decide (1 ≤ L.length ∧ L.length ≤ 8) && allRis L L.length && noSelf L)) := rfl
  generalize gB L = gb at *
  clear h hl
  cases hm : decide (1 ≤ L.length ∧ L.length ≤ 8) with
  | false =>
    have HC := hid (fun V : World => mayCount_any L.length V)
    rw [hm] at HG HC
    have HGF : Hid (gb = false) := by show _ = _; rw [HG.out]; rfl
    clear hm HG
    go_enter Tryz.func47, Tryz.ntmps47
    go_wp2_with fail
    refine (HC.out _).mono ?_
    rintro e w1 ⟨rfl, rfl⟩
    go_wp2
    go_ret2
    exact ⟨Below.refl _ _, .inr ⟨HGF.out, _, rfl⟩⟩
  | true =>
    have HC := hid (fun V : World => mayCount_any L.length V)
    rw [hm] at HG HC
    obtain ⟨h1, h8⟩ := of_decide_eq_true hm
    have HS := hid (fun (V : World) (hV : LsS V a L) => setsOf_any a ca L.length L V hV h8 h8 HL.out)
    have HRA : Hid (allRis L L.length = true → ∀ i (hi : i < L.length), ∀ u ∈ toN L[i], u < 8) := fun h i hi => ris_all h8 (allRis_at h hi)
    have HNB := hid (fun i h e => noSelf_bad (L := L) (i := i) h e)
    have HNG := hid (fun h => noSelf_good (L := L) h)
    have HM : Hid (∀ i (h : i < L.length), (masks L)[i]? = some (mskN (toN L[i]))) := fun i h => by simp [masks, h]
    clear hm
    generalize allRis L L.length = ra at *
    generalize noSelf L = rn at *
    generalize masks L = ms at *
    go_enter Tryz.func47, Tryz.ntmps47
    go_wp2_with fail
    refine (HC.out _).mono ?_
    rintro e w1 ⟨rfl, rfl⟩
    go_wp2_with fail
    refine (HS.out _ HF.out).mono ?_
    rintro e w2 ⟨hb, ⟨hra, G, rfl, hG, hU⟩ | ⟨hra, rfl⟩⟩
    · have HU := hid hU
      have HB := hid hb
      have HAT := hid (HRA.out hra)
      have HGB : Hid (gb = rn) := by show _ = _; rw [HG.out, hra]; rfl
      clear hU hb hra HG
      go_wp2_with fail
      go_loopw [21] (fun iv wr => ∃ i : Nat, i ≤ L.length ∧ iv = .int .i64 i ∧ Hid (∀ j (h : j < L.length), j < i → ¬ j ∈ toN L[j]) ∧ wr = w2) (fun iv _ => L.length - (intOf iv).toNat)
      case atStart => exact ⟨0, Nat.zero_le _, rfl, fun j _ h => absurd h (by omega), rfl⟩
      case round =>
        obtain ⟨i, hi, rfl, HR, rfl⟩ := hrel
        by_cases hlt : i < L.length
        · have hmi := HM.out i hlt
          obtain ⟨hm1, hm2⟩ := List.getElem?_eq_some_iff.1 hmi
          have c0 := HU.out.cell i hm1
          rw [hm2] at c0
          have HNi := hid (HNB.out i hlt)
          have HRi : Hid (¬ i ∈ toN L[i] → ∀ j (h : j < L.length), j < i + 1 → ¬ j ∈ toN L[j]) := fun h j hj hji => by
            rcases Nat.lt_or_ge j i with h2 | h2
            · exact HR.out j hj h2
            · obtain rfl : j = i := by omega
              exact h
          have HH := hid (fun V : World => sHas_any (toN L[i]) i V (HAT.out i hlt) (by omega))
          clear hmi hm1 hm2
          generalize toN L[i] = l at *
          go_wp2_with fail
          refine (HH.out _).mono ?_
          rintro e w3 ⟨rfl, rfl⟩
          by_cases hin : i ∈ l
          · rw [decide_eq_true hin]
            have HE := hid (HNi.out hin)
            clear hin
            go_wp2
            go_ret2
            exact ⟨HB.out, .inr ⟨by rw [HGB.out]; exact HE.out, _, rfl⟩⟩
          · rw [decide_eq_false hin]
            have HE := hid (HRi.out hin)
            clear hin
            go_wp2
            go_roundw
            case rel => exact ⟨i + 1, by omega, by go_num, HE, trivial⟩
            case measure => simp [intOf]; omega
        · obtain rfl : i = L.length := by omega
          have HE := hid (HNG.out fun j hj => HR.out j hj hj)
          go_wp2
          go_ret2
          exact ⟨HB.out, .inl ⟨by rw [HGB.out]; exact HE.out, G, rfl, hG, HU.out⟩⟩
    · have HGB : Hid (gb = false) := by show _ = _; rw [HG.out, hra]; rfl
      have HB := hid hb
      clear hra hb HG
      go_wp2_with fail
      go_loopw [21] (fun iv wr => iv = .int .i64 0 ∧ wr = w2) (fun _ _ => 0)
      case atStart => exact ⟨rfl, rfl⟩
      case round =>
        obtain ⟨rfl, rfl⟩ := hrel
        go_wp2
        go_ret2
        exact ⟨HB.out, .inr ⟨HGB.out, _, rfl⟩⟩
end Go.Proofs.YtmdjhefcohcjhaaGreatDoor


/- Plain: the order of nodes, each behind its parents, the least first. -/
namespace Go.Proofs.YtmdjhefcohcjhaaGreatDoor

/-- May a node come next? -/
def freeB (P : List (List Nat)) (out : List Nat) (v : Nat) : Bool := !decide (v ∈ out) && decide (∀ u ∈ P.getD v [], u ∈ out)
/-- The least that may. -/
def nextV (P : List (List Nat)) (out : List Nat) : Option Nat := (List.range P.length).find? (freeB P out)
/-- Those that stand there behind k steps. -/
def ordN (P : List (List Nat)) : Nat → List Nat
  | 0 => []
  | k + 1 => match nextV P (ordN P k) with
    | some v => ordN P k ++ [v]
    | none => ordN P k
theorem find_range {p : Nat → Bool} : ∀ {n v : Nat}, v < n → p v = true → (∀ u, u < v → p u = false) → (List.range n).find? p = some v := by
  intro n
  induction n with
  | zero => intro v h; omega
  | succ n ih =>
    intro v hv hp hu
    rw [List.range_succ, List.find?_append]
    rcases Nat.lt_or_ge v n with h | h
    · rw [ih h hp hu]; rfl
    · obtain rfl : v = n := by omega
      have : (List.range v).find? p = none := List.find?_eq_none.2 fun u hu' => by rw [hu u (List.mem_range.1 hu')]; decide
      rw [this]
      simp [hp]
theorem next_some {P : List (List Nat)} {out : List Nat} {v : Nat} (hv : v < P.length) (hp : freeB P out v = true) (hu : ∀ u, u < v → freeB P out u = false) : nextV P out = some v := find_range hv hp hu
theorem next_none {P : List (List Nat)} {out : List Nat} (hu : ∀ u, u < P.length → freeB P out u = false) : nextV P out = none := List.find?_eq_none.2 fun u hu' => by rw [hu u (List.mem_range.1 hu')]; decide
theorem ord_some {P : List (List Nat)} {k v : Nat} (h : nextV P (ordN P k) = some v) : ordN P (k + 1) = ordN P k ++ [v] := by rw [ordN, h]
theorem ord_none {P : List (List Nat)} {k : Nat} (h : nextV P (ordN P k) = none) : ∀ j, ordN P (k + j) = ordN P k
  | 0 => rfl
  | j + 1 => by
    have ih := ord_none h j
    show ordN P (k + j + 1) = _
    rw [ordN, ih, h]
theorem ord_stuck {P : List (List Nat)} {k n : Nat} (h : nextV P (ordN P k) = none) (hk : k ≤ n) : ordN P n = ordN P k := by
  have := ord_none h (n - k)
  rwa [show k + (n - k) = n by omega] at this
theorem ord_len (P : List (List Nat)) : ∀ k, (ordN P k).length ≤ k
  | 0 => Nat.le_refl _
  | k + 1 => by
    have := ord_len P k
    rw [ordN]
    cases nextV P (ordN P k) with
    | none => show (ordN P k).length ≤ _; omega
    | some v => show (ordN P k ++ [v]).length ≤ _; rw [List.length_append]; simp; omega
theorem ord_lt (P : List (List Nat)) : ∀ k, ∀ v ∈ ordN P k, v < P.length
  | 0, v, hv => by cases hv
  | k + 1, v, hv => by
    rw [ordN] at hv
    cases e : nextV P (ordN P k) with
    | none => rw [e] at hv; exact ord_lt P k v hv
    | some u =>
      rw [e] at hv
      rcases List.mem_append.1 hv with h | h
      · exact ord_lt P k v h
      · obtain rfl := List.mem_singleton.1 h
        exact List.mem_range.1 (List.mem_of_find?_eq_some e)
theorem ord_full (P : List (List Nat)) {k : Nat} (h : nextV P (ordN P k) = none) (hk : k < P.length) : (ordN P P.length).length < P.length := by
  rw [ord_stuck h (Nat.le_of_lt hk)]
  have := ord_len P k
  omega
/-- The parents, as numbers. -/
def parN (L : List (List Int)) : List (List Nat) := L.map toN
theorem parN_length (L : List (List Int)) : (parN L).length = L.length := by simp [parN]
theorem parN_get {L : List (List Int)} {i : Nat} (h : i < L.length) : (parN L).getD i [] = toN L[i] := by simp [parN, List.getD_eq_getElem?_getD, h]
theorem masks_par (L : List (List Int)) : masks L = (parN L).map mskN := by simp [masks, parN]
theorem iL_append (a b : List Nat) : iL (a ++ b) = iL a ++ iL b := by simp [iL]
/-- What Check answers. -/
def gcE (L : List (List Int)) : Int := if gB L = true then (if (ordN (parN L) L.length).length < L.length then 10 else 0) else 11
end Go.Proofs.YtmdjhefcohcjhaaGreatDoor


/- Names: packages net and the document's answer. -/
namespace Go.Proofs.YtmdjhefcohcjhaaGreatDoor
open Go.RowKit

def letN (c : Nat) : Bool := decide (97 ≤ c ∧ c ≤ 122)
def figN (c : Nat) : Bool := decide (48 ≤ c ∧ c ≤ 57)
def worN (c : Nat) : Bool := letN c || figN c || decide (c = 95)
/-- Like a word. -/
def wordB (s : ByteArray) : Bool := (s.data.toList.all fun c => worN c.toNat) && letN (s.data.toList.headD 0).toNat
def isVar (s : ByteArray) : Bool := s.toList == [118, 97, 114]
def isElse (s : ByteArray) : Bool := s.toList == [101, 108, 115, 101]
/-- A name. -/
def nameB (s : ByteArray) : Bool := decide (s.size ≤ 12) && !isVar s && !isElse s && wordB s

theorem letN_eq (c : Nat) : letN c = decide (97 ≤ c ∧ c ≤ 122) := rfl
set_option maxRecDepth 100000 in
set_option maxHeartbeats 400000 in
theorem nLetter_any (c : Nat) (w : World) : Calls Tryz.prog 82 #[.int .u8 (c : Nat)] w fun e w' => e = .returned (.bool (letN c)) ∧ w' = w := by
  rw [letN]
  by_cases h1 : 97 ≤ c
  · have HE : Hid (decide ((c : Int) ≤ 122) = decide (97 ≤ c ∧ c ≤ 122)) := decide_eq_decide.2 ⟨fun h => ⟨h1, by omega⟩, fun h => by omega⟩
    have e1 : (97 : Int) ≤ (c : Int) := by omega
    go_enter Tryz.func82, Tryz.ntmps82
    go_wp2
    go_ret
    exact ⟨by rw [← HE.out]; rfl, rfl⟩
  · have HE : Hid (decide (97 ≤ c ∧ c ≤ 122) = false) := decide_eq_false fun h => h1 h.1
    rw [HE.out]
    have e1 : (c : Int) < 97 := by omega
    clear h1
    go_enter Tryz.func82, Tryz.ntmps82
    go_wp2
    go_ret
    exact ⟨rfl, rfl⟩
set_option maxRecDepth 100000 in
set_option maxHeartbeats 400000 in
theorem rLetter_any (c : Nat) (w : World) : Calls Tryz.prog 102 #[.int .u8 (c : Nat)] w fun e w' => e = .returned (.bool (letN c)) ∧ w' = w := by
  rw [letN]
  by_cases h1 : 97 ≤ c
  · have HE : Hid (decide ((c : Int) ≤ 122) = decide (97 ≤ c ∧ c ≤ 122)) := decide_eq_decide.2 ⟨fun h => ⟨h1, by omega⟩, fun h => by omega⟩
    have e1 : (97 : Int) ≤ (c : Int) := by omega
    go_enter Tryz.func102, Tryz.ntmps102
    go_wp2
    go_ret
    exact ⟨by rw [← HE.out]; rfl, rfl⟩
  · have HE : Hid (decide (97 ≤ c ∧ c ≤ 122) = false) := decide_eq_false fun h => h1 h.1
    rw [HE.out]
    have e1 : (c : Int) < 97 := by omega
    clear h1
    go_enter Tryz.func102, Tryz.ntmps102
    go_wp2
    go_ret
    exact ⟨rfl, rfl⟩
set_option maxRecDepth 100000 in
set_option maxHeartbeats 400000 in
theorem nDigit_any (c : Nat) (w : World) : Calls Tryz.prog 110 #[.int .u8 (c : Nat)] w fun e w' => e = .returned (.bool (figN c)) ∧ w' = w := by
  rw [figN]
  by_cases h1 : 48 ≤ c
  · have HE : Hid (decide ((c : Int) ≤ 57) = decide (48 ≤ c ∧ c ≤ 57)) := decide_eq_decide.2 ⟨fun h => ⟨h1, by omega⟩, fun h => by omega⟩
    have e1 : (48 : Int) ≤ (c : Int) := by omega
    go_enter Tryz.func110, Tryz.ntmps110
    go_wp2
    go_ret
    exact ⟨by rw [← HE.out]; rfl, rfl⟩
  · have HE : Hid (decide (48 ≤ c ∧ c ≤ 57) = false) := decide_eq_false fun h => h1 h.1
    rw [HE.out]
    have e1 : (c : Int) < 48 := by omega
    clear h1
    go_enter Tryz.func110, Tryz.ntmps110
    go_wp2
    go_ret
    exact ⟨rfl, rfl⟩
set_option maxRecDepth 100000 in
set_option maxHeartbeats 400000 in
theorem rFigure_any (c : Nat) (w : World) : Calls Tryz.prog 103 #[.int .u8 (c : Nat)] w fun e w' => e = .returned (.bool (figN c)) ∧ w' = w := by
  rw [figN]
  by_cases h1 : 48 ≤ c
  · have HE : Hid (decide ((c : Int) ≤ 57) = decide (48 ≤ c ∧ c ≤ 57)) := decide_eq_decide.2 ⟨fun h => ⟨h1, by omega⟩, fun h => by omega⟩
    have e1 : (48 : Int) ≤ (c : Int) := by omega
    go_enter Tryz.func103, Tryz.ntmps103
    go_wp2
    go_ret
    exact ⟨by rw [← HE.out]; rfl, rfl⟩
  · have HE : Hid (decide (48 ≤ c ∧ c ≤ 57) = false) := decide_eq_false fun h => h1 h.1
    rw [HE.out]
    have e1 : (c : Int) < 48 := by omega
    clear h1
    go_enter Tryz.func103, Tryz.ntmps103
    go_wp2
    go_ret
    exact ⟨rfl, rfl⟩
set_option maxRecDepth 100000 in
set_option maxHeartbeats 400000 in
theorem nGoes_any (c : Nat) (w : World) : Calls Tryz.prog 81 #[.int .u8 (c : Nat)] w fun e w' => e = .returned (.bool (worN c)) ∧ w' = w := by
  have HW : Hid (worN c = (letN c || figN c || decide (c = 95))) := rfl
  have HL := hid (nLetter_any c)
  have HF := hid (nDigit_any c)
  generalize worN c = r at *
  go_enter Tryz.func81, Tryz.ntmps81
  go_wp2_with fail
  refine (HL.out _).mono ?_
  rintro e w1 ⟨rfl, rfl⟩
  cases hl : letN c with
  | true =>
    rw [hl] at HW
    have HE : Hid (r = true) := HW.out
    clear hl
    go_wp2
    go_ret
    exact ⟨by rw [HE.out]; rfl, rfl⟩
  | false =>
    rw [hl] at HW
    go_wp2_with fail
    refine (HF.out _).mono ?_
    rintro e w2 ⟨rfl, rfl⟩
    cases hf : figN c with
    | true =>
      rw [hf] at HW
      have HE : Hid (r = true) := HW.out
      clear hl hf
      go_wp2
      go_ret
      exact ⟨by rw [HE.out]; rfl, rfl⟩
    | false =>
      rw [hf] at HW
      have HE : Hid (r = ((c : Int) == 95)) := by
        show _ = _
        rw [HW.out, Bool.false_or, Bool.false_or, Bool.eq_iff_iff, decide_eq_true_iff, beq_iff_eq]
        omega
      clear hl hf
      go_wp2
      go_ret
      exact ⟨by rw [HE.out]; rfl, rfl⟩
end Go.Proofs.YtmdjhefcohcjhaaGreatDoor


/- Names: isName, of package net and of the document's answer. -/
namespace Go.Proofs.YtmdjhefcohcjhaaGreatDoor
open Go.RowKit

theorem take_byte {s : ByteArray} {k : Nat} (h : k < s.size) : s.data.toList.take (k + 1) = s.data.toList.take k ++ [s[k]] := by
  have h' : k < s.data.toList.length := by simpa using h
  rw [List.take_succ_eq_append_getElem h']
  rfl
theorem word_bad {s : ByteArray} {k : Nat} (h : k < s.size) (e : worN s[k].toNat = false) : wordB s = false := by
  have hm : s[k] ∈ s.data.toList := by
    have : s.data.toList[k]'(by simpa using h) = s[k] := rfl
    rw [← this]; exact List.getElem_mem _
  have : (s.data.toList.all fun c => worN c.toNat) = false := by
    rw [List.all_eq_false]; exact ⟨_, hm, by rw [e]; decide⟩
  rw [wordB, this]; rfl
theorem head_zero {s : ByteArray} (h : 0 < s.size) : s.data.toList.headD 0 = s[0] := by
  obtain ⟨⟨l⟩⟩ := s
  cases l with
  | nil => exact absurd h (by decide)
  | cons c l => rfl
theorem word_full {s : ByteArray} (h : 0 < s.size) (e : (s.data.toList.take s.size).all (fun c => worN c.toNat) = true) : wordB s = letN s[0].toNat := by
  have e2 : s.data.toList.all (fun c => worN c.toNat) = true := by
    rwa [List.take_of_length_le (by simp)] at e
  rw [wordB, e2, Bool.true_and, head_zero h]
theorem wor_let {c : Nat} (h : letN c = true) : worN c = true := by rw [worN, h]; rfl

set_option maxRecDepth 100000 in
set_option maxHeartbeats 1000000 in
theorem nName_any (s : ByteArray) (w : World) (hs : s.size ≤ 140737488355328) :
    Calls Tryz.prog 49 #[.string s] w fun e w' => e = .returned (.bool (nameB s)) ∧ w' = w := by
  have HN : Hid (nameB s = (decide (s.size ≤ 12) && !isVar s && !isElse s && wordB s)) := rfl
  have HWB := hid (fun k h e => word_bad (s := s) (k := k) h e)
  have HWF := hid (fun h e => word_full (s := s) h e)
  have HW0 : Hid (s.size = 0 → wordB s = false) := fun h => by
    have : s.data.toList = [] := List.length_eq_zero_iff.1 (by rw [Array.length_toList]; exact h)
    rw [wordB, this]; rfl
  generalize nameB s = nb at *
  generalize wordB s = wb at *
  by_cases h0 : s.size = 0
  · have HE : Hid (nb = false) := by show _ = _; rw [HN.out, HW0.out h0]; simp
    have e1 : (s.size : Int) < 1 := by omega
    clear h0 HN
    go_enter Tryz.func49, Tryz.ntmps49
    go_wp2
    go_ret
    exact ⟨by rw [HE.out]; rfl, rfl⟩
  by_cases h12 : 12 < s.size
  · have HE : Hid (nb = false) := by show _ = _; rw [HN.out, decide_eq_false (show ¬ s.size ≤ 12 by omega)]; rfl
    have e1 : (1 : Int) ≤ (s.size : Int) := by omega
    have e2 : (12 : Int) < (s.size : Int) := by omega
    clear h0 HN
    go_enter Tryz.func49, Tryz.ntmps49
    go_wp2
    go_ret
    exact ⟨by rw [HE.out]; rfl, rfl⟩
  have e1 : (1 : Int) ≤ (s.size : Int) := by omega
  have e2 : (s.size : Int) ≤ 12 := by omega
  cases hv : isVar s with
  | true =>
    have HE : Hid (nb = false) := by show _ = _; rw [HN.out, hv]; simp
    rw [isVar] at hv
    clear HN h0 h12
    go_enter Tryz.func49, Tryz.ntmps49
    go_wp2
    go_ret
    exact ⟨by rw [HE.out]; rfl, rfl⟩
  | false =>
    cases he : isElse s with
    | true =>
      have HE : Hid (nb = false) := by show _ = _; rw [HN.out, he]; simp
      rw [isVar] at hv
      rw [isElse] at he
      clear HN h0 h12
      go_enter Tryz.func49, Tryz.ntmps49
      go_wp2
      go_ret
      exact ⟨by rw [HE.out]; rfl, rfl⟩
    | false =>
      have HE : Hid (nb = wb) := by show _ = _; rw [HN.out, hv, he, decide_eq_true (show s.size ≤ 12 by omega)]; simp
      rw [isVar] at hv
      rw [isElse] at he
      have h1 : 0 < s.size := by omega
      clear HN h0 h12
      go_enter Tryz.func49, Tryz.ntmps49
      go_wp2_with fail
      go_loopw [22] (fun iv wr => ∃ k : Nat, k ≤ s.size ∧ iv = .int .i64 k ∧ Hid ((s.data.toList.take k).all (fun c => worN c.toNat) = true) ∧ wr = w) (fun iv _ => s.size - (intOf iv).toNat)
      case atStart => exact ⟨0, Nat.zero_le _, rfl, rfl, rfl⟩
      case round =>
        obtain ⟨k, hk, rfl, HA, rfl⟩ := hrel
        by_cases hlt : k < s.size
        · have HB := hid (HWB.out k hlt)
          have HT : Hid (worN s[k].toNat = true → (s.data.toList.take (k + 1)).all (fun c => worN c.toNat) = true) := fun h => by
            rw [take_byte hlt, List.all_append, HA.out]
            simp [h]
          go_wp2_with fail
          refine (nGoes_any s[k].toNat _).mono ?_
          rintro e w1 ⟨rfl, rfl⟩
          cases hw : worN s[k].toNat with
          | false =>
            have HF := hid (HB.out hw)
            clear hw
            go_wp2
            go_ret
            exact ⟨by rw [HE.out, HF.out]; rfl, rfl⟩
          | true =>
            have HS := hid (HT.out hw)
            clear hw
            go_wp2
            go_roundw
            case rel => exact ⟨k + 1, by omega, by go_num, HS, trivial⟩
            case measure => simp [intOf]; omega
        · obtain rfl : k = s.size := by omega
          have HF := hid (HWF.out h1 HA.out)
          go_wp2_with fail
          refine (nLetter_any s[0].toNat _).mono ?_
          rintro e w1 ⟨rfl, rfl⟩
          go_wp2
          go_ret
          exact ⟨by rw [HE.out, HF.out]; rfl, rfl⟩

theorem word_head {s : ByteArray} (h : 0 < s.size) (e : letN s[0].toNat = false) : wordB s = false := by rw [wordB, head_zero h, e, Bool.and_false]
set_option maxRecDepth 100000 in
set_option maxHeartbeats 1000000 in
theorem rWord_any (s : ByteArray) (w : World) (hs : s.size ≤ 140737488355328) :
    Calls Tryz.prog 67 #[.string s] w fun e w' => e = .returned (.bool (wordB s)) ∧ w' = w := by
  have HWB := hid (fun k h e => word_bad (s := s) (k := k) h e)
  have HWH := hid (fun h e => word_head (s := s) h e)
  have HWF := hid (fun h e => word_full (s := s) h e)
  have HW0 : Hid (s.size = 0 → wordB s = false) := fun h => by
    have : s.data.toList = [] := List.length_eq_zero_iff.1 (by rw [Array.length_toList]; exact h)
    rw [wordB, this]; rfl
  generalize wordB s = wb at *
  go_enter Tryz.func67, Tryz.ntmps67
  go_wp2_with fail
  go_loopw [3] (fun iv wr => ∃ k : Nat, k ≤ s.size ∧ iv = .int .i64 k ∧ Hid ((s.data.toList.take k).all (fun c => worN c.toNat) = true ∧ (0 < k → ∀ h : 0 < s.size, letN s[0].toNat = true)) ∧ wr = w) (fun iv _ => s.size - (intOf iv).toNat)
  case atStart => exact ⟨0, Nat.zero_le _, rfl, ⟨rfl, fun h => absurd h (by omega)⟩, rfl⟩
  case round =>
    obtain ⟨k, hk, rfl, HA, rfl⟩ := hrel
    by_cases hlt : k < s.size
    · have HB := hid (HWB.out k hlt)
      have HT : Hid (worN s[k].toNat = true → (0 < k ∨ letN s[k].toNat = true) → (s.data.toList.take (k + 1)).all (fun c => worN c.toNat) = true ∧ (0 < k + 1 → ∀ h : 0 < s.size, letN s[0].toNat = true)) := fun h h' => ⟨by
        rw [take_byte hlt, List.all_append, HA.out.1]
        simp [h], fun _ h0 => h'.elim (fun h2 => HA.out.2 h2 h0) fun h2 => by
          by_cases e : k = 0
          · subst e; exact h2
          · exact HA.out.2 (by omega) h0⟩
      have HWk : Hid (worN s[k].toNat = (letN s[k].toNat || figN s[k].toNat || decide (s[k].toNat = 95))) := rfl
      go_wp2_with fail
      refine (rLetter_any s[k].toNat _).mono ?_
      rintro e w1 ⟨rfl, rfl⟩
      go_wp2_with fail
      refine (rFigure_any s[k].toNat _).mono ?_
      rintro e w2 ⟨rfl, rfl⟩
      cases hl : letN s[k].toNat with
      | true =>
        have HS := hid (HT.out (wor_let hl) (.inr hl))
        clear hl
        generalize figN s[k].toNat = q at *
        go_wp2
        go_roundw
        case rel => exact ⟨k + 1, by omega, by go_num, HS, trivial⟩
        case measure => simp [intOf]; omega
      | false =>
        rw [hl] at HWk
        by_cases hk0 : k = 0
        · subst hk0
          have HF := hid (HWH.out hlt hl)
          clear hl
          generalize figN s[0].toNat = q at *
          go_wp2
          go_ret
          exact ⟨by rw [HF.out]; rfl, rfl⟩
        · have hkb : ((k : Int) == 0) = false := by
            have : ¬ (k : Int) = 0 := by omega
            simpa using this
          have hk1 : 0 < k := by omega
          cases hf : figN s[k].toNat with
          | true =>
            rw [hf] at HWk
            have HS := hid (HT.out HWk.out (.inl hk1))
            clear hl hf hk0
            go_wp2
            go_roundw
            case rel => exact ⟨k + 1, by omega, by go_num, HS, trivial⟩
            case measure => simp [intOf]; omega
          | false =>
            rw [hf] at HWk
            by_cases h95 : s[k].toNat = 95
            · have HS := hid (HT.out (by rw [HWk.out, h95]; rfl) (.inl hk1))
              have h9 : (((s[k].toNat : Nat) : Int) != 95) = false := by rw [h95]; rfl
              clear hl hf hk0
              go_wp2
              go_roundw
              case rel => exact ⟨k + 1, by omega, by go_num, HS, trivial⟩
              case measure => simp [intOf]; omega
            · have HF := hid (HB.out (by rw [HWk.out, decide_eq_false h95]; rfl))
              have h9 : (((s[k].toNat : Nat) : Int) != 95) = true := by
                have : ¬ ((s[k].toNat : Nat) : Int) = 95 := by omega
                simpa using this
              clear hl hf hk0 h95
              go_wp2
              go_ret
              exact ⟨by rw [HF.out]; rfl, rfl⟩
    · obtain rfl : k = s.size := by omega
      by_cases h0 : s.size = 0
      · have HF := hid (HW0.out h0)
        have HI : Hid (s.toList.isEmpty = true) := by
          have : s.data.toList = [] := List.length_eq_zero_iff.1 (by rw [Array.length_toList]; exact h0)
          show _ = _
          rw [toList_data, this]; rfl
        clear h0 hlt
        go_wp2
        go_ret
        exact ⟨by rw [HF.out, HI.out]; rfl, rfl⟩
      · have HF := hid (HWF.out (by omega) HA.out.1)
        have HL := hid (HA.out.2 (by omega) (by omega))
        have HI : Hid (s.toList.isEmpty = false) := by
          have : ¬ s.data.toList = [] := fun e => h0 (by have := congrArg List.length e; rwa [Array.length_toList] at this)
          show _ = _
          rw [toList_data]
          simpa using this
        clear hlt
        go_wp2
        go_ret
        exact ⟨by rw [HF.out, HL.out, HI.out]; rfl, rfl⟩

set_option maxRecDepth 100000 in
set_option maxHeartbeats 1000000 in
theorem rName_any (s : ByteArray) (w : World) (hs : s.size ≤ 140737488355328) :
    Calls Tryz.prog 40 #[.string s] w fun e w' => e = .returned (.bool (nameB s)) ∧ w' = w := by
  have HN : Hid (nameB s = (decide (s.size ≤ 12) && !isVar s && !isElse s && wordB s)) := rfl
  have HW := hid (fun V : World => rWord_any s V hs)
  generalize nameB s = nb at *
  generalize wordB s = wb at *
  cases wb with
  | false =>
    have HE : Hid (nb = false) := by show _ = _; rw [HN.out, Bool.and_false]
    clear HN
    go_enter Tryz.func40, Tryz.ntmps40
    go_wp2_with fail
    refine (HW.out _).mono ?_
    rintro e w1 ⟨rfl, rfl⟩
    go_wp2
    go_ret
    exact ⟨by rw [HE.out]; rfl, rfl⟩
  | true =>
    by_cases h12 : 12 < s.size
    · have HE : Hid (nb = false) := by show _ = _; rw [HN.out, decide_eq_false (show ¬ s.size ≤ 12 by omega)]; rfl
      have e2 : (12 : Int) < (s.size : Int) := by omega
      clear HN
      go_enter Tryz.func40, Tryz.ntmps40
      go_wp2_with fail
      refine (HW.out _).mono ?_
      rintro e w1 ⟨rfl, rfl⟩
      go_wp2
      go_ret
      exact ⟨by rw [HE.out]; rfl, rfl⟩
    have e2 : (s.size : Int) ≤ 12 := by omega
    cases hv : isVar s with
    | true =>
      have HE : Hid (nb = false) := by show _ = _; rw [HN.out, hv]; simp
      rw [isVar] at hv
      have hv' : (s.toList != [118, 97, 114]) = false := by rw [bne, hv]; rfl
      clear HN h12
      go_enter Tryz.func40, Tryz.ntmps40
      go_wp2_with fail
      refine (HW.out _).mono ?_
      rintro e w1 ⟨rfl, rfl⟩
      go_wp2
      go_ret
      exact ⟨by rw [HE.out]; rfl, rfl⟩
    | false =>
      have HEL : Hid (nb = (s.toList != [101, 108, 115, 101])) := by show _ = _; rw [HN.out, hv, decide_eq_true (show s.size ≤ 12 by omega), Bool.and_true, bne, isElse]; simp
      rw [isVar] at hv
      have hv' : (s.toList != [118, 97, 114]) = true := by rw [bne, hv]; rfl
      clear HN h12
      go_enter Tryz.func40, Tryz.ntmps40
      go_wp2_with fail
      refine (HW.out _).mono ?_
      rintro e w1 ⟨rfl, rfl⟩
      go_wp2
      go_ret
      exact ⟨by rw [HEL.out]; rfl, rfl⟩
end Go.Proofs.YtmdjhefcohcjhaaGreatDoor

