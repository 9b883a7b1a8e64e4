/- Package graph: order, read, Check. -/
import Derived.Test.YtmdjhefcohcjhaaGreatDoorSetBToNameB
import Derived.Test.YtmdjhefcohcjhaaGreatDoorStandCToSliB
import Derived.WalkMore
import Derived.Test.YtmdjhefcohcjhaaGreatDoorNameCToRoundA
import Derived.Test.YtmdjhefcohcjhaaGreatDoorRefSToTabR5
namespace Go.Proofs.YtmdjhefcohcjhaaGreatDoor
open Go.RowKit Go.Shelf

theorem one_int (w : World) (u : Int) : IntS (w.alloc (.cells #[.int .i64 u] 3)) (some ⟨w.heap.size, 0, none⟩) [u] := fun k hk => by
  obtain rfl : k = 0 := by simp at hk; omega
  exact ⟨w.heap.size, 0, rfl, by simp, (Boxed.new w _ _).cell⟩
theorem RwI.under {w w' : World} {B : Nat} {v : Value} {l : List Int} (h : RwI w B v l) (hb : Below w.heap.size w w') : RwI w' B v l := by
  refine ⟨h.1, h.2.imp id ?_⟩
  rintro ⟨g, cap, cur, h1, h2, h3, h4⟩
  exact ⟨g, cap, cur, h1, h2, (hb.block g (Array.getElem?_eq_some_iff.1 h3).1).trans h3, h4⟩
theorem free_out {P : List (List Nat)} {out : List Nat} {v : Nat} (h : v ∈ out) : freeB P out v = false := by simp [freeB, h]
theorem free_par {P : List (List Nat)} {out p : List Nat} {v : Nat} (hp : P.getD v [] = p) (h : ¬ ∀ u ∈ p, u ∈ out) : freeB P out v = false := by rw [freeB, hp, decide_eq_false h, Bool.and_false]
theorem free_yes {P : List (List Nat)} {out p : List Nat} {v : Nat} (hp : P.getD v [] = p) (h : ¬ v ∈ out) (h' : ∀ u ∈ p, u ∈ out) : freeB P out v = true := by rw [freeB, hp, decide_eq_true h', decide_eq_false h]; rfl

set_option maxRecDepth 100000 in
set_option maxHeartbeats 1000000 in
theorem order_any (G c : Nat) (P : List (List Nat)) (w : World) (hU : RowU w G (P.map mskN)) (hn : P.length ≤ 8) (hP : ∀ p ∈ P, ∀ u ∈ p, u < 8) :
    Calls Tryz.prog 48 #[.slice (some ⟨G, 0, none⟩) P.length c] w fun e w' => ∃ x, e = .returned x ∧ RwI w' w.heap.size x (iL (ordN P P.length)) ∧ Below w.heap.size w w' := by
  obtain ⟨i0, hi0, hz0, hz1, hz2⟩ := info_parts Tryz.infoInt
  have HU := hid hU
  have HP : Hid (∀ i, i < P.length → (∀ u ∈ P.getD i [], u < 8) ∧ ∃ h : i < (P.map mskN).length, (P.map mskN)[i] = mskN (P.getD i [])) := fun i hi => by
    have e : P.getD i [] = P[i] := by rw [List.getD_eq_getElem?_getD, List.getElem?_eq_getElem hi]; rfl
    rw [e]
    exact ⟨hP _ (List.getElem_mem hi), by simpa using hi, by simp⟩
  have HOL : Hid (∀ k, ∀ u ∈ ordN P k, u < 8) := fun k u hu => Nat.lt_of_lt_of_le (ord_lt P k u hu) hn
  have HLN := hid (ord_len P)
  have HSO : Hid (∀ k v, v < P.length → freeB P (ordN P k) v = true → (∀ u, u < v → freeB P (ordN P k) u = false) → ordN P (k + 1) = ordN P k ++ [v]) := fun k v h1 h2 h3 => ord_some (next_some h1 h2 h3)
  have HST : Hid (∀ k, k ≤ P.length → (∀ u, u < P.length → freeB P (ordN P k) u = false) → ordN P P.length = ordN P k) := fun k h1 h2 => ord_stuck (next_none h2) h1
  have HO0 : Hid (ordN P 0 = []) := rfl
  generalize hF : ordN P = F at *
  clear hU hP hF
  go_enter Tryz.func48, Tryz.ntmps48
  go_wp2_with fail
  go_step3
  go_wp2_with (first
    | (at_make; refine wpList_make_own _ rfl _ _ 34 rfl w.heap.size 3 i0 (.int .i64 0) 1 Tryz.underlying34 hi0 hz0 hz1 .i64 .i64 _ P.length rfl rfl (by go_num) (by rw [hz2]; omega) (by unfold maxLen; omega) (Nat.le_refl _) ?_; intro w2 hown2 hgrow2))
  have HI : Hid (RwI w2 w.heap.size (.slice (some ⟨w.heap.size, 0, none⟩) 0 P.length) []) := hown2
  have HB2 : Hid (Below w.heap.size w w2) := (Below.refl _ w).grown hgrow2 (Nat.le_refl _) (fun k e => by cases e)
  clear hown2 hgrow2
  go_wp2_with fail
  go_step3
  go_wp2_with fail
  go_loopw [3, 4, 12] (fun sv lv iv wr => ∃ k : Nat, k ≤ P.length ∧ iv = .int .i64 k ∧ sv = .int .u32 (mskN (F k) : Nat) ∧ Hid (RwI wr w.heap.size lv (iL (F k))) ∧ Hid (Below w.heap.size w wr)) (fun _ _ iv _ => P.length - (intOf iv).toNat)
  case atStart => exact ⟨0, Nat.zero_le _, rfl, by rw [HO0.out]; rfl, by rw [HO0.out]; exact HI, HB2⟩
  case round =>
    obtain ⟨k, hk, rfl, rfl, HR, HB⟩ := hrel
    clear HI HB2
    by_cases hlt : k < P.length
    · have HUW := hid (HU.out.below HB.out HU.out.lt)
      go_wp2_with fail
      go_loopw [3, 4, 16] (fun sv lv jv wq => ∃ v : Nat, v ≤ P.length ∧ jv = .int .i64 v ∧ sv = .int .u32 (mskN (F k) : Nat) ∧ lv = u4 ∧ Hid (∀ u, u < v → freeB P (F k) u = false) ∧ wq = wr) (fun _ _ jv _ => P.length - (intOf jv).toNat)
      case atStart => exact ⟨0, Nat.zero_le _, rfl, rfl, rfl, fun u h => absurd h (by omega), rfl⟩
      case round =>
        obtain ⟨v, hv, rfl, rfl, rfl, HN, rfl⟩ := hrel
        by_cases hvl : v < P.length
        · obtain ⟨hp8, hm1, hm2⟩ := HP.out v hvl
          have c0 := HUW.out.cell v hm1
          rw [hm2] at c0
          have HP8 := hid hp8
          have HFO : Hid (v ∈ F k → freeB P (F k) v = false) := free_out
          have HFP : Hid (¬ (∀ u ∈ P.getD v [], u ∈ F k) → freeB P (F k) v = false) := free_par rfl
          have HFY : Hid (¬ v ∈ F k → (∀ u ∈ P.getD v [], u ∈ F k) → freeB P (F k) v = true) := free_yes rfl
          have HNX : Hid (freeB P (F k) v = false → ∀ u, u < v + 1 → freeB P (F k) u = false) := fun h u hu => by
            rcases Nat.lt_or_ge u v with h2 | h2
            · exact HN.out u h2
            · obtain rfl : u = v := by omega
              exact h
          clear hp8 hm1 hm2
          generalize P.getD v [] = p at *
          go_wp2_with fail
          refine (sHas_any (F k) v _ (HOL.out k) (by omega)).mono ?_
          rintro e w3 ⟨rfl, rfl⟩
          by_cases hin : v ∈ F k
          · rw [decide_eq_true hin]
            have HE := hid (HNX.out (HFO.out hin))
            clear hin
            go_wp2
            go_roundw
            case rel => exact ⟨v + 1, by omega, by go_num, rfl, rfl, HE, trivial⟩
            case measure => simp [intOf]; omega
          · rw [decide_eq_false hin]
            have HIN := hid hin
            clear hin
            go_wp2_with fail
            refine (sHolds_any (F k) p _ (HOL.out k) HP8.out).mono ?_
            rintro e w4 ⟨rfl, rfl⟩
            by_cases hh : ∀ u ∈ p, u ∈ F k
            · rw [decide_eq_true hh]
              have hS := HSO.out k v hvl (HFY.out HIN.out hh) HN.out
              have HM : Hid (mskN (v :: F k) = mskN (F (k + 1))) := msk_ext fun z => by rw [hS, List.mem_cons, List.mem_append, List.mem_singleton]; exact or_comm
              have HIL : Hid (iL (F (k + 1)) = iL (F k) ++ [(v : Int)]) := by show _ = _; rw [hS, iL_append]; rfl
              have HLK : Hid ((iL (F k)).length ≤ 8) := by
                have := HLN.out k
                show (iL (F k)).length ≤ 8
                rw [iL_length]
                omega
              clear hh hS
              have HOWN := hid HR.out.own
              have HRA : Hid (RwI (w4.alloc (.cells #[.int .i64 (v : Nat)] 3)) w.heap.size _ (iL (F k))) := World.ownsRow.alloc HR.out _
              have HBA := hid (HB.out.alloc HB.out.size (.cells #[.int .i64 (v : Nat)] 3))
              have HIA := hid (one_int w4 (v : Nat))
              go_wp2_with (at_builtin; refine wpList_append_ints rfl _ _ rfl w.heap.size _ (iL (F k)) [((v : Nat) : Int)] rfl HRA.out (some ⟨w4.heap.size, 0, none⟩) 1 rfl HIA.out (fun e => by cases e) (by have := HLK.out; simp; omega) HBA.out.size ?_; intro v' w5 hr5 hg5)
              have HR5 := hid hr5
              have HB5 := hid (HBA.out.grown hg5 HBA.out.size HOWN.out)
              clear hr5 hg5
              refine (sWith_any (F k) v _ (HOL.out k) (by omega)).mono ?_
              rintro e w6 ⟨rfl, rfl⟩
              rw [HM.out]
              go_wp2
              go_roundw
              case rel => exact ⟨k + 1, by omega, by go_num, rfl, by rw [HIL.out]; exact HR5, HB5⟩
              case measure => simp [intOf]; omega
            · rw [decide_eq_false hh]
              have HE := hid (HNX.out (HFP.out hh))
              clear hh
              go_wp2
              go_roundw
              case rel => exact ⟨v + 1, by omega, by go_num, rfl, rfl, HE, trivial⟩
              case measure => simp [intOf]; omega
        · obtain rfl : v = P.length := by omega
          have HE := hid (HST.out k hk HN.out)
          go_wp2
          try rw [Exit.noGoto_ret]
          go_ret
          exact ⟨_, rfl, by rw [HE.out]; exact HR.out, HB.out⟩
    · obtain rfl : k = P.length := by omega
      go_wp2
      try rw [Exit.noGoto_ret]
      go_ret
      exact ⟨_, rfl, HR.out, HB.out⟩
end Go.Proofs.YtmdjhefcohcjhaaGreatDoor


/- Nets in memory; their sizes and names. -/
namespace Go.Proofs.YtmdjhefcohcjhaaGreatDoor
open Go.RowKit Go.Shelf

abbrev Vr : Type := ByteArray × List ByteArray
/-- A list of variables in memory. -/
def VsS (w : World) (a : Option Addr) (V : List Vr) : Prop := ∀ k (h : k < V.length), ∃ g o b c, a = some ⟨g, o, none⟩ ∧ g < w.heap.size ∧ w.cell? ⟨g, o + k * 2, none⟩ = some (.string V[k].1) ∧ w.cell? ⟨g, o + k * 2 + 1, none⟩ = some (.slice b V[k].2.length c) ∧ StS w b V[k].2 ∧ V[k].2.length ≤ c
theorem VsS.below {w w' : World} {a : Option Addr} {V : List Vr} (h : VsS w a V) (hb : Below w.heap.size w w') : VsS w' a V := fun k hk => by
  obtain ⟨g, o, b, c, h1, h2, h3, h4, h5, h6⟩ := h k hk
  exact ⟨g, o, b, c, h1, Nat.lt_of_lt_of_le h2 hb.size, (hb.cell (p := ⟨g, o + k * 2, none⟩) h2).trans h3, (hb.cell (p := ⟨g, o + k * 2 + 1, none⟩) h2).trans h4, h5.below hb, h6⟩
abbrev NC (x y z : Value) : Obj := .cells #[x, y, z] 26
abbrev VC (x y : Value) : Obj := .cells #[x, y] 33
/-- The block g holds a net. -/
def NBox (w : World) (g : Nat) (x y z : Value) : Prop := w.heap[g]? = some (.cells #[x, y, z] 26 (0, 0))
theorem NBox.at {w : World} {g : Nat} (hg : w.heap.size = g) (x y z : Value) : NBox (w.alloc (NC x y z)) g x y z := by subst hg; exact heap_alloc_new w _
theorem NBox.lt {w : World} {g : Nat} {x y z : Value} (h : NBox w g x y z) : g < w.heap.size := (Array.getElem?_eq_some_iff.1 h).1
theorem NBox.below {w w' : World} {g b : Nat} {x y z : Value} (h : NBox w g x y z) (hb : Below b w w') (hg : g < b) : NBox w' g x y z := (hb.block g hg).trans h
theorem NBox.cells {w : World} {g : Nat} {x y z : Value} (h : NBox w g x y z) : w.cell? ⟨g, 0, none⟩ = some x ∧ w.cell? ⟨g, 1, none⟩ = some y ∧ w.cell? ⟨g, 2, none⟩ = some z := by
  refine ⟨?_, ?_, ?_⟩ <;> (rw [cell_of_row w g _ _ _ (0, 0) h]; rfl)
theorem vbox_new (w : World) (x y : Value) : (w.alloc (VC x y)).cell? ⟨w.heap.size, 0, none⟩ = some x ∧ (w.alloc (VC x y)).cell? ⟨w.heap.size, 1, none⟩ = some y := by
  have h : (w.alloc (VC x y)).heap[w.heap.size]? = some (.cells #[x, y] 33 (0, 0)) := heap_alloc_new w _
  exact ⟨by rw [cell_of_row _ _ _ _ _ (0, 0) h]; rfl, by rw [cell_of_row _ _ _ _ _ (0, 0) h]; rfl⟩
/-- How many values the variables have. -/
def sizesN (V : List Vr) : List Nat := V.map fun x => x.2.length
theorem sizesN_length (V : List Vr) : (sizesN V).length = V.length := by simp [sizesN]
theorem sizesN_get {V : List Vr} {i : Nat} (h : i < V.length) : (sizesN V)[i]? = some V[i].2.length := by simp [sizesN, h]

set_option maxRecDepth 100000 in
set_option maxHeartbeats 1000000 in
theorem nSizes_any (a b c : Option Addr) (ca cb cc n m : Nat) (V : List Vr) (w : World) (h : VsS w a V) (hV : V.length ≤ 5000) :
    Calls Tryz.prog 30 #[.agg #[.slice a V.length ca, .slice b n cb, .slice c m cc]] w fun e w' => ∃ G, e = .returned (.slice (some ⟨G, 0, none⟩) V.length V.length) ∧ w.heap.size ≤ G ∧ RowI w' G (sizesN V) ∧ Below w.heap.size w w' := by
  obtain ⟨i0, hi0, hz0, hz1, hz2⟩ := info_parts Tryz.infoInt
  have HF := hid h
  have HG : Hid (∀ i (h : i < V.length), (sizesN V)[i]? = some V[i].2.length) := fun i h => sizesN_get h
  have hsl := sizesN_length V
  generalize sizesN V = ds at *
  clear h
  have hN := NBox.at (w := w) rfl (.slice a V.length ca) (.slice b n cb) (.slice c m cc)
  have hB0 := (Below.refl _ w).alloc (Nat.le_refl _) (NC (.slice a V.length ca) (.slice b n cb) (.slice c m cc))
  obtain ⟨c0, -, -⟩ := hN.cells
  have hlt0 := hN.lt
  go_enter Tryz.func30, Tryz.ntmps30
  go_upto_region 1 with fail
  generalize (w.alloc (NC (.slice a V.length ca) (.slice b n cb) (.slice c m cc))) = w1 at *
  go_wp2_with (first
    | (at_make; refine wpList_make_full _ rfl _ _ 34 rfl w1.heap.size 3 i0 (.int .i64 0) 1 Tryz.underlying34 hi0 hz0 hz1 .i64 .i64 _ _ V.length rfl rfl (by go_num) (by go_num) (by rw [hz2]; omega) (by unfold maxLen; omega) (Nat.le_refl _) ?_; intro w2 hown2 hgrow2; have hB2 : Below w1.heap.size w1 w2 := (Below.refl _ w1).grown hgrow2 (Nat.le_refl _) (fun k e => by cases e); have c0' := (hN.below hB2 hlt0).cells.1; clear c0))
  have hb2 := block_of_own hown2
  rw [made_ints] at hb2
  have HI : Hid (RowI w2 w1.heap.size (List.replicate V.length 0)) := hb2
  have HB2 : Hid (Below w.heap.size w w2) := hB0.trans (hB2.mono hB0.size)
  have hG := hB0.size
  clear hown2 hgrow2 hb2 hB2
  clear c0'
  go_loopw [13] (fun iv wr => ∃ i : Nat, i ≤ V.length ∧ iv = .int .i64 i ∧ Hid (RowI wr w1.heap.size (partD ds i)) ∧ Hid (Below w.heap.size w wr)) (fun iv _ => V.length - (intOf iv).toNat)
  case atStart => exact ⟨0, Nat.zero_le _, rfl, by rw [partD_zero, hsl]; exact HI, HB2⟩
  case round =>
    obtain ⟨i, hi, rfl, HR, HB⟩ := hrel
    clear HI HB2
    by_cases hlt : i < V.length
    · obtain ⟨g, o, b', c', rfl, hg, c0, c1, -, -⟩ := (HF.out.below HB.out) i hlt
      obtain ⟨hd1, hd2⟩ := List.getElem?_eq_some_iff.1 (HG.out i hlt)
      have HPS := hid (partD_set ds hd1)
      rw [hd2] at HPS
      generalize V[i] = v at *
      obtain ⟨nm, vs⟩ := v
      simp only at c0 c1 HPS
      obtain ⟨d0, d1⟩ := vbox_new wr (.string nm) (.slice b' vs.length c')
      have hbA := (Below.refl _ wr).alloc (Nat.le_refl _) (VC (.string nm) (.slice b' vs.length c'))
      have hRA := HR.out.below hbA HR.out.lt
      have k0 := hRA.cell i (by rw [partD_length _ (by omega)]; omega)
      have f0 := hRA.fz i
      have hS := hRA.set i vs.length
      rw [HPS.out] at hS
      have HS := hid hS
      have HBS := hid ((HB.out.trans (hbA.mono HB.out.size)).setCell (p := ⟨w1.heap.size, i, none⟩) hG (.int .i64 (vs.length : Nat)))
      generalize (partD ds i)[i]'(by rw [partD_length _ (by omega)]; omega) = z at *
      clear hd1 hd2 hbA hRA hS
      go_wp2
      go_roundw
      case rel => exact ⟨i + 1, by omega, by go_num, HS, HBS⟩
      case measure => simp [intOf]; omega
    · obtain rfl : i = V.length := by omega
      have hfin := HR.out
      rw [← hsl, partD_all] at hfin
      have HFI := hid hfin
      clear hfin
      go_wp2
      go_ret
      exact ⟨w1.heap.size, rfl, hG, HFI.out, HB.out⟩
end Go.Proofs.YtmdjhefcohcjhaaGreatDoor


/- Nets: the answer's Sizes; namesOf, checkVars. -/
namespace Go.Proofs.YtmdjhefcohcjhaaGreatDoor
open Go.RowKit Go.Shelf

theorem iL_take_succ {l : List Nat} {i x : Nat} (h : l[i]? = some x) : iL (l.take (i + 1)) = iL (l.take i) ++ [(x : Int)] := by
  obtain ⟨h1, h2⟩ := List.getElem?_eq_some_iff.1 h
  rw [List.take_succ_eq_append_getElem h1, h2, iL_append]; rfl
set_option maxRecDepth 100000 in
set_option maxHeartbeats 1000000 in
theorem rSizes_any (a b c : Option Addr) (ca cb cc n m : Nat) (V : List Vr) (w : World) (h : VsS w a V) (hV : V.length ≤ 5000) :
    Calls Tryz.prog 11 #[.agg #[.slice a V.length ca, .slice b n cb, .slice c m cc]] w fun e w' => ∃ x, e = .returned x ∧ RwI w' w.heap.size x (iL (sizesN V)) ∧ Below w.heap.size w w' := by
  obtain ⟨i0, hi0, hz0, hz1, hz2⟩ := info_parts Tryz.infoInt
  have HF := hid h
  have HG : Hid (∀ i (h : i < V.length), (sizesN V)[i]? = some V[i].2.length) := fun i h => sizesN_get h
  have hsl := sizesN_length V
  generalize sizesN V = ds at *
  clear h
  have hN := NBox.at (w := w) rfl (.slice a V.length ca) (.slice b n cb) (.slice c m cc)
  have HB0 := hid ((Below.refl _ w).alloc (Nat.le_refl _) (NC (.slice a V.length ca) (.slice b n cb) (.slice c m cc)))
  go_enter Tryz.func11, Tryz.ntmps11
  go_wp2_with fail
  generalize (w.alloc (NC (.slice a V.length ca) (.slice b n cb) (.slice c m cc))) = w1 at *
  have HN := hid hN
  clear hN
  go_loopw [3, 4] (fun xv iv wr => ∃ i : Nat, i ≤ V.length ∧ iv = .int .i64 i ∧ Hid (RwI wr (w.heap.size + 1) xv (iL (ds.take i))) ∧ Hid (Below (w.heap.size + 1) w1 wr)) (fun _ iv _ => V.length - (intOf iv).toNat)
  case atStart => exact ⟨0, Nat.zero_le _, rfl, ⟨rfl, .inl ⟨rfl, rfl⟩⟩, Below.refl _ _⟩
  case round =>
    obtain ⟨i, hi, rfl, HR, HB⟩ := hrel
    have hN1 := HN.out.below HB.out (by omega)
    obtain ⟨c0, -, -⟩ := hN1.cells
    have hw1 := HN.out.lt
    have HBW : Hid (Below w.heap.size w wr) := HB0.out.trans (HB.out.mono (by omega))
    by_cases hlt : i < V.length
    · obtain ⟨g, o, b', c', rfl, hg, -, c1, -, -⟩ := (HF.out.below HBW.out) i hlt
      have HTS := hid (iL_take_succ (HG.out i hlt))
      have HLE : Hid ((iL (ds.take i)).length ≤ 5000) := by
        show (iL (ds.take i)).length ≤ 5000
        rw [iL_length, List.length_take]; omega
      generalize V[i] = v at *
      obtain ⟨nm, vs⟩ := v
      simp only at c1 HTS
      have HOWN := hid HR.out.own
      have HRA : Hid (RwI (wr.alloc (.cells #[.int .i64 (vs.length : Nat)] 3)) (w.heap.size + 1) _ (iL (ds.take i))) := World.ownsRow.alloc HR.out _
      have hsz : w.heap.size + 1 ≤ wr.heap.size := hN1.lt
      have HBA := hid (HB.out.alloc hsz (.cells #[.int .i64 (vs.length : Nat)] 3))
      have HIA := hid (one_int wr (vs.length : Nat))
      have hsz2 : w.heap.size + 1 ≤ (wr.alloc (.cells #[.int .i64 (vs.length : Nat)] 3)).heap.size := by simp; omega
      clear hN1
      go_wp2_with (at_builtin; refine wpList_append_ints rfl _ _ rfl (w.heap.size + 1) _ (iL (ds.take i)) [((vs.length : Nat) : Int)] rfl HRA.out (some ⟨wr.heap.size, 0, none⟩) 1 rfl HIA.out (fun e => by cases e) (by have := HLE.out; simp; omega) hsz2 ?_; intro v' w3 hr3 hg3)
      have HR3 := hid hr3
      have HB3 := hid (HBA.out.grown hg3 hsz2 HOWN.out)
      clear hr3 hg3
      go_roundw
      case rel => exact ⟨i + 1, by omega, by go_num, by rw [HTS.out]; exact HR3, HB3⟩
      case measure => simp [intOf]; omega
    · obtain rfl : i = V.length := by omega
      have hfin := HR.out
      rw [List.take_of_length_le (by omega)] at hfin
      have HFI := hid (show RwI wr w.heap.size _ (iL ds) from ⟨hfin.1, hfin.2.imp id fun ⟨g, cap, cur, h1, h2, h3⟩ => ⟨g, cap, cur, h1, by omega, h3⟩⟩)
      clear hfin hN1
      go_wp2
      go_ret
      exact ⟨_, rfl, HFI.out, HBW.out⟩

/-- The block g holds these texts. -/
def RowS (w : World) (g : Nat) (l : List ByteArray) : Prop := w.heap[g]? = some (.cells (l.map Value.string).toArray 9 (0, 0))
theorem RowS.cell {w : World} {g : Nat} {l : List ByteArray} (h : RowS w g l) (j : Nat) (hj : j < l.length) : w.cell? ⟨g, j, none⟩ = some (.string l[j]) := by
  rw [cell_of_row w g j _ _ (0, 0) h]
  simp [hj]
theorem RowS.fz {w : World} {g : Nat} {l : List ByteArray} (h : RowS w g l) (j : Nat) : w.frozen? ⟨g, j, none⟩ = false := frozen_of_row w g j _ _ h
theorem RowS.lt {w : World} {g : Nat} {l : List ByteArray} (h : RowS w g l) : g < w.heap.size := (Array.getElem?_eq_some_iff.1 h).1
theorem RowS.below {w w' : World} {g b : Nat} {l : List ByteArray} (h : RowS w g l) (hb : Below b w w') (hg : g < b) : RowS w' g l := (hb.block g hg).trans h
theorem RowS.set {w : World} {g : Nat} {l : List ByteArray} (h : RowS w g l) (j : Nat) (y : ByteArray) : RowS (w.setCell ⟨g, j, none⟩ (.string y)) g (l.set j y) := by
  have h2 := heap_setCell_same w g j _ _ (.string y) h
  rw [RowS, h2]
  simp [List.map_set]
theorem RowS.st {w : World} {g : Nat} {l : List ByteArray} (h : RowS w g l) : StS w (some ⟨g, 0, none⟩) l := fun k hk => ⟨g, 0, rfl, h.lt, by rw [Nat.zero_add]; exact h.cell k hk⟩
theorem made_strs (n : Nat) : (madeCells (Value.string ⟨#[]⟩).cells (n * 1)).toList = (List.replicate n (⟨#[]⟩ : ByteArray)).map Value.string := by
  rw [show (Value.string ⟨#[]⟩).cells = #[Value.string ⟨#[]⟩] from rfl, toList_madeCells_one, Nat.mul_one, List.map_replicate]
theorem Tryz.infoStr : (Tryz.prog.info? 9).map (fun i => (i.zero, i.size, i.bytes)) = some (some (.string ⟨#[]⟩), 1, 16) := by kernel_rfl
/-- Texts, as far as they are written. -/
def partS (l : List ByteArray) (i : Nat) : List ByteArray := l.take i ++ List.replicate (l.length - i) ⟨#[]⟩
theorem partS_zero (l : List ByteArray) : partS l 0 = List.replicate l.length ⟨#[]⟩ := by simp [partS]
theorem partS_length (l : List ByteArray) {i : Nat} (h : i ≤ l.length) : (partS l i).length = l.length := by simp [partS]; omega
theorem partS_all (l : List ByteArray) : partS l l.length = l := by simp [partS]
theorem partS_set (l : List ByteArray) {i : Nat} (h : i < l.length) : (partS l i).set i l[i] = partS l (i + 1) := by
  have h1 : l.length - i = (l.length - (i + 1)) + 1 := by omega
  have h2 : (l.take i).length = i := by rw [List.length_take]; omega
  rw [partS, partS, h1, List.replicate_succ, List.set_append_right _ _ (by omega), h2, Nat.sub_self, List.set_cons_zero, List.take_succ_eq_append_getElem h, List.append_assoc]
  rfl
/-- The variables' names. -/
def namesV (V : List Vr) : List ByteArray := V.map fun x => x.1
theorem namesV_length (V : List Vr) : (namesV V).length = V.length := by simp [namesV]
theorem namesV_get {V : List Vr} {i : Nat} (h : i < V.length) : (namesV V)[i]? = some V[i].1 := by simp [namesV, h]

set_option maxRecDepth 100000 in
set_option maxHeartbeats 1000000 in
theorem namesOf_any (a : Option Addr) (ca : Nat) (V : List Vr) (w : World) (h : VsS w a V) (hV : V.length ≤ 5000) :
    Calls Tryz.prog 29 #[.slice a V.length ca] w fun e w' => ∃ G, e = .returned (.slice (some ⟨G, 0, none⟩) V.length V.length) ∧ RowS w' G (namesV V) ∧ Below w.heap.size w w' := by
  obtain ⟨i0, hi0, hz0, hz1, hz2⟩ := info_parts Tryz.infoStr
  have HF := hid h
  have HG : Hid (∀ i (h : i < V.length), (namesV V)[i]? = some V[i].1) := fun i h => namesV_get h
  have hsl := namesV_length V
  generalize namesV V = ds at *
  clear h
  go_enter Tryz.func29, Tryz.ntmps29
  go_wp2_with (first
    | (at_make; refine wpList_make_full _ rfl _ _ 31 rfl w.heap.size 9 i0 (.string ⟨#[]⟩) 1 Tryz.underlying31 hi0 hz0 hz1 .i64 .i64 _ _ V.length rfl rfl (by go_num) (by go_num) (by rw [hz2]; omega) (by unfold maxLen; omega) (Nat.le_refl _) ?_; intro w2 hown2 hgrow2))
  have hb2 := block_of_own hown2
  rw [made_strs] at hb2
  have HB2 : Hid (Below w.heap.size w w2) := (Below.refl _ w).grown hgrow2 (Nat.le_refl _) (fun k e => by cases e)
  have HI : Hid (RowS w2 w.heap.size (List.replicate V.length ⟨#[]⟩)) := hb2
  clear hown2 hgrow2 hb2
  go_wp2_with fail
  go_loopw [11] (fun iv wr => ∃ i : Nat, i ≤ V.length ∧ iv = .int .i64 i ∧ Hid (RowS wr w.heap.size (partS ds i)) ∧ Hid (Below w.heap.size w wr)) (fun iv _ => V.length - (intOf iv).toNat)
  case atStart => exact ⟨0, Nat.zero_le _, rfl, by rw [partS_zero, hsl]; exact HI, HB2⟩
  case round =>
    obtain ⟨i, hi, rfl, HR, HB⟩ := hrel
    clear HI HB2
    by_cases hlt : i < V.length
    · obtain ⟨g, o, b', c', rfl, hg, c0, c1, -, -⟩ := (HF.out.below HB.out) i hlt
      obtain ⟨hd1, hd2⟩ := List.getElem?_eq_some_iff.1 (HG.out i hlt)
      have HPS := hid (partS_set ds hd1)
      rw [hd2] at HPS
      generalize V[i] = v at *
      obtain ⟨nm, vs⟩ := v
      simp only at c0 c1 HPS
      obtain ⟨d0, d1⟩ := vbox_new wr (.string nm) (.slice b' vs.length c')
      have hbA := (Below.refl _ wr).alloc (Nat.le_refl _) (VC (.string nm) (.slice b' vs.length c'))
      have hRA := HR.out.below hbA HR.out.lt
      have k0 := hRA.cell i (by rw [partS_length _ (by omega)]; omega)
      have f0 := hRA.fz i
      have hS := hRA.set i nm
      rw [HPS.out] at hS
      have HS := hid hS
      have HBS := hid ((HB.out.trans (hbA.mono HB.out.size)).setCell (p := ⟨w.heap.size, i, none⟩) (Nat.le_refl _) (.string nm))
      generalize (partS ds i)[i]'(by rw [partS_length _ (by omega)]; omega) = z at *
      clear hd1 hd2 hbA hRA hS
      go_wp2
      go_roundw
      case rel => exact ⟨i + 1, by omega, by go_num, HS, HBS⟩
      case measure => simp [intOf]; omega
    · obtain rfl : i = V.length := by omega
      have hfin := HR.out
      rw [← hsl, partS_all] at hfin
      have HFI := hid hfin
      clear hfin
      go_wp2
      go_ret
      exact ⟨w.heap.size, rfl, HFI.out, HB.out⟩
end Go.Proofs.YtmdjhefcohcjhaaGreatDoor


/- Nets: checkVars. -/
namespace Go.Proofs.YtmdjhefcohcjhaaGreatDoor
open Go.RowKit Go.Shelf

/-- What is wrong with a variable's values. -/
def varE (V : List Vr) (i : Nat) : Int := if 1 ≤ (V.getD i (⟨#[]⟩, [])).2.length ∧ (V.getD i (⟨#[]⟩, [])).2.length ≤ 4 then namesE (V.getD i (⟨#[]⟩, [])).2 else 2
/-- What is wrong with variables. -/
def varsE (V : List Vr) : Int := if namesE (namesV V) = 0 then firstE (varE V) V.length else namesE (namesV V)
theorem getV {V : List Vr} {i : Nat} (h : i < V.length) : V.getD i (⟨#[]⟩, []) = V[i] := by rw [List.getD_eq_getElem?_getD, List.getElem?_eq_getElem h]; rfl
/-- Sizes of all texts. -/
def VSm (V : List Vr) : Prop := V.length ≤ 5000 ∧ ∀ x ∈ V, x.1.size ≤ 5000 ∧ x.2.length ≤ 5000 ∧ ∀ s ∈ x.2, s.size ≤ 5000
theorem varE_lim {V : List Vr} {i : Nat} (h : i < V.length) (e : ¬ (1 ≤ V[i].2.length ∧ V[i].2.length ≤ 4)) : varE V i = 2 := by rw [varE, getV h, if_neg e]
theorem varE_names {V : List Vr} {i : Nat} (h : i < V.length) (e : 1 ≤ V[i].2.length ∧ V[i].2.length ≤ 4) : varE V i = namesE V[i].2 := by rw [varE, getV h, if_pos e]

set_option maxRecDepth 100000 in
set_option maxHeartbeats 1000000 in
theorem checkVars_any (a : Option Addr) (ca : Nat) (V : List Vr) (w : World) (h : VsS w a V) (hs : VSm V) :
    Calls Tryz.prog 16 #[.slice a V.length ca] w fun e w' => e = .returned (.int .i64 (varsE V)) ∧ Below w.heap.size w w' := by
  have HF := hid h
  have HSM := hid hs
  have hV := hs.1
  have HE1 : Hid (namesE (namesV V) ≠ 0 → varsE V = namesE (namesV V)) := fun h => if_neg h
  have HE2 : Hid (namesE (namesV V) = 0 → varsE V = firstE (varE V) V.length) := fun h => if_pos h
  have hnl := namesV_length V
  have HNS : Hid (∀ s ∈ namesV V, s.size ≤ 140737488355328) := fun s hs' => by
    obtain ⟨x, hx, rfl⟩ := List.mem_map.1 hs'
    have := (hs.2 x hx).1
    omega
  have HNO := hid (fun (V' : World) (hV' : VsS V' a V) => namesOf_any a ca V V' hV' hV)
  have HCN : Hid (∀ (G : Nat) (V' : World), RowS V' G (namesV V) → Calls Tryz.prog 28 #[.slice (some ⟨G, 0, none⟩) V.length V.length] V' fun e w' => e = .returned (.int .i64 (namesE (namesV V))) ∧ w' = V') := fun G V' hR => by
    have := checkNames_any (some ⟨G, 0, none⟩) V.length (namesV V) V' hR.st (by omega) (by omega) HNS.out
    rwa [hnl] at this
  generalize varsE V = ve at *
  generalize namesE (namesV V) = ne at *
  clear h hs hnl HNS
  go_enter Tryz.func16, Tryz.ntmps16
  go_wp2_with fail
  refine (HNO.out _ HF.out).mono ?_
  rintro e w1 ⟨G, rfl, hR, hb1⟩
  have HR := hid hR
  have HB1 := hid hb1
  clear hR hb1 HNO
  go_wp2_with fail
  refine (HCN.out G _ HR.out).mono ?_
  rintro e w2 ⟨rfl, rfl⟩
  by_cases h0 : ne = 0
  · subst h0
    have HE := hid (HE2.out rfl)
    clear HE1 HE2 HCN HR
    have HA : Hid (∀ i, i < V.length → (∀ j, j < i → varE V j = 0) → ∀ k, varE V i = k → k ≠ 0 → ve = k) := fun i hi hz k hk hk0 => by rw [HE.out, firstE_at hz (by rw [hk]; exact hk0) hi, hk]
    have HZ : Hid ((∀ j, j < V.length → varE V j = 0) → ve = 0) := fun h => by rw [HE.out]; exact firstE_none h
    have HL := hid (fun i h e => varE_lim (V := V) (i := i) h e)
    have HN := hid (fun i h e => varE_names (V := V) (i := i) h e)
    go_wp2_with fail
    go_loopw [15] (fun iv wr => ∃ i : Nat, i ≤ V.length ∧ iv = .int .i64 i ∧ Hid (∀ j, j < i → varE V j = 0) ∧ Hid (Below w.heap.size w wr)) (fun iv _ => V.length - (intOf iv).toNat)
    case atStart => exact ⟨0, Nat.zero_le _, rfl, fun j h => absurd h (by omega), HB1⟩
    case round =>
      obtain ⟨i, hi, rfl, HZI, HB⟩ := hrel
      clear HB1
      by_cases hlt : i < V.length
      · obtain ⟨g, o, b', c', rfl, hg, c0, c1, hSt, hcap⟩ := (HF.out.below HB.out) i hlt
        have hsm := HSM.out.2 V[i] (List.getElem_mem hlt)
        have HLi := hid (fun e => HA.out i hlt HZI.out 2 (HL.out i hlt e) (by decide))
        have HNi := hid (fun e k hk hk0 => HA.out i hlt HZI.out k ((HN.out i hlt e).trans hk) hk0)
        have HZi := hid (fun e (hk : namesE V[i].2 = 0) => zero_upto HZI.out ((HN.out i hlt e).trans hk))
        generalize V[i] = v at *
        obtain ⟨nm, vs⟩ := v
        simp only at c0 c1 hSt hcap hsm HLi HNi HZi
        obtain ⟨d0, d1⟩ := vbox_new wr (.string nm) (.slice b' vs.length c')
        have hbA := (Below.refl _ wr).alloc (Nat.le_refl _) (VC (.string nm) (.slice b' vs.length c'))
        have HBA := hid (HB.out.trans (hbA.mono HB.out.size))
        have HST := hid (hSt.below hbA)
        have HVS := hid hsm.2.2
        have hvl := hsm.2.1
        clear hbA hsm hSt
        by_cases h1 : 1 ≤ vs.length
        · by_cases h4 : vs.length ≤ 4
          · have e1 : (1 : Int) ≤ (vs.length : Int) := by omega
            have e2 : (vs.length : Int) ≤ 4 := by omega
            have HNN := hid (HNi.out ⟨h1, h4⟩)
            have HZZ := hid (HZi.out ⟨h1, h4⟩)
            clear HLi HNi HZi
            go_wp2_with fail
            refine (checkNames_any b' c' vs _ HST.out (by omega) hcap (fun s hs' => by have := HVS.out s hs'; omega)).mono ?_
            rintro e w3 ⟨rfl, rfl⟩
            generalize namesE vs = q at *
            by_cases hq : q = 0
            · subst hq
              have HZ2 := hid (HZZ.out rfl)
              go_wp2
              go_roundw
              case rel => exact ⟨i + 1, by omega, by go_num, HZ2, HBA⟩
              case measure => simp [intOf]; omega
            · have HQ := hid (HNN.out q rfl hq)
              have hqb : (q == 0) = false := by simpa using hq
              clear hq
              go_wp2
              go_ret
              exact ⟨by rw [HQ.out]; rfl, HBA.out⟩
          · have HQ := hid (HLi.out fun h => h4 h.2)
            have e1 : (1 : Int) ≤ (vs.length : Int) := by omega
            have e2 : (4 : Int) < (vs.length : Int) := by omega
            clear h4 HLi HNi HZi
            go_wp2
            go_ret
            exact ⟨by rw [HQ.out]; rfl, HBA.out⟩
        · have HQ := hid (HLi.out fun h => h1 h.1)
          have e1 : (vs.length : Int) < 1 := by omega
          clear h1 HLi HNi HZi
          go_wp2
          go_ret
          exact ⟨by rw [HQ.out]; rfl, HBA.out⟩
      · obtain rfl : i = V.length := by omega
        have HQ := hid (HZ.out HZI.out)
        go_wp2
        go_ret
        exact ⟨by rw [HQ.out]; rfl, HB.out⟩
  · have HE := hid (HE1.out h0)
    have hnb : (ne == 0) = false := by simpa using h0
    clear h0 HE1 HE2
    go_wp2
    go_ret
    exact ⟨by rw [HE.out]; rfl, HB1.out⟩
end Go.Proofs.YtmdjhefcohcjhaaGreatDoor


/- Rows of chances: isRow of package net. -/
namespace Go.Proofs.YtmdjhefcohcjhaaGreatDoor
open Go.RowKit Go.Shelf

/-- Chances: none below 0, 1 together. -/
def rowB (l : List Fr) : Bool := (l.all fun f => decide (¬ frQ f < 0)) && decide (fsum l = 1)
theorem cmp_below {p : Rat} : cmpQ p 0 < 0 ↔ p < 0 := by
  rw [cmpQ]
  by_cases h : p < 0
  · rw [if_pos h]; exact ⟨fun _ => h, fun _ => by decide⟩
  · rw [if_neg h]
    by_cases e : p = 0
    · rw [if_pos e]; exact ⟨fun h => absurd h (by decide), fun h' => absurd h' h⟩
    · rw [if_neg e]; exact ⟨fun h => absurd h (by decide), fun h' => absurd h' h⟩
theorem cmp_same {p : Rat} : (cmpQ p 1 == 0) = decide (p = 1) := by
  rw [Bool.eq_iff_iff, beq_iff_eq, decide_eq_true_iff, cmpQ]
  by_cases h : p < 1
  · rw [if_pos h]; exact ⟨fun h => absurd h (by decide), fun e => by rw [e] at h; exact absurd h (by decide)⟩
  · rw [if_neg h]
    by_cases e : p = 1
    · rw [if_pos e]; exact ⟨fun _ => e, fun _ => rfl⟩
    · rw [if_neg e]; exact ⟨fun h => absurd h (by decide), fun h' => absurd h' e⟩
theorem rowB_neg {l : List Fr} {i : Nat} (h : i < l.length) (e : frQ l[i] < 0) : rowB l = false := by
  have : (l.all fun f => decide (¬ frQ f < 0)) = false := by
    rw [List.all_eq_false]; exact ⟨l[i], List.getElem_mem h, by simpa using e⟩
  rw [rowB, this]; rfl
theorem rowB_all {l : List Fr} (h : ∀ i (hi : i < l.length), ¬ frQ l[i] < 0) : rowB l = decide (fsum l = 1) := by
  have : (l.all fun f => decide (¬ frQ f < 0)) = true := by
    rw [List.all_eq_true]
    intro f hf
    obtain ⟨i, hi, rfl⟩ := List.getElem_of_mem hf
    exact decide_eq_true (h i hi)
  rw [rowB, this, Bool.true_and]
theorem qw_one2 : qw 1 ≤ 2 := by
  show (B 1).size + (B 1).size ≤ 2
  have := B_one_size
  omega
theorem fw_each {l : List Fr} {i : Nat} (h : i < l.length) (hw : fw l ≤ 10000) : l[i].2.1.size + l[i].2.2.size ≤ 10000 := by have := fw_mem (List.getElem_mem h); omega

set_option maxRecDepth 100000 in
set_option maxHeartbeats 1000000 in
theorem isRow_any (a : Option Addr) (ca : Nat) (l : List Fr) (w : World) (h : FrS w a l) (hw : fw l ≤ 10000) (hn : l.length ≤ 10000) :
    Calls Tryz.prog 33 #[.slice a l.length ca] w fun e w' => e = .returned (.bool (rowB l)) ∧ Below w.heap.size w w' := by
  have HF := hid h
  have HW := hid hw
  have HO := hid (fun V : World => fOf_q (k := 0) (w := V) 0 0 rfl (by decide) (by rfl))
  have HO1 := hid (fun V : World => fOf_q (k := 1) (w := V) 1 1 rfl (by decide) (by rfl))
  have HS := hid (fun (V : World) (hV : FrS V a l) => fSum_any a ca l V hV hw hn)
  have HN := hid (fun i h e => rowB_neg (l := l) (i := i) h e)
  have HA := hid (fun h => rowB_all (l := l) h)
  have HQ : Hid (val (sgn (fsum l)) (nu (fsum l)) (de (fsum l)) = fsum l ∧ (nu (fsum l)).size + (de (fsum l)).size ≤ 100000) := ⟨val_own _, by
    have h1 := fits_qw (fits_sum l)
    rw [own_size]
    omega⟩
  have HZ : Hid (val (sgn 0) (nu 0) (de 0) = 0 ∧ (nu 0).size + (de 0).size ≤ 100000) := ⟨val_own _, by have := qw_zero; rw [own_size]; omega⟩
  have H1 : Hid (val (sgn 1) (nu 1) (de 1) = 1 ∧ (nu 1).size + (de 1).size ≤ 100000) := ⟨val_own _, by
    have h1 : qw 1 ≤ 2 := qw_one2
    rw [own_size]
    omega⟩
  generalize rowB l = rb at *
  clear h hw
  simp only [C] at HO HO1 HS
  generalize sgn 0 = zn at *
  generalize nu 0 = zx at *
  generalize de 0 = zy at *
  generalize sgn 1 = on at *
  generalize nu 1 = ox at *
  generalize de 1 = oy at *
  go_enter Tryz.func33, Tryz.ntmps33
  go_wp2_with fail
  refine (HO.out _).mono ?_
  rintro e w1 ⟨rfl, hb1⟩
  have HB0 := hid (hb1.alloc hb1.size (FC zn zx zy))
  have HZB := hid (Box.new w1 zn zx zy)
  have hw1 := hb1.size
  clear hb1
  go_wp2_with fail
  generalize (w1.alloc (FC zn zx zy)) = w2 at *
  generalize w1.heap.size = B at *
  go_loopw [9] (fun iv wr => ∃ i : Nat, i ≤ l.length ∧ iv = .int .i64 i ∧ Hid (∀ j (hj : j < l.length), j < i → ¬ frQ l[j] < 0) ∧ Hid (Box wr B zn zx zy) ∧ Hid (Below w.heap.size w wr)) (fun iv _ => l.length - (intOf iv).toNat)
  case atStart => exact ⟨0, Nat.zero_le _, rfl, fun j _ h => absurd h (by omega), HZB, HB0⟩
  case round =>
    obtain ⟨i, hi, rfl, HP, HX, HB⟩ := hrel
    clear HZB HB0
    by_cases hlt : i < l.length
    · obtain ⟨g, o, rfl, hg, c0, c1, c2⟩ := (HF.out.below HB.out) i hlt
      have hfe := fw_each hlt HW.out
      have HNi := hid (HN.out i hlt)
      have HPi : Hid (¬ frQ l[i] < 0 → ∀ j (hj : j < l.length), j < i + 1 → ¬ frQ l[j] < 0) := fun h j hj hji => by
        rcases Nat.lt_or_ge j i with h2 | h2
        · exact HP.out j hj h2
        · obtain rfl : j = i := by omega
          exact h
      generalize l[i] = f at *
      obtain ⟨fn, fx, fy⟩ := f
      simp only at c0 c1 c2 hfe
      have hbA := (Below.refl _ wr).alloc (Nat.le_refl _) (FC fn fx fy)
      obtain ⟨k0, k1, k2, -⟩ := (Box.new wr fn fx fy).facts
      have hXA := HX.out.below hbA HX.out.lt
      obtain ⟨z0, z1, z2, -⟩ := hXA.facts
      have HXA := hid hXA
      have HBA := hid (HB.out.trans (hbA.mono HB.out.size))
      clear hbA hXA
      go_wp2_with fail
      generalize (wr.alloc (FC fn fx fy)) = w3 at *
      refine (fCmp_q (w := w3) (cmpQ (val fn fx fy) 0) rfl HZ.out.1 rfl (by omega) HZ.out.2).mono ?_
      rintro e w4 ⟨rfl, hb4⟩
      have HX4 := hid (HXA.out.below hb4 HXA.out.lt)
      have HB4 := hid (HBA.out.trans (hb4.mono HBA.out.size))
      clear k0 k1 k2 z0 z1 z2 hb4
      by_cases hneg : val fn fx fy < 0
      · have HE := hid (HNi.out hneg)
        have hc : cmpQ (val fn fx fy) 0 < 0 := cmp_below.2 hneg
        clear hneg
        generalize cmpQ (val fn fx fy) 0 = q at *
        go_wp2
        go_ret
        exact ⟨by rw [HE.out]; rfl, HB4.out⟩
      · have HE := hid (HPi.out hneg)
        have hc : 0 ≤ cmpQ (val fn fx fy) 0 := by
          have : ¬ cmpQ (val fn fx fy) 0 < 0 := fun h => hneg (cmp_below.1 h)
          omega
        clear hneg
        generalize cmpQ (val fn fx fy) 0 = q at *
        go_wp2
        go_roundw
        case rel => exact ⟨i + 1, by omega, by go_num, HE, HX4, HB4⟩
        case measure => simp [intOf]; omega
    · obtain rfl : i = l.length := by omega
      have HE := hid (HA.out fun j hj => HP.out j hj hj)
      have HCS := hid (cmp_same (p := fsum l))
      generalize fsum l = s at *
      go_wp2_with fail
      refine (HS.out _ (HF.out.below HB.out)).mono ?_
      rintro e w5 ⟨rfl, hb5⟩
      have HB5 := hid (HB.out.trans (hb5.mono HB.out.size))
      clear hb5
      go_wp2_with fail
      refine (HO1.out _).mono ?_
      rintro e w6 ⟨rfl, hb6⟩
      have HB6 := hid (HB5.out.trans (hb6.mono HB5.out.size))
      clear hb6
      go_wp2_with fail
      refine (fCmp_q (w := w6) (cmpQ s 1) HQ.out.1 H1.out.1 rfl HQ.out.2 H1.out.2).mono ?_
      rintro e w7 ⟨rfl, hb7⟩
      have HB7 := hid (HB6.out.trans (hb7.mono HB6.out.size))
      clear hb7
      go_wp2
      go_ret
      exact ⟨by rw [HE.out, ← HCS.out]; rfl, HB7.out⟩
end Go.Proofs.YtmdjhefcohcjhaaGreatDoor

