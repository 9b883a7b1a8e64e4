/- The document's answer of chapter 8: merged, Cut, SetsOK. -/
import Derived.Test.YthcfgoknphpkdaaCsAToCsB
import Derived.Test.YthcfgoknphpkdaaAnsEToOpnA
namespace Go.Proofs.Ythcfgoknphpkdaa
open Go.RowKit Go.Shelf

theorem OwI.lsC {w : World} {B : Nat} {y : Value} {Ks : List PI2} {Ls : List (List Int)} (h : OwI w B y Ks) (hs : Ks.map (·.2) = Ls) : ∃ a c, y = .slice a Ls.length c ∧ LsS w a Ls := by
  have hl : Ks.length = Ls.length := by rw [← hs, List.length_map]
  rcases h.1.2 with ⟨h1, h2⟩ | ⟨g, cap, cur, h1, h2, h3, h4, h5, h6, h7⟩
  · exact ⟨none, 0, by rw [h1, show Ls.length = 0 by omega], fun k hk => absurd hk (by omega)⟩
  · refine ⟨_, cap, by rw [h1, hl], fun k hk => ?_⟩
    have hkk : k < Ks.length := by omega
    obtain ⟨d, cd, e1, e2⟩ := (h.2 _ (List.getElem_mem hkk)).ints
    have el : Ls[k] = Ks[k].2 := by subst hs; simp
    rw [el]
    refine ⟨g, 0, d, cd, rfl, (Array.getElem?_eq_some_iff.1 h3).1, ?_, e2⟩
    rw [Nat.zero_add, cell_of_row w g k _ _ (0, 0) h3]
    have e : cur[k]? = (cur.toList.take (Ks.length * 1))[k]? := by rw [List.getElem?_take, if_pos (by omega), Array.getElem?_toList]
    rw [e, h7, List.getElem?_map, List.getElem?_eq_getElem hkk]
    simp [e1]
theorem OwI.pushC {w w' : World} {B : Nat} {y y' lv : Value} {P : List PI2} {l : List Int} (h : OwI w B y P) (hl : RwI w B lv l) (ho : w'.ownsRow B 23 1 y' (P.length + 1) (P.map (·.1) ++ [lv])) (hg : w.grownBy w' y.ownBlock) : OwI w' B y' (P ++ [(lv, l)]) := by
  have hk : KpT 3 w w' := KpT.grown hg (own_typed h.1) (by decide)
  refine ⟨by rw [List.length_append, List.map_append]; exact ho, fun p hp => ?_⟩
  rcases List.mem_append.1 hp with hp | hp
  · exact own_kp (h.2 p hp) hk
  · rw [List.mem_singleton.1 hp]
    exact own_kp hl hk
theorem both_yes {n : Nat} {a b : List Int} (h : (inB (n : Int) a || inB (n : Int) b) = true) : bothN (n + 1) a b = bothN n a b ++ [n] := by
  rw [bothN, List.range_succ, List.filter_append, bothN]
  simp only [List.filter, h]
theorem both_no {n : Nat} {a b : List Int} (h : (inB (n : Int) a || inB (n : Int) b) = false) : bothN (n + 1) a b = bothN n a b := by
  rw [bothN, List.range_succ, List.filter_append, bothN]
  simp only [List.filter, h, List.append_nil]
theorem both_len (n : Nat) (a b : List Int) : (bothN n a b).length ≤ n := by
  have := List.length_filter_le (fun v : Nat => inB (v : Int) a || inB (v : Int) b) (List.range n)
  rwa [List.length_range] at this

set_option maxRecDepth 100000 in
set_option maxHeartbeats 400000 in
theorem rMerged_any (a b : Option Addr) (ca cb n : Nat) (x v : List Int) (w : World) (ha : IntS w a x) (hb : IntS w b v) (hx : x.length ≤ 1000) (hv : v.length ≤ 1000) (hn : n ≤ 1000) :
    Calls Try.prog 48 #[.slice a x.length ca, .slice b v.length cb, .int .i64 (n : Nat)] w fun e w' => ∃ y, e = .returned y ∧ RwI w' w.heap.size y (iL (bothN n x v)) ∧ Below w.heap.size w w' := by
  have HIX := hid (fun (u : Nat) (U : World) (hU : Below w.heap.size w U) => rIn_any (u : Int) a ca x U (ha.below hU) (by omega))
  have HIV := hid (fun (u : Nat) (U : World) (hU : Below w.heap.size w U) => rIn_any (u : Int) b cb v U (hb.below hU) (by omega))
  have HYE : Hid (∀ u : Nat, (inB (u : Int) x || inB (u : Int) v) = true → bothN (u + 1) x v = bothN u x v ++ [u]) := fun u => both_yes
  have HNO : Hid (∀ u : Nat, (inB (u : Int) x || inB (u : Int) v) = false → bothN (u + 1) x v = bothN u x v) := fun u => both_no
  have HLE : Hid (∀ u : Nat, (bothN u x v).length ≤ u) := fun u => both_len u x v
  have HZ : Hid (bothN 0 x v = []) := rfl
  clear ha hb
  obtain ⟨F, hF⟩ : ∃ F : Nat → List Nat, ∀ u, bothN u x v = F u := ⟨fun u => bothN u x v, fun _ => rfl⟩
  simp only [hF] at *
  clear hF
  go_enter Try.func48, Try.ntmps48
  go_wp2_with fail
  go_loopw [7, 8] (fun ov iv wr => ∃ u : Nat, u ≤ n ∧ iv = .int .i64 u ∧ Hid (RwI wr w.heap.size ov (iL (F u))) ∧ Hid (Below w.heap.size w wr)) (fun _ iv _ => n - (intOf iv).toNat)
  case atStart => exact ⟨0, Nat.zero_le _, rfl, by rw [HZ.out]; exact ⟨rfl, .inl ⟨rfl, rfl⟩⟩, Below.refl _ _⟩
  case round =>
    obtain ⟨u, hu, rfl, HR, HB⟩ := hrel
    by_cases hlt : u < n
    · obtain ⟨p, hp⟩ : ∃ p, inB (u : Int) x = p := ⟨_, rfl⟩
      obtain ⟨q, hq⟩ : ∃ q, inB (u : Int) v = q := ⟨_, rfl⟩
      have HX := hid (HIX.out u wr HB.out)
      have HV := hid (HIV.out u wr HB.out)
      rw [hp] at HX
      rw [hq] at HV
      have HPQ : Hid (inB (u : Int) x = p ∧ inB (u : Int) v = q) := ⟨hp, hq⟩
      clear hp hq
      go_wp2_with fail
      refine HX.out.mono ?_
      rintro e wq ⟨rfl, hwq⟩
      rw [hwq]
      clear hwq wq
      go_wp2_with fail
      refine HV.out.mono ?_
      rintro e wq ⟨rfl, hwq⟩
      rw [hwq]
      clear hwq wq HX HV
      obtain ⟨hp, hq⟩ := HPQ.out
      clear HPQ
      cases p <;> cases q
      · have HE := hid (HNO.out u (by rw [hp, hq]; rfl))
        clear hp hq
        go_wp2
        go_roundw
        case rel => exact ⟨u + 1, by omega, by go_num, by rw [HE.out]; exact HR, HB⟩
        case measure => simp [intOf]; omega
      · have HE := hid (HYE.out u (by rw [hp, hq]; rfl))
        clear hp hq
        have HOWN := hid HR.out.own
        have HRA := hid (World.ownsRow.alloc HR.out (.cells #[.int .i64 (u : Nat)] 3))
        have HBA := hid (HB.out.alloc HB.out.size (.cells #[.int .i64 (u : Nat)] 3))
        have HIA := hid (one_int wr (u : Nat))
        have hle := HLE.out u
        go_wp2_with (at_builtin; refine wpList_append_ints rfl _ _ rfl w.heap.size _ (iL (F u)) [((u : Nat) : Int)] rfl HRA.out (some ⟨wr.heap.size, 0, none⟩) 1 rfl HIA.out (fun e => by cases e) (by rw [iL_length]; simp; omega) HBA.out.size ?_; intro v' w7 hr7 hg7)
        have HR7 : Hid (RwI w7 w.heap.size v' (iL (F (u + 1)))) := by show RwI w7 w.heap.size v' (iL (F (u + 1))); rw [HE.out, iL_append]; exact hr7
        have HB7 := hid (HBA.out.grown hg7 HBA.out.size HOWN.out)
        clear hr7 hg7
        go_wp2
        go_roundw
        case rel => exact ⟨u + 1, by omega, by go_num, HR7, HB7⟩
        case measure => simp [intOf]; omega
      · have HE := hid (HYE.out u (by rw [hp, hq]; rfl))
        clear hp hq
        have HOWN := hid HR.out.own
        have HRA := hid (World.ownsRow.alloc HR.out (.cells #[.int .i64 (u : Nat)] 3))
        have HBA := hid (HB.out.alloc HB.out.size (.cells #[.int .i64 (u : Nat)] 3))
        have HIA := hid (one_int wr (u : Nat))
        have hle := HLE.out u
        go_wp2_with (at_builtin; refine wpList_append_ints rfl _ _ rfl w.heap.size _ (iL (F u)) [((u : Nat) : Int)] rfl HRA.out (some ⟨wr.heap.size, 0, none⟩) 1 rfl HIA.out (fun e => by cases e) (by rw [iL_length]; simp; omega) HBA.out.size ?_; intro v' w7 hr7 hg7)
        have HR7 : Hid (RwI w7 w.heap.size v' (iL (F (u + 1)))) := by show RwI w7 w.heap.size v' (iL (F (u + 1))); rw [HE.out, iL_append]; exact hr7
        have HB7 := hid (HBA.out.grown hg7 HBA.out.size HOWN.out)
        clear hr7 hg7
        go_wp2
        go_roundw
        case rel => exact ⟨u + 1, by omega, by go_num, HR7, HB7⟩
        case measure => simp [intOf]; omega
      · have HE := hid (HYE.out u (by rw [hp, hq]; rfl))
        clear hp hq
        have HOWN := hid HR.out.own
        have HRA := hid (World.ownsRow.alloc HR.out (.cells #[.int .i64 (u : Nat)] 3))
        have HBA := hid (HB.out.alloc HB.out.size (.cells #[.int .i64 (u : Nat)] 3))
        have HIA := hid (one_int wr (u : Nat))
        have hle := HLE.out u
        go_wp2_with (at_builtin; refine wpList_append_ints rfl _ _ rfl w.heap.size _ (iL (F u)) [((u : Nat) : Int)] rfl HRA.out (some ⟨wr.heap.size, 0, none⟩) 1 rfl HIA.out (fun e => by cases e) (by rw [iL_length]; simp; omega) HBA.out.size ?_; intro v' w7 hr7 hg7)
        have HR7 : Hid (RwI w7 w.heap.size v' (iL (F (u + 1)))) := by show RwI w7 w.heap.size v' (iL (F (u + 1))); rw [HE.out, iL_append]; exact hr7
        have HB7 := hid (HBA.out.grown hg7 HBA.out.size HOWN.out)
        clear hr7 hg7
        go_wp2
        go_roundw
        case rel => exact ⟨u + 1, by omega, by go_num, HR7, HB7⟩
        case measure => simp [intOf]; omega
    · obtain rfl : u = n := by omega
      go_wp2
      go_ret
      exact ⟨_, rfl, HR.out, HB.out⟩

set_option maxRecDepth 100000 in
set_option maxHeartbeats 400000 in
theorem rSetsOK_any (a s : Option Addr) (ca cs : Nat) (L Ls : List (List Int)) (w : World) (h : LsS w a L) (hl : ∀ l ∈ L, l.length ≤ 1000) (hL : L.length ≤ 1000) (hs : LsS w s Ls) (hsl : ∀ l ∈ Ls, l.length ≤ 1000) (hp8 : Ls.length ≤ 4) :
    Calls Try.prog 47 #[.slice a L.length ca, .slice s Ls.length cs] w fun e w' => e = .returned (.int .i64 (stE L Ls)) ∧ Below w.heap.size w w' := by
  have HG := hid (rGraphCheck_any a ca L w h (fun l hl' => by have := hl l hl'; omega) (by omega))
  have HAS := hid (fun (U : World) (hU : Below w.heap.size w U) => apartSets_any s cs L.length Ls U (hs.below hU) hsl hp8)
  obtain ⟨re, hre⟩ : ∃ re, stE L Ls = re := ⟨_, rfl⟩
  have HE1 : Hid (gcE L ≠ 0 → gcE L = re) := fun e => by rw [← hre, stE_gc e]
  have HE2 : Hid (gcE L = 0 → apB L.length Ls = true → 0 = re) := fun e e2 => by rw [← hre, stE, if_pos e, if_pos e2]
  have HE3 : Hid (gcE L = 0 → apB L.length Ls = false → 11 = re) := fun e e2 => by rw [← hre, stE_bad e e2]
  rw [hre]
  clear hre h hl hs hsl
  go_enter Try.func47, Try.ntmps47
  go_wp2_with fail
  refine HG.out.mono ?_
  rintro e w1 ⟨rfl, hb1⟩
  have HB1 := hid hb1
  have HA1 := hid (HAS.out w1 hb1)
  clear hb1 HG HAS
  by_cases hg : gcE L = 0
  · have HG0 := hid hg
    rw [hg]
    clear hg
    obtain ⟨ap, hap⟩ : ∃ ap, apB L.length Ls = ap := ⟨_, rfl⟩
    rw [hap] at HA1
    have HAP := hid hap
    clear hap
    go_wp2_with fail
    refine HA1.out.mono ?_
    rintro e w2 ⟨rfl, hb2⟩
    have HB2 := hid (HB1.out.trans (hb2.mono HB1.out.size))
    clear hb2 HA1
    cases ap with
    | true =>
      have HR := hid (HE2.out HG0.out HAP.out)
      go_wp2
      go_ret
      exact ⟨by rw [← HR.out]; rfl, HB2.out⟩
    | false =>
      have HR := hid (HE3.out HG0.out HAP.out)
      go_wp2
      go_ret
      exact ⟨by rw [← HR.out]; rfl, HB2.out⟩
  · have HR := hid (HE1.out hg)
    have hgb : (gcE L == 0) = false := by simpa using hg
    clear hg HE1 HE2 HE3 HA1
    generalize gcE L = ge at *
    go_wp2
    go_ret
    exact ⟨by rw [← HR.out]; rfl, HB1.out⟩
end Go.Proofs.Ythcfgoknphpkdaa


/- The document's answer of chapter 8: Cut. -/
namespace Go.Proofs.Ythcfgoknphpkdaa
open Go.RowKit Go.Shelf

/-- A node's list, as far as its i-th parent. -/
def cutT (L : List (List Int)) (I F : List Int) (v i : Nat) : List Int := if inB (v : Int) I = true then [] else ((L.getD v []).take i).filter fun u => decide (¬ u ∈ F)
theorem cutT_zero (L : List (List Int)) (I F : List Int) (v : Nat) : cutT L I F v 0 = [] := by rw [cutT]; simp
theorem cutT_yes {L : List (List Int)} {I F : List Int} {v i : Nat} (hv : v < L.length) (hi : i < L[v].length) (hp : inB (v : Int) I = false) (hq : inB L[v][i] F = false) : cutT L I F v (i + 1) = cutT L I F v i ++ [L[v][i]] := by
  have hn : ¬ L[v][i] ∈ F := fun h => by rw [inB_iff.2 h] at hq; cases hq
  rw [cutT, cutT, if_neg (by rw [hp]; decide), if_neg (by rw [hp]; decide), getD_at hv, List.take_succ_eq_append_getElem hi, List.filter_append]
  congr 1
  simp [hn]
theorem cutT_in {L : List (List Int)} {I F : List Int} {v i : Nat} (hp : inB (v : Int) I = true) : cutT L I F v (i + 1) = cutT L I F v i := by
  rw [cutT, cutT, if_pos hp, if_pos hp]
theorem cutT_of {L : List (List Int)} {I F : List Int} {v i : Nat} (hv : v < L.length) (hi : i < L[v].length) (hq : inB L[v][i] F = true) : cutT L I F v (i + 1) = cutT L I F v i := by
  have hn := inB_iff.1 hq
  rw [cutT, cutT, getD_at hv, List.take_succ_eq_append_getElem hi, List.filter_append]
  simp [hn]
theorem cutT_all {L : List (List Int)} {I F : List Int} {v : Nat} (hv : v < L.length) : cutT L I F v L[v].length = cutR L I F v := by
  rw [cutT, cutR, getD_at hv, List.take_length]
  by_cases h : (v : Int) ∈ I
  · rw [if_pos (inB_iff.2 h), if_pos h]
  · rw [if_neg (fun e => h (inB_iff.1 e)), if_neg h]
theorem cutT_len (L : List (List Int)) (I F : List Int) (v i : Nat) : (cutT L I F v i).length ≤ i := by
  rw [cutT]
  split
  · simp
  · have h1 := List.length_filter_le (fun u => decide (¬ u ∈ F)) ((L.getD v []).take i)
    have h2 := List.length_take_le i (L.getD v [])
    omega

theorem OwI.underC {w w' : World} {B : Nat} {y : Value} {P : List PI2} (h : OwI w B y P) (hb : Below w.heap.size w w') : OwI w' B y P := ⟨own_kp h.1 (KpT.below hb), fun p hp => own_kp (h.2 p hp) (KpT.below hb)⟩

set_option maxRecDepth 100000 in
set_option maxHeartbeats 1000000 in
theorem rCut_any (a bi bf : Option Addr) (ca ci cf : Nat) (L : List (List Int)) (I F : List Int) (w : World) (h : LsS w a L) (hl : ∀ l ∈ L, l.length ≤ 1000) (hL : L.length ≤ 1000) (hi : IntS w bi I) (hf : IntS w bf F) (hil : I.length ≤ 1000) (hfl : F.length ≤ 1000) :
    Calls Try.prog 49 #[.slice a L.length ca, .slice bi I.length ci, .slice bf F.length cf] w fun e w' => ∃ y Ks, e = .returned y ∧ OwI w' w.heap.size y Ks ∧ Ks.map (·.2) = cutG L I F ∧ Below w.heap.size w w' := by
  have HF := hid h
  have HLL := hid hl
  have HII := hid (fun (u : Nat) (U : World) (hU : Below w.heap.size w U) => rIn_any (u : Int) bi ci I U (hi.below hU) (by omega))
  have HIF := hid (fun (u : Int) (U : World) (hU : Below w.heap.size w U) => rIn_any u bf cf F U (hf.below hU) (by omega))
  have HEND : Hid (∀ Ks : List PI2, Ks.map (·.2) = (List.range L.length).map (cutR L I F) → Ks.map (·.2) = cutG L I F) := fun Ks e => e
  have HT0 : Hid (∀ v, cutT L I F v 0 = []) := fun v => cutT_zero L I F v
  have HTY : Hid (∀ (v i : Nat) (hv : v < L.length) (hi : i < L[v].length), inB (v : Int) I = false → inB L[v][i] F = false → cutT L I F v (i + 1) = cutT L I F v i ++ [L[v][i]]) := fun v i hv hi hp hq => cutT_yes hv hi hp hq
  have HTI : Hid (∀ (v i : Nat), inB (v : Int) I = true → cutT L I F v (i + 1) = cutT L I F v i) := fun v i hp => cutT_in hp
  have HTF : Hid (∀ (v i : Nat) (hv : v < L.length) (hi : i < L[v].length), inB L[v][i] F = true → cutT L I F v (i + 1) = cutT L I F v i) := fun v i hv hi hq => cutT_of hv hi hq
  have HTA : Hid (∀ v (hv : v < L.length), cutT L I F v L[v].length = cutR L I F v) := fun v hv => cutT_all hv
  have HTL : Hid (∀ v i, (cutT L I F v i).length ≤ i) := cutT_len L I F
  obtain ⟨T, hT⟩ : ∃ T : Nat → Nat → List Int, ∀ v i, cutT L I F v i = T v i := ⟨fun v i => cutT L I F v i, fun _ _ => rfl⟩
  simp only [hT] at HT0 HTY HTI HTF HTA HTL
  clear h hl hi hf hT
  go_enter Try.func49, Try.ntmps49
  go_wp2_with fail
  go_loopw [7, 8] (fun ov iv wr => ∃ (v : Nat) (Ks : List PI2), v ≤ L.length ∧ iv = .int .i64 v ∧ Hid (OwI wr w.heap.size ov Ks) ∧ Hid (Ks.map (·.2) = (List.range v).map (cutR L I F)) ∧ Hid (Below w.heap.size w wr)) (fun _ iv _ => L.length - (intOf iv).toNat)
  case atStart => exact ⟨0, [], Nat.zero_le _, rfl, OwI.nil _ _, rfl, Below.refl _ _⟩
  case round =>
    obtain ⟨v, Ks, hv, rfl, HO, HK, HB⟩ := hrel
    rename World => W0
    by_cases hlt : v < L.length
    · obtain ⟨g, o, b, c, rfl, hg, hc, hb⟩ := HF.out v hlt
      have HC : Hid (∀ U : World, Below w.heap.size w U → U.cell? ⟨g, o + v, none⟩ = some (.slice b L[v].length c)) := fun U hU => (hU.cell (p := ⟨g, _, none⟩) hg).trans hc
      have HIB := hid hb
      have hlv := HLL.out _ (List.getElem_mem hlt)
      have HP := hid (HII.out v W0 HB.out)
      obtain ⟨p, hp⟩ : ∃ p, inB (v : Int) I = p := ⟨_, rfl⟩
      rw [hp] at HP
      have HPE := hid hp
      have HT0v := hid (HT0.out v)
      have HTAv := hid (HTA.out v hlt)
      have HTYv : Hid (∀ i (hi : i < L[v].length), p = false → inB L[v][i] F = false → T v (i + 1) = T v i ++ [L[v][i]]) := fun i hi h1 h2 => HTY.out v i hlt hi (by rw [hp, h1]) h2
      have HTIv : Hid (∀ i, p = true → T v (i + 1) = T v i) := fun i h1 => HTI.out v i (by rw [hp, h1])
      have HTFv : Hid (∀ i (hi : i < L[v].length), inB L[v][i] F = true → T v (i + 1) = T v i) := fun i hi h2 => HTF.out v i hlt hi h2
      have HTLv := hid (HTL.out v)
      have HKL : Hid (Ks.length = v) := by
        have := congrArg List.length HK.out
        rw [List.length_map, List.length_map, List.length_range] at this
        exact this
      have HKN : Hid (∀ x : Value, (Ks ++ [(x, cutR L I F v)]).map (·.2) = (List.range (v + 1)).map (cutR L I F)) := fun x => by rw [List.map_append, HK.out, List.range_succ, List.map_append]; rfl
      generalize cutR L I F v = cr at *
      obtain ⟨Tv, hTv⟩ : ∃ Tv, T v = Tv := ⟨_, rfl⟩
      rw [hTv] at HT0v HTAv HTYv HTIv HTFv HTLv
      clear hTv hc hb hp
      generalize hLv : L[v] = lv at *
      clear hLv
      go_wp2_with fail
      refine HP.out.mono ?_
      rintro e wq ⟨rfl, hwq⟩
      rw [hwq]
      clear hwq wq HP
      go_wp2_with fail
      go_loopw [9, 11] (fun tv jv wq => ∃ i : Nat, i ≤ lv.length ∧ jv = .int .i64 i ∧ Hid (RwI wq W0.heap.size tv (Tv i)) ∧ Hid (Below W0.heap.size W0 wq)) (fun _ jv _ => lv.length - (intOf jv).toNat)
      case atStart => exact ⟨0, Nat.zero_le _, rfl, by rw [HT0v.out]; exact ⟨rfl, .inl ⟨rfl, rfl⟩⟩, Below.refl _ _⟩
      case round =>
        obtain ⟨i, hi, rfl, HR, HW⟩ := hrel
        have HWB := hid (HB.out.trans (HW.out.mono HB.out.size))
        have kc := HC.out _ HWB.out
        by_cases hil2 : i < lv.length
        · obtain ⟨g2, o2, rfl, hg2, hc2⟩ := HIB.out i hil2
          have kc2 := (HWB.out.cell (p := ⟨g2, _, none⟩) hg2).trans hc2
          have HQ := hid (HIF.out lv[i] _ HWB.out)
          have HTYi := hid (HTYv.out i hil2)
          have HTFi := hid (HTFv.out i hil2)
          generalize lv[i] = x at *
          obtain ⟨q, hq⟩ : ∃ q, inB x F = q := ⟨_, rfl⟩
          rw [hq] at HQ HTYi HTFi
          clear hc2 hq
          go_wp2_with fail
          refine HQ.out.mono ?_
          rintro e wz ⟨rfl, hwz⟩
          rw [hwz]
          clear hwz wz HQ
          have HTIi := hid (HTIv.out i)
          clear HTIv HTYv HTFv
          cases p <;> cases q
          · have HE := hid (HTYi.out rfl rfl)
            have HOWN := hid HR.out.own
            have HRA := hid (World.ownsRow.alloc HR.out (.cells #[.int .i64 x] 3))
            have HBA := hid (HW.out.alloc HW.out.size (.cells #[.int .i64 x] 3))
            have HIA := hid (one_int wr x)
            have hle := HTLv.out i
            go_wp2_with (at_builtin; refine wpList_append_ints rfl _ _ rfl W0.heap.size _ (Tv i) [x] rfl HRA.out (some ⟨wr.heap.size, 0, none⟩) 1 rfl HIA.out (fun e => by cases e) (by simp; omega) HBA.out.size ?_; intro v' w7 hr7 hg7)
            have HR7 : Hid (RwI w7 W0.heap.size v' (Tv (i + 1))) := by rw [HE.out]; exact hr7
            have HB7 := hid (HBA.out.grown hg7 HBA.out.size HOWN.out)
            clear hr7 hg7
            go_wp2
            go_roundw
            case rel => exact ⟨i + 1, by omega, by go_num, HR7, HB7⟩
            case measure => simp [intOf]; omega
          · have HE := hid (HTFi.out rfl)
            go_wp2
            go_roundw
            case rel => exact ⟨i + 1, by omega, by go_num, by rw [HE.out]; exact HR, HW⟩
            case measure => simp [intOf]; omega
          · have HE := hid (HTIi.out rfl)
            go_wp2
            go_roundw
            case rel => exact ⟨i + 1, by omega, by go_num, by rw [HE.out]; exact HR, HW⟩
            case measure => simp [intOf]; omega
          · have HE := hid (HTIi.out rfl)
            go_wp2
            go_roundw
            case rel => exact ⟨i + 1, by omega, by go_num, by rw [HE.out]; exact HR, HW⟩
            case measure => simp [intOf]; omega
        · obtain rfl : i = lv.length := by omega
          rw [HTAv.out] at HR
          obtain ⟨d9, c9, rfl, _⟩ := HR.out.ints
          have hA := (Below.refl wr.heap.size wr).alloc (Nat.le_refl _) (.cells #[.slice d9 cr.length c9] 23)
          have HOA := hid ((HO.out.underC HW.out).underC hA)
          have HRA : Hid (RwI (wr.alloc (.cells #[.slice d9 cr.length c9] 23)) w.heap.size (.slice d9 cr.length c9) cr) := own_low (World.ownsRow.alloc HR.out _) HB.out.size
          have HBA := hid (HWB.out.trans (hA.mono HWB.out.size))
          have HCA := hid ((Boxed.new wr 23 (.slice d9 cr.length c9)).cell)
          have hkl := HKL.out
          have HOWN := hid (own_from HOA.out.1)
          clear hA
          go_wp2_with (at_builtin; refine wpList_append_list rfl _ _ rfl w.heap.size _ Ks d9 cr.length c9 rfl HOA.out.1 wr.heap.size rfl HCA.out (by omega) HBA.out.size ?_; intro v' w7 ho7 hg7)
          have HO7 := hid (HOA.out.pushC HRA.out ho7 hg7)
          have HB7 := hid (HBA.out.grown hg7 HBA.out.size (fun k e => HOWN.out k e))
          have HK7 := hid (HKN.out (.slice d9 cr.length c9))
          clear ho7 hg7
          go_wp2
          go_roundw
          case rel => exact ⟨v + 1, _, by omega, by go_num, HO7, HK7, HB7⟩
          case measure => simp [intOf]; omega
    · obtain rfl : v = L.length := by omega
      have HE := hid (HEND.out Ks HK.out)
      go_wp2
      go_ret
      exact ⟨_, Ks, rfl, HO.out, HE.out, HB.out⟩
end Go.Proofs.Ythcfgoknphpkdaa


/- The document's answer of chapter 8: BackDoor, FrontDoor. -/
namespace Go.Proofs.Ythcfgoknphpkdaa
open Go.RowKit Go.Shelf

theorem rCutL (a bi bf : Option Addr) (ca ci cf : Nat) (L : List (List Int)) (I F : List Int) (w : World) (h : LsS w a L) (hl : ∀ l ∈ L, l.length ≤ 1000) (hL : L.length ≤ 1000) (hi : IntS w bi I) (hf : IntS w bf F) (hil : I.length ≤ 1000) (hfl : F.length ≤ 1000) :
    Calls Try.prog 49 #[.slice a L.length ca, .slice bi I.length ci, .slice bf F.length cf] w fun e w' => ∃ R cap, e = .returned (.slice R L.length cap) ∧ LsS w' R (cutG L I F) ∧ Below w.heap.size w w' :=
  (rCut_any a bi bf ca ci cf L I F w h hl hL hi hf hil hfl).mono fun e w' ⟨y, Ks, he, ho, hk, hb⟩ => by
    obtain ⟨R, cap, e1, e2⟩ := ho.lsC hk
    rw [cutG_length] at e1
    exact ⟨R, cap, by rw [he, e1], e2, hb⟩
theorem rApartG (R bx by' bz : Option Addr) (cap cx cy cz n : Nat) (G : List (List Int)) (x y z : List Int) (w : World) (hn : G.length = n) (h : LsS w R G) (hl : ∀ l ∈ G, l.length ≤ 1000) (hx : IntS w bx x) (hy : IntS w by' y) (hz : IntS w bz z) (hxl : x.length ≤ 1000) (hyl : y.length ≤ 1000) (hzl : z.length ≤ 1000) (hg : gcE G = 0) (hap : apB n [x, y, z] = true) :
    Calls Try.prog 14 #[.slice R n cap, .slice bx x.length cx, .slice by' y.length cy, .slice bz z.length cz] w fun e w' => e = .returned (.tuple #[.bool (!opX G x y z), .int .i64 0]) ∧ Below w.heap.size w w' := by
  subst hn
  have h8 := (gB_parts (gc_parts hg).1).2.1
  refine (rApart_any R bx by' bz cap cx cy cz G x y z w h hl (by omega) hx hy hz hxl hyl hzl).mono fun e w' hh => ?_
  rcases hh.2 with ⟨k, _⟩ | ⟨_, k, _⟩ | ⟨_, _, k⟩
  · exact absurd hg k
  · rw [hap] at k; cases k
  · exact ⟨k, hh.1⟩
theorem rdoor_sets (a bz : Option Addr) (ca cz : Nat) (L : List (List Int)) (x y : Int) (z : List Int) (w : World) (h : LsS w a L) (hl : ∀ l ∈ L, l.length ≤ 1000) (hL : L.length ≤ 1000) (hz : IntS w bz z) (hzl : z.length ≤ 1000) :
    Calls Try.prog 47 #[.slice a L.length ca, .slice (some ⟨w.heap.size + 1 + 1, 0, none⟩) 3 3] (((w.alloc (.cells #[.int .i64 x] 3)).alloc (.cells #[.int .i64 y] 3)).alloc (.cells #[.slice (some ⟨w.heap.size, 0, none⟩) 1 1, .slice (some ⟨w.heap.size + 1, 0, none⟩) 1 1, .slice bz z.length cz] 23)) (fun e w' => e = .returned (.int .i64 (stE L [[x], [y], z])) ∧ Below (((w.alloc (.cells #[.int .i64 x] 3)).alloc (.cells #[.int .i64 y] 3)).alloc (.cells #[.slice (some ⟨w.heap.size, 0, none⟩) 1 1, .slice (some ⟨w.heap.size + 1, 0, none⟩) 1 1, .slice bz z.length cz] 23)).heap.size (((w.alloc (.cells #[.int .i64 x] 3)).alloc (.cells #[.int .i64 y] 3)).alloc (.cells #[.slice (some ⟨w.heap.size, 0, none⟩) 1 1, .slice (some ⟨w.heap.size + 1, 0, none⟩) 1 1, .slice bz z.length cz] 23)) w') ∧ Below w.heap.size w (((w.alloc (.cells #[.int .i64 x] 3)).alloc (.cells #[.int .i64 y] 3)).alloc (.cells #[.slice (some ⟨w.heap.size, 0, none⟩) 1 1, .slice (some ⟨w.heap.size + 1, 0, none⟩) 1 1, .slice bz z.length cz] 23)) := by
  have hA1 := (Below.refl w.heap.size w).alloc (Nat.le_refl _) (.cells #[.int .i64 x] 3)
  have hs1 : (w.alloc (.cells #[.int .i64 x] 3)).heap.size = w.heap.size + 1 := by simp
  have hA2 := hA1.alloc hA1.size (.cells #[.int .i64 y] 3)
  have hs2 : ((w.alloc (.cells #[.int .i64 x] 3)).alloc (.cells #[.int .i64 y] 3)).heap.size = w.heap.size + 1 + 1 := by simp
  have hx2 : IntS ((w.alloc (.cells #[.int .i64 x] 3)).alloc (.cells #[.int .i64 y] 3)) (some ⟨w.heap.size, 0, none⟩) [x] := (one_int w x).below ((Below.refl _ _).alloc (Nat.le_refl _) _)
  have hy2 := one_int (w.alloc (.cells #[.int .i64 x] 3)) y
  rw [hs1] at hy2
  have hz2 := hz.below hA2
  have h3 := three_lists (cx := 1) (cy := 1) (cz := cz) hx2 hy2 hz2
  rw [hs2] at h3
  have hA3 := hA2.alloc hA2.size (.cells #[.slice (some ⟨w.heap.size, 0, none⟩) 1 1, .slice (some ⟨w.heap.size + 1, 0, none⟩) 1 1, .slice bz z.length cz] 23)
  exact ⟨rSetsOK_any a (some ⟨w.heap.size + 1 + 1, 0, none⟩) ca 3 L [[x], [y], z] _ (h.below hA3) hl hL h3 (fun l hl' => by
    simp only [List.mem_cons, List.not_mem_nil, or_false] at hl'
    rcases hl' with rfl | rfl | rfl
    · simp
    · simp
    · exact hzl) (by simp), hA3⟩

set_option maxRecDepth 100000 in
set_option maxHeartbeats 1000000 in
theorem rBack_any (a bz : Option Addr) (ca cz : Nat) (L : List (List Int)) (x y : Int) (z : List Int) (w : World) (h : LsS w a L) (hl : ∀ l ∈ L, l.length ≤ 1000) (hL : L.length ≤ 1000) (hz : IntS w bz z) (hzl : z.length ≤ 1000) :
    Calls Try.prog 21 #[.slice a L.length ca, .int .i64 x, .int .i64 y, .slice bz z.length cz] w fun e w' => e = .returned (.tuple #[.bool (bdA L x y z).1, .int .i64 (bdA L x y z).2]) ∧ Below w.heap.size w w' := by
  obtain ⟨hst0, hA3⟩ := rdoor_sets a bz ca cz L x y z w h hl hL hz hzl
  have HST := hid hst0
  have HA3 := hid hA3
  have HZ := hid hz
  have HL := hid h
  have HLL := hid hl
  obtain ⟨rb, re, hre⟩ : ∃ rb re, bdA L x y z = (rb, re) := ⟨_, _, rfl⟩
  have HBE : Hid (stE L [[x], [y], z] ≠ 0 → false = rb ∧ stE L [[x], [y], z] = re) := fun e => by
    rw [bdA, if_neg e] at hre
    exact Prod.mk.inj hre
  have HBO : Hid (stE L [[x], [y], z] = 0 → (!(abO L x.toNat (toN z)) && !opX (cutG L [] [x]) [x] [y] z) = rb ∧ 0 = re) := fun e => by
    rw [bdA, if_pos e] at hre
    exact Prod.mk.inj hre
  rw [hre]
  show Calls Try.prog 21 #[.slice a L.length ca, .int .i64 x, .int .i64 y, .slice bz z.length cz] w fun e w' => e = .returned (.tuple #[.bool rb, .int .i64 re]) ∧ Below w.heap.size w w'
  clear hre hst0 hA3 h hz hl
  go_enter Try.func21, Try.ntmps21
  go_wp2_with fail
  refine HST.out.mono ?_
  rintro e w1 ⟨rfl, hb1⟩
  have HB1 := hid (HA3.out.trans (hb1.mono HA3.out.size))
  clear hb1 HST HA3
  by_cases hst : stE L [[x], [y], z] = 0
  · obtain ⟨hg, hap⟩ := stE_ok hst
    obtain ⟨⟨hx0, hx1⟩, ⟨hy0, hy1⟩, hrz, _, _⟩ := door_parts hap
    obtain ⟨u, rfl⟩ : ∃ u : Nat, x = u := ⟨x.toNat, by omega⟩
    rw [hst]
    have hR := HBO.out hst
    rw [Int.toNat_natCast] at hR
    have HRE := hid hR
    have HG := hid hg
    have HAP := hid hap
    have HZU := hid (ris_up hrz)
    have HIA : Hid (∀ (v : Nat), v < L.length → Calls Try.prog 51 #[.slice a L.length ca, .int .i64 (u : Nat), .int .i64 (v : Nat)] w1 fun e w' => e = .returned (.bool (abB L u v)) ∧ w' = w1) := fun v hv => isAbove_any a ca L w1 (HL.out.below HB1.out) HLL.out hg u (rkN (parN L) v) v (Nat.le_refl _) hv
    have HAY : Hid (∀ (i v : Nat) (hi : i < z.length), z[i] = (v : Int) → abB L u v = true → abO L u (toN z) = true) := fun i v hi hv hq => List.any_eq_true.2 ⟨v, by
      refine List.mem_map.2 ⟨z[i], List.getElem_mem hi, ?_⟩
      rw [hv]; rfl, hq⟩
    have HAN : Hid ((∀ (i v : Nat) (hi : i < z.length), z[i] = (v : Int) → abB L u v = false) → abO L u (toN z) = false) := fun hh => List.any_eq_false.2 fun v hv => by
      obtain ⟨t, ht, rfl⟩ := List.mem_map.1 hv
      obtain ⟨i, hi, rfl⟩ := List.getElem_of_mem ht
      have h0 := (HZU.out.each i hi).1
      rw [hh i z[i].toNat hi (by omega)]
      decide
    clear hst hR hg hap hrz HBE HBO
    generalize abO L u (toN z) = q1 at *
    go_wp2_with fail
    go_loopw [11] (fun iv wr => ∃ i : Nat, i ≤ z.length ∧ iv = .int .i64 i ∧ Hid (∀ (j v : Nat) (hj : j < z.length), j < i → z[j] = (v : Int) → abB L u v = false) ∧ wr = w1) (fun iv _ => z.length - (intOf iv).toNat)
    case atStart => exact ⟨0, Nat.zero_le _, rfl, (fun j v _ hj => absurd hj (by omega)), rfl⟩
    case round =>
      obtain ⟨i, hi, rfl, HN, rfl⟩ := hrel
      by_cases hlt : i < z.length
      · obtain ⟨g, o, rfl, hg, hc⟩ := HZ.out i hlt
        have hzi := HZU.out.each i hlt
        obtain ⟨v, hv⟩ : ∃ v : Nat, z[i] = (v : Int) := ⟨z[i].toNat, by omega⟩
        have kc := (HB1.out.cell (p := ⟨g, _, none⟩) hg).trans hc
        rw [hv] at kc
        have HAv := hid (HIA.out v (by omega))
        have HYv := hid (HAY.out i v hlt hv)
        have HNX : Hid (abB L u v = false → ∀ (j v : Nat) (hj : j < z.length), j < i + 1 → z[j] = (v : Int) → abB L u v = false) := fun e j v' hj hlt' hv' => by
          rcases Nat.lt_or_ge j i with h2 | h2
          · exact HN.out j v' hj h2 hv'
          · obtain rfl : j = i := by omega
            have : v' = v := by omega
            rw [this]; exact e
        generalize abB L u v = q at *
        clear hc hv hzi
        cases q with
        | true =>
          have HQ := hid (HYv.out rfl)
          go_wp2_with fail
          refine HAv.out.mono ?_
          rintro e wq ⟨rfl, hwq⟩
          rw [hwq]
          clear hwq wq
          go_wp2
          go_ret2
          exact ⟨by rw [← HRE.out.1, ← HRE.out.2, HQ.out]; rfl, HB1.out⟩
        | false =>
          have HQ := hid (HNX.out rfl)
          go_wp2_with fail
          refine HAv.out.mono ?_
          rintro e wq ⟨rfl, hwq⟩
          rw [hwq]
          clear hwq wq
          go_wp2
          go_roundw
          case rel => exact ⟨i + 1, by omega, by go_num, HQ, (by first | rfl | trivial)⟩
          case measure => simp [intOf]; omega
      · have hq1 : q1 = false := HAN.out fun j v hj hv => HN.out j v hj (by omega) hv
        have HQ1 := hid hq1
        have hA := HB1.out.alloc HB1.out.size (.cells #[.int .i64 (u : Nat)] 3)
        have HCU := hid (rCutL a none (some ⟨wr.heap.size, 0, none⟩) ca 0 1 L [] [((u : Nat) : Int)] _ (HL.out.below hA) HLL.out hL (fun k hk => absurd hk (by simp)) (one_int wr u) (by simp) (by simp))
        have HA := hid hA
        clear hA hq1
        go_wp2_with fail
        refine HCU.out.mono ?_
        rintro e w3 ⟨R, cap, rfl, hL3, hb3⟩
        have HB3 := hid (HA.out.trans (hb3.mono HA.out.size))
        have hA4 := (Below.refl w3.heap.size w3).alloc (Nat.le_refl _) (.cells #[.int .i64 (u : Nat)] 3)
        have hs4 : (w3.alloc (.cells #[.int .i64 (u : Nat)] 3)).heap.size = w3.heap.size + 1 := by simp
        have hA5 := hA4.alloc hA4.size (.cells #[.int .i64 y] 3)
        have hB5 := HB3.out.trans (hA5.mono HB3.out.size)
        have hy5 := one_int (w3.alloc (.cells #[.int .i64 (u : Nat)] 3)) y
        rw [hs4] at hy5
        have HAC := hid (rApartG R (some ⟨w3.heap.size, 0, none⟩) (some ⟨w3.heap.size + 1, 0, none⟩) bz cap 1 1 cz L.length (cutG L [] [((u : Nat) : Int)]) [((u : Nat) : Int)] [y] z _ (cutG_length _ _ _) (hL3.below hA5) (cutG_len HLL.out) ((one_int w3 u).below ((Below.refl _ _).alloc (Nat.le_refl _) (.cells #[.int .i64 y] 3))) hy5 (HZ.out.below hB5) (by simp) (by simp) hzl (cutG_gc HG.out _ _) HAP.out)
        have HB5 := hid hB5
        clear hA4 hs4 hA5 hB5 hy5 hb3 hL3 HCU
        generalize opX (cutG L [] [((u : Nat) : Int)]) [((u : Nat) : Int)] [y] z = q2 at *
        go_wp2_with fail
        refine HAC.out.mono ?_
        rintro e w4 ⟨rfl, hb4⟩
        have HB6 := hid (HB5.out.trans (hb4.mono HB5.out.size))
        clear hb4
        go_wp2
        go_ret2
        exact ⟨by rw [← HRE.out.1, ← HRE.out.2, HQ1.out]; rfl, HB6.out⟩
  · have HE := hid (HBE.out hst)
    have hgb : (stE L [[x], [y], z] == 0) = false := by simpa using hst
    clear hst HBE HBO
    generalize stE L [[x], [y], z] = st at *
    go_wp2
    go_ret2
    exact ⟨by rw [← HE.out.1, ← HE.out.2]; rfl, HB1.out⟩

set_option maxRecDepth 100000 in
set_option maxHeartbeats 1000000 in
theorem rFront_any (a bz : Option Addr) (ca cz : Nat) (L : List (List Int)) (x y : Int) (z : List Int) (w : World) (h : LsS w a L) (hl : ∀ l ∈ L, l.length ≤ 1000) (hL : L.length ≤ 1000) (hz : IntS w bz z) (hzl : z.length ≤ 1000) :
    Calls Try.prog 23 #[.slice a L.length ca, .int .i64 x, .int .i64 y, .slice bz z.length cz] w fun e w' => e = .returned (.tuple #[.bool (fdA L x y z).1, .int .i64 (fdA L x y z).2]) ∧ Below w.heap.size w w' := by
  obtain ⟨hst0, hA3⟩ := rdoor_sets a bz ca cz L x y z w h hl hL hz hzl
  have HST := hid hst0
  have HA3 := hid hA3
  have HZ := hid hz
  have HL := hid h
  have HLL := hid hl
  obtain ⟨rb, re, hre⟩ : ∃ rb re, fdA L x y z = (rb, re) := ⟨_, _, rfl⟩
  have HBE : Hid (stE L [[x], [y], z] ≠ 0 → false = rb ∧ stE L [[x], [y], z] = re) := fun e => by
    rw [fdA, if_neg e] at hre
    exact Prod.mk.inj hre
  have HBO : Hid (stE L [[x], [y], z] = 0 → ((!(abO (cutG L z []) x.toNat (toN [y])) && !opX (cutG L [] [x]) [x] z []) && !opX (cutG L [] z) z [y] [x]) = rb ∧ 0 = re) := fun e => by
    rw [fdA, if_pos e] at hre
    exact Prod.mk.inj hre
  rw [hre]
  show Calls Try.prog 23 #[.slice a L.length ca, .int .i64 x, .int .i64 y, .slice bz z.length cz] w fun e w' => e = .returned (.tuple #[.bool rb, .int .i64 re]) ∧ Below w.heap.size w w'
  clear hre hst0 hA3 h hz hl
  go_enter Try.func23, Try.ntmps23
  go_wp2_with fail
  refine HST.out.mono ?_
  rintro e w1 ⟨rfl, hb1⟩
  have HB1 := hid (HA3.out.trans (hb1.mono HA3.out.size))
  clear hb1 HST HA3
  by_cases hst : stE L [[x], [y], z] = 0
  · obtain ⟨hg, hap⟩ := stE_ok hst
    obtain ⟨⟨hx0, hx1⟩, ⟨hy0, hy1⟩, hrz, hap2, hap3⟩ := door_parts hap
    obtain ⟨u, rfl⟩ : ∃ u : Nat, x = u := ⟨x.toNat, by omega⟩
    obtain ⟨t, rfl⟩ : ∃ t : Nat, y = t := ⟨y.toNat, by omega⟩
    rw [hst]
    have hR := HBO.out hst
    have hab : abO (cutG L z []) u (toN [((t : Nat) : Int)]) = abB (cutG L z []) u t := by simp [abO, toN]
    rw [Int.toNat_natCast, hab] at hR
    have HRE := hid hR
    have HG := hid hg
    have HAP2 := hid hap2
    have HAP3 := hid hap3
    have HCU := hid (rCutL a bz none ca cz 0 L z [] w1 (HL.out.below HB1.out) HLL.out hL (HZ.out.below HB1.out) (fun k hk => absurd hk (by simp)) hzl (by simp))
    have HIB : Hid (∀ (R : Option Addr) (cap : Nat) (U : World), LsS U R (cutG L z []) → Calls Try.prog 51 #[.slice R L.length cap, .int .i64 (u : Nat), .int .i64 (t : Nat)] U fun e w' => e = .returned (.bool (abB (cutG L z []) u t)) ∧ w' = U) := fun R cap U hU => by
      have := isAbove_any R cap (cutG L z []) U hU (cutG_len HLL.out) (cutG_gc HG.out z []) u (rkN (parN (cutG L z [])) t) t (Nat.le_refl _) (by rw [cutG_length]; omega)
      rwa [cutG_length] at this
    clear hst hR hg hap hap2 hap3 hrz hab HBE HBO
    generalize abB (cutG L z []) u t = q1 at *
    go_wp2_with fail
    refine HCU.out.mono ?_
    rintro e w2 ⟨R, cap, rfl, hL2, hb2⟩
    have HB2 := hid (HB1.out.trans (hb2.mono HB1.out.size))
    have HIA := hid (HIB.out R cap w2 hL2)
    clear hb2 hL2 HCU HIB
    go_wp2_with fail
    refine HIA.out.mono ?_
    rintro e wq ⟨rfl, hwq⟩
    rw [hwq]
    clear hwq wq HIA
    have hA := HB2.out.alloc HB2.out.size (.cells #[.int .i64 (u : Nat)] 3)
    have HCU := hid (rCutL a none (some ⟨w2.heap.size, 0, none⟩) ca 0 1 L [] [((u : Nat) : Int)] _ (HL.out.below hA) HLL.out hL (fun k hk => absurd hk (by simp)) (one_int w2 u) (by simp) (by simp))
    have HA := hid hA
    clear hA
    go_wp2_with fail
    refine HCU.out.mono ?_
    rintro e w5 ⟨R2, cap2, rfl, hL5, hb5⟩
    have HB5 := hid (HA.out.trans (hb5.mono HA.out.size))
    have hA6 := (Below.refl w5.heap.size w5).alloc (Nat.le_refl _) (.cells #[.int .i64 (u : Nat)] 3)
    have hB6 := HB5.out.trans (hA6.mono HB5.out.size)
    have HAC := hid (rApartG R2 (some ⟨w5.heap.size, 0, none⟩) bz none cap2 1 cz 0 L.length (cutG L [] [((u : Nat) : Int)]) [((u : Nat) : Int)] z [] _ (cutG_length _ _ _) (hL5.below hA6) (cutG_len HLL.out) (one_int w5 u) (HZ.out.below hB6) (fun k hk => absurd hk (by simp)) (by simp) hzl (by simp) (cutG_gc HG.out _ _) HAP2.out)
    have HB6 := hid hB6
    clear hA6 hB6 hb5 hL5 HCU HA HB5
    generalize opX (cutG L [] [((u : Nat) : Int)]) [((u : Nat) : Int)] z [] = q2 at *
    go_wp2_with fail
    refine HAC.out.mono ?_
    rintro e w7 ⟨rfl, hb7⟩
    have HB7 := hid (HB6.out.trans (hb7.mono HB6.out.size))
    clear hb7 HAC HB6
    have HCU := hid (rCutL a none bz ca 0 cz L [] z w7 (HL.out.below HB7.out) HLL.out hL (fun k hk => absurd hk (by simp)) (HZ.out.below HB7.out) (by simp) hzl)
    go_wp2_with fail
    refine HCU.out.mono ?_
    rintro e w8 ⟨R3, cap3, rfl, hL8, hb8⟩
    have HB8 := hid (HB7.out.trans (hb8.mono HB7.out.size))
    have hA9 := (Below.refl w8.heap.size w8).alloc (Nat.le_refl _) (.cells #[.int .i64 (t : Nat)] 3)
    have hs9 : (w8.alloc (.cells #[.int .i64 (t : Nat)] 3)).heap.size = w8.heap.size + 1 := by simp
    have hA10 := hA9.alloc hA9.size (.cells #[.int .i64 (u : Nat)] 3)
    have hB10 := HB8.out.trans (hA10.mono HB8.out.size)
    have hx10 := one_int (w8.alloc (.cells #[.int .i64 (t : Nat)] 3)) (u : Nat)
    rw [hs9] at hx10
    have HAC := hid (rApartG R3 bz (some ⟨w8.heap.size, 0, none⟩) (some ⟨w8.heap.size + 1, 0, none⟩) cap3 cz 1 1 L.length (cutG L [] z) z [((t : Nat) : Int)] [((u : Nat) : Int)] _ (cutG_length _ _ _) (hL8.below hA10) (cutG_len HLL.out) (HZ.out.below hB10) ((one_int w8 t).below ((Below.refl _ _).alloc (Nat.le_refl _) (.cells #[.int .i64 (u : Nat)] 3))) hx10 hzl (by simp) (by simp) (cutG_gc HG.out _ _) HAP3.out)
    have HB10 := hid hB10
    clear hA9 hs9 hA10 hB10 hx10 hb8 hL8 HCU
    generalize opX (cutG L [] z) z [((t : Nat) : Int)] [((u : Nat) : Int)] = q3 at *
    go_wp2_with fail
    refine HAC.out.mono ?_
    rintro e w11 ⟨rfl, hb11⟩
    have HB11 := hid (HB10.out.trans (hb11.mono HB10.out.size))
    clear hb11 HAC
    cases q1 with
    | true =>
      go_wp2
      go_ret2
      exact ⟨by rw [← HRE.out.1, ← HRE.out.2]; rfl, HB11.out⟩
    | false =>
      cases q2 with
      | true =>
        go_wp2
        go_ret2
        exact ⟨by rw [← HRE.out.1, ← HRE.out.2]; rfl, HB11.out⟩
      | false =>
        go_wp2
        go_ret2
        exact ⟨by rw [← HRE.out.1, ← HRE.out.2]; rfl, HB11.out⟩
  · have HE := hid (HBE.out hst)
    have hgb : (stE L [[x], [y], z] == 0) = false := by simpa using hst
    clear hst HBE HBO
    generalize stE L [[x], [y], z] = st at *
    go_wp2
    go_ret2
    exact ⟨by rw [← HE.out.1, ← HE.out.2]; rfl, HB1.out⟩
end Go.Proofs.Ythcfgoknphpkdaa

