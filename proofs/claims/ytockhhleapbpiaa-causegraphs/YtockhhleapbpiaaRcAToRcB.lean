/- The document's answer of chapter 8: merged, Cut, SetsOK. -/
import Derived.Test.YtockhhleapbpiaaCsBOwn
import Derived.Test.YtockhhleapbpiaaAnsEOwn
namespace Go.Proofs.Ytockhhleapbpiaa
open Go.RowKit Go.Shelf

theorem OwI.lsC {w : World} {B : Nat} {y : Value} {Ks : List PI2} {Ls : List (List Int)} (h : OwI w B y Ks) (hs : Ks.map (·.2) = Ls) : ∃ a c, y = .slice a Ls.length c ∧ LsS w a Ls := by
  have hl : Ks.length = Ls.length := by rw [← hs, List.length_map]
  rcases h.1.2 with ⟨h1, h2⟩ | ⟨g, cap, cur, h1, h2, h3, h4, h5, h6, h7⟩
  · exact ⟨none, 0, by rw [h1, show Ls.length = 0 by omega], fun k hk => absurd hk (by omega)⟩
  · refine ⟨_, cap, by rw [h1, hl], fun k hk => ?_⟩
    have hkk : k < Ks.length := by omega
    obtain ⟨d, cd, e1, e2⟩ := (h.2 _ (List.getElem_mem hkk)).ints
    have el : Ls[k] = Ks[k].2 := by subst hs; simp
    rw [el]
    refine ⟨g, 0, d, cd, rfl, (Array.getElem?_eq_some_iff.1 h3).1, ?_, e2⟩
    rw [Nat.zero_add, cell_of_row w g k _ _ (0, 0) h3]
    have e : cur[k]? = (cur.toList.take (Ks.length * 1))[k]? := by rw [List.getElem?_take, if_pos (by omega), Array.getElem?_toList]
    rw [e, h7, List.getElem?_map, List.getElem?_eq_getElem hkk]
    simp [e1]
theorem OwI.pushC {w w' : World} {B : Nat} {y y' lv : Value} {P : List PI2} {l : List Int} (h : OwI w B y P) (hl : RwI w B lv l) (ho : w'.ownsRow B 23 1 y' (P.length + 1) (P.map (·.1) ++ [lv])) (hg : w.grownBy w' y.ownBlock) : OwI w' B y' (P ++ [(lv, l)]) := by
  have hk : KpT 3 w w' := KpT.grown hg (own_typed h.1) (by decide)
  refine ⟨by rw [List.length_append, List.map_append]; exact ho, fun p hp => ?_⟩
  rcases List.mem_append.1 hp with hp | hp
  · exact own_kp (h.2 p hp) hk
  · rw [List.mem_singleton.1 hp]
    exact own_kp hl hk
theorem both_yes {n : Nat} {a b : List Int} (h : (inB (n : Int) a || inB (n : Int) b) = true) : bothN (n + 1) a b = bothN n a b ++ [n] := by
  rw [bothN, List.range_succ, List.filter_append, bothN]
  simp only [List.filter, h]
theorem both_no {n : Nat} {a b : List Int} (h : (inB (n : Int) a || inB (n : Int) b) = false) : bothN (n + 1) a b = bothN n a b := by
  rw [bothN, List.range_succ, List.filter_append, bothN]
  simp only [List.filter, h, List.append_nil]
theorem both_len (n : Nat) (a b : List Int) : (bothN n a b).length ≤ n := by
  have := List.length_filter_le (fun v : Nat => inB (v : Int) a || inB (v : Int) b) (List.range n)
  rwa [List.length_range] at this

set_option maxRecDepth 100000 in
set_option maxHeartbeats 400000 in
theorem rMerged_any (a b : Option Addr) (ca cb n : Nat) (x v : List Int) (w : World) (ha : IntS w a x) (hb : IntS w b v) (hx : x.length ≤ 1000) (hv : v.length ≤ 1000) (hn : n ≤ 1000) :
    Calls Try.prog 65 #[.slice a x.length ca, .slice b v.length cb, .int .i64 (n : Nat)] w fun e w' => ∃ y, e = .returned y ∧ RwI w' w.heap.size y (iL (bothN n x v)) ∧ Below w.heap.size w w' := by
  have HIX := hid (fun (u : Nat) (U : World) (hU : Below w.heap.size w U) => rIn_any (u : Int) a ca x U (ha.below hU) (by omega))
  have HIV := hid (fun (u : Nat) (U : World) (hU : Below w.heap.size w U) => rIn_any (u : Int) b cb v U (hb.below hU) (by omega))
  have HYE : Hid (∀ u : Nat, (inB (u : Int) x || inB (u : Int) v) = true → bothN (u + 1) x v = bothN u x v ++ [u]) := fun u => both_yes
  have HNO : Hid (∀ u : Nat, (inB (u : Int) x || inB (u : Int) v) = false → bothN (u + 1) x v = bothN u x v) := fun u => both_no
  have HLE : Hid (∀ u : Nat, (bothN u x v).length ≤ u) := fun u => both_len u x v
  have HZ : Hid (bothN 0 x v = []) := rfl
  clear ha hb
  obtain ⟨F, hF⟩ : ∃ F : Nat → List Nat, ∀ u, bothN u x v = F u := ⟨fun u => bothN u x v, fun _ => rfl⟩
  simp only [hF] at *
  clear hF
  go_enter Try.func65, Try.ntmps65
  go_wp2_with fail
  go_loopw [7, 8] (fun ov iv wr => ∃ u : Nat, u ≤ n ∧ iv = .int .i64 u ∧ Hid (RwI wr w.heap.size ov (iL (F u))) ∧ Hid (Below w.heap.size w wr)) (fun _ iv _ => n - (intOf iv).toNat)
  case atStart => exact ⟨0, Nat.zero_le _, rfl, by rw [HZ.out]; exact ⟨rfl, .inl ⟨rfl, rfl⟩⟩, Below.refl _ _⟩
  case round =>
    obtain ⟨u, hu, rfl, HR, HB⟩ := hrel
    by_cases hlt : u < n
    · obtain ⟨p, hp⟩ : ∃ p, inB (u : Int) x = p := ⟨_, rfl⟩
      obtain ⟨q, hq⟩ : ∃ q, inB (u : Int) v = q := ⟨_, rfl⟩
      have HX := hid (HIX.out u wr HB.out)
      have HV := hid (HIV.out u wr HB.out)
      rw [hp] at HX
      rw [hq] at HV
      have HPQ : Hid (inB (u : Int) x = p ∧ inB (u : Int) v = q) := ⟨hp, hq⟩
      clear hp hq
      go_wp2_with fail
      refine HX.out.mono ?_
      rintro e wq ⟨rfl, hwq⟩
      rw [hwq]
      clear hwq wq
      go_wp2_with fail
      refine HV.out.mono ?_
      rintro e wq ⟨rfl, hwq⟩
      rw [hwq]
      clear hwq wq HX HV
      obtain ⟨hp, hq⟩ := HPQ.out
      clear HPQ
      cases p <;> cases q
      · have HE := hid (HNO.out u (by rw [hp, hq]; rfl))
        clear hp hq
        go_wp2
        go_roundw
        case rel => exact ⟨u + 1, by omega, by go_num, by rw [HE.out]; exact HR, HB⟩
        case measure => simp [intOf]; omega
      · have HE := hid (HYE.out u (by rw [hp, hq]; rfl))
        clear hp hq
        have HOWN := hid HR.out.own
        have HRA := hid (World.ownsRow.alloc HR.out (.cells #[.int .i64 (u : Nat)] 3))
        have HBA := hid (HB.out.alloc HB.out.size (.cells #[.int .i64 (u : Nat)] 3))
        have HIA := hid (one_int wr (u : Nat))
        have hle := HLE.out u
        go_wp2_with (at_builtin; refine wpList_append_ints rfl _ _ rfl w.heap.size _ (iL (F u)) [((u : Nat) : Int)] rfl HRA.out (some ⟨wr.heap.size, 0, none⟩) 1 rfl HIA.out (fun e => by cases e) (by rw [iL_length]; simp; omega) HBA.out.size ?_; intro v' w7 hr7 hg7)
        have HR7 : Hid (RwI w7 w.heap.size v' (iL (F (u + 1)))) := by show RwI w7 w.heap.size v' (iL (F (u + 1))); rw [HE.out, iL_append]; exact hr7
        have HB7 := hid (HBA.out.grown hg7 HBA.out.size HOWN.out)
        clear hr7 hg7
        go_wp2
        go_roundw
        case rel => exact ⟨u + 1, by omega, by go_num, HR7, HB7⟩
        case measure => simp [intOf]; omega
      · have HE := hid (HYE.out u (by rw [hp, hq]; rfl))
        clear hp hq
        have HOWN := hid HR.out.own
        have HRA := hid (World.ownsRow.alloc HR.out (.cells #[.int .i64 (u : Nat)] 3))
        have HBA := hid (HB.out.alloc HB.out.size (.cells #[.int .i64 (u : Nat)] 3))
        have HIA := hid (one_int wr (u : Nat))
        have hle := HLE.out u
        go_wp2_with (at_builtin; refine wpList_append_ints rfl _ _ rfl w.heap.size _ (iL (F u)) [((u : Nat) : Int)] rfl HRA.out (some ⟨wr.heap.size, 0, none⟩) 1 rfl HIA.out (fun e => by cases e) (by rw [iL_length]; simp; omega) HBA.out.size ?_; intro v' w7 hr7 hg7)
        have HR7 : Hid (RwI w7 w.heap.size v' (iL (F (u + 1)))) := by show RwI w7 w.heap.size v' (iL (F (u + 1))); rw [HE.out, iL_append]; exact hr7
        have HB7 := hid (HBA.out.grown hg7 HBA.out.size HOWN.out)
        clear hr7 hg7
        go_wp2
        go_roundw
        case rel => exact ⟨u + 1, by omega, by go_num, HR7, HB7⟩
        case measure => simp [intOf]; omega
      · have HE := hid (HYE.out u (by rw [hp, hq]; rfl))
        clear hp hq
        have HOWN := hid HR.out.own
        have HRA := hid (World.ownsRow.alloc HR.out (.cells #[.int .i64 (u : Nat)] 3))
        have HBA := hid (HB.out.alloc HB.out.size (.cells #[.int .i64 (u : Nat)] 3))
        have HIA := hid (one_int wr (u : Nat))
        have hle := HLE.out u
        go_wp2_with (at_builtin; refine wpList_append_ints rfl _ _ rfl w.heap.size _ (iL (F u)) [((u : Nat) : Int)] rfl HRA.out (some ⟨wr.heap.size, 0, none⟩) 1 rfl HIA.out (fun e => by cases e) (by rw [iL_length]; simp; omega) HBA.out.size ?_; intro v' w7 hr7 hg7)
        have HR7 : Hid (RwI w7 w.heap.size v' (iL (F (u + 1)))) := by show RwI w7 w.heap.size v' (iL (F (u + 1))); rw [HE.out, iL_append]; exact hr7
        have HB7 := hid (HBA.out.grown hg7 HBA.out.size HOWN.out)
        clear hr7 hg7
        go_wp2
        go_roundw
        case rel => exact ⟨u + 1, by omega, by go_num, HR7, HB7⟩
        case measure => simp [intOf]; omega
    · obtain rfl : u = n := by omega
      go_wp2
      go_ret
      exact ⟨_, rfl, HR.out, HB.out⟩

set_option maxRecDepth 100000 in
set_option maxHeartbeats 400000 in
theorem rSetsOK_any (a s : Option Addr) (ca cs : Nat) (L Ls : List (List Int)) (w : World) (h : LsS w a L) (hl : ∀ l ∈ L, l.length ≤ 1000) (hL : L.length ≤ 1000) (hs : LsS w s Ls) (hsl : ∀ l ∈ Ls, l.length ≤ 1000) (hp8 : Ls.length ≤ 4) :
    Calls Try.prog 64 #[.slice a L.length ca, .slice s Ls.length cs] w fun e w' => e = .returned (.int .i64 (stE L Ls)) ∧ Below w.heap.size w w' := by
  have HG := hid (rGraphCheck_any a ca L w h (fun l hl' => by have := hl l hl'; omega) (by omega))
  have HAS := hid (fun (U : World) (hU : Below w.heap.size w U) => apartSets_any s cs L.length Ls U (hs.below hU) hsl hp8)
  obtain ⟨re, hre⟩ : ∃ re, stE L Ls = re := ⟨_, rfl⟩
  have HE1 : Hid (gcE L ≠ 0 → gcE L = re) := fun e => by rw [← hre, stE_gc e]
  have HE2 : Hid (gcE L = 0 → apB L.length Ls = true → 0 = re) := fun e e2 => by rw [← hre, stE, if_pos e, if_pos e2]
  have HE3 : Hid (gcE L = 0 → apB L.length Ls = false → 11 = re) := fun e e2 => by rw [← hre, stE_bad e e2]
  rw [hre]
  clear hre h hl hs hsl
  go_enter Try.func64, Try.ntmps64
  go_wp2_with fail
  refine HG.out.mono ?_
  rintro e w1 ⟨rfl, hb1⟩
  have HB1 := hid hb1
  have HA1 := hid (HAS.out w1 hb1)
  clear hb1 HG HAS
  by_cases hg : gcE L = 0
  · have HG0 := hid hg
    rw [hg]
    clear hg
    obtain ⟨ap, hap⟩ : ∃ ap, apB L.length Ls = ap := ⟨_, rfl⟩
    rw [hap] at HA1
    have HAP := hid hap
    clear hap
    go_wp2_with fail
    refine HA1.out.mono ?_
    rintro e w2 ⟨rfl, hb2⟩
    have HB2 := hid (HB1.out.trans (hb2.mono HB1.out.size))
    clear hb2 HA1
    cases ap with
    | true =>
      have HR := hid (HE2.out HG0.out HAP.out)
      go_wp2
      go_ret
      exact ⟨by rw [← HR.out]; rfl, HB2.out⟩
    | false =>
      have HR := hid (HE3.out HG0.out HAP.out)
      go_wp2
      go_ret
      exact ⟨by rw [← HR.out]; rfl, HB2.out⟩
  · have HR := hid (HE1.out hg)
    have hgb : (gcE L == 0) = false := by simpa using hg
    clear hg HE1 HE2 HE3 HA1
    generalize gcE L = ge at *
    go_wp2
    go_ret
    exact ⟨by rw [← HR.out]; rfl, HB1.out⟩
end Go.Proofs.Ytockhhleapbpiaa


/- The document's answer of chapter 8: Cut. -/
namespace Go.Proofs.Ytockhhleapbpiaa
open Go.RowKit Go.Shelf

/-- A node's list, as far as its i-th parent. -/
def cutT (L : List (List Int)) (I F : List Int) (v i : Nat) : List Int := if inB (v : Int) I = true then [] else ((L.getD v []).take i).filter fun u => decide (¬ u ∈ F)
theorem cutT_zero (L : List (List Int)) (I F : List Int) (v : Nat) : cutT L I F v 0 = [] := by rw [cutT]; simp
theorem cutT_yes {L : List (List Int)} {I F : List Int} {v i : Nat} (hv : v < L.length) (hi : i < L[v].length) (hp : inB (v : Int) I = false) (hq : inB L[v][i] F = false) : cutT L I F v (i + 1) = cutT L I F v i ++ [L[v][i]] := by
  have hn : ¬ L[v][i] ∈ F := fun h => by rw [inB_iff.2 h] at hq; cases hq
  rw [cutT, cutT, if_neg (by rw [hp]; decide), if_neg (by rw [hp]; decide), getD_at hv, List.take_succ_eq_append_getElem hi, List.filter_append]
  congr 1
  simp [hn]
theorem cutT_in {L : List (List Int)} {I F : List Int} {v i : Nat} (hp : inB (v : Int) I = true) : cutT L I F v (i + 1) = cutT L I F v i := by
  rw [cutT, cutT, if_pos hp, if_pos hp]
theorem cutT_of {L : List (List Int)} {I F : List Int} {v i : Nat} (hv : v < L.length) (hi : i < L[v].length) (hq : inB L[v][i] F = true) : cutT L I F v (i + 1) = cutT L I F v i := by
  have hn := inB_iff.1 hq
  rw [cutT, cutT, getD_at hv, List.take_succ_eq_append_getElem hi, List.filter_append]
  simp [hn]
theorem cutT_all {L : List (List Int)} {I F : List Int} {v : Nat} (hv : v < L.length) : cutT L I F v L[v].length = cutR L I F v := by
  rw [cutT, cutR, getD_at hv, List.take_length]
  by_cases h : (v : Int) ∈ I
  · rw [if_pos (inB_iff.2 h), if_pos h]
  · rw [if_neg (fun e => h (inB_iff.1 e)), if_neg h]
theorem cutT_len (L : List (List Int)) (I F : List Int) (v i : Nat) : (cutT L I F v i).length ≤ i := by
  rw [cutT]
  split
  · simp
  · have h1 := List.length_filter_le (fun u => decide (¬ u ∈ F)) ((L.getD v []).take i)
    have h2 := List.length_take_le i (L.getD v [])
    omega

theorem OwI.underC {w w' : World} {B : Nat} {y : Value} {P : List PI2} (h : OwI w B y P) (hb : Below w.heap.size w w') : OwI w' B y P := ⟨own_kp h.1 (KpT.below hb), fun p hp => own_kp (h.2 p hp) (KpT.below hb)⟩

set_option maxRecDepth 100000 in
set_option maxHeartbeats 1000000 in
theorem rCut_any (a bi bf : Option Addr) (ca ci cf : Nat) (L : List (List Int)) (I F : List Int) (w : World) (h : LsS w a L) (hl : ∀ l ∈ L, l.length ≤ 1000) (hL : L.length ≤ 1000) (hi : IntS w bi I) (hf : IntS w bf F) (hil : I.length ≤ 1000) (hfl : F.length ≤ 1000) :
    Calls Try.prog 66 #[.slice a L.length ca, .slice bi I.length ci, .slice bf F.length cf] w fun e w' => ∃ y Ks, e = .returned y ∧ OwI w' w.heap.size y Ks ∧ Ks.map (·.2) = cutG L I F ∧ Below w.heap.size w w' := by
  have HF := hid h
  have HLL := hid hl
  have HII := hid (fun (u : Nat) (U : World) (hU : Below w.heap.size w U) => rIn_any (u : Int) bi ci I U (hi.below hU) (by omega))
  have HIF := hid (fun (u : Int) (U : World) (hU : Below w.heap.size w U) => rIn_any u bf cf F U (hf.below hU) (by omega))
  have HEND : Hid (∀ Ks : List PI2, Ks.map (·.2) = (List.range L.length).map (cutR L I F) → Ks.map (·.2) = cutG L I F) := fun Ks e => e
  have HT0 : Hid (∀ v, cutT L I F v 0 = []) := fun v => cutT_zero L I F v
  have HTY : Hid (∀ (v i : Nat) (hv : v < L.length) (hi : i < L[v].length), inB (v : Int) I = false → inB L[v][i] F = false → cutT L I F v (i + 1) = cutT L I F v i ++ [L[v][i]]) := fun v i hv hi hp hq => cutT_yes hv hi hp hq
  have HTI : Hid (∀ (v i : Nat), inB (v : Int) I = true → cutT L I F v (i + 1) = cutT L I F v i) := fun v i hp => cutT_in hp
  have HTF : Hid (∀ (v i : Nat) (hv : v < L.length) (hi : i < L[v].length), inB L[v][i] F = true → cutT L I F v (i + 1) = cutT L I F v i) := fun v i hv hi hq => cutT_of hv hi hq
  have HTA : Hid (∀ v (hv : v < L.length), cutT L I F v L[v].length = cutR L I F v) := fun v hv => cutT_all hv
  have HTL : Hid (∀ v i, (cutT L I F v i).length ≤ i) := cutT_len L I F
  obtain ⟨T, hT⟩ : ∃ T : Nat → Nat → List Int, ∀ v i, cutT L I F v i = T v i := ⟨fun v i => cutT L I F v i, fun _ _ => rfl⟩
  simp only [hT] at HT0 HTY HTI HTF HTA HTL
  clear h hl hi hf hT
  go_enter Try.func66, Try.ntmps66
  go_wp2_with fail
  go_loopw [7, 8] (fun ov iv wr => ∃ (v : Nat) (Ks : List PI2), v ≤ L.length ∧ iv = .int .i64 v ∧ Hid (OwI wr w.heap.size ov Ks) ∧ Hid (Ks.map (·.2) = (List.range v).map (cutR L I F)) ∧ Hid (Below w.heap.size w wr)) (fun _ iv _ => L.length - (intOf iv).toNat)
  case atStart => exact ⟨0, [], Nat.zero_le _, rfl, OwI.nil _ _, rfl, Below.refl _ _⟩
  case round =>
    obtain ⟨v, Ks, hv, rfl, HO, HK, HB⟩ := hrel
    rename World => W0
    by_cases hlt : v < L.length
    · obtain ⟨g, o, b, c, rfl, hg, hc, hb⟩ := HF.out v hlt
      have HC : Hid (∀ U : World, Below w.heap.size w U → U.cell? ⟨g, o + v, none⟩ = some (.slice b L[v].length c)) := fun U hU => (hU.cell (p := ⟨g, _, none⟩) hg).trans hc
      have HIB := hid hb
      have hlv := HLL.out _ (List.getElem_mem hlt)
      have HP := hid (HII.out v W0 HB.out)
      obtain ⟨p, hp⟩ : ∃ p, inB (v : Int) I = p := ⟨_, rfl⟩
      rw [hp] at HP
      have HPE := hid hp
      have HT0v := hid (HT0.out v)
      have HTAv := hid (HTA.out v hlt)
      have HTYv : Hid (∀ i (hi : i < L[v].length), p = false → inB L[v][i] F = false → T v (i + 1) = T v i ++ [L[v][i]]) := fun i hi h1 h2 => HTY.out v i hlt hi (by rw [hp, h1]) h2
      have HTIv : Hid (∀ i, p = true → T v (i + 1) = T v i) := fun i h1 => HTI.out v i (by rw [hp, h1])
      have HTFv : Hid (∀ i (hi : i < L[v].length), inB L[v][i] F = true → T v (i + 1) = T v i) := fun i hi h2 => HTF.out v i hlt hi h2
      have HTLv := hid (HTL.out v)
      have HKL : Hid (Ks.length = v) := by
        have := congrArg List.length HK.out
        rw [List.length_map, List.length_map, List.length_range] at this
        exact this
      have HKN : Hid (∀ x : Value, (Ks ++ [(x, cutR L I F v)]).map (·.2) = (List.range (v + 1)).map (cutR L I F)) := fun x => by rw [List.map_append, HK.out, List.range_succ, List.map_append]; rfl
      generalize cutR L I F v = cr at *
      obtain ⟨Tv, hTv⟩ : ∃ Tv, T v = Tv := ⟨_, rfl⟩
      rw [hTv] at HT0v HTAv HTYv HTIv HTFv HTLv
      clear hTv hc hb hp
      generalize hLv : L[v] = lv at *
      clear hLv
      go_wp2_with fail
      refine HP.out.mono ?_
      rintro e wq ⟨rfl, hwq⟩
      rw [hwq]
      clear hwq wq HP
      go_wp2_with fail
      go_loopw [9, 11] (fun tv jv wq => ∃ i : Nat, i ≤ lv.length ∧ jv = .int .i64 i ∧ Hid (RwI wq W0.heap.size tv (Tv i)) ∧ Hid (Below W0.heap.size W0 wq)) (fun _ jv _ => lv.length - (intOf jv).toNat)
      case atStart => exact ⟨0, Nat.zero_le _, rfl, by rw [HT0v.out]; exact ⟨rfl, .inl ⟨rfl, rfl⟩⟩, Below.refl _ _⟩
      case round =>
        obtain ⟨i, hi, rfl, HR, HW⟩ := hrel
        have HWB := hid (HB.out.trans (HW.out.mono HB.out.size))
        have kc := HC.out _ HWB.out
        by_cases hil2 : i < lv.length
        · obtain ⟨g2, o2, rfl, hg2, hc2⟩ := HIB.out i hil2
          have kc2 := (HWB.out.cell (p := ⟨g2, _, none⟩) hg2).trans hc2
          have HQ := hid (HIF.out lv[i] _ HWB.out)
          have HTYi := hid (HTYv.out i hil2)
          have HTFi := hid (HTFv.out i hil2)
          generalize lv[i] = x at *
          obtain ⟨q, hq⟩ : ∃ q, inB x F = q := ⟨_, rfl⟩
          rw [hq] at HQ HTYi HTFi
          clear hc2 hq
          go_wp2_with fail
          refine HQ.out.mono ?_
          rintro e wz ⟨rfl, hwz⟩
          rw [hwz]
          clear hwz wz HQ
          have HTIi := hid (HTIv.out i)
          clear HTIv HTYv HTFv
          cases p <;> cases q
          · have HE := hid (HTYi.out rfl rfl)
            have HOWN := hid HR.out.own
            have HRA := hid (World.ownsRow.alloc HR.out (.cells #[.int .i64 x] 3))
            have HBA := hid (HW.out.alloc HW.out.size (.cells #[.int .i64 x] 3))
            have HIA := hid (one_int wr x)
            have hle := HTLv.out i
            go_wp2_with (at_builtin; refine wpList_append_ints rfl _ _ rfl W0.heap.size _ (Tv i) [x] rfl HRA.out (some ⟨wr.heap.size, 0, none⟩) 1 rfl HIA.out (fun e => by cases e) (by simp; omega) HBA.out.size ?_; intro v' w7 hr7 hg7)
            have HR7 : Hid (RwI w7 W0.heap.size v' (Tv (i + 1))) := by rw [HE.out]; exact hr7
            have HB7 := hid (HBA.out.grown hg7 HBA.out.size HOWN.out)
            clear hr7 hg7
            go_wp2
            go_roundw
            case rel => exact ⟨i + 1, by omega, by go_num, HR7, HB7⟩
            case measure => simp [intOf]; omega
          · have HE := hid (HTFi.out rfl)
            go_wp2
            go_roundw
            case rel => exact ⟨i + 1, by omega, by go_num, by rw [HE.out]; exact HR, HW⟩
            case measure => simp [intOf]; omega
          · have HE := hid (HTIi.out rfl)
            go_wp2
            go_roundw
            case rel => exact ⟨i + 1, by omega, by go_num, by rw [HE.out]; exact HR, HW⟩
            case measure => simp [intOf]; omega
          · have HE := hid (HTIi.out rfl)
            go_wp2
            go_roundw
            case rel => exact ⟨i + 1, by omega, by go_num, by rw [HE.out]; exact HR, HW⟩
            case measure => simp [intOf]; omega
        · obtain rfl : i = lv.length := by omega
          rw [HTAv.out] at HR
          obtain ⟨d9, c9, rfl, _⟩ := HR.out.ints
          have hA := (Below.refl wr.heap.size wr).alloc (Nat.le_refl _) (.cells #[.slice d9 cr.length c9] 23)
          have HOA := hid ((HO.out.underC HW.out).underC hA)
          have HRA : Hid (RwI (wr.alloc (.cells #[.slice d9 cr.length c9] 23)) w.heap.size (.slice d9 cr.length c9) cr) := own_low (World.ownsRow.alloc HR.out _) HB.out.size
          have HBA := hid (HWB.out.trans (hA.mono HWB.out.size))
          have HCA := hid ((Boxed.new wr 23 (.slice d9 cr.length c9)).cell)
          have hkl := HKL.out
          have HOWN := hid (own_from HOA.out.1)
          clear hA
          go_wp2_with (at_builtin; refine wpList_append_list rfl _ _ rfl w.heap.size _ Ks d9 cr.length c9 rfl HOA.out.1 wr.heap.size rfl HCA.out (by omega) HBA.out.size ?_; intro v' w7 ho7 hg7)
          have HO7 := hid (HOA.out.pushC HRA.out ho7 hg7)
          have HB7 := hid (HBA.out.grown hg7 HBA.out.size (fun k e => HOWN.out k e))
          have HK7 := hid (HKN.out (.slice d9 cr.length c9))
          clear ho7 hg7
          go_wp2
          go_roundw
          case rel => exact ⟨v + 1, _, by omega, by go_num, HO7, HK7, HB7⟩
          case measure => simp [intOf]; omega
    · obtain rfl : v = L.length := by omega
      have HE := hid (HEND.out Ks HK.out)
      go_wp2
      go_ret
      exact ⟨_, Ks, rfl, HO.out, HE.out, HB.out⟩
end Go.Proofs.Ytockhhleapbpiaa

