/- The document's answers: apartSets, Apart. -/
import Derived.Test.YthcfgoknphpkdaaAnsDOwn
import Derived.Test.YthcfgoknphpkdaaTreFToFilA
import Derived.Test.YthcfgoknphpkdaaOrdAToListB
import Derived.Test.YthcfgoknphpkdaaTreDToWayA
import Derived.Maps.OwnSet
import Derived.DeepKeys4
namespace Go.Proofs.Ythcfgoknphpkdaa
open Go.RowKit Go.Shelf

/-- Sets that rise, of nodes, none of which is in two. -/
def apB (n : Nat) (Ls : List (List Int)) : Bool := allRis Ls n && decide Ls.flatten.Nodup
theorem apB_ris {n : Nat} {Ls : List (List Int)} {i : Nat} (h : i < Ls.length) (e : risB Ls[i] n = false) : apB n Ls = false := by rw [apB, allRis_bad h e]; rfl
/-- Those that were met, as far as the first k of list i. -/
def metL (Ls : List (List Int)) (i k : Nat) : List Int := (Ls.take i).flatten ++ (Ls.getD i []).take k
theorem metL_next {Ls : List (List Int)} {i : Nat} (h : i < Ls.length) : metL Ls i (Ls.getD i []).length = metL Ls (i + 1) 0 := by
  have e : Ls.getD i [] = Ls[i] := by rw [List.getD_eq_getElem?_getD, List.getElem?_eq_getElem h]; rfl
  rw [metL, metL, List.take_length, List.take_zero, List.append_nil, List.take_succ_eq_append_getElem h, List.flatten_append, e]; simp
theorem metL_step {Ls : List (List Int)} {i k : Nat} (hk : k < (Ls.getD i []).length) : metL Ls i (k + 1) = metL Ls i k ++ [(Ls.getD i [])[k]] := by
  rw [metL, metL, List.take_succ_eq_append_getElem hk, List.append_assoc]
theorem metL_pre {Ls : List (List Int)} {i k : Nat} (h : i < Ls.length) (hk : k < (Ls.getD i []).length) : ∃ rest, Ls.flatten = metL Ls i k ++ (Ls.getD i [])[k] :: rest := by
  have e : Ls.getD i [] = Ls[i] := by rw [List.getD_eq_getElem?_getD, List.getElem?_eq_getElem h]; rfl
  refine ⟨(Ls.getD i []).drop (k + 1) ++ (Ls.drop (i + 1)).flatten, ?_⟩
  have h1 : Ls = Ls.take i ++ Ls[i] :: Ls.drop (i + 1) := by rw [List.getElem_cons_drop, List.take_append_drop]
  have h2 : Ls.getD i [] = (Ls.getD i []).take k ++ (Ls.getD i [])[k] :: (Ls.getD i []).drop (k + 1) := by rw [List.getElem_cons_drop, List.take_append_drop]
  have h3 : Ls.flatten = (Ls.take i).flatten ++ (Ls[i] ++ (Ls.drop (i + 1)).flatten) := by
    conv => lhs; rw [h1]
    rw [List.flatten_append, List.flatten_cons]
  rw [h3, metL, ← e, List.append_assoc]
  congr 1
  exact (congrArg (fun s => s ++ (Ls.drop (i + 1)).flatten) h2).trans (by rw [List.append_assoc, List.cons_append])
theorem metL_twice {n : Nat} {Ls : List (List Int)} {i k : Nat} (h : i < Ls.length) (hk : k < (Ls.getD i []).length) (hm : (Ls.getD i [])[k] ∈ metL Ls i k) : apB n Ls = false := by
  obtain ⟨rest, e⟩ := metL_pre h hk
  have : ¬ Ls.flatten.Nodup := fun hn => by
    rw [e] at hn
    exact (List.nodup_append.1 hn).2.2 _ hm _ List.mem_cons_self rfl
  rw [apB, decide_eq_false this, Bool.and_false]
theorem apB_yes {n : Nat} {Ls : List (List Int)} (hr : ∀ i (h : i < Ls.length), risB Ls[i] n = true) (hn : (metL Ls Ls.length 0).Nodup) : apB n Ls = true := by
  have h1 : allRis Ls n = true := List.all_eq_true.2 fun l hl => by
    obtain ⟨i, hi, rfl⟩ := List.getElem_of_mem hl
    exact hr i hi
  rw [metL, List.take_length, List.take_zero, List.append_nil] at hn
  rw [apB, h1, decide_eq_true hn]; rfl

set_option maxRecDepth 100000 in
set_option maxHeartbeats 1000000 in
theorem apartSets_any (a : Option Addr) (ca n : Nat) (Ls : List (List Int)) (w : World) (h : LsS w a Ls) (hl : ∀ l ∈ Ls, l.length ≤ 1000) (hL : Ls.length ≤ 4) :
    Calls Try.prog 35 #[.int .i64 (n : Nat), .slice a Ls.length ca] w fun e w' => e = .returned (.bool (apB n Ls)) ∧ Below w.heap.size w w' := by
  have HV : Hid (∀ i, i < Ls.length → ∃ g o b c, a = some ⟨g, o, none⟩ ∧ ∀ U : World, Below w.heap.size w U → U.cell? ⟨g, o + i, none⟩ = some (.slice b (Ls.getD i []).length c) ∧ IntS U b (Ls.getD i [])) := fun i hi => by
    obtain ⟨g, o, b, c, e1, e2, e3, e4⟩ := h i hi
    have e : Ls.getD i [] = Ls[i] := by rw [List.getD_eq_getElem?_getD, List.getElem?_eq_getElem hi]; rfl
    rw [e]
    exact ⟨g, o, b, c, e1, fun U hU => ⟨(hU.cell (p := ⟨g, _, none⟩) e2).trans e3, e4.below hU⟩⟩
  have HLL : Hid (∀ i, (Ls.getD i []).length ≤ 1000) := fun i => by
    by_cases hi : i < Ls.length
    · rw [List.getD_eq_getElem?_getD, List.getElem?_eq_getElem hi]; exact hl _ (List.getElem_mem hi)
    · rw [List.getD_eq_getElem?_getD, List.getElem?_eq_none (by omega)]; exact Nat.zero_le _
  have HR : Hid (∀ (i : Nat) (b : Option Addr) (c : Nat) (U : World), IntS U b (Ls.getD i []) → Calls Try.prog 31 #[.slice b (Ls.getD i []).length c, .int .i64 (n : Nat)] U fun e w' => e = .returned (.bool (risB (Ls.getD i []) n)) ∧ Below U.heap.size U w') := fun i b c U hi => rRising_any b c (Ls.getD i []) n U hi (by have := HLL.out i; omega)
  have HBR : Hid (∀ i, i < Ls.length → risB (Ls.getD i []) n = false → apB n Ls = false) := fun i hi e => apB_ris hi (by rw [← e, List.getD_eq_getElem?_getD, List.getElem?_eq_getElem hi]; rfl)
  have HBT : Hid (∀ i k, i < Ls.length → k < (Ls.getD i []).length → (Ls.getD i []).getD k 0 ∈ metL Ls i k → apB n Ls = false) := fun i k hi hk hm => metL_twice hi hk (by rw [← getD_eq hk]; exact hm)
  have HBY : Hid ((∀ i, i < Ls.length → risB (Ls.getD i []) n = true) → (metL Ls Ls.length 0).Nodup → apB n Ls = true) := fun h1 h2 => apB_yes (fun i hi => by
    have := h1 i hi
    rw [List.getD_eq_getElem?_getD, List.getElem?_eq_getElem hi] at this
    exact this) h2
  have HMN : Hid (∀ i, i < Ls.length → metL Ls i (Ls.getD i []).length = metL Ls (i + 1) 0) := fun i hi => metL_next hi
  have HMS : Hid (∀ i k, k < (Ls.getD i []).length → metL Ls i (k + 1) = metL Ls i k ++ [(Ls.getD i []).getD k 0]) := fun i k hk => by rw [getD_eq hk]; exact metL_step hk
  have HM0 : Hid (metL Ls 0 0 = []) := by show _ = _; simp [metL]
  have HML : Hid (∀ i k, i < 4 → (metL Ls i k).length ≤ 5000) := fun i k hi => by
    have h1 : ∀ j, j ≤ 3 → (Ls.take j).flatten.length ≤ j * 1000 := fun j => by
      induction j with
      | zero => intro _; simp
      | succ j ih =>
        intro hj
        by_cases hjl : j < Ls.length
        · rw [List.take_succ_eq_append_getElem hjl, List.flatten_append, List.length_append]
          have := ih (by omega)
          have := hl _ (List.getElem_mem hjl)
          rw [show ([Ls[j]] : List (List Int)).flatten = Ls[j] by simp]
          omega
        · rw [List.take_of_length_le (by omega)]
          have := ih (by omega)
          rw [List.take_of_length_le (by omega)] at this
          omega
    have h2 := h1 i (by omega)
    have h3 := HLL.out i
    rw [metL, List.length_append, List.length_take]
    omega
  clear h hl
  obtain ⟨F, hF⟩ : ∃ F : Nat → List Int, ∀ k, Ls.getD k [] = F k := ⟨fun k => Ls.getD k [], fun _ => rfl⟩
  simp only [hF] at HV HLL HR HBR HBT HBY HMN HMS
  clear hF
  generalize apB n Ls = RES at *
  generalize metL Ls = M at *
  go_enter Try.func35, Try.ntmps35
  go_wp2_with fail
  go_loopw [5, 6] (fun av iv wr => ∃ i : Nat, i ≤ Ls.length ∧ iv = .int .i64 i ∧ Hid (RwI wr w.heap.size av (M i 0)) ∧ Hid ((M i 0).Nodup) ∧ Hid (∀ j, j < i → risB (F j) n = true) ∧ Hid (Below w.heap.size w wr)) (fun _ iv _ => Ls.length - (intOf iv).toNat)
  case atStart => exact ⟨0, Nat.zero_le _, rfl, by rw [HM0.out]; exact ⟨rfl, .inl ⟨rfl, rfl⟩⟩, by show List.Nodup _; rw [HM0.out]; exact List.nodup_nil, fun j hj => absurd hj (Nat.not_lt_zero _), Below.refl _ _⟩
  case round =>
    obtain ⟨i, hi, rfl, HA, HND, HRS, HB⟩ := hrel
    by_cases hil : i < Ls.length
    · obtain ⟨g, o, b, c, rfl, hkc⟩ := HV.out i hil
      obtain ⟨c0, hI⟩ := hkc wr HB.out
      have HKC := hid hkc
      have HC := hid (HR.out i b c wr hI)
      have HBRi := hid (HBR.out i hil)
      have HBTi := hid (fun k hk => HBT.out i k hil hk)
      have HMSi := hid (HMS.out i)
      have HMNi := hid (HMN.out i hil)
      have HMLi := hid (fun k => HML.out i k (by omega))
      have hfl := HLL.out i
      have HRSi : Hid (risB (F i) n = true → ∀ j, j < i + 1 → risB (F j) n = true) := fun h j hj => by
        rcases Nat.lt_or_ge j i with h1 | h1
        · exact HRS.out j h1
        · rw [show j = i by omega]; exact h
      clear hkc hI HR
      generalize F i = l at *
      go_wp2_with fail
      refine HC.out.mono ?_
      rintro e w1 ⟨rfl, hb1⟩
      have HB1 := hid (HB.out.trans (hb1.mono HB.out.size))
      have HA1 := hid (RwI.under HA.out hb1)
      clear hb1 HC HA HB c0
      cases hq : risB l n with
      | false =>
        have hR := HBRi.out hq
        clear hq
        go_wp2
        go_ret
        exact ⟨by rw [hR]; rfl, HB1.out⟩
      | true =>
        have HRN := hid (HRSi.out hq)
        clear hq HRSi HBRi
        go_wp2_with fail
        go_loopw [5, 8] (fun av kv wr => ∃ k : Nat, k ≤ l.length ∧ kv = .int .i64 k ∧ Hid (RwI wr w.heap.size av (M i k)) ∧ Hid ((M i k).Nodup) ∧ Hid (Below w.heap.size w wr)) (fun _ kv _ => l.length - (intOf kv).toNat)
        case atStart => exact ⟨0, Nat.zero_le _, rfl, HA1, HND, HB1⟩
        case round =>
          obtain ⟨k, hk, rfl, HA, HN2, HB⟩ := hrel
          obtain ⟨c0, hI⟩ := HKC.out wr HB.out
          obtain ⟨da, cda, rfl, hai⟩ := HA.out.ints
          by_cases hkl : k < l.length
          · obtain ⟨g2, o2, rfl, hg2, c2⟩ := hI k hkl
            have HIN := hid (rIn_any l[k] da cda (M i k) wr hai (by have := HMLi.out k; omega))
            have HBTk := hid (HBTi.out k hkl)
            have HMSk := hid (HMSi.out k hkl)
            rw [getD_eq hkl] at HBTk HMSk
            have hml := HMLi.out k
            have HNX : Hid (¬ l[k] ∈ M i k → (M i (k + 1)).Nodup) := fun hm => by
              show List.Nodup _
              rw [HMSk.out]
              refine List.nodup_append.2 ⟨HN2.out, by simp, fun x hx y hy => ?_⟩
              rw [List.mem_singleton.1 hy]
              exact fun e => hm (e ▸ hx)
            generalize l[k] = x at *
            clear hI hai
            go_wp2_with fail
            refine HIN.out.mono ?_
            rintro e w3 ⟨rfl, rfl⟩
            cases hin : inB x (M i k) with
            | true =>
              have hR := HBTk.out (inB_mem.1 hin)
              clear hin
              go_wp2
              go_ret
              exact ⟨by rw [hR]; rfl, HB.out⟩
            | false =>
              have HN3 := hid (HNX.out fun hm => by rw [inB_mem.2 hm] at hin; cases hin)
              clear hin HIN
              have HOWN := hid HA.out.own
              have HRAA := hid (World.ownsRow.alloc HA.out (.cells #[.int .i64 x] 3))
              have HBA := hid (HB.out.alloc HB.out.size (.cells #[.int .i64 x] 3))
              have HIA := hid (one_int w3 x)
              go_wp2_with (at_builtin; refine wpList_append_ints rfl _ _ rfl w.heap.size _ (M i k) [x] rfl HRAA.out (some ⟨w3.heap.size, 0, none⟩) 1 rfl HIA.out (fun e => by cases e) (by simp; omega) HBA.out.size ?_; intro v' w7 hr7 hg7)
              have HR7 : Hid (RwI w7 w.heap.size v' (M i (k + 1))) := by show RwI w7 w.heap.size v' (M i (k + 1)); rw [HMSk.out]; exact hr7
              have HB7 := hid (HBA.out.grown hg7 HBA.out.size HOWN.out)
              clear hr7 hg7
              go_wp2
              go_roundw
              case rel => exact ⟨k + 1, by omega, by go_num, HR7, HN3, HB7⟩
              case measure => simp [intOf]; omega
          · obtain rfl : k = l.length := by omega
            have HA2 : Hid (RwI wr w.heap.size (.slice da (M i l.length).length cda) (M (i + 1) 0)) := by show RwI _ _ _ (M (i + 1) 0); rw [← HMNi.out]; exact HA.out
            have HN3 : Hid ((M (i + 1) 0).Nodup) := by show List.Nodup _; rw [← HMNi.out]; exact HN2.out
            clear hI hai
            go_wp2
            go_roundw
            case rel => exact ⟨i + 1, by omega, by go_num, HA2, HN3, HRN, HB⟩
            case measure => simp [intOf]; omega
    · obtain rfl : i = Ls.length := by omega
      have hR := HBY.out HRS.out HND.out
      go_wp2
      go_ret
      exact ⟨by rw [hR]; rfl, HB.out⟩
/-- Does an open way go from one of x? -/
def opX (L : List (List Int)) (x y z : List Int) : Bool := (toN x).any fun v => opF (parN L) L.length (fun v => decide (v ∈ toN y)) (fun v => decide (v ∈ toN z)) (fun v => abO L v (toN z)) L.length [v]

set_option maxRecDepth 100000 in
set_option maxHeartbeats 1000000 in
theorem rApart_any (a bx by' bz : Option Addr) (ca cx cy cz : Nat) (L : List (List Int)) (x y z : List Int) (w : World) (h : LsS w a L) (hl : ∀ l ∈ L, l.length ≤ 1000) (hL : L.length ≤ 1000) (hx : IntS w bx x) (hy : IntS w by' y) (hz : IntS w bz z) (hxl : x.length ≤ 1000) (hyl : y.length ≤ 1000) (hzl : z.length ≤ 1000) :
    Calls Try.prog 14 #[.slice a L.length ca, .slice bx x.length cx, .slice by' y.length cy, .slice bz z.length cz] w fun e w' => Below w.heap.size w w' ∧
      ((gcE L ≠ 0 ∧ e = .returned (.tuple #[.bool false, .int .i64 (gcE L)])) ∨ (gcE L = 0 ∧ apB L.length [x, y, z] = false ∧ e = .returned (.tuple #[.bool false, .int .i64 11])) ∨
       (gcE L = 0 ∧ apB L.length [x, y, z] = true ∧ e = .returned (.tuple #[.bool (!opX L x y z), .int .i64 0]))) := by
  have HG := hid (rGraphCheck_any a ca L w h (fun l hl' => by have := hl l hl'; omega) (by omega))
  by_cases hg : gcE L = 0
  · have hlen3 : ([x, y, z] : List (List Int)).length = 3 := rfl
    have HAS : Hid (∀ (G : Nat) (U : World), LsS U (some ⟨G, 0, none⟩) [x, y, z] → Calls Try.prog 35 #[.int .i64 (L.length : Nat), .slice (some ⟨G, 0, none⟩) 3 3] U fun e w' => e = .returned (.bool (apB L.length [x, y, z])) ∧ Below U.heap.size U w') := fun G U hU => apartSets_any (some ⟨G, 0, none⟩) 3 L.length [x, y, z] U hU (fun l hl' => by
      simp only [List.mem_cons, List.not_mem_nil, or_false] at hl'
      rcases hl' with rfl | rfl | rfl <;> assumption) (by simp)
    have HLS : Hid (∀ U : World, Below w.heap.size w U → LsS (U.alloc (.cells #[.slice bx x.length cx, .slice by' y.length cy, .slice bz z.length cz] 23)) (some ⟨U.heap.size, 0, none⟩) [x, y, z]) := fun U hU k hk => by
      have hA := (Below.refl U.heap.size U).alloc (Nat.le_refl _) (.cells #[.slice bx x.length cx, .slice by' y.length cy, .slice bz z.length cz] 23)
      have hnew := heap_alloc_new U (.cells #[.slice bx x.length cx, .slice by' y.length cy, .slice bz z.length cz] 23)
      have hlt := (Array.getElem?_eq_some_iff.1 hnew).1
      match k, hk with
      | 0, _ => exact ⟨_, 0, bx, cx, rfl, hlt, by rw [cell_of_row _ U.heap.size _ _ _ (0, 0) hnew]; rfl, (hx.below hU).below hA⟩
      | 1, _ => exact ⟨_, 0, by', cy, rfl, hlt, by rw [cell_of_row _ U.heap.size _ _ _ (0, 0) hnew]; rfl, (hy.below hU).below hA⟩
      | 2, _ => exact ⟨_, 0, bz, cz, rfl, hlt, by rw [cell_of_row _ U.heap.size _ _ _ (0, 0) hnew]; rfl, (hz.below hU).below hA⟩
    have hris : apB L.length [x, y, z] = true → (risB x L.length = true ∧ risB y L.length = true) ∧ risB z L.length = true := fun h => by
      rw [apB, Bool.and_eq_true] at h
      have h1 := List.all_eq_true.1 h.1
      exact ⟨⟨h1 x (by simp), h1 y (by simp)⟩, h1 z (by simp)⟩
    have HOP : Hid (apB L.length [x, y, z] = true → ∀ (v : Nat), v < L.length → ∀ (b : Option Addr) (c : Nat) (W : World), Below w.heap.size w W → IntS W b [((v : Nat) : Int)] → Calls Try.prog 36 #[.slice a L.length ca, .slice b 1 c, .slice by' y.length cy, .slice bz z.length cz] W fun e w' => e = .returned (.bool (opF (parN L) L.length (fun v => decide (v ∈ toN y)) (fun v => decide (v ∈ toN z)) (fun v => abO L v (toN z)) L.length [v])) ∧ Below W.heap.size W w') := fun hap v hv b c W hW hI => by
      obtain ⟨⟨_, hry⟩, hrz⟩ := hris hap
      have := rOpen_any a by' bz ca cy cz L y z w h hl hg hy hz hyl hzl (ris_nonneg hry) (fun x hx => by
        have := ris_up hrz
        obtain ⟨i, hi, rfl⟩ := List.getElem_of_mem hx
        exact this.each i hi) L.length v [] b c W rfl (by simp) (fun x hx => by rw [List.mem_singleton.1 hx]; exact hv) hW (by simpa [iL] using hI)
      exact this
    have HXL : Hid (apB L.length [x, y, z] = true → ∀ v ∈ x, 0 ≤ v ∧ v < (L.length : Int)) := fun hap v hv => by
      have := ris_up (hris hap).1.1
      obtain ⟨i, hi, rfl⟩ := List.getElem_of_mem hv
      exact this.each i hi
    have HAT : Hid (∀ i (h : i < (toN x).length), ((toN x).take (i + 1)).any (fun v => opF (parN L) L.length (fun v => decide (v ∈ toN y)) (fun v => decide (v ∈ toN z)) (fun v => abO L v (toN z)) L.length [v]) = (((toN x).take i).any (fun v => opF (parN L) L.length (fun v => decide (v ∈ toN y)) (fun v => decide (v ∈ toN z)) (fun v => abO L v (toN z)) L.length [v]) || opF (parN L) L.length (fun v => decide (v ∈ toN y)) (fun v => decide (v ∈ toN z)) (fun v => abO L v (toN z)) L.length [(toN x)[i]])) := fun i h => any_take h
    have HAY : Hid (∀ c ∈ toN x, opF (parN L) L.length (fun v => decide (v ∈ toN y)) (fun v => decide (v ∈ toN z)) (fun v => abO L v (toN z)) L.length [c] = true → opX L x y z = true) := fun c hc h1 => List.any_eq_true.2 ⟨c, hc, h1⟩
    have HA0 : Hid (((toN x).take 0).any (fun v => opF (parN L) L.length (fun v => decide (v ∈ toN y)) (fun v => decide (v ∈ toN z)) (fun v => abO L v (toN z)) L.length [v]) = false) := by show _ = _; rw [List.take_zero]; rfl
    have HAE : Hid (((toN x).take (toN x).length).any (fun v => opF (parN L) L.length (fun v => decide (v ∈ toN y)) (fun v => decide (v ∈ toN z)) (fun v => abO L v (toN z)) L.length [v]) = opX L x y z) := by show _ = _; rw [List.take_length]; rfl
    have HX := hid hx
    have HGE := hid hg
    rw [hg] at HG
    clear h hl hx hy hz hg hris hlen3
    generalize opX L x y z = RES at *
    obtain ⟨OP, hOP⟩ : ∃ OP : Nat → Bool, ∀ v, opF (parN L) L.length (fun v => decide (v ∈ toN y)) (fun v => decide (v ∈ toN z)) (fun v => abO L v (toN z)) L.length [v] = OP v := ⟨fun v => opF (parN L) L.length (fun v => decide (v ∈ toN y)) (fun v => decide (v ∈ toN z)) (fun v => abO L v (toN z)) L.length [v], fun _ => rfl⟩
    have HAT' : Hid (∀ i c, i < (toN x).length → (toN x)[i]? = some c → ((toN x).take (i + 1)).any OP = (((toN x).take i).any OP || OP c)) := fun i c hi hc => by
      have := any_take (p := OP) hi
      rw [List.getElem?_eq_getElem hi] at hc
      cases hc
      exact this
    simp only [hOP] at HOP HAY HA0 HAE
    clear hOP HAT
    go_enter Try.func14, Try.ntmps14
    go_wp2_with fail
    refine HG.out.mono ?_
    rintro e w1 ⟨rfl, hb1⟩
    have HB1 := hid hb1
    have HS1 := hid (HAS.out w1.heap.size _ (HLS.out w1 hb1))
    have hA := (Below.refl w1.heap.size w1).alloc (Nat.le_refl _) (.cells #[.slice bx x.length cx, .slice by' y.length cy, .slice bz z.length cz] 23)
    have HB2 := hid (hb1.trans (hA.mono hb1.size))
    clear hb1 hA HG HAS HLS
    obtain ⟨ap, hap⟩ : ∃ ap, apB L.length [x, y, z] = ap := ⟨_, rfl⟩
    rw [hap] at HS1 HOP HXL
    have HAP := hid hap
    clear hap
    go_wp2_with fail
    refine HS1.out.mono ?_
    rintro e w2 ⟨rfl, hb2⟩
    have HB3 := hid (HB2.out.trans (hb2.mono HB2.out.size))
    clear hb2 HS1 HB2 HB1
    cases ap with
    | false =>
      go_wp2
      go_ret2
      exact ⟨HB3.out, .inr (.inl ⟨HGE.out, HAP.out, rfl⟩)⟩
    | true =>
      have HOP1 := hid (HOP.out (by first | rfl | trivial))
      have HXL1 := hid (HXL.out (by first | rfl | trivial))
      clear HOP HXL
      go_wp2_with fail
      go_loopw [12] (fun iv wr => ∃ i : Nat, i ≤ x.length ∧ iv = .int .i64 i ∧ Hid (((toN x).take i).any OP = false) ∧ Hid (Below w.heap.size w wr)) (fun iv _ => x.length - (intOf iv).toNat)
      case atStart => exact ⟨0, Nat.zero_le _, rfl, HA0, HB3⟩
      case round =>
        obtain ⟨i, hi, rfl, HF, HB⟩ := hrel
        clear HB3
        by_cases hil : i < x.length
        · obtain ⟨g, o, rfl, hgx, c0⟩ := (HX.out.below HB.out) i hil
          obtain ⟨hnn, hnl⟩ := HXL1.out _ (List.getElem_mem hil)
          have hil2 : i < (toN x).length := by rw [toN_length]; exact hil
          have hti : (toN x)[i] = x[i].toNat := toN_get hil
          have hci : ((x[i].toNat : Nat) : Int) = x[i] := by omega
          have hcl : x[i].toNat < L.length := by omega
          have HT := hid (HAT'.out i x[i].toNat hil2 (by rw [List.getElem?_eq_getElem hil2, hti]))
          have HY := hid (HAY.out x[i].toNat (by rw [← hti]; exact List.getElem_mem hil2))
          rw [HF.out, Bool.false_or] at HT
          rw [← hci] at c0
          generalize x[i].toNat = cc at *
          have hA := (Below.refl wr.heap.size wr).alloc (Nat.le_refl _) (.cells #[.int .i64 (cc : Nat)] 3)
          have HC := hid (HOP1.out cc hcl (some ⟨wr.heap.size, 0, none⟩) 1 _ (HB.out.trans (hA.mono HB.out.size)) (one_int wr (cc : Nat)))
          have HBA := hid (HB.out.trans (hA.mono HB.out.size))
          clear hA hci hti hil2 hnn hnl hcl
          go_wp2_with fail
          refine HC.out.mono ?_
          rintro e w5 ⟨rfl, hb5⟩
          have HB5 := hid (HBA.out.trans (hb5.mono HBA.out.size))
          clear hb5 HC HBA
          generalize OP cc = qc at *
          cases qc with
          | true =>
            have hR : RES = true := HY.out (by first | rfl | trivial)
            clear HY HT
            go_wp2
            go_ret2
            exact ⟨HB5.out, .inr (.inr ⟨HGE.out, HAP.out, by first | rfl | (rw [hR]; rfl)⟩)⟩
          | false =>
            clear HY
            go_wp2
            go_roundw
            case rel => exact ⟨i + 1, by omega, by go_num, HT, HB5⟩
            case measure => simp [intOf]; omega
        · obtain rfl : i = x.length := by omega
          have hR : RES = false := by
            rw [← HAE.out, toN_length]
            exact HF.out
          go_wp2
          go_ret2
          exact ⟨HB.out, .inr (.inr ⟨HGE.out, HAP.out, by first | rfl | (rw [hR]; rfl)⟩)⟩
  · have HGE := hid hg
    have hne : ((gcE L : Int) != 0) = true := by simpa using hg
    clear h hl hg hx hy hz
    generalize gcE L = ge at *
    go_enter Try.func14, Try.ntmps14
    go_wp2_with fail
    refine HG.out.mono ?_
    rintro e w1 ⟨rfl, hb1⟩
    go_wp2
    go_ret2
    exact ⟨hb1, .inl ⟨HGE.out, rfl⟩⟩
end Go.Proofs.Ythcfgoknphpkdaa


/- Package graph: comings. -/
namespace Go.Proofs.Ythcfgoknphpkdaa
open Go.RowKit Go.Shelf

attribute [local go_sem] Oper.semAt_some

/-- An append leaves a row where it was, or makes a new block. -/
theorem run_append_new {P : Program} (w : World) (base : Nat) (t ty e : TypeId) (i : TypeInfo) (z : Value) (size bytes : Nat) (ht : P.underlying t = some (.slice e)) (hi : P.info? e = some i) (hz : i.zero = some z) (hsize : i.size = size) (hby : i.bytes = bytes) (hzs : z.cells.size = size) (hsz : 0 < size)
    (v : Value) (n : Nat) (xs : List Value) (hown : w.ownsRow base e size v n xs) (a : Addr) (m c : Nat) (news : List Value) (hl : news.length = m * size) (hnews : ∀ j u, news[j]? = some u → w.cell? (a.add j) = some u) (h1 : ∀ u ∈ news, u.oneCell' = true)
    (h63 : n + m ≤ maxLen) (hbytes : (n + m) * bytes ≤ 140737488355328) (hbase : base ≤ w.heap.size) (hm : 0 < m) :
    ∃ v' w', (Builtin.append_ #[t, t] ty #[v, .slice (some a) m c]).run P w = .ok v' w' ∧ w'.ownsRow base e size v' (n + m) (xs ++ news) ∧ w.grownBy w' v.ownBlock ∧ (v'.ownBlock = v.ownBlock ∨ ∀ k, v'.ownBlock = some k → w.heap.size ≤ k) := by
  obtain ⟨v', w', hr, h2, h3, -⟩ := run_append_own (P := P) w base t ty e i z size bytes ht hi hz hsize hby hzs hsz v n xs hown a m c news hl hnews h1 h63 hbytes hbase
  refine ⟨v', w', hr, h2, h3, ?_⟩
  have hsmall : n + m ≤ 9223372036854775807 := by simp only [maxLen] at h63; omega
  subst hsize
  subst hby
  rcases hown.2 with ⟨h4, h5⟩ | ⟨g', cap, cur, h4, hbg, hg', hnc, hcm, hcs, htake⟩
  · right
    have e' := run_append_nil (P := P) w t ty e i z ht hi hz a m c news hl hnews hm (by omega) (by
      have hb := hbytes
      rw [h5, Nat.zero_add] at hb
      omega)
    rw [h4] at hr
    rw [hr] at e'
    cases e'
    intro k hk
    cases hk
    exact Nat.le_refl _
  · rw [h4] at hr
    by_cases hroom : n + m ≤ cap
    · left
      have hfit : n * i.size + news.length ≤ cur.size := by rw [hl, hcs, ← Nat.add_mul]; exact Nat.mul_le_mul_right _ hroom
      have e' := run_append_room (P := P) w t ty e i ht hi g' n cap cur hg' a m c news hl hnews h1 hroom hfit
      rw [hr] at e'
      cases e'
      rw [h4]; rfl
    · right
      have hown' := hown
      rw [h4] at hown'
      have e' := run_append_grow (P := P) w t ty e i z ht hi hz ⟨g', 0, none⟩ n cap xs hown'.1 (World.ownsRow.cells hown' rfl) a m c news hl hnews (by omega) (by omega) (growslice_fits (by omega) hbytes)
      rw [hr] at e'
      cases e'
      intro k hk
      cases hk
      exact Nat.le_refl _
theorem wpListIn_append_new {F : Fence} {n : Nat} {P : Program} (w : World) {ops : Array Oper} {rest : List Oper} {o : Oper} {a : Act} {Q : Exit → Act → World → Prop}
    (hg : o.guard = none) (s x : Operand) (t : TypeId) (hop : o.op = Op.call { callee := Callee.builtin Builtin.append, args := #[s, x], argTypes := #[t, t] })
    (base : Nat) (e : TypeId) (i : TypeInfo) (z : Value) (size bytes : Nat) (h1 : P.underlying t = some (.slice e)) (h2 : P.info? e = some i) (h3 : i.zero = some z) (h4 : i.size = size) (h5 : i.bytes = bytes) (h6 : z.cells.size = size) (h7 : 0 < size)
    (v : Value) (k : Nat) (xs : List Value) (hs : a.eval s = v) (hown : w.ownsRow base e size v k xs) (ad : Addr) (m c : Nat) (news : List Value) (hx : a.eval x = .slice (some ad) m c) (hn : news.length = m * size)
    (hc : ∀ j u, news[j]? = some u → w.cell? (ad.add j) = some u) (h1c : ∀ u ∈ news, u.oneCell' = true) (b1 : k + m ≤ maxLen) (b2 : (k + m) * bytes ≤ 140737488355328) (b3 : base ≤ w.heap.size) (hm : 0 < m)
    (hK : ∀ v' w', w'.ownsRow base e size v' (k + m) (xs ++ news) → w.grownBy w' v.ownBlock → (v'.ownBlock = v.ownBlock ∨ ∀ k, v'.ownBlock = some k → w.heap.size ≤ k) → wpListIn F n P ops Q rest (a.put o.dst v') w') :
    wpListIn F n P ops Q (o :: rest) a w := by
  refine wpListIn_plain hg fun K hK' => ?_
  obtain ⟨v', w', hrun, r1, r2, r3⟩ := run_append_new (P := P) w base t o.type e i z size bytes h1 h2 h3 h4 h5 h6 h7 v k xs hown ad m c news hn hc h1c b1 b2 b3 hm
  unfold Oper.wpIn
  refine ⟨?_, ?_⟩
  · simp [Oper.about, hop, resolve, Target.leads, Sem.run_pure]
  · rw [Oper.semAt_plain F _ _ (by rw [hop]; intro c hc'; cases hc')]
    simp [execOp, hop, resolve, invoke, builtin, hs, hx, hrun, Result.andThen]
    exact hK' _ _ (hK v' w' r1 r2 r3)
/-- How a way comes to nodes, as it lies there. -/
def cmC : List (Nat × Bool) → List Value
  | [] => []
  | p :: l => .int .i64 (p.1 : Nat) :: .bool p.2 :: cmC l
theorem cmC_length : ∀ l, (cmC l).length = l.length * 2
  | [] => rfl
  | p :: l => by
    show (cmC l).length + 1 + 1 = (l.length + 1) * 2
    rw [cmC_length l]; omega
theorem cmC_append (m : List (Nat × Bool)) : ∀ l, cmC (l ++ m) = cmC l ++ cmC m
  | [] => rfl
  | q :: l => by
    show _ :: _ :: cmC (l ++ m) = _ :: _ :: (cmC l ++ cmC m)
    rw [cmC_append m l]
def OwC (w : World) (B : Nat) (v : Value) (l : List (Nat × Bool)) : Prop := w.ownsRow B 77 2 v l.length (cmC l)
theorem Try.infoComing : (Try.prog.info? 77).map (fun i => (i.zero, i.size, i.bytes)) = some (some (.agg #[.int .i64 0, .bool false]), 2, 16) := by kernel_rfl
/-- Where a row grows, or its like anew. -/
def GrS (w V : World) (lv v : Value) : Prop := w.grownBy V lv.ownBlock ∧ (v.ownBlock = lv.ownBlock ∨ ∀ g, v.ownBlock = some g → w.heap.size ≤ g)
theorem ownFrom_grownO {β : Type} {w : World} {row : Option Nat} {B : Nat} (hB : w.heap.size ≤ B) : OwnFrom B (fun (_ : β) W => w.grownBy W row) := fun _ W W' r hs hg hr => ⟨hg.os.trans hs.os, hg.tape.trans hs.tape, hg.output.trans hs.output, Nat.le_trans hs.size hg.size, fun k hk hne => (hg.block k (Nat.lt_of_lt_of_le hk hs.size) (fun e => by
  have := (hr k e.symm).1
  omega)).trans (hs.block k hk hne)⟩
theorem two_new (w : World) (a b : Value) (t : TypeId) : ∀ j u, [a, b][j]? = some u → (w.alloc (.cells #[a, b] t)).cell? ((⟨w.heap.size, 0, none⟩ : Addr).add j) = some u := fun j u hj => by
  have h := heap_alloc_new w (.cells #[a, b] t)
  match j, hj with
  | 0, hj => cases hj; exact (cell_of_row _ w.heap.size 0 _ _ (0, 0) h).trans rfl
  | 1, hj => cases hj; exact (cell_of_row _ w.heap.size 1 _ _ (0, 0) h).trans rfl
  | j + 2, hj => simp at hj
/-- The frame goes on where a row that is the same, or new, grows. -/
theorem GrS.more {w V V' : World} {lv v v' : Value} {tmp : Obj} (h : GrS w V lv v) (hg : (V.alloc tmp).grownBy V' v.ownBlock) (hn : v'.ownBlock = v.ownBlock ∨ ∀ k, v'.ownBlock = some k → (V.alloc tmp).heap.size ≤ k) (b j : Nat) (hb : w.heap.size ≤ b) (y : Value) : GrS w (V'.setCell ⟨b, j, none⟩ y) lv v' := by
  have hs := h.1.size
  have ha : V.heap.size ≤ (V.alloc tmp).heap.size := ((Below.refl V.heap.size V).alloc (Nat.le_refl _) tmp).size
  refine ⟨⟨hg.os.trans h.1.os, hg.tape.trans h.1.tape, hg.output.trans h.1.output, Nat.le_trans (Nat.le_trans hs ha) (Nat.le_trans hg.size (by simp)), fun k hk hne => ?_⟩, ?_⟩
  · refine (Below.heap_setCell V' ⟨b, j, none⟩ y k (by show k ≠ b; omega)).trans ((hg.block k (by omega) fun e => ?_).trans ((((Below.refl V.heap.size V).alloc (Nat.le_refl _) tmp).block k (by omega)).trans (h.1.block k hk hne)))
    rcases h.2 with h2 | h2
    · exact hne (by rw [e, h2])
    · have := h2 k e.symm
      omega
  · rcases hn with hn | hn
    · rcases h.2 with h2 | h2
      · exact .inl (hn.trans h2)
      · exact .inr fun g hg' => h2 g (by rw [← hn]; exact hg')
    · exact .inr fun g hg' => by
        have := hn g hg'
        omega

set_option maxRecDepth 100000 in
set_option maxHeartbeats 1000000 in
theorem comings_any (B : Nat) (lv : Value) (l : List (Nat × Bool)) (s : List Nat) (c : Bool) (w : World) (hs : ∀ u ∈ s, u < 8) (hl : OwC w B lv l) (hll : l.length ≤ 1000) (hB : B ≤ w.heap.size) :
    Calls Try.prog 57 #[lv, .int .u32 (mskN s : Nat), .bool c] w fun e w' => ∃ v, e = .returned v ∧ OwC w' B v (l ++ (memU s 8).map fun u => (u, c)) ∧ GrS w w' lv v := by
  refine (callsIn_wide (n := 6)).1 ?_
  obtain ⟨i0, hi, hz0, hz1, hz2⟩ := info_parts Try.infoComing
  obtain ⟨dl, nl, cl, rfl⟩ : ∃ d n c, lv = .slice d n c := by
    rcases hl.2 with ⟨h1, -⟩ | ⟨g, cap, cur, h1, -⟩
    · exact ⟨_, _, _, h1⟩
    · exact ⟨_, _, _, h1⟩
  refine callsIn_of_wp_marks Try.func57 rfl trivial ?_ rfl
  simp only [Try.ntmps57, List.size_toArray, List.length_cons, List.length_nil, Nat.reduceAdd, Nat.reduceSub, Array.replicate_succ, Array.replicate_zero, List.push_toArray, List.append_toArray, List.nil_append, List.cons_append]
  have HL := hid hl
  clear hl
  gi_wp2_with fail
  have bO := Boxed.new w 74 (.slice dl nl cl)
  have bO2 := bO.alloc (.cells #[.bool c] 4)
  have bC := Boxed.new (w.alloc (.cells #[.slice dl nl cl] 74)) 4 (.bool c)
  have hA1 := (Below.refl w.heap.size w).alloc (Nat.le_refl _) (.cells #[.slice dl nl cl] 74)
  have hsz1 : (w.alloc (.cells #[.slice dl nl cl] 74)).heap.size = w.heap.size + 1 := by simp
  have hA2 := hA1.alloc hA1.size (.cells #[.bool c] 4)
  rw [hsz1] at bC
  have hg0 : w.grownBy ((w.alloc (.cells #[.slice dl nl cl] 74)).alloc (.cells #[.bool c] 4)) (Value.slice dl nl cl).ownBlock := ⟨hA2.os, hA2.tape, hA2.output, hA2.size, fun k hk _ => hA2.block k hk⟩
  refine wp_each (by omega) s hs rfl rfl
    (fun k V => (∃ v, Boxed V w.heap.size 74 v ∧ V.ownsRow B 77 2 v (l ++ (memU s k).map fun u => (u, c)).length (cmC (l ++ (memU s k).map fun u => (u, c))) ∧ (v.ownBlock = (Value.slice dl nl cl).ownBlock ∨ ∀ g, v.ownBlock = some g → w.heap.size ≤ g)) ∧ Boxed V (w.heap.size + 1) 4 (.bool c) ∧ w.grownBy V (Value.slice dl nl cl).ownBlock)
    (OwnFrom.and (Own.from (holdsRow_own B w.heap.size 74 77 2 (fun k : Nat => (l ++ (memU s k).map fun u => (u, c)).length) (fun k => cmC (l ++ (memU s k).map fun u => (u, c))) (fun _ v => v.ownBlock = (Value.slice dl nl cl).ownBlock ∨ ∀ g, v.ownBlock = some g → w.heap.size ≤ g)) _) (OwnFrom.and (Own.from (boxed_own (w.heap.size + 1) 4 (fun _ : Nat => .bool c)) _) (ownFrom_grownO hA2.size)))
    ⟨⟨_, bO2, by simpa [memU] using (World.ownsRow.alloc (World.ownsRow.alloc HL.out _) _), .inl rfl⟩, bC, hg0⟩
    (fun k => { tmps := #[.slice dl nl cl, .int .u32 (mskN s : Nat), .bool c, .pointer (some ⟨w.heap.size, 0, none⟩), undef, .pointer (some ⟨w.heap.size + 1, 0, none⟩), .slice none 0 0, .int .i64 (k : Nat), .int .u32 (mskN s : Nat), .func (.func 38) #[.int .u32 (mskN s : Nat)] #[], .int .i64 (k : Nat), undef, undef, undef, undef, undef, undef, undef], defers := [] }) ?assign ?body ?skip ?done
  case assign =>
    intro l k W K hK
    gi_wp2
    exact hK
  case body =>
    rintro r k V hk hm ⟨⟨v, hv, hrow, hsf⟩, hvc, hgr⟩
    have hc := hv.cell
    have hcc := hvc.cell
    have hm8 := memU_len s k
    have hlen : (l ++ (memU s k).map fun u => (u, c)).length ≤ 1008 := by rw [List.length_append, List.length_map]; omega
    have hBV : B ≤ V.heap.size := Nat.le_trans hB hgr.size
    have HG : GrS w V (Value.slice dl nl cl) v := ⟨hgr, hsf⟩
    generalize hLL : (l ++ (memU s k).map fun u => (u, c)) = LL at *
    gi_wp2_with (gi_at_builtin; refine wpListIn_append_new _ rfl _ _ 74 rfl B 77 i0 (.agg #[.int .i64 0, .bool false]) 2 16 Try.underlying74 hi hz0 hz1 hz2 rfl (by decide) _ _ _ rfl (hrow.alloc _) ⟨V.heap.size, 0, none⟩ 1 1 [.int .i64 (k : Nat), .bool c] rfl rfl (two_new _ _ _ _) (by simp [Value.oneCell']) (by unfold maxLen; omega) (by omega) (by simp; omega) (by decide) ?_; intro v' w3 hown' hgrow hnew; obtain ⟨g', cap', rfl⟩ := ownsRow_succ hown'; obtain ⟨hv1, hv2, hr2, hk2, hb2⟩ := hv.appended (by decide) hrow hBV hB hown' hgrow; have hc1 := hv1.cell; have hf1 := hv1.frozen)
    have hvc1 : Boxed w3 (w.heap.size + 1) 4 (.bool c) := (hvc.alloc _).kept hgrow (hvc.not_row (by decide) hrow)
    have hG2 := HG.more hgrow hnew w.heap.size 0 (Nat.le_refl _) (.slice (some ⟨g', 0, none⟩) (LL.length + 1) cap')
    have eLL : (l ++ (memU s (k + 1)).map fun u => (u, c)) = LL ++ [(k, c)] := by rw [memU_yes hm, List.map_append, ← List.append_assoc, hLL]; rfl
    refine ⟨hk2.from _, ⟨⟨_, hv2, ?_, hG2.2⟩, boxed_offB hvc1 w.heap.size 0 _ (by omega), hG2.1⟩⟩
    rw [eLL, List.length_append, cmC_append]
    exact hr2
  case skip =>
    rintro k V hk hm h
    rwa [memU_no hm]
  case done =>
    rintro D V hD ⟨⟨v, hv, hrow, hsf⟩, hvc, hgr⟩ hK
    have hc := hv.cell
    gi_wp2
    refine ⟨by simp, .inl ⟨_, _, rfl, run_takeDeferred hK, ?_⟩⟩
    refine ⟨_, results_tmp rfl _ _ _, v, rfl, ownsRow_putObj hrow _ hK rfl, ⟨hgr.os, hgr.tape, hgr.output, Nat.le_trans hgr.size (by simp), fun k hk hne => (World.putObj_heap_other (by simp at hD; omega)).trans (hgr.block k hk hne)⟩, hsf⟩
end Go.Proofs.Ythcfgoknphpkdaa


/- Package graph: isOpen: the map of comings, and what is come to. -/
namespace Go.Proofs.Ythcfgoknphpkdaa
open Go.RowKit Go.Shelf

/-- A coming as a key. -/
def keyV (p : Nat × Bool) : Value := .agg #[.int .i64 (p.1 : Nat), .bool p.2]
theorem laidOutO : laidOutB Try.prog = true := by kernel_rfl
theorem keyedC : Maps.Keyed Try.prog 77 := Maps.Keyed.of_law (deep_law_laid laidOutO (m := 3) (by decide) (of_decide_eq_true (by kernel_rfl)) (by kernel_rfl) (by kernel_rfl))
theorem key_some (v : Nat) (c : Bool) (hv : v < 8) : (keyOf Try.prog 77 (keyV (v, c))).isSome = true := by
  have h : v = 0 ∨ v = 1 ∨ v = 2 ∨ v = 3 ∨ v = 4 ∨ v = 5 ∨ v = 6 ∨ v = 7 := by omega
  rcases h with rfl | rfl | rfl | rfl | rfl | rfl | rfl | rfl
  all_goals
    cases c
    all_goals exact of_decide_eq_true (by kernel_rfl)
theorem key_fun : ∃ kl : Nat × Bool → Lit, ∀ p : Nat × Bool, p.1 < 8 → keyOf Try.prog 77 (keyV p) = some (kl p) := by
  refine ⟨fun p => (keyOf Try.prog 77 (keyV p)).getD (.bool false), fun p hp => ?_⟩
  obtain ⟨l, hl⟩ := Option.isSome_iff_exists.1 (key_some p.1 p.2 hp)
  have hl' : keyOf Try.prog 77 (keyV p) = some l := hl
  show _ = some ((keyOf Try.prog 77 (keyV p)).getD (.bool false))
  rw [hl']; rfl
theorem key_inj {kl : Nat × Bool → Lit} (hk : ∀ p : Nat × Bool, p.1 < 8 → keyOf Try.prog 77 (keyV p) = some (kl p)) {p q : Nat × Bool} (hp : p.1 < 8) (hq : q.1 < 8) (h : kl p = kl q) : p = q := by
  have h1 := hk p hp
  have h2 := hk q hq
  rw [h] at h1
  have e := keyedC.inj h1 h2
  obtain ⟨p1, p2⟩ := p
  obtain ⟨q1, q2⟩ := q
  simp only [keyV, Value.agg.injEq, Array.mk.injEq, List.cons.injEq, Value.int.injEq, Value.bool.injEq, true_and, and_true] at e
  obtain ⟨e1, e2⟩ := e
  have : p1 = q1 := by omega
  rw [this, e2]
/-- The map holds just these. -/
structure BnM (kl : Nat × Bool → Lit) (W : World) (b : Nat) (S : List (Nat × Bool)) (D : DataW Unit) : Prop where
  own : W.ownsMap Try.prog 77 (unitElem (H := Unit)) b S.length D
  has : ∀ p : Nat × Bool, p.1 < 8 → Maps.has D (kl p) = decide (p ∈ S)
theorem BnM.new (kl : Nat × Bool → Lit) (w : World) : BnM kl (w.alloc (.map #[] 0)) w.heap.size [] (.map []) := ⟨World.ownsMap_made w _ _ _, fun _ _ => rfl⟩
theorem BnM.put {kl : Nat × Bool → Lit} (hk : ∀ p : Nat × Bool, p.1 < 8 → keyOf Try.prog 77 (keyV p) = some (kl p)) {W W' : World} {b : Nat} {S : List (Nat × Bool)} {D : DataW Unit} (h : BnM kl W b S D) {p : Nat × Bool} (hp : p.1 < 8) {d : DataW Unit} (h' : W'.ownsMap Try.prog 77 (unitElem (H := Unit)) b (S.length + 1) (D.put (kl p) d)) : BnM kl W' b (p :: S) (D.put (kl p) d) := by
  refine ⟨h', fun q hq => ?_⟩
  by_cases e : kl q = kl p
  · have e' := key_inj hk hq hp e
    rw [e', Maps.has_put_same h.own.isMap (keyedC.key (hk p hp)), decide_eq_true List.mem_cons_self]
  · rw [Maps.has_put_other e, h.has q hq]
    refine decide_eq_decide.2 ⟨List.mem_cons_of_mem _, fun hm => ?_⟩
    rcases List.mem_cons.1 hm with e' | hm
    · exact absurd (by rw [e']) e
    · exact hm
theorem BnM.kept {kl : Nat × Bool → Lit} {W W' : World} {b : Nat} {S : List (Nat × Bool)} {D : DataW Unit} (h : BnM kl W b S D) {row : Option Nat} (hg : W.grownBy W' row) (hne : some b ≠ row) : BnM kl W' b S D := ⟨h.own.kept hg hne, h.has⟩
end Go.Proofs.Ythcfgoknphpkdaa

