/- The document's answers: apartSets, Apart. -/
import Derived.Test.YtockhhleapbpiaaAnsDOwn
import Derived.Test.YtockhhleapbpiaaFilAOwn
namespace Go.Proofs.Ytockhhleapbpiaa
open Go.RowKit Go.Shelf

/-- Sets that rise, of nodes, none of which is in two. -/
def apB (n : Nat) (Ls : List (List Int)) : Bool := allRis Ls n && decide Ls.flatten.Nodup
theorem apB_ris {n : Nat} {Ls : List (List Int)} {i : Nat} (h : i < Ls.length) (e : risB Ls[i] n = false) : apB n Ls = false := by rw [apB, allRis_bad h e]; rfl
/-- Those that were met, as far as the first k of list i. -/
def metL (Ls : List (List Int)) (i k : Nat) : List Int := (Ls.take i).flatten ++ (Ls.getD i []).take k
theorem metL_next {Ls : List (List Int)} {i : Nat} (h : i < Ls.length) : metL Ls i (Ls.getD i []).length = metL Ls (i + 1) 0 := by
  have e : Ls.getD i [] = Ls[i] := by rw [List.getD_eq_getElem?_getD, List.getElem?_eq_getElem h]; rfl
  rw [metL, metL, List.take_length, List.take_zero, List.append_nil, List.take_succ_eq_append_getElem h, List.flatten_append, e]; simp
theorem metL_step {Ls : List (List Int)} {i k : Nat} (hk : k < (Ls.getD i []).length) : metL Ls i (k + 1) = metL Ls i k ++ [(Ls.getD i [])[k]] := by
  rw [metL, metL, List.take_succ_eq_append_getElem hk, List.append_assoc]
theorem metL_pre {Ls : List (List Int)} {i k : Nat} (h : i < Ls.length) (hk : k < (Ls.getD i []).length) : ∃ rest, Ls.flatten = metL Ls i k ++ (Ls.getD i [])[k] :: rest := by
  have e : Ls.getD i [] = Ls[i] := by rw [List.getD_eq_getElem?_getD, List.getElem?_eq_getElem h]; rfl
  refine ⟨(Ls.getD i []).drop (k + 1) ++ (Ls.drop (i + 1)).flatten, ?_⟩
  have h1 : Ls = Ls.take i ++ Ls[i] :: Ls.drop (i + 1) := by rw [List.getElem_cons_drop, List.take_append_drop]
  have h2 : Ls.getD i [] = (Ls.getD i []).take k ++ (Ls.getD i [])[k] :: (Ls.getD i []).drop (k + 1) := by rw [List.getElem_cons_drop, List.take_append_drop]
  have h3 : Ls.flatten = (Ls.take i).flatten ++ (Ls[i] ++ (Ls.drop (i + 1)).flatten) := by
    conv => lhs; rw [h1]
    rw [List.flatten_append, List.flatten_cons]
  rw [h3, metL, ← e, List.append_assoc]
  congr 1
  exact (congrArg (fun s => s ++ (Ls.drop (i + 1)).flatten) h2).trans (by rw [List.append_assoc, List.cons_append])
theorem metL_twice {n : Nat} {Ls : List (List Int)} {i k : Nat} (h : i < Ls.length) (hk : k < (Ls.getD i []).length) (hm : (Ls.getD i [])[k] ∈ metL Ls i k) : apB n Ls = false := by
  obtain ⟨rest, e⟩ := metL_pre h hk
  have : ¬ Ls.flatten.Nodup := fun hn => by
    rw [e] at hn
    exact (List.nodup_append.1 hn).2.2 _ hm _ List.mem_cons_self rfl
  rw [apB, decide_eq_false this, Bool.and_false]
theorem apB_yes {n : Nat} {Ls : List (List Int)} (hr : ∀ i (h : i < Ls.length), risB Ls[i] n = true) (hn : (metL Ls Ls.length 0).Nodup) : apB n Ls = true := by
  have h1 : allRis Ls n = true := List.all_eq_true.2 fun l hl => by
    obtain ⟨i, hi, rfl⟩ := List.getElem_of_mem hl
    exact hr i hi
  rw [metL, List.take_length, List.take_zero, List.append_nil] at hn
  rw [apB, h1, decide_eq_true hn]; rfl

set_option maxRecDepth 100000 in
set_option maxHeartbeats 1000000 in
theorem apartSets_any (a : Option Addr) (ca n : Nat) (Ls : List (List Int)) (w : World) (h : LsS w a Ls) (hl : ∀ l ∈ Ls, l.length ≤ 1000) (hL : Ls.length ≤ 4) :
    Calls Try.prog 44 #[.int .i64 (n : Nat), .slice a Ls.length ca] w fun e w' => e = .returned (.bool (apB n Ls)) ∧ Below w.heap.size w w' := by
  have HV : Hid (∀ i, i < Ls.length → ∃ g o b c, a = some ⟨g, o, none⟩ ∧ ∀ U : World, Below w.heap.size w U → U.cell? ⟨g, o + i, none⟩ = some (.slice b (Ls.getD i []).length c) ∧ IntS U b (Ls.getD i [])) := fun i hi => by
    obtain ⟨g, o, b, c, e1, e2, e3, e4⟩ := h i hi
    have e : Ls.getD i [] = Ls[i] := by rw [List.getD_eq_getElem?_getD, List.getElem?_eq_getElem hi]; rfl
    rw [e]
    exact ⟨g, o, b, c, e1, fun U hU => ⟨(hU.cell (p := ⟨g, _, none⟩) e2).trans e3, e4.below hU⟩⟩
  have HLL : Hid (∀ i, (Ls.getD i []).length ≤ 1000) := fun i => by
    by_cases hi : i < Ls.length
    · rw [List.getD_eq_getElem?_getD, List.getElem?_eq_getElem hi]; exact hl _ (List.getElem_mem hi)
    · rw [List.getD_eq_getElem?_getD, List.getElem?_eq_none (by omega)]; exact Nat.zero_le _
  have HR : Hid (∀ (i : Nat) (b : Option Addr) (c : Nat) (U : World), IntS U b (Ls.getD i []) → Calls Try.prog 40 #[.slice b (Ls.getD i []).length c, .int .i64 (n : Nat)] U fun e w' => e = .returned (.bool (risB (Ls.getD i []) n)) ∧ Below U.heap.size U w') := fun i b c U hi => rRising_any b c (Ls.getD i []) n U hi (by have := HLL.out i; omega)
  have HBR : Hid (∀ i, i < Ls.length → risB (Ls.getD i []) n = false → apB n Ls = false) := fun i hi e => apB_ris hi (by rw [← e, List.getD_eq_getElem?_getD, List.getElem?_eq_getElem hi]; rfl)
  have HBT : Hid (∀ i k, i < Ls.length → k < (Ls.getD i []).length → (Ls.getD i []).getD k 0 ∈ metL Ls i k → apB n Ls = false) := fun i k hi hk hm => metL_twice hi hk (by rw [← getD_eq hk]; exact hm)
  have HBY : Hid ((∀ i, i < Ls.length → risB (Ls.getD i []) n = true) → (metL Ls Ls.length 0).Nodup → apB n Ls = true) := fun h1 h2 => apB_yes (fun i hi => by
    have := h1 i hi
    rw [List.getD_eq_getElem?_getD, List.getElem?_eq_getElem hi] at this
    exact this) h2
  have HMN : Hid (∀ i, i < Ls.length → metL Ls i (Ls.getD i []).length = metL Ls (i + 1) 0) := fun i hi => metL_next hi
  have HMS : Hid (∀ i k, k < (Ls.getD i []).length → metL Ls i (k + 1) = metL Ls i k ++ [(Ls.getD i []).getD k 0]) := fun i k hk => by rw [getD_eq hk]; exact metL_step hk
  have HM0 : Hid (metL Ls 0 0 = []) := by show _ = _; simp [metL]
  have HML : Hid (∀ i k, i < 4 → (metL Ls i k).length ≤ 5000) := fun i k hi => by
    have h1 : ∀ j, j ≤ 3 → (Ls.take j).flatten.length ≤ j * 1000 := fun j => by
      induction j with
      | zero => intro _; simp
      | succ j ih =>
        intro hj
        by_cases hjl : j < Ls.length
        · rw [List.take_succ_eq_append_getElem hjl, List.flatten_append, List.length_append]
          have := ih (by omega)
          have := hl _ (List.getElem_mem hjl)
          rw [show ([Ls[j]] : List (List Int)).flatten = Ls[j] by simp]
          omega
        · rw [List.take_of_length_le (by omega)]
          have := ih (by omega)
          rw [List.take_of_length_le (by omega)] at this
          omega
    have h2 := h1 i (by omega)
    have h3 := HLL.out i
    rw [metL, List.length_append, List.length_take]
    omega
  clear h hl
  obtain ⟨F, hF⟩ : ∃ F : Nat → List Int, ∀ k, Ls.getD k [] = F k := ⟨fun k => Ls.getD k [], fun _ => rfl⟩
  simp only [hF] at HV HLL HR HBR HBT HBY HMN HMS
  clear hF
  generalize apB n Ls = RES at *
  generalize metL Ls = M at *
  go_enter Try.func44, Try.ntmps44
  go_wp2_with fail
  go_loopw [5, 6] (fun av iv wr => ∃ i : Nat, i ≤ Ls.length ∧ iv = .int .i64 i ∧ Hid (RwI wr w.heap.size av (M i 0)) ∧ Hid ((M i 0).Nodup) ∧ Hid (∀ j, j < i → risB (F j) n = true) ∧ Hid (Below w.heap.size w wr)) (fun _ iv _ => Ls.length - (intOf iv).toNat)
  case atStart => exact ⟨0, Nat.zero_le _, rfl, by rw [HM0.out]; exact ⟨rfl, .inl ⟨rfl, rfl⟩⟩, by show List.Nodup _; rw [HM0.out]; exact List.nodup_nil, fun j hj => absurd hj (Nat.not_lt_zero _), Below.refl _ _⟩
  case round =>
    obtain ⟨i, hi, rfl, HA, HND, HRS, HB⟩ := hrel
    by_cases hil : i < Ls.length
    · obtain ⟨g, o, b, c, rfl, hkc⟩ := HV.out i hil
      obtain ⟨c0, hI⟩ := hkc wr HB.out
      have HKC := hid hkc
      have HC := hid (HR.out i b c wr hI)
      have HBRi := hid (HBR.out i hil)
      have HBTi := hid (fun k hk => HBT.out i k hil hk)
      have HMSi := hid (HMS.out i)
      have HMNi := hid (HMN.out i hil)
      have HMLi := hid (fun k => HML.out i k (by omega))
      have hfl := HLL.out i
      have HRSi : Hid (risB (F i) n = true → ∀ j, j < i + 1 → risB (F j) n = true) := fun h j hj => by
        rcases Nat.lt_or_ge j i with h1 | h1
        · exact HRS.out j h1
        · rw [show j = i by omega]; exact h
      clear hkc hI HR
      generalize F i = l at *
      go_wp2_with fail
      refine HC.out.mono ?_
      rintro e w1 ⟨rfl, hb1⟩
      have HB1 := hid (HB.out.trans (hb1.mono HB.out.size))
      have HA1 := hid (RwI.under HA.out hb1)
      clear hb1 HC HA HB c0
      cases hq : risB l n with
      | false =>
        have hR := HBRi.out hq
        clear hq
        go_wp2
        go_ret
        exact ⟨by rw [hR]; rfl, HB1.out⟩
      | true =>
        have HRN := hid (HRSi.out hq)
        clear hq HRSi HBRi
        go_wp2_with fail
        go_loopw [5, 8] (fun av kv wr => ∃ k : Nat, k ≤ l.length ∧ kv = .int .i64 k ∧ Hid (RwI wr w.heap.size av (M i k)) ∧ Hid ((M i k).Nodup) ∧ Hid (Below w.heap.size w wr)) (fun _ kv _ => l.length - (intOf kv).toNat)
        case atStart => exact ⟨0, Nat.zero_le _, rfl, HA1, HND, HB1⟩
        case round =>
          obtain ⟨k, hk, rfl, HA, HN2, HB⟩ := hrel
          obtain ⟨c0, hI⟩ := HKC.out wr HB.out
          obtain ⟨da, cda, rfl, hai⟩ := HA.out.ints
          by_cases hkl : k < l.length
          · obtain ⟨g2, o2, rfl, hg2, c2⟩ := hI k hkl
            have HIN := hid (rIn_any l[k] da cda (M i k) wr hai (by have := HMLi.out k; omega))
            have HBTk := hid (HBTi.out k hkl)
            have HMSk := hid (HMSi.out k hkl)
            rw [getD_eq hkl] at HBTk HMSk
            have hml := HMLi.out k
            have HNX : Hid (¬ l[k] ∈ M i k → (M i (k + 1)).Nodup) := fun hm => by
              show List.Nodup _
              rw [HMSk.out]
              refine List.nodup_append.2 ⟨HN2.out, by simp, fun x hx y hy => ?_⟩
              rw [List.mem_singleton.1 hy]
              exact fun e => hm (e ▸ hx)
            generalize l[k] = x at *
            clear hI hai
            go_wp2_with fail
            refine HIN.out.mono ?_
            rintro e w3 ⟨rfl, rfl⟩
            cases hin : inB x (M i k) with
            | true =>
              have hR := HBTk.out (inB_mem.1 hin)
              clear hin
              go_wp2
              go_ret
              exact ⟨by rw [hR]; rfl, HB.out⟩
            | false =>
              have HN3 := hid (HNX.out fun hm => by rw [inB_mem.2 hm] at hin; cases hin)
              clear hin HIN
              have HOWN := hid HA.out.own
              have HRAA := hid (World.ownsRow.alloc HA.out (.cells #[.int .i64 x] 3))
              have HBA := hid (HB.out.alloc HB.out.size (.cells #[.int .i64 x] 3))
              have HIA := hid (one_int w3 x)
              go_wp2_with (at_builtin; refine wpList_append_ints rfl _ _ rfl w.heap.size _ (M i k) [x] rfl HRAA.out (some ⟨w3.heap.size, 0, none⟩) 1 rfl HIA.out (fun e => by cases e) (by simp; omega) HBA.out.size ?_; intro v' w7 hr7 hg7)
              have HR7 : Hid (RwI w7 w.heap.size v' (M i (k + 1))) := by show RwI w7 w.heap.size v' (M i (k + 1)); rw [HMSk.out]; exact hr7
              have HB7 := hid (HBA.out.grown hg7 HBA.out.size HOWN.out)
              clear hr7 hg7
              go_wp2
              go_roundw
              case rel => exact ⟨k + 1, by omega, by go_num, HR7, HN3, HB7⟩
              case measure => simp [intOf]; omega
          · obtain rfl : k = l.length := by omega
            have HA2 : Hid (RwI wr w.heap.size (.slice da (M i l.length).length cda) (M (i + 1) 0)) := by show RwI _ _ _ (M (i + 1) 0); rw [← HMNi.out]; exact HA.out
            have HN3 : Hid ((M (i + 1) 0).Nodup) := by show List.Nodup _; rw [← HMNi.out]; exact HN2.out
            clear hI hai
            go_wp2
            go_roundw
            case rel => exact ⟨i + 1, by omega, by go_num, HA2, HN3, HRN, HB⟩
            case measure => simp [intOf]; omega
    · obtain rfl : i = Ls.length := by omega
      have hR := HBY.out HRS.out HND.out
      go_wp2
      go_ret
      exact ⟨by rw [hR]; rfl, HB.out⟩
/-- Does an open way go from one of x? -/
def opX (L : List (List Int)) (x y z : List Int) : Bool := (toN x).any fun v => opF (parN L) L.length (fun v => decide (v ∈ toN y)) (fun v => decide (v ∈ toN z)) (fun v => abO L v (toN z)) L.length [v]

set_option maxRecDepth 100000 in
set_option maxHeartbeats 1000000 in
theorem rApart_any (a bx by' bz : Option Addr) (ca cx cy cz : Nat) (L : List (List Int)) (x y z : List Int) (w : World) (h : LsS w a L) (hl : ∀ l ∈ L, l.length ≤ 1000) (hL : L.length ≤ 1000) (hx : IntS w bx x) (hy : IntS w by' y) (hz : IntS w bz z) (hxl : x.length ≤ 1000) (hyl : y.length ≤ 1000) (hzl : z.length ≤ 1000) :
    Calls Try.prog 16 #[.slice a L.length ca, .slice bx x.length cx, .slice by' y.length cy, .slice bz z.length cz] w fun e w' => Below w.heap.size w w' ∧
      ((gcE L ≠ 0 ∧ e = .returned (.tuple #[.bool false, .int .i64 (gcE L)])) ∨ (gcE L = 0 ∧ apB L.length [x, y, z] = false ∧ e = .returned (.tuple #[.bool false, .int .i64 11])) ∨
       (gcE L = 0 ∧ apB L.length [x, y, z] = true ∧ e = .returned (.tuple #[.bool (!opX L x y z), .int .i64 0]))) := by
  have HG := hid (rGraphCheck_any a ca L w h (fun l hl' => by have := hl l hl'; omega) (by omega))
  by_cases hg : gcE L = 0
  · have hlen3 : ([x, y, z] : List (List Int)).length = 3 := rfl
    have HAS : Hid (∀ (G : Nat) (U : World), LsS U (some ⟨G, 0, none⟩) [x, y, z] → Calls Try.prog 44 #[.int .i64 (L.length : Nat), .slice (some ⟨G, 0, none⟩) 3 3] U fun e w' => e = .returned (.bool (apB L.length [x, y, z])) ∧ Below U.heap.size U w') := fun G U hU => apartSets_any (some ⟨G, 0, none⟩) 3 L.length [x, y, z] U hU (fun l hl' => by
      simp only [List.mem_cons, List.not_mem_nil, or_false] at hl'
      rcases hl' with rfl | rfl | rfl <;> assumption) (by simp)
    have HLS : Hid (∀ U : World, Below w.heap.size w U → LsS (U.alloc (.cells #[.slice bx x.length cx, .slice by' y.length cy, .slice bz z.length cz] 23)) (some ⟨U.heap.size, 0, none⟩) [x, y, z]) := fun U hU k hk => by
      have hA := (Below.refl U.heap.size U).alloc (Nat.le_refl _) (.cells #[.slice bx x.length cx, .slice by' y.length cy, .slice bz z.length cz] 23)
      have hnew := heap_alloc_new U (.cells #[.slice bx x.length cx, .slice by' y.length cy, .slice bz z.length cz] 23)
      have hlt := (Array.getElem?_eq_some_iff.1 hnew).1
      match k, hk with
      | 0, _ => exact ⟨_, 0, bx, cx, rfl, hlt, by rw [cell_of_row _ U.heap.size _ _ _ (0, 0) hnew]; rfl, (hx.below hU).below hA⟩
      | 1, _ => exact ⟨_, 0, by', cy, rfl, hlt, by rw [cell_of_row _ U.heap.size _ _ _ (0, 0) hnew]; rfl, (hy.below hU).below hA⟩
      | 2, _ => exact ⟨_, 0, bz, cz, rfl, hlt, by rw [cell_of_row _ U.heap.size _ _ _ (0, 0) hnew]; rfl, (hz.below hU).below hA⟩
    have hris : apB L.length [x, y, z] = true → (risB x L.length = true ∧ risB y L.length = true) ∧ risB z L.length = true := fun h => by
      rw [apB, Bool.and_eq_true] at h
      have h1 := List.all_eq_true.1 h.1
      exact ⟨⟨h1 x (by simp), h1 y (by simp)⟩, h1 z (by simp)⟩
    have HOP : Hid (apB L.length [x, y, z] = true → ∀ (v : Nat), v < L.length → ∀ (b : Option Addr) (c : Nat) (W : World), Below w.heap.size w W → IntS W b [((v : Nat) : Int)] → Calls Try.prog 45 #[.slice a L.length ca, .slice b 1 c, .slice by' y.length cy, .slice bz z.length cz] W fun e w' => e = .returned (.bool (opF (parN L) L.length (fun v => decide (v ∈ toN y)) (fun v => decide (v ∈ toN z)) (fun v => abO L v (toN z)) L.length [v])) ∧ Below W.heap.size W w') := fun hap v hv b c W hW hI => by
      obtain ⟨⟨_, hry⟩, hrz⟩ := hris hap
      have := rOpen_any a by' bz ca cy cz L y z w h hl hg hy hz hyl hzl (ris_nonneg hry) (fun x hx => by
        have := ris_up hrz
        obtain ⟨i, hi, rfl⟩ := List.getElem_of_mem hx
        exact this.each i hi) L.length v [] b c W rfl (by simp) (fun x hx => by rw [List.mem_singleton.1 hx]; exact hv) hW (by simpa [iL] using hI)
      exact this
    have HXL : Hid (apB L.length [x, y, z] = true → ∀ v ∈ x, 0 ≤ v ∧ v < (L.length : Int)) := fun hap v hv => by
      have := ris_up (hris hap).1.1
      obtain ⟨i, hi, rfl⟩ := List.getElem_of_mem hv
      exact this.each i hi
    have HAT : Hid (∀ i (h : i < (toN x).length), ((toN x).take (i + 1)).any (fun v => opF (parN L) L.length (fun v => decide (v ∈ toN y)) (fun v => decide (v ∈ toN z)) (fun v => abO L v (toN z)) L.length [v]) = (((toN x).take i).any (fun v => opF (parN L) L.length (fun v => decide (v ∈ toN y)) (fun v => decide (v ∈ toN z)) (fun v => abO L v (toN z)) L.length [v]) || opF (parN L) L.length (fun v => decide (v ∈ toN y)) (fun v => decide (v ∈ toN z)) (fun v => abO L v (toN z)) L.length [(toN x)[i]])) := fun i h => any_take h
    have HAY : Hid (∀ c ∈ toN x, opF (parN L) L.length (fun v => decide (v ∈ toN y)) (fun v => decide (v ∈ toN z)) (fun v => abO L v (toN z)) L.length [c] = true → opX L x y z = true) := fun c hc h1 => List.any_eq_true.2 ⟨c, hc, h1⟩
    have HA0 : Hid (((toN x).take 0).any (fun v => opF (parN L) L.length (fun v => decide (v ∈ toN y)) (fun v => decide (v ∈ toN z)) (fun v => abO L v (toN z)) L.length [v]) = false) := by show _ = _; rw [List.take_zero]; rfl
    have HAE : Hid (((toN x).take (toN x).length).any (fun v => opF (parN L) L.length (fun v => decide (v ∈ toN y)) (fun v => decide (v ∈ toN z)) (fun v => abO L v (toN z)) L.length [v]) = opX L x y z) := by show _ = _; rw [List.take_length]; rfl
    have HX := hid hx
    have HGE := hid hg
    rw [hg] at HG
    clear h hl hx hy hz hg hris hlen3
    generalize opX L x y z = RES at *
    obtain ⟨OP, hOP⟩ : ∃ OP : Nat → Bool, ∀ v, opF (parN L) L.length (fun v => decide (v ∈ toN y)) (fun v => decide (v ∈ toN z)) (fun v => abO L v (toN z)) L.length [v] = OP v := ⟨fun v => opF (parN L) L.length (fun v => decide (v ∈ toN y)) (fun v => decide (v ∈ toN z)) (fun v => abO L v (toN z)) L.length [v], fun _ => rfl⟩
    have HAT' : Hid (∀ i c, i < (toN x).length → (toN x)[i]? = some c → ((toN x).take (i + 1)).any OP = (((toN x).take i).any OP || OP c)) := fun i c hi hc => by
      have := any_take (p := OP) hi
      rw [List.getElem?_eq_getElem hi] at hc
      cases hc
      exact this
    simp only [hOP] at HOP HAY HA0 HAE
    clear hOP HAT
    go_enter Try.func16, Try.ntmps16
    go_wp2_with fail
    refine HG.out.mono ?_
    rintro e w1 ⟨rfl, hb1⟩
    have HB1 := hid hb1
    have HS1 := hid (HAS.out w1.heap.size _ (HLS.out w1 hb1))
    have hA := (Below.refl w1.heap.size w1).alloc (Nat.le_refl _) (.cells #[.slice bx x.length cx, .slice by' y.length cy, .slice bz z.length cz] 23)
    have HB2 := hid (hb1.trans (hA.mono hb1.size))
    clear hb1 hA HG HAS HLS
    obtain ⟨ap, hap⟩ : ∃ ap, apB L.length [x, y, z] = ap := ⟨_, rfl⟩
    rw [hap] at HS1 HOP HXL
    have HAP := hid hap
    clear hap
    go_wp2_with fail
    refine HS1.out.mono ?_
    rintro e w2 ⟨rfl, hb2⟩
    have HB3 := hid (HB2.out.trans (hb2.mono HB2.out.size))
    clear hb2 HS1 HB2 HB1
    cases ap with
    | false =>
      go_wp2
      go_ret2
      exact ⟨HB3.out, .inr (.inl ⟨HGE.out, HAP.out, rfl⟩)⟩
    | true =>
      have HOP1 := hid (HOP.out (by first | rfl | trivial))
      have HXL1 := hid (HXL.out (by first | rfl | trivial))
      clear HOP HXL
      go_wp2_with fail
      go_loopw [12] (fun iv wr => ∃ i : Nat, i ≤ x.length ∧ iv = .int .i64 i ∧ Hid (((toN x).take i).any OP = false) ∧ Hid (Below w.heap.size w wr)) (fun iv _ => x.length - (intOf iv).toNat)
      case atStart => exact ⟨0, Nat.zero_le _, rfl, HA0, HB3⟩
      case round =>
        obtain ⟨i, hi, rfl, HF, HB⟩ := hrel
        clear HB3
        by_cases hil : i < x.length
        · obtain ⟨g, o, rfl, hgx, c0⟩ := (HX.out.below HB.out) i hil
          obtain ⟨hnn, hnl⟩ := HXL1.out _ (List.getElem_mem hil)
          have hil2 : i < (toN x).length := by rw [toN_length]; exact hil
          have hti : (toN x)[i] = x[i].toNat := toN_get hil
          have hci : ((x[i].toNat : Nat) : Int) = x[i] := by omega
          have hcl : x[i].toNat < L.length := by omega
          have HT := hid (HAT'.out i x[i].toNat hil2 (by rw [List.getElem?_eq_getElem hil2, hti]))
          have HY := hid (HAY.out x[i].toNat (by rw [← hti]; exact List.getElem_mem hil2))
          rw [HF.out, Bool.false_or] at HT
          rw [← hci] at c0
          generalize x[i].toNat = cc at *
          have hA := (Below.refl wr.heap.size wr).alloc (Nat.le_refl _) (.cells #[.int .i64 (cc : Nat)] 3)
          have HC := hid (HOP1.out cc hcl (some ⟨wr.heap.size, 0, none⟩) 1 _ (HB.out.trans (hA.mono HB.out.size)) (one_int wr (cc : Nat)))
          have HBA := hid (HB.out.trans (hA.mono HB.out.size))
          clear hA hci hti hil2 hnn hnl hcl
          go_wp2_with fail
          refine HC.out.mono ?_
          rintro e w5 ⟨rfl, hb5⟩
          have HB5 := hid (HBA.out.trans (hb5.mono HBA.out.size))
          clear hb5 HC HBA
          generalize OP cc = qc at *
          cases qc with
          | true =>
            have hR : RES = true := HY.out (by first | rfl | trivial)
            clear HY HT
            go_wp2
            go_ret2
            exact ⟨HB5.out, .inr (.inr ⟨HGE.out, HAP.out, by first | rfl | (rw [hR]; rfl)⟩)⟩
          | false =>
            clear HY
            go_wp2
            go_roundw
            case rel => exact ⟨i + 1, by omega, by go_num, HT, HB5⟩
            case measure => simp [intOf]; omega
        · obtain rfl : i = x.length := by omega
          have hR : RES = false := by
            rw [← HAE.out, toN_length]
            exact HF.out
          go_wp2
          go_ret2
          exact ⟨HB.out, .inr (.inr ⟨HGE.out, HAP.out, by first | rfl | (rw [hR]; rfl)⟩)⟩
  · have HGE := hid hg
    have hne : ((gcE L : Int) != 0) = true := by simpa using hg
    clear h hl hg hx hy hz
    generalize gcE L = ge at *
    go_enter Try.func16, Try.ntmps16
    go_wp2_with fail
    refine HG.out.mono ?_
    rintro e w1 ⟨rfl, hb1⟩
    go_wp2
    go_ret2
    exact ⟨hb1, .inl ⟨HGE.out, rfl⟩⟩
end Go.Proofs.Ytockhhleapbpiaa

