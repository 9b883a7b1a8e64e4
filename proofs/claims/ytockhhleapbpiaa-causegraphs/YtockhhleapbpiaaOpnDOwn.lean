/- Package graph: isOpen's walk. -/
import Derived.Test.YtockhhleapbpiaaWinAToOpnC
namespace Go.Proofs.Ytockhhleapbpiaa
open Go.RowKit Go.Shelf

theorem grow_box {V V' : World} {row : Option Nat} {A : Nat} {v c : Value} {t : TypeId} (h : V.heap[A]? = some (.cells #[v, c] t (0, 0))) (hg : V.grownBy V' row) (hne : some A ≠ row) : V'.heap[A]? = some (.cells #[v, c] t (0, 0)) := (hg.block A (Array.getElem?_eq_some_iff.1 h).1 hne).trans h
theorem box_cells {V : World} {A : Nat} {v c : Value} {t : TypeId} (h : V.heap[A]? = some (.cells #[v, c] t (0, 0))) : V.cell? ⟨A, 0, none⟩ = some v ∧ V.cell? ⟨A, 1, none⟩ = some c :=
  ⟨by rw [cell_of_row V A 0 _ _ (0, 0) h]; rfl, by rw [cell_of_row V A 1 _ _ (0, 0) h]; rfl⟩

theorem OwC.shape {w : World} {B : Nat} {v : Value} {l : List (Nat × Bool)} (h : OwC w B v l) : ∃ d c, v = .slice d l.length c := by
  rcases h.2 with ⟨h1, h2⟩ | ⟨g, cap, cur, h1, _⟩
  · exact ⟨none, 0, by rw [h1, h2]⟩
  · exact ⟨_, cap, h1⟩

set_option maxRecDepth 100000 in
set_option maxHeartbeats 2000000 in
theorem isOpen_any (G n cG : Nat) (P : List (List Nat)) (x y z : List Nat) (w : World) (hn : P.length = n) (h8 : n ≤ 8) (hU : RowU w G (P.map mskN)) (hP : ∀ v, ∀ u ∈ P.getD v [], u < n ∧ v < n) (hP' : ∀ p ∈ P, ∀ u ∈ p, u < n) (hx : ∀ u ∈ x, u < n) (hy : ∀ u ∈ y, u < n) (hz : ∀ u ∈ z, u < n) :
    Calls Try.prog 43 #[.slice (some ⟨G, 0, none⟩) n cG, .int .u32 (mskN x : Nat), .int .u32 (mskN y : Nat), .int .u32 (mskN z : Nat)] w fun e w' => ∃ q, e = .returned (.bool q) ∧ (q = true ↔ ∃ v c, v ∈ y ∧ RcW (fun u v => u ∈ P.getD v []) (· ∈ x) (· ∈ z) (· ∈ abS P z n) v c) ∧ Below w.heap.size w w' := by
  obtain ⟨kl, hkl⟩ := key_fun
  have HKL := hid hkl
  have HCH := hid (children_any G n cG P w hn h8 hU hP')
  have HAB := hid (fun (U : World) (hb : Below w.heap.size w U) => above_any G n cG P z U hn h8 (hU.below hb hU.lt) hP' hz)
  have s8 : ∀ {s : List Nat}, (∀ u ∈ s, u < n) → ∀ u ∈ s, u < 8 := fun h u hu => by have := h u hu; omega
  have hab : ∀ u ∈ abS P z n, u < n := abS_lt (fun v u hu => (hP v u hu).1) hz n
  have HYH := hid (fun (v : Nat) (U : World) (hv : v < 8) => sHas_any y v U (s8 hy) hv)
  have HZH := hid (fun (v : Nat) (U : World) (hv : v < 8) => sHas_any z v U (s8 hz) hv)
  have HMH := hid (fun (v : Nat) (U : World) (hv : v < 8) => sHas_any (abS P z n) v U (s8 hab) hv)
  have HCX := hid (fun (B : Nat) (U : World) (hB : B ≤ U.heap.size) => comings_any B (.slice none 0 0) [] x true U (s8 hx) ⟨rfl, .inl ⟨rfl, rfl⟩⟩ (by simp) hB)
  have HCU : Hid (∀ (v : Nat), v < n → ∀ (B : Nat) (lv : Value) (l : List (Nat × Bool)) (U : World), OwC U B lv l → l.length ≤ 1000 → B ≤ U.heap.size → Calls Try.prog 74 #[lv, .int .u32 (mskN (P.getD v []) : Nat), .bool true] U fun e w' => ∃ v', e = .returned v' ∧ OwC w' B v' (l ++ (memU (P.getD v []) 8).map fun u => (u, true)) ∧ GrS U w' lv v') := fun v _ B lv l U h1 h2 h3 => comings_any B lv l (P.getD v []) true U (s8 fun u hu => (hP v u hu).1) h1 h2 h3
  have HCD : Hid (∀ (v : Nat), v < n → ∀ (B : Nat) (lv : Value) (l : List (Nat × Bool)) (U : World), OwC U B lv l → l.length ≤ 1000 → B ≤ U.heap.size → Calls Try.prog 74 #[lv, .int .u32 (mskN (chL P v n) : Nat), .bool false] U fun e w' => ∃ v', e = .returned v' ∧ OwC w' B v' (l ++ (memU (chL P v n) 8).map fun u => (u, false)) ∧ GrS U w' lv v') := fun v _ B lv l U h1 h2 h3 => comings_any B lv l (chL P v n) false U (s8 fun u hu => (chL_mem.1 hu).1) h1 h2 h3
  have HUC : Hid (∀ (U : World), Below w.heap.size w U → ∀ v, v < n → U.cell? ⟨G, v, none⟩ = some (.int .u32 (mskN (P.getD v []) : Nat))) := fun U hb v hv => by
    have := (hU.below hb hU.lt).cell v (by rw [List.length_map, hn]; exact hv)
    rw [this, mapU_get (by rw [hn]; exact hv)]
  have HDC : Hid (∀ (U : World) (g : Nat), RowU U g ((chA P n n).map mskN) → ∀ v, v < n → U.cell? ⟨g, v, none⟩ = some (.int .u32 (mskN (chL P v n) : Nat))) := fun U g h v hv => by
    have := h.cell v (by rw [List.length_map, chA_length]; exact hv)
    rw [this]
    simp [chA]
  have HNEW := hid (OpS.new (P := P) (n := n) (y := y) (z := z) (an := abS P z n) hx h8)
  have HADD := hid (fun (S T : List (Nat × Bool)) (p : Nat × Bool) (h : OpS P n x y z (abS P z n) S (T ++ [p])) (h1 : ¬ p ∈ S) (h2 : ¬ p.1 ∈ y) => h.add hP h1 h2)
  have HFIN := hid (fun (S : List (Nat × Bool)) (h : OpS P n x y z (abS P z n) S []) => h.fin hP h8)
  have HFEW := hid (fun (S T : List (Nat × Bool)) (h : OpS P n x y z (abS P z n) S T) => h.few h8)
  have HSUC : Hid (∀ p : Nat × Bool, sucC P n z (abS P z n) p = (if (p.2 && !decide (p.1 ∈ z) || !p.2 && decide (p.1 ∈ abS P z n)) = true then (memU (P.getD p.1 []) 8).map fun u => (u, true) else []) ++ (if p.1 ∈ z then [] else (memU (chL P p.1 n) 8).map fun u => (u, false))) := fun p => rfl
  clear hU hP hP' hx hy hz hab s8 hkl hn
  generalize mskN (abS P z n) = ma at *
  have hmm := @run_makeMap Try.prog
  go_enter Try.func43, Try.ntmps43
  go_wp2_with fail
  go_step3
  go_wp2_with fail
  refine HCH.out.mono ?_
  rintro e w1 ⟨rfl, hr1, hb1⟩
  have HAB1 := hid (HAB.out w1 hb1)
  have HB1 := hid hb1
  have HR1 := hid hr1
  clear hb1 hr1 HCH HAB
  go_wp2_with fail
  refine HAB1.out.mono ?_
  rintro e w2 ⟨rfl, hb2⟩
  have HB2 := hid (HB1.out.trans (hb2.mono HB1.out.size))
  have HR2 := hid (HR1.out.below hb2 HR1.out.lt)
  clear hb2 HAB1 HB1 HR1
  have hA := (Below.refl w2.heap.size w2).alloc (Nat.le_refl _) (.map #[] 0)
  have hs3 : (w2.alloc (.map #[] 0)).heap.size = w2.heap.size + 1 := by simp
  have HB3 := hid (HB2.out.trans (hA.mono HB2.out.size))
  have HR3 := hid (HR2.out.below hA HR2.out.lt)
  have HM3 := hid (BnM.new kl w2)
  have HCX3 := hid (HCX.out (w2.heap.size + 1) (w2.alloc (.map #[] 0)) (by rw [hs3]; exact Nat.le_refl _))
  have hw2 : w.heap.size ≤ w2.heap.size := HB2.out.size
  clear hA HCX HB2
  go_wp2_with fail
  refine HCX3.out.mono ?_
  rintro e w4 ⟨wv0, rfl, ho4, hg4⟩
  rw [List.nil_append] at ho4
  have HM4 : Hid (OpM kl (w2.alloc (.map #[] 0)) w2.heap.size [] ((memU x 8).map fun u => (u, true)) (.map []) wv0 w4) :=
    (OpM.mk (W := []) (wv := .slice none 0 0) HM3.out ⟨rfl, .inl ⟨rfl, rfl⟩⟩ (World.grownBy.refl _ _)).more (by rw [hs3]; omega) (by rw [hs3]; exact ho4) hg4
  clear ho4 hg4 HCX3 HM3
  go_wp2_with fail
  go_step3
  go_wp2_with fail
  go_loopg [12] 2000 (fun k wv wr => ∃ (S W : List (Nat × Bool)) (D : DataW Unit) (d : Option Addr) (c : Nat), wv = .slice d W.length c ∧ Hid (OpS P n x y z (abS P z n) S W) ∧ Hid (OpM kl (w2.alloc (.map #[] 0)) w2.heap.size S W D (.slice d W.length c) wr) ∧ (16 - S.length) * 100 + W.length ≤ k)
  case atStart =>
    obtain ⟨d0, c0, rfl⟩ := HM4.out.row.shape
    refine ⟨[], _, _, d0, c0, rfl, HNEW, HM4, ?_⟩
    have := memU_len x 8
    simp
    omega
  case round =>
    obtain ⟨S, W, D, d, c, rfl, HS, HMV, hgk⟩ := hrel
    clear HM4 HNEW
    have hszr : w2.heap.size + 1 ≤ wr.heap.size := by
      have := HMV.out.fr.size
      rw [hs3] at this
      exact this
    have HBV : Hid (Below w.heap.size w wr) := HB3.out.grown HMV.out.fr (by rw [hs3]; omega) (fun k e => by cases e; exact hw2)
    have hSl := HFEW.out S W HS.out
    have hWl := HS.out.len
    rcases List.eq_nil_or_concat W with rfl | ⟨T, p, rfl⟩
    · go_wp2
      rw [Exit.noGoto_ret]
      go_ret
      exact ⟨false, rfl, ⟨(fun e => by cases e), fun e => absurd e (HFIN.out S HS.out)⟩, HBV.out⟩
    · rw [List.concat_eq_append] at HS HMV hgk hWl ⊢
      obtain ⟨g, rfl, hn', hTc, hTc', hBg, hgs, kc1, kc2, hT⟩ := HMV.out.row.init
      obtain ⟨pv, pc⟩ := p
      have HT := hid hT
      clear hT hn'
      have hlen : (T ++ [(pv, pc)]).length = T.length + 1 := by simp
      rw [hlen] at HMV hgk hWl ⊢
      have hTl : T.length ≤ 300 := by omega
      clear hlen hWl
      have hpl := HS.out.low (pv, pc) (.inr (List.mem_append_right _ List.mem_cons_self))
      have hpv : pv < n := hpl.1
      have HRC := hid hpl.2
      have hkey : keyOf Try.prog 93 (.agg #[.int .i64 (pv : Nat), .bool pc]) = some (kl (pv, pc)) := HKL.out (pv, pc) (by show pv < 8; omega)
      have HMT : Hid (OpM kl (w2.alloc (.map #[] 0)) w2.heap.size S T D (.slice (some ⟨g, 0, none⟩) T.length c) wr) := ⟨HMV.out.map, HT.out, HMV.out.fr⟩
      have HMA := hid (HMT.out.alloc (.cells #[.int .i64 (pv : Nat), .bool pc] 93))
      have HMB := hid (HMA.out.alloc (.cells #[] 94))
      have hbx0 := heap_alloc_new wr (.cells #[.int .i64 (pv : Nat), .bool pc] 93)
      have hsA : (wr.alloc (.cells #[.int .i64 (pv : Nat), .bool pc] 93)).heap.size = wr.heap.size + 1 := by simp
      have hbx : ((wr.alloc (.cells #[.int .i64 (pv : Nat), .bool pc] 93)).alloc (.cells #[] 94)).heap[wr.heap.size]? = some (.cells #[.int .i64 (pv : Nat), .bool pc] 93 (0, 0)) := by
        rw [Below.heap_alloc _ _ _ (by rw [hsA]; omega)]
        exact hbx0
      have HBX := hid hbx
      clear hpl hbx0 hbx hsA HMV HT HMT
      by_cases hin : (pv, pc) ∈ S
      · have hhas : Maps.has D (kl (pv, pc)) = true := by rw [HMA.out.map.has (pv, pc) (by show pv < 8; omega), decide_eq_true hin]
        have HSK := hid (HS.out.skip hin)
        clear hin
        go_wp2_with (first
          | (at_lookup; refine wpList_lookup_own_unit _ rfl _ _ 89 rfl 93 94 keyedC Try.underlying89 (zeroU _) w2.heap.size S.length D rfl HMA.out.map.own _ _ rfl hkey ?_))
        go_roundg ((16 - S.length) * 100 + T.length)
        case measure => omega
        case rel => exact ⟨S, T, D, _, c, rfl, HSK, HMB, Nat.le_refl _⟩
      · have hhas : Maps.has D (kl (pv, pc)) = false := by rw [HMA.out.map.has (pv, pc) (by show pv < 8; omega), decide_eq_false hin]
        have HIN := hid hin
        clear hin
        go_wp2_with (first
          | (at_lookup; refine wpList_lookup_own_unit _ rfl _ _ 89 rfl 93 94 keyedC Try.underlying89 (zeroU _) w2.heap.size S.length D rfl HMA.out.map.own _ _ rfl hkey ?_)
          | (at_mapUpdate; refine wpList_mapUpdate_own _ rfl _ _ _ 89 rfl 93 94 keyedC Try.underlying89 (unitElem (H := Unit)) w2.heap.size S.length D rfl HMB.out.map.own (by unfold maxLen; omega) _ _ _ rfl rfl hkey _ [] unitElem_mk ?_; intro w5 hown5 hgrow5; have HM5 := hid (HMB.out.put HKL.out (by rw [hs3]; omega) (p := (pv, pc)) (by show pv < 8; omega) hown5 hgrow5); have HBX5 := hid (grow_box HBX.out hgrow5 (by intro e; injection e with e; omega)); obtain ⟨kb1, kb2⟩ := box_cells HBX5.out; clear hown5 hgrow5))
        have hs5 : wr.heap.size + 1 ≤ w5.heap.size := by
          have := (Array.getElem?_eq_some_iff.1 HBX5.out).1
          omega
        have HB5 : Hid (Below w.heap.size w w5) := HB3.out.grown HM5.out.fr (by rw [hs3]; omega) (fun k e => by cases e; exact hw2)
        refine (HYH.out pv w5 (by omega)).mono ?_
        rintro e wq ⟨rfl, hwq⟩
        rw [hwq]
        clear hwq wq
        by_cases hy : pv ∈ y
        · rw [decide_eq_true hy]
          have HYY := hid hy
          clear hy
          go_wp2
          rw [Exit.noGoto_ret]
          go_ret
          exact ⟨true, rfl, ⟨fun _ => ⟨pv, pc, HYY.out, HRC.out⟩, fun _ => rfl⟩, HB5.out⟩
        · rw [decide_eq_false hy]
          have HNY := hid hy
          have HKU := hid (HUC.out w5 HB5.out pv hpv)
          have HKD : Hid (∀ U : World, (w2.alloc (.map #[] 0)).grownBy U (some w2.heap.size) → U.cell? ⟨w.heap.size, pv, none⟩ = some (.int .u32 (mskN (chL P pv n) : Nat))) := fun U hU => HDC.out U w.heap.size ((hU.block w.heap.size HR3.out.lt (by intro e; injection e with e; have := HR2.out.lt; omega)).trans HR3.out) pv hpv
          have HCU1 := hid (HCU.out pv hpv)
          have HCD1 := hid (HCD.out pv hpv)
          clear hy HYH HUC HDC HCU HCD
          generalize mskN (P.getD pv []) = mu at *
          generalize mskN (chL P pv n) = md at *
          cases pc with
          | true =>
            by_cases hz : pv ∈ z
            · go_wp2_with fail
              refine (HZH.out pv w5 (by omega)).mono ?_
              rintro e wq ⟨rfl, hwq⟩
              rw [hwq, decide_eq_true hz]
              clear hwq wq
              go_wp2_with fail
              refine (HZH.out pv w5 (by omega)).mono ?_
              rintro e wq ⟨rfl, hwq⟩
              rw [hwq, decide_eq_true hz]
              clear hwq wq
              go_wp2
              have HNW := hid (HADD.out S T (pv, true) HS.out HIN.out HNY.out)
              rw [HSUC.out] at HNW
              have hfw := HFEW.out _ _ HNW.out
              have e1 : (if ((pv, true).2 && !decide ((pv, true).1 ∈ z) || !(pv, true).2 && decide ((pv, true).1 ∈ abS P z n)) = true then (memU (P.getD (pv, true).1 []) 8).map (fun u => (u, true)) else []) = ([] : List (Nat × Bool)) := by simp [hz]
              have e2 : (if (pv, true).1 ∈ z then [] else (memU (chL P (pv, true).1 n) 8).map (fun u => (u, false))) = ([] : List (Nat × Bool)) := by simp [hz]
              rw [e1, e2] at HNW
              rw [List.append_nil] at HNW
              rw [List.append_nil] at HNW
              have hm1 := memU_len (P.getD pv []) 8
              have hm2 := memU_len (chL P pv n) 8
              skip
              skip
              have hln : T.length ≤ T.length + 16 := by
                skip
                skip
                (try simp only [List.length_append, List.length_map])
                omega
              rw [List.length_cons] at hfw
              go_roundg ((16 - (S.length + 1)) * 100 + T.length)
              case measure => omega
              case rel => exact ⟨_, _, _, _, _, rfl, HNW, HM5, Nat.le_refl _⟩
            · go_wp2_with fail
              refine (HZH.out pv w5 (by omega)).mono ?_
              rintro e wq ⟨rfl, hwq⟩
              rw [hwq, decide_eq_false hz]
              clear hwq wq
              have hku := HKU.out
              go_wp2_with fail
              refine (HCU1.out _ _ T w5 HM5.out.row (by omega) (by rw [hs3]; omega)).mono ?_
              rintro e w7 ⟨v7, rfl, ho7, hg7⟩
              have HM7 := hid (HM5.out.more (by rw [hs3]; omega) ho7 hg7)
              have HBX7 := hid (grow_box HBX5.out hg7.1 (fun e => by have e' : wr.heap.size = g := Option.some.inj e; omega))
              have HS7 := hid (Nat.le_trans hs5 hg7.1.size)
              have hs7 : wr.heap.size + 1 ≤ w7.heap.size := HS7.out
              have HL7 : Hid ((T ++ (memU (P.getD pv []) 8).map fun u => (u, true)).length ≤ 400) := by
                have := memU_len (P.getD pv []) 8
                show _ ≤ _
                rw [List.length_append, List.length_map]
                omega
              obtain ⟨kb1', kb2'⟩ := box_cells HBX7.out
              clear kb1 kb2 ho7 hg7 hku
              obtain ⟨W7, hW7⟩ : ∃ W7, T ++ (memU (P.getD pv []) 8).map (fun u => (u, true)) = W7 := ⟨_, rfl⟩
              rw [hW7] at HM7 HL7
              have HW7 := hid hW7
              have hl7 : W7.length ≤ 400 := HL7.out
              clear hW7
              obtain ⟨d7, c7, rfl⟩ := HM7.out.row.shape
              go_wp2_with fail
              refine (HZH.out pv w7 (by omega)).mono ?_
              rintro e wq ⟨rfl, hwq⟩
              rw [hwq, decide_eq_false hz]
              clear hwq wq
              have hkd := HKD.out w7 HM7.out.fr
              go_wp2_with fail
              refine (HCD1.out _ _ W7 w7 HM7.out.row (by have := HL7.out; omega) (by rw [hs3]; omega)).mono ?_
              rintro e w8 ⟨v8, rfl, ho8, hg8⟩
              have HM8 := hid (HM7.out.more (by rw [hs3]; omega) ho8 hg8)
              clear ho8 hg8 hkd
              obtain ⟨W8, hW8⟩ : ∃ W8, W7 ++ (memU (chL P pv n) 8).map (fun u => (u, false)) = W8 := ⟨_, rfl⟩
              rw [hW8] at HM8
              have HW8 := hid hW8
              clear hW8
              obtain ⟨d8, c8, rfl⟩ := HM8.out.row.shape
              go_wp2
              have HNW := hid (HADD.out S T (pv, true) HS.out HIN.out HNY.out)
              rw [HSUC.out] at HNW
              have hfw := HFEW.out _ _ HNW.out
              have e1 : (if ((pv, true).2 && !decide ((pv, true).1 ∈ z) || !(pv, true).2 && decide ((pv, true).1 ∈ abS P z n)) = true then (memU (P.getD (pv, true).1 []) 8).map (fun u => (u, true)) else []) = (memU (P.getD pv []) 8).map (fun u => (u, true)) := by simp [hz]
              have e2 : (if (pv, true).1 ∈ z then [] else (memU (chL P (pv, true).1 n) 8).map (fun u => (u, false))) = (memU (chL P pv n) 8).map (fun u => (u, false)) := by simp [hz]
              rw [e1, e2] at HNW
              rw [← List.append_assoc] at HNW
              have hm1 := memU_len (P.getD pv []) 8
              have hm2 := memU_len (chL P pv n) 8
              rw [HW7.out] at HNW
              rw [HW8.out] at HNW
              have hln : W8.length ≤ T.length + 16 := by
                rw [← HW8.out]
                rw [← HW7.out]
                (try simp only [List.length_append, List.length_map])
                omega
              rw [List.length_cons] at hfw
              go_roundg ((16 - (S.length + 1)) * 100 + W8.length)
              case measure => omega
              case rel => exact ⟨_, _, _, _, _, rfl, HNW, HM8, Nat.le_refl _⟩
          | false =>
            by_cases ha : pv ∈ abS P z n
            · by_cases hz : pv ∈ z
              · go_wp2_with fail
                refine (HMH.out pv w5 (by omega)).mono ?_
                rintro e wq ⟨rfl, hwq⟩
                rw [hwq, decide_eq_true ha]
                clear hwq wq
                have hku := HKU.out
                go_wp2_with fail
                refine (HCU1.out _ _ T w5 HM5.out.row (by omega) (by rw [hs3]; omega)).mono ?_
                rintro e w7 ⟨v7, rfl, ho7, hg7⟩
                have HM7 := hid (HM5.out.more (by rw [hs3]; omega) ho7 hg7)
                have HBX7 := hid (grow_box HBX5.out hg7.1 (fun e => by have e' : wr.heap.size = g := Option.some.inj e; omega))
                have HS7 := hid (Nat.le_trans hs5 hg7.1.size)
                have hs7 : wr.heap.size + 1 ≤ w7.heap.size := HS7.out
                have HL7 : Hid ((T ++ (memU (P.getD pv []) 8).map fun u => (u, true)).length ≤ 400) := by
                  have := memU_len (P.getD pv []) 8
                  show _ ≤ _
                  rw [List.length_append, List.length_map]
                  omega
                obtain ⟨kb1', kb2'⟩ := box_cells HBX7.out
                clear kb1 kb2 ho7 hg7 hku
                obtain ⟨W7, hW7⟩ : ∃ W7, T ++ (memU (P.getD pv []) 8).map (fun u => (u, true)) = W7 := ⟨_, rfl⟩
                rw [hW7] at HM7 HL7
                have HW7 := hid hW7
                have hl7 : W7.length ≤ 400 := HL7.out
                clear hW7
                obtain ⟨d7, c7, rfl⟩ := HM7.out.row.shape
                go_wp2_with fail
                refine (HZH.out pv w7 (by omega)).mono ?_
                rintro e wq ⟨rfl, hwq⟩
                rw [hwq, decide_eq_true hz]
                clear hwq wq
                go_wp2
                have HNW := hid (HADD.out S T (pv, false) HS.out HIN.out HNY.out)
                rw [HSUC.out] at HNW
                have hfw := HFEW.out _ _ HNW.out
                have e1 : (if ((pv, false).2 && !decide ((pv, false).1 ∈ z) || !(pv, false).2 && decide ((pv, false).1 ∈ abS P z n)) = true then (memU (P.getD (pv, false).1 []) 8).map (fun u => (u, true)) else []) = (memU (P.getD pv []) 8).map (fun u => (u, true)) := by simp [ha]
                have e2 : (if (pv, false).1 ∈ z then [] else (memU (chL P (pv, false).1 n) 8).map (fun u => (u, false))) = ([] : List (Nat × Bool)) := by simp [hz]
                rw [e1, e2] at HNW
                rw [List.append_nil] at HNW
                have hm1 := memU_len (P.getD pv []) 8
                have hm2 := memU_len (chL P pv n) 8
                rw [HW7.out] at HNW
                skip
                have hln : W7.length ≤ T.length + 16 := by
                  skip
                  rw [← HW7.out]
                  (try simp only [List.length_append, List.length_map])
                  omega
                rw [List.length_cons] at hfw
                go_roundg ((16 - (S.length + 1)) * 100 + W7.length)
                case measure => omega
                case rel => exact ⟨_, _, _, _, _, rfl, HNW, HM7, Nat.le_refl _⟩
              · go_wp2_with fail
                refine (HMH.out pv w5 (by omega)).mono ?_
                rintro e wq ⟨rfl, hwq⟩
                rw [hwq, decide_eq_true ha]
                clear hwq wq
                have hku := HKU.out
                go_wp2_with fail
                refine (HCU1.out _ _ T w5 HM5.out.row (by omega) (by rw [hs3]; omega)).mono ?_
                rintro e w7 ⟨v7, rfl, ho7, hg7⟩
                have HM7 := hid (HM5.out.more (by rw [hs3]; omega) ho7 hg7)
                have HBX7 := hid (grow_box HBX5.out hg7.1 (fun e => by have e' : wr.heap.size = g := Option.some.inj e; omega))
                have HS7 := hid (Nat.le_trans hs5 hg7.1.size)
                have hs7 : wr.heap.size + 1 ≤ w7.heap.size := HS7.out
                have HL7 : Hid ((T ++ (memU (P.getD pv []) 8).map fun u => (u, true)).length ≤ 400) := by
                  have := memU_len (P.getD pv []) 8
                  show _ ≤ _
                  rw [List.length_append, List.length_map]
                  omega
                obtain ⟨kb1', kb2'⟩ := box_cells HBX7.out
                clear kb1 kb2 ho7 hg7 hku
                obtain ⟨W7, hW7⟩ : ∃ W7, T ++ (memU (P.getD pv []) 8).map (fun u => (u, true)) = W7 := ⟨_, rfl⟩
                rw [hW7] at HM7 HL7
                have HW7 := hid hW7
                have hl7 : W7.length ≤ 400 := HL7.out
                clear hW7
                obtain ⟨d7, c7, rfl⟩ := HM7.out.row.shape
                go_wp2_with fail
                refine (HZH.out pv w7 (by omega)).mono ?_
                rintro e wq ⟨rfl, hwq⟩
                rw [hwq, decide_eq_false hz]
                clear hwq wq
                have hkd := HKD.out w7 HM7.out.fr
                go_wp2_with fail
                refine (HCD1.out _ _ W7 w7 HM7.out.row (by have := HL7.out; omega) (by rw [hs3]; omega)).mono ?_
                rintro e w8 ⟨v8, rfl, ho8, hg8⟩
                have HM8 := hid (HM7.out.more (by rw [hs3]; omega) ho8 hg8)
                clear ho8 hg8 hkd
                obtain ⟨W8, hW8⟩ : ∃ W8, W7 ++ (memU (chL P pv n) 8).map (fun u => (u, false)) = W8 := ⟨_, rfl⟩
                rw [hW8] at HM8
                have HW8 := hid hW8
                clear hW8
                obtain ⟨d8, c8, rfl⟩ := HM8.out.row.shape
                go_wp2
                have HNW := hid (HADD.out S T (pv, false) HS.out HIN.out HNY.out)
                rw [HSUC.out] at HNW
                have hfw := HFEW.out _ _ HNW.out
                have e1 : (if ((pv, false).2 && !decide ((pv, false).1 ∈ z) || !(pv, false).2 && decide ((pv, false).1 ∈ abS P z n)) = true then (memU (P.getD (pv, false).1 []) 8).map (fun u => (u, true)) else []) = (memU (P.getD pv []) 8).map (fun u => (u, true)) := by simp [ha]
                have e2 : (if (pv, false).1 ∈ z then [] else (memU (chL P (pv, false).1 n) 8).map (fun u => (u, false))) = (memU (chL P pv n) 8).map (fun u => (u, false)) := by simp [hz]
                rw [e1, e2] at HNW
                rw [← List.append_assoc] at HNW
                have hm1 := memU_len (P.getD pv []) 8
                have hm2 := memU_len (chL P pv n) 8
                rw [HW7.out] at HNW
                rw [HW8.out] at HNW
                have hln : W8.length ≤ T.length + 16 := by
                  rw [← HW8.out]
                  rw [← HW7.out]
                  (try simp only [List.length_append, List.length_map])
                  omega
                rw [List.length_cons] at hfw
                go_roundg ((16 - (S.length + 1)) * 100 + W8.length)
                case measure => omega
                case rel => exact ⟨_, _, _, _, _, rfl, HNW, HM8, Nat.le_refl _⟩
            · by_cases hz : pv ∈ z
              · go_wp2_with fail
                refine (HMH.out pv w5 (by omega)).mono ?_
                rintro e wq ⟨rfl, hwq⟩
                rw [hwq, decide_eq_false ha]
                clear hwq wq
                go_wp2_with fail
                refine (HZH.out pv w5 (by omega)).mono ?_
                rintro e wq ⟨rfl, hwq⟩
                rw [hwq, decide_eq_true hz]
                clear hwq wq
                go_wp2
                have HNW := hid (HADD.out S T (pv, false) HS.out HIN.out HNY.out)
                rw [HSUC.out] at HNW
                have hfw := HFEW.out _ _ HNW.out
                have e1 : (if ((pv, false).2 && !decide ((pv, false).1 ∈ z) || !(pv, false).2 && decide ((pv, false).1 ∈ abS P z n)) = true then (memU (P.getD (pv, false).1 []) 8).map (fun u => (u, true)) else []) = ([] : List (Nat × Bool)) := by simp [ha]
                have e2 : (if (pv, false).1 ∈ z then [] else (memU (chL P (pv, false).1 n) 8).map (fun u => (u, false))) = ([] : List (Nat × Bool)) := by simp [hz]
                rw [e1, e2] at HNW
                rw [List.append_nil] at HNW
                rw [List.append_nil] at HNW
                have hm1 := memU_len (P.getD pv []) 8
                have hm2 := memU_len (chL P pv n) 8
                skip
                skip
                have hln : T.length ≤ T.length + 16 := by
                  skip
                  skip
                  (try simp only [List.length_append, List.length_map])
                  omega
                rw [List.length_cons] at hfw
                go_roundg ((16 - (S.length + 1)) * 100 + T.length)
                case measure => omega
                case rel => exact ⟨_, _, _, _, _, rfl, HNW, HM5, Nat.le_refl _⟩
              · go_wp2_with fail
                refine (HMH.out pv w5 (by omega)).mono ?_
                rintro e wq ⟨rfl, hwq⟩
                rw [hwq, decide_eq_false ha]
                clear hwq wq
                go_wp2_with fail
                refine (HZH.out pv w5 (by omega)).mono ?_
                rintro e wq ⟨rfl, hwq⟩
                rw [hwq, decide_eq_false hz]
                clear hwq wq
                have hkd := HKD.out w5 HM5.out.fr
                go_wp2_with fail
                refine (HCD1.out _ _ T w5 HM5.out.row (by omega) (by rw [hs3]; omega)).mono ?_
                rintro e w8 ⟨v8, rfl, ho8, hg8⟩
                have HM8 := hid (HM5.out.more (by rw [hs3]; omega) ho8 hg8)
                clear ho8 hg8 hkd
                obtain ⟨W8, hW8⟩ : ∃ W8, T ++ (memU (chL P pv n) 8).map (fun u => (u, false)) = W8 := ⟨_, rfl⟩
                rw [hW8] at HM8
                have HW8 := hid hW8
                clear hW8
                obtain ⟨d8, c8, rfl⟩ := HM8.out.row.shape
                go_wp2
                have HNW := hid (HADD.out S T (pv, false) HS.out HIN.out HNY.out)
                rw [HSUC.out] at HNW
                have hfw := HFEW.out _ _ HNW.out
                have e1 : (if ((pv, false).2 && !decide ((pv, false).1 ∈ z) || !(pv, false).2 && decide ((pv, false).1 ∈ abS P z n)) = true then (memU (P.getD (pv, false).1 []) 8).map (fun u => (u, true)) else []) = ([] : List (Nat × Bool)) := by simp [ha]
                have e2 : (if (pv, false).1 ∈ z then [] else (memU (chL P (pv, false).1 n) 8).map (fun u => (u, false))) = (memU (chL P pv n) 8).map (fun u => (u, false)) := by simp [hz]
                rw [e1, e2] at HNW
                rw [List.nil_append] at HNW
                have hm1 := memU_len (P.getD pv []) 8
                have hm2 := memU_len (chL P pv n) 8
                skip
                rw [HW8.out] at HNW
                have hln : W8.length ≤ T.length + 16 := by
                  rw [← HW8.out]
                  skip
                  (try simp only [List.length_append, List.length_map])
                  omega
                rw [List.length_cons] at hfw
                go_roundg ((16 - (S.length + 1)) * 100 + W8.length)
                case measure => omega
                case rel => exact ⟨_, _, _, _, _, rfl, HNW, HM8, Nat.le_refl _⟩
end Go.Proofs.Ytockhhleapbpiaa

