/- The document's answer: a row of raw weights. -/
import Derived.Test.YtnnfmfdjgdgdhaaDoorRtHToMadA
namespace Go.Proofs.YtnnfmfdjgdgdhaaDoor
open Go.RowKit Go.Shelf Go.Lib

theorem iL_sum_snoc (Ls : List Nat) (a : Nat) : iL (Ls ++ [a]) = iL Ls ++ [(a : Int)] := by simp [iL]
theorem RwI.put {w : World} {B g n cap : Nat} {l : List Int} (h : RwI w B (.slice (some ⟨g, 0, none⟩) n cap) l) (j : Nat) (y : Int) : RwI (w.setCell ⟨g, j, none⟩ (.int .i64 y)) B (.slice (some ⟨g, 0, none⟩) n cap) (l.set j y) := by
  rcases h.2 with ⟨h1, _⟩ | ⟨g', cap', cur, h1, h2, h3, h4, h5, h6, h7⟩
  · cases h1
  · cases h1
    refine ⟨by simp, .inr ⟨g, cap, _, by simp, h2, heap_setCell_same w g j _ _ _ h3, by simpa using h4, h5, by simpa using h6, ?_⟩⟩
    rw [Array.toList_setIfInBounds, List.length_set, List.map_set, ← h7, List.take_set]
theorem RwF.lower {w : World} {B B' : Nat} {v : Value} {l : List Fr} (h : RwF w B v l) (hb : B' ≤ B) : RwF w B' v l := by
  refine ⟨h.1, ?_⟩
  rcases h.2 with h1 | ⟨g, cap, cur, h1, h2, h3, h4⟩
  · exact .inl h1
  · exact .inr ⟨g, cap, cur, h1, Nat.le_trans hb h2, h3, h4⟩
theorem RwI.lower {w : World} {B B' : Nat} {v : Value} {l : List Int} (h : RwI w B v l) (hb : B' ≤ B) : RwI w B' v l := by
  refine ⟨h.1, ?_⟩
  rcases h.2 with h1 | ⟨g, cap, cur, h1, h2, h3, h4⟩
  · exact .inl h1
  · exact .inr ⟨g, cap, cur, h1, Nat.le_trans hb h2, h3, h4⟩
theorem RwI.emptyB (w : World) (B : Nat) : RwI w B (.slice none 0 0) [] := ⟨rfl, .inl ⟨rfl, rfl⟩⟩
/-- Raw weights so far. -/
structure Wts (Ls : List Nat) (i : Nat) : Prop where
  len : Ls.length = i
  six : ∀ a ∈ Ls, a ≤ 6

set_option maxRecDepth 100000 in
set_option maxHeartbeats 2000000 in
theorem rowOf_any (d : Option Addr) (cd k n : Nat) (W : List Int) (w : World) (hW : IntS w d W) (hr : ∀ x ∈ W, -9223372036854775808 ≤ x ∧ x ≤ 9223372036854775807) (hk : k ≤ 100000) (hn1 : 1 ≤ n) (hn3 : n ≤ 5) (hWl : W.length ≤ 140737488355328) :
    Calls Tryd.prog 4 #[.slice d W.length cd, .int .i64 (k : Nat), .int .i64 (n : Nat)] w fun e w' => ∃ (x : Value) (Ls : List Nat), e = .returned x ∧ RwF w' w.heap.size x (rawF Ls) ∧ Wts Ls n ∧ 1 ≤ Ls.sum ∧ Below w.heap.size w w' := by
  have HW := hid hW
  have HR := hid hr
  have HPK := hid (fun (c : Int) (h : -9223372036854775808 ≤ c ∧ c ≤ 9223372036854775807) (U : World) => rPick_any c 7 U h.1 h.2 (by omega) (by omega))
  have HPL := hid (fun (c : Int) => pickN_lt c (n := 7) (by omega))
  have HOF := hid (fun (a : Nat) (h : a ≤ 100) (U : World) => rOfF_any (a : Int) U (by omega) (by omega))
  have HOF' : Hid (∀ (a : Nat), a ≤ 100 → ∀ U : World, Calls Tryd.prog 9 #[.int .i64 (a : Nat)] U fun e w' => e = .returned (frV (qF (a : Rat))) ∧ Below U.heap.size U w') := fun a ha U => by
    have h := HOF.out a ha U
    rw [mkRat_int] at h
    exact h
  have HDV : Hid (∀ (a s : Nat), a ≤ 100 → 1 ≤ s → s ≤ 100 → ∀ U : World, Calls Tryd.prog 10 #[frV (qF (a : Rat)), frV (qF (s : Rat))] U fun e w' => e = .returned (.tuple #[frV (qF ((a : Rat) / (s : Rat))), .int .i64 0]) ∧ Below U.heap.size U w') := fun a s ha hs1 hs2 U => by
    have hne : (s : Rat) ≠ 0 := fun e => by
      have e' : s = 0 := by exact_mod_cast e
      omega
    have h := rDivF_yes (sgn (a : Rat)) (sgn (s : Rat)) (nu (a : Rat)) (de (a : Rat)) (nu (s : Rat)) (de (s : Rat)) U (by rw [val_own]; exact hne) (by rw [own_size]; have := qw_nat (n := a) (by omega); omega) (by rw [own_size]; have := qw_nat (n := s) (by omega); omega)
    rw [val_own, val_own] at h
    exact h
  clear HOF
  have HOF := HOF'
  clear HOF' hW hr
  go_enter Tryd.func4, Tryd.ntmps4
  go_wp2_with fail
  go_loopw [7, 8, 9] (fun x sv iv wr => ∃ (i : Nat) (Ls : List Nat), i ≤ n ∧ iv = .int .i64 i ∧ sv = .int .i64 (Ls.sum : Nat) ∧ Hid (Wts Ls i) ∧ Hid (RwI wr w.heap.size x (iL Ls)) ∧ Hid (Below w.heap.size w wr)) (fun _ _ iv _ => n - (intOf iv).toNat)
  case atStart => exact ⟨0, [], Nat.zero_le _, rfl, rfl, ⟨rfl, fun a ha => by cases ha⟩, RwI.emptyB _ _, Below.refl _ _⟩
  case round =>
    obtain ⟨i, Ls, hi, rfl, rfl, HL, HX, HB⟩ := hrel
    by_cases hlt : i < n
    · have hs18 : Ls.sum ≤ 100 := by have := sum_le6 HL.out.six; have := HL.out.len; omega
      have hll := HL.out.len
      by_cases hw0 : 0 < W.length
      · obtain ⟨ki, hki⟩ : ∃ ki, ki = k + i := ⟨_, rfl⟩
        have hwr : IntKind.i64.wrap ((k : Int) + (i : Int)) = (ki : Int) := by rw [IntKind.wrap_i64]; omega
        obtain ⟨t, ht⟩ : ∃ t, t = ki % W.length := ⟨_, rfl⟩
        have htl : t < W.length := by rw [ht]; exact Nat.mod_lt _ hw0
        have hrem : (ki : Int) % (W.length : Int) = (t : Int) := by rw [ht, Int.natCast_emod]
        obtain ⟨g', o', rfl, hg', cW⟩ := (HW.out.below HB.out) t htl
        have hxr := HR.out W[t] (List.getElem_mem htl)
        have hpl := HPL.out W[t]
        have HPT := hid (fun U => HPK.out W[t] hxr U)
        have hwpos : (0 : Int) < (W.length : Int) := by omega
        have hwne : ¬ (W.length : Int) = 0 := by omega
        have hwr2 : IntKind.i64.wrap ((ki : Int) % (W.length : Int)) = (t : Int) := by rw [hrem, IntKind.wrap_i64]; omega
        clear ht hki hw0
        generalize W[t] = wt at *
        generalize pickN wt 7 = p at *
        go_wp2_with fail
        refine (HPT.out _).mono ?_
        rintro e w1 ⟨rfl, hb1⟩
        have HX1 := hid (HX.out.below hb1)
        have HB1 := hid (HB.out.trans (hb1.mono HB.out.size))
        have HXA := hid (HX1.out.below ((Below.refl _ w1).alloc (Nat.le_refl _) (.cells #[.int .i64 (p : Int)] 3)))
        have HBA := hid (HB1.out.alloc HB1.out.size (.cells #[.int .i64 (p : Int)] 3))
        have HIA := hid (one_int w1 (p : Int))
        have hbs : w.heap.size ≤ (w1.alloc (.cells #[.int .i64 (p : Int)] 3)).heap.size := HBA.out.size
        have hil : (iL Ls).length = i := by rw [iL_length]; exact hll
        have HSU := hid (iL_sum_snoc Ls p)
        have hsm : IntKind.i64.wrap ((Ls.sum : Int) + (p : Int)) = (((Ls ++ [p]).sum : Nat) : Int) := by rw [IntKind.wrap_i64]; simp; omega
        have HWT : Hid (Wts (Ls ++ [p]) (i + 1)) := ⟨by simp [hll], fun a ha => by rcases List.mem_append.1 ha with ha | ha; exact HL.out.six a ha; rw [List.mem_singleton.1 ha]; omega⟩
        generalize hs2 : (Ls ++ [p]).sum = s2 at *
        have HS2 := hid hs2
        clear hs2
        clear cW hb1 HX HB HX1 HB1
        go_wp2_with (at_builtin; refine wpList_append_ints rfl _ _ rfl w.heap.size _ (iL Ls) [(p : Int)] rfl HXA.out (some ⟨w1.heap.size, 0, none⟩) 1 rfl HIA.out (fun e => by cases e) (by simp; omega) hbs ?_; intro v' w3 hr3 hg3; have HB3 := hid (HBA.out.grown hg3 hbs (fun k e => HXA.out.own k e)))
        go_roundw
        case rel => exact ⟨i + 1, Ls ++ [p], by omega, by go_num, by rw [HS2.out], HWT, by rw [HSU.out]; exact hr3, HB3⟩
        case measure => simp [intOf]; omega
      · have hgt : ¬ (0 : Int) < (W.length : Int) := by omega
        have hgt2 : decide (0 < W.length) = false := decide_eq_false (by omega)
        have HXA := hid (HX.out.below ((Below.refl _ wr).alloc (Nat.le_refl _) (.cells #[.int .i64 1] 3)))
        have HBA := hid (HB.out.alloc HB.out.size (.cells #[.int .i64 1] 3))
        have HIA := hid (one_int wr 1)
        have hbs : w.heap.size ≤ (wr.alloc (.cells #[.int .i64 1] 3)).heap.size := HBA.out.size
        have hil : (iL Ls).length = i := by rw [iL_length]; exact hll
        have HSU := hid (iL_sum_snoc Ls 1)
        have hsm : IntKind.i64.wrap ((Ls.sum : Int) + 1) = (((Ls ++ [1]).sum : Nat) : Int) := by rw [IntKind.wrap_i64]; simp; omega
        have HWT : Hid (Wts (Ls ++ [1]) (i + 1)) := ⟨by simp [hll], fun a ha => by rcases List.mem_append.1 ha with ha | ha; exact HL.out.six a ha; rw [List.mem_singleton.1 ha]; omega⟩
        have HS2 := hid (Eq.refl (Ls ++ [1]).sum)
        generalize hs2 : (Ls ++ [1]).sum = s2 at *
        have HS3 := hid hs2
        clear hs2 HS2 HX HB hw0
        go_wp2_with (at_builtin; refine wpList_append_ints rfl _ _ rfl w.heap.size _ (iL Ls) [(1 : Int)] rfl HXA.out (some ⟨wr.heap.size, 0, none⟩) 1 rfl HIA.out (fun e => by cases e) (by simp; omega) hbs ?_; intro v' w3 hr3 hg3; have HB3 := hid (HBA.out.grown hg3 hbs (fun k e => HXA.out.own k e)))
        go_roundw
        case rel => exact ⟨i + 1, Ls ++ [1], by omega, by go_num, by rw [HS3.out], HWT, by rw [HSU.out]; exact hr3, HB3⟩
        case measure => simp [intOf]; omega
    · obtain rfl : n = i := by omega
      have hs18 : Ls.sum ≤ 100 := by have := sum_le6 HL.out.six; have := HL.out.len; omega
      have hll := HL.out.len
      by_cases hs0 : Ls.sum = 0
      · have hlp : 0 < (iL Ls).length := by rw [iL_length]; omega
        rcases HX.out.cases with ⟨_, hnil⟩ | ⟨g, cap, rfl, hg0, hg, hc1, hc2, hh⟩
        · rw [hnil] at hlp; exact absurd hlp (by simp)
        · have hput := HX.out.put 0 1
          obtain ⟨hc0, hf0⟩ := hh 0 (by simpa using hlp)
          rw [Nat.zero_add] at hc0 hf0
          have HBP := hid (HB.out.setCell (p := ⟨g, 0, none⟩) hg0 (.int .i64 1))
          have hilen : (iL Ls).length = n := by rw [iL_length]; exact hll
          rw [hilen]
          obtain ⟨a0, l0, rfl⟩ : ∃ a0 l0, Ls = a0 :: l0 := by
            cases Ls with
            | nil => rw [← hll] at hn1; exact absurd hn1 (by simp)
            | cons a0 l0 => exact ⟨a0, l0, rfl⟩
          have ha0 : a0 = 0 ∧ l0.sum = 0 := by simp at hs0; exact hs0
          have HXP : Hid (RwI (wr.setCell ⟨g, 0, none⟩ (.int .i64 1)) w.heap.size (.slice (some ⟨g, 0, none⟩) n cap) (iL (1 :: l0))) := by
            rw [hilen] at hput
            exact hput
          have HW2 : Hid (Wts (1 :: l0) n) := ⟨by simpa using hll, fun a ha => by rcases List.mem_cons.1 ha with rfl | ha; omega; exact HL.out.six a (List.mem_cons_of_mem _ ha)⟩
          have HSS : Hid ((1 :: l0).sum = 1 ∧ 1 ≤ 1 ∧ 1 ≤ 100) := ⟨by simp [ha0.2], by omega, by omega⟩
          have hi0 : (0 : Int) < (n : Int) := by omega
          rw [hs0, show ((0 : Nat) : Int) = 0 from rfl]
          clear hs0 hput hh HX HB hilen hs18 hll HL
          go_upto_region 14 with fail
          clear hc0 hf0 ha0
          generalize (wr.setCell ⟨g, 0, none⟩ (.int .i64 1)) = wb at *
          have HX2 := HXP
          have HB2 := HBP
          obtain ⟨S, hS⟩ : ∃ S : Nat, S = 1 := ⟨1, rfl⟩
          obtain ⟨Ls2, hL2⟩ : ∃ Ls2, Ls2 = 1 :: l0 := ⟨_, rfl⟩
          rw [← hL2] at HW2 HSS HX2
          have HSS2 : Hid (Ls2.sum = S ∧ 1 ≤ S ∧ S ≤ 100) := by rw [hS]; exact HSS
          have e1 : (1 : Int) = ((S : Nat) : Int) := by rw [hS]; rfl
          rw [e1]
          clear HSS HXP HBP hL2 hS e1
          have HSS := HSS2
          clear HSS2
          obtain ⟨d7, cd7, e7, hi7⟩ := HX2.out.ints
          have HI7 := hid hi7
          have hil2 : (iL Ls2).length = n := by rw [iL_length]; exact HW2.out.len
          rw [hil2] at e7
          cases e7
          have hS1 := HSS.out.2.1
          have hS2 := HSS.out.2.2
          have HSQ := hid HSS.out.1
          have HFL : Hid ((rawF Ls2).length = n) := by show _ = _; rw [rawF_length]; exact HW2.out.len
          have HFG : Hid (∀ j (h : j < Ls2.length), (rawF Ls2)[j]'(by rw [rawF_length]; exact h) = qF ((Ls2[j] : Rat) / (S : Rat))) := fun j h => by simp [rawF, HSQ.out]
          clear hi7 HSS
          go_wp2_with fail
          go_loopw [11, 12] (fun x iv wr2 => ∃ i : Nat, i ≤ n ∧ iv = .int .i64 i ∧ Hid (RwF wr2 wb.heap.size x ((rawF Ls2).take i)) ∧ Hid (Below wb.heap.size wb wr2)) (fun _ iv _ => n - (intOf iv).toNat)
          case atStart => exact ⟨0, Nat.zero_le _, rfl, RwF.empty _ _, Below.refl _ _⟩
          case round =>
            obtain ⟨i, hi, rfl, HY, HBB⟩ := hrel
            by_cases hlt : i < n
            · have hiL : i < (iL Ls2).length := by rw [hil2]; exact hlt
              have hiN : i < Ls2.length := by rw [← iL_length]; exact hiL
              obtain ⟨g', o', e8, hg', cL⟩ := (HI7.out.below HBB.out) i hiL
              cases e8
              (try rw [Nat.zero_add] at cL)
              have e1 : (iL Ls2)[i]'hiL = ((Ls2[i]'hiN : Nat) : Int) := by simp [iL]
              rw [e1] at cL
              have ha6 := HW2.out.six (Ls2[i]'hiN) (List.getElem_mem hiN)
              have hfg := HFG.out i hiN
              have HST : Hid ((rawF Ls2).take i ++ [qF (((Ls2[i]'hiN : Nat) : Rat) / (S : Rat))] = (rawF Ls2).take (i + 1)) := by show _ = _; rw [List.take_succ_eq_append_getElem (by rw [HFL.out]; exact hlt), hfg]
              clear e1 hfg
              generalize (Ls2[i]'hiN) = av at *
              have HO1 := hid (fun U => HOF.out av (by omega) U)
              have HO2 := hid (fun U => HOF.out S (by omega) U)
              have HDV2 := hid (fun U => HDV.out av S (by omega) (by omega) (by omega) U)
              generalize qF ((av : Nat) : Rat) = fa at *
              generalize qF ((S : Nat) : Rat) = fs at *
              generalize qF (((av : Nat) : Rat) / ((S : Nat) : Rat)) = fq at *
              obtain ⟨an, ax, ay⟩ := fa
              obtain ⟨sn, sx, sy⟩ := fs
              obtain ⟨qn, qx, qy⟩ := fq
              go_wp2_with fail
              refine (HO1.out _).mono ?_
              rintro e v1 ⟨rfl, hb1⟩
              go_wp2_with fail
              refine (HO2.out _).mono ?_
              rintro e v2 ⟨rfl, hb2⟩
              go_wp2_with fail
              refine (HDV2.out _).mono ?_
              rintro e v3 ⟨rfl, hb3⟩
              have hb23 := hb2.trans (hb3.mono hb2.size)
              have hb13 := hb1.trans (hb23.mono hb1.size)
              clear hb1 hb2 hb3 hb23
              have hbx := Box.new v3 qn qx qy
              have hb4 := hb13.alloc hb13.size (FC qn qx qy)
              obtain ⟨k0, k1, k2, -⟩ := hbx.facts
              have hbx2 : Box ((v3.alloc (FC qn qx qy)).alloc (FC qn qx qy)) (v3.heap.size + 1) qn qx qy := by
                have h := Box.new (v3.alloc (FC qn qx qy)) qn qx qy
                rwa [World.size_alloc] at h
              have hb5 := hb4.alloc hb4.size (FC qn qx qy)
              have HY5 := hid (HY.out.below hb5)
              have HB5 := hid (HBB.out.trans (hb5.mono HBB.out.size))
              have HBX := hid hbx2
              have hbs : wb.heap.size ≤ ((v3.alloc (FC qn qx qy)).alloc (FC qn qx qy)).heap.size := HB5.out.size
              have htl : ((rawF Ls2).take i).length ≤ 5 := by rw [List.length_take, HFL.out]; omega
              clear hb13 hb4 hb5 hbx hbx2 HY HBB cL
              go_wp2_with (at_builtin; refine wpList_append_fr rfl _ _ rfl wb.heap.size _ ((rawF Ls2).take i) (qn, qx, qy) rfl HY5.out (v3.heap.size + 1) rfl HBX.out (by omega) hbs ?_; intro v' v6 hr6 hg6; have HB6 := hid (HB5.out.grown hg6 hbs (fun k e => HY5.out.own k e)))
              go_roundw
              case rel => exact ⟨i + 1, by omega, by go_num, by rw [← HST.out]; exact hr6, HB6⟩
              case measure => simp [intOf]; omega
            · obtain rfl : i = n := by omega
              go_wp2
              go_ret
              have hr := HY.out
              rw [List.take_of_length_le (by rw [HFL.out]; exact Nat.le_refl _)] at hr
              exact ⟨_, Ls2, rfl, hr.lower HB2.out.size, HW2.out, by rw [HSQ.out]; exact hS1, HB2.out.trans (HBB.out.mono HB2.out.size)⟩
      · have hs0' : ¬ (Ls.sum : Int) = 0 := by omega
        obtain ⟨S, hS⟩ : ∃ S, Ls.sum = S := ⟨_, rfl⟩
        have HSS : Hid (Ls.sum = S ∧ 1 ≤ S ∧ S ≤ 100) := ⟨hS, by omega, by omega⟩
        rw [hS] at hs0' ⊢
        obtain ⟨Ls2, hL2⟩ : ∃ Ls2, Ls2 = Ls := ⟨_, rfl⟩
        rw [← hL2] at HL HX HSS
        have HW2 := HL
        have HX2 := HX
        have HB2 := HB
        have hsb : ((S : Int) == 0) = false := by simpa using hs0'
        clear hs0 hS hL2 HL HX HB hs18 hll
        go_upto_region 14 with fail
        clear hs0' hsb
        generalize wr = wb at *
        obtain ⟨d7, cd7, e7, hi7⟩ := HX2.out.ints
        have HI7 := hid hi7
        have hil2 : (iL Ls2).length = n := by rw [iL_length]; exact HW2.out.len
        rw [hil2] at e7
        cases e7
        have hS1 := HSS.out.2.1
        have hS2 := HSS.out.2.2
        have HSQ := hid HSS.out.1
        have HFL : Hid ((rawF Ls2).length = n) := by show _ = _; rw [rawF_length]; exact HW2.out.len
        have HFG : Hid (∀ j (h : j < Ls2.length), (rawF Ls2)[j]'(by rw [rawF_length]; exact h) = qF ((Ls2[j] : Rat) / (S : Rat))) := fun j h => by simp [rawF, HSQ.out]
        clear hi7 HSS
        go_wp2_with fail
        go_loopw [11, 12] (fun x iv wr2 => ∃ i : Nat, i ≤ n ∧ iv = .int .i64 i ∧ Hid (RwF wr2 wb.heap.size x ((rawF Ls2).take i)) ∧ Hid (Below wb.heap.size wb wr2)) (fun _ iv _ => n - (intOf iv).toNat)
        case atStart => exact ⟨0, Nat.zero_le _, rfl, RwF.empty _ _, Below.refl _ _⟩
        case round =>
          obtain ⟨i, hi, rfl, HY, HBB⟩ := hrel
          by_cases hlt : i < n
          · have hiL : i < (iL Ls2).length := by rw [hil2]; exact hlt
            have hiN : i < Ls2.length := by rw [← iL_length]; exact hiL
            obtain ⟨g', o', e8, hg', cL⟩ := (HI7.out.below HBB.out) i hiL
            cases e8
            (try rw [Nat.zero_add] at cL)
            have e1 : (iL Ls2)[i]'hiL = ((Ls2[i]'hiN : Nat) : Int) := by simp [iL]
            rw [e1] at cL
            have ha6 := HW2.out.six (Ls2[i]'hiN) (List.getElem_mem hiN)
            have hfg := HFG.out i hiN
            have HST : Hid ((rawF Ls2).take i ++ [qF (((Ls2[i]'hiN : Nat) : Rat) / (S : Rat))] = (rawF Ls2).take (i + 1)) := by show _ = _; rw [List.take_succ_eq_append_getElem (by rw [HFL.out]; exact hlt), hfg]
            clear e1 hfg
            generalize (Ls2[i]'hiN) = av at *
            have HO1 := hid (fun U => HOF.out av (by omega) U)
            have HO2 := hid (fun U => HOF.out S (by omega) U)
            have HDV2 := hid (fun U => HDV.out av S (by omega) (by omega) (by omega) U)
            generalize qF ((av : Nat) : Rat) = fa at *
            generalize qF ((S : Nat) : Rat) = fs at *
            generalize qF (((av : Nat) : Rat) / ((S : Nat) : Rat)) = fq at *
            obtain ⟨an, ax, ay⟩ := fa
            obtain ⟨sn, sx, sy⟩ := fs
            obtain ⟨qn, qx, qy⟩ := fq
            go_wp2_with fail
            refine (HO1.out _).mono ?_
            rintro e v1 ⟨rfl, hb1⟩
            go_wp2_with fail
            refine (HO2.out _).mono ?_
            rintro e v2 ⟨rfl, hb2⟩
            go_wp2_with fail
            refine (HDV2.out _).mono ?_
            rintro e v3 ⟨rfl, hb3⟩
            have hb23 := hb2.trans (hb3.mono hb2.size)
            have hb13 := hb1.trans (hb23.mono hb1.size)
            clear hb1 hb2 hb3 hb23
            have hbx := Box.new v3 qn qx qy
            have hb4 := hb13.alloc hb13.size (FC qn qx qy)
            obtain ⟨k0, k1, k2, -⟩ := hbx.facts
            have hbx2 : Box ((v3.alloc (FC qn qx qy)).alloc (FC qn qx qy)) (v3.heap.size + 1) qn qx qy := by
              have h := Box.new (v3.alloc (FC qn qx qy)) qn qx qy
              rwa [World.size_alloc] at h
            have hb5 := hb4.alloc hb4.size (FC qn qx qy)
            have HY5 := hid (HY.out.below hb5)
            have HB5 := hid (HBB.out.trans (hb5.mono HBB.out.size))
            have HBX := hid hbx2
            have hbs : wb.heap.size ≤ ((v3.alloc (FC qn qx qy)).alloc (FC qn qx qy)).heap.size := HB5.out.size
            have htl : ((rawF Ls2).take i).length ≤ 5 := by rw [List.length_take, HFL.out]; omega
            clear hb13 hb4 hb5 hbx hbx2 HY HBB cL
            go_wp2_with (at_builtin; refine wpList_append_fr rfl _ _ rfl wb.heap.size _ ((rawF Ls2).take i) (qn, qx, qy) rfl HY5.out (v3.heap.size + 1) rfl HBX.out (by omega) hbs ?_; intro v' v6 hr6 hg6; have HB6 := hid (HB5.out.grown hg6 hbs (fun k e => HY5.out.own k e)))
            go_roundw
            case rel => exact ⟨i + 1, by omega, by go_num, by rw [← HST.out]; exact hr6, HB6⟩
            case measure => simp [intOf]; omega
          · obtain rfl : i = n := by omega
            go_wp2
            go_ret
            have hr := HY.out
            rw [List.take_of_length_le (by rw [HFL.out]; exact Nat.le_refl _)] at hr
            exact ⟨_, Ls2, rfl, hr.lower HB2.out.size, HW2.out, by rw [HSQ.out]; exact hS1, HB2.out.trans (HBB.out.mono HB2.out.size)⟩
end Go.Proofs.YtnnfmfdjgdgdhaaDoor

