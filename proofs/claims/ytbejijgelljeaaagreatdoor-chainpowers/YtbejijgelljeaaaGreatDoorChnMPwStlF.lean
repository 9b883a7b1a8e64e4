/- MatrixOf of the document's answer: a chain of raw numbers. -/
import Derived.Test.YtbejijgelljeaaaGreatDoorChnEPwHidF
import Derived.Test.YtbejijgelljeaaaGreatDoorStlDPwHidJ
import Derived.Test.YtbejijgelljeaaaGreatDoorChnGPwStlP
import Derived.Test.YtbejijgelljeaaaGreatDoorStlCPwStlQ
import Derived.Test.YtbejijgelljeaaaGreatDoorChnPPwRtC
import Derived.Test.YtbejijgelljeaaaGreatDoorFracFPwHidP
import Derived.Test.YtbejijgelljeaaaGreatDoorCore1PwMem
import Derived.Deep.RegionHeld3
namespace Go.Proofs.YtbejijgelljeaaaGreatDoor
open Go.RowKit Go.Shelf
theorem OwR.push {U U' : World} {B : Nat} {y v' q : Value} {r : List Fr} {P : List PR} (h : OwR U B y P) (hr : U'.ownsRow B 27 1 v' (P.length + 1) (P.map (·.1) ++ [q])) (hg : U.grownBy U' y.ownBlock) (hq : RwF U B q r) : OwR U' B v' (P ++ [(q, r)]) := by
  have hk : KeepT 33 U U' := KeepT.grown hg (owns_typed h.1) (by decide)
  refine ⟨by rw [List.length_append, List.map_append]; exact hr, fun p hp => ?_⟩
  rcases List.mem_append.1 hp with hp | hp
  · exact owns_keep (h.2 p hp) hk
  · rw [List.mem_singleton.1 hp]
    exact owns_keep hq hk
theorem OwR.below {U U' : World} {B : Nat} {y : Value} {P : List PR} (h : OwR U B y P) (hb : Below U.heap.size U U') : OwR U' B y P := h.keep (KeepT.below hb) (KeepT.below hb)
set_option maxRecDepth 100000 in
set_option maxHeartbeats 2000000 in
theorem matrixOf_any (d : Option Addr) (cd n : Nat) (W : List Int) (w : World) (hW : IntS w d W) (hr : ∀ x ∈ W, -9223372036854775808 ≤ x ∧ x ≤ 9223372036854775807) (hWl : W.length ≤ 140737488355328) (hn1 : 1 ≤ n) (hn : n ≤ 5) :
    Calls Tryz.prog 8 #[.slice d W.length cd, .int .i64 (n : Nat)] w fun e w' => ∃ (y : Value) (P1 : List PR), e = .returned y ∧ OwR w' w.heap.size y P1 ∧ RwP n n P1 ∧ Below w.heap.size w w' := by
  have HROW := hid (fun (a : Option Addr) (ca : Nat) (L : List Int) (U : World) (hU : IntS U a L) (hr : ∀ x ∈ L, -9223372036854775808 ≤ x ∧ x ≤ 9223372036854775807) (hl : L.length = n) => rowOf_any a ca 0 n L U hU hr (by omega) hn1 hn (by omega))
  have HPK := hid (fun (c : Int) (h : -9223372036854775808 ≤ c ∧ c ≤ 9223372036854775807) (U : World) => rPick_any c 9 U h.1 h.2 (by omega) (by omega))
  have HPL := hid (fun (c : Int) => pickN_lt c (n := 9) (by omega))
  have HW := hid hW
  have HRG := hid hr
  clear hW hr
  go_enter Tryz.func8, Tryz.ntmps8
  go_wp2_with fail
  go_loopw [5, 6] (fun yv iv wr => ∃ i : Nat, i ≤ n ∧ iv = .int .i64 i ∧ ∃ P1 : List PR, Hid (OwR wr w.heap.size yv P1) ∧ Hid (RwP i n P1) ∧ Hid (Below w.heap.size w wr)) (fun _ iv _ => n - (intOf iv).toNat)
  case atStart => exact ⟨0, Nat.zero_le _, rfl, [], OwR.nil _ _, ⟨rfl, fun p hp => by cases hp⟩, Below.refl _ _⟩
  case round =>
    obtain ⟨i, hi, rfl, P1, HK, HP1, HB⟩ := hrel
    by_cases hlt : i < n
    · obtain ⟨B0, hB0⟩ : ∃ x, x = wr.heap.size := ⟨_, rfl⟩
      have HWR : Hid (w.heap.size ≤ B0) := by rw [hB0]; exact HB.out.size
      have HB0 := hid hB0
      clear hB0
      go_wp2_with fail
      go_loopw [7, 8] (fun lv kv wq => ∃ (k : Nat) (L : List Int), k ≤ n ∧ kv = .int .i64 k ∧ L.length = k ∧ Hid (∀ x ∈ L, -9223372036854775808 ≤ x ∧ x ≤ 9223372036854775807) ∧ Hid (RwI wq B0 lv L) ∧ Hid (OwR wq w.heap.size u5 P1) ∧ Hid (Below w.heap.size w wq) ∧ Hid (B0 ≤ wq.heap.size)) (fun _ kv _ => n - (intOf kv).toNat)
      case atStart => exact ⟨0, [], Nat.zero_le _, rfl, rfl, (fun x hx => by cases hx), ⟨rfl, .inl ⟨rfl, rfl⟩⟩, HK, HB, Nat.le_of_eq HB0.out⟩
      case round =>
        obtain ⟨k, L, hk, rfl, hLk, HLR, HL', HK', HB', HSZ'⟩ := hrel
        clear HK HB
        by_cases hlk : k < n
        · by_cases hw0 : 0 < W.length
          · obtain ⟨ik, hik⟩ : ∃ ik, ik = i * n + k := ⟨_, rfl⟩
            have hin : i * n ≤ 25 := Nat.le_trans (Nat.mul_le_mul (by omega : i ≤ 5) hn) (by decide)
            have ein : (i : Int) * (n : Int) = ((i * n : Nat) : Int) := by push_cast; rfl
            have hw1 : IntKind.i64.wrap ((i : Int) * (n : Int)) = ((i * n : Nat) : Int) := by rw [ein, IntKind.wrap_i64]; omega
            have hw2 : IntKind.i64.wrap (((i * n : Nat) : Int) + (k : Int)) = (ik : Int) := by rw [IntKind.wrap_i64]; omega
            generalize i * n = in_ at *
            clear ein
            obtain ⟨t, ht⟩ : ∃ t, t = ik % W.length := ⟨_, rfl⟩
            have htl : t < W.length := by rw [ht]; exact Nat.mod_lt _ hw0
            have hrem : (ik : Int) % (W.length : Int) = (t : Int) := by rw [ht, Int.natCast_emod]
            obtain ⟨g', o', rfl, hg', cW⟩ := (HW.out.below HB'.out) t htl
            have hxr := HRG.out W[t] (List.getElem_mem htl)
            have hpl := HPL.out W[t]
            have HPT := hid (fun U => HPK.out W[t] hxr U)
            have hwpos : (0 : Int) < (W.length : Int) := by omega
            have hwne : ¬ (W.length : Int) = 0 := by omega
            have hwr2 : IntKind.i64.wrap ((ik : Int) % (W.length : Int)) = (t : Int) := by rw [hrem, IntKind.wrap_i64]; omega
            clear ht hik hw0
            generalize W[t] = wt at *
            generalize pickN wt 9 = p at *
            go_wp2_with fail
            refine (HPT.out _).mono ?_
            rintro e w1 ⟨rfl, hb1⟩
            have HL1 := hid (HL'.out.below hb1)
            have HK1 := hid (HK'.out.below hb1)
            have HB1 := hid (HB'.out.trans (hb1.mono HB'.out.size))
            have HSZ1 : Hid (B0 ≤ w1.heap.size) := Nat.le_trans HSZ'.out hb1.size
            clear HL' HK' HB' HSZ' hb1 cW HPT
            by_cases hp3 : p < 3
            · have hneg : ((p : Int) - 3 < 0) := by omega
              have HXA := hid (HL1.out.below ((Below.refl _ w1).alloc (Nat.le_refl _) (.cells #[.int .i64 0] 3)))
              have HBA := hid (HB1.out.alloc HB1.out.size (.cells #[.int .i64 0] 3))
              have HKA := hid (HK1.out.below ((Below.refl _ w1).alloc (Nat.le_refl _) (.cells #[.int .i64 0] 3)))
              have HSA : Hid (B0 ≤ (w1.alloc (.cells #[.int .i64 0] 3)).heap.size) := Nat.le_trans HSZ1.out (by simp)
              have HIA := hid (one_int w1 0)
              have HLR2 : Hid (∀ x ∈ L ++ [(0 : Int)], -9223372036854775808 ≤ x ∧ x ≤ 9223372036854775807) := fun x hx => by
                rcases List.mem_append.1 hx with hx | hx
                · exact HLR.out x hx
                · rw [List.mem_singleton.1 hx]; omega
              clear HL1 HK1 HB1 HSZ1 hpl
              go_wp2_with (at_builtin; refine wpList_append_ints rfl _ _ rfl B0 _ L [(0 : Int)] rfl HXA.out (some ⟨w1.heap.size, 0, none⟩) 1 rfl HIA.out (fun e => by cases e) (by simp; omega) HSA.out ?_; intro v' w3 hr3 hg3; have HB3 := hid (HBA.out.grown hg3 HBA.out.size (fun k e => Nat.le_trans HWR.out (HXA.out.own k e))); have HK3 := hid (HKA.out.keep (KeepT.grown hg3 (owns_typed HXA.out) (by decide)) (KeepT.grown hg3 (owns_typed HXA.out) (by decide))); have HS3 : Hid (B0 ≤ w3.heap.size) := Nat.le_trans HSA.out hg3.size)
              go_roundw
              case rel => exact ⟨k + 1, L ++ [(0 : Int)], by omega, by go_num, by simp [hLk], HLR2, hr3, HK3, HB3, HS3⟩
              case measure => simp [intOf]; omega
            · have hneg : ¬ ((p : Int) - 3 < 0) := by omega
              obtain ⟨z, hz⟩ : ∃ z : Nat, z = p - 3 := ⟨_, rfl⟩
              have hzz : ((p : Int) - 3) = (z : Int) := by omega
              have hnz : ¬ ((z : Int) < 0) := by omega
              have hz9 : z < 9 := by omega
              clear hz
              have HXA := hid (HL1.out.below ((Below.refl _ w1).alloc (Nat.le_refl _) (.cells #[.int .i64 (z : Int)] 3)))
              have HBA := hid (HB1.out.alloc HB1.out.size (.cells #[.int .i64 (z : Int)] 3))
              have HKA := hid (HK1.out.below ((Below.refl _ w1).alloc (Nat.le_refl _) (.cells #[.int .i64 (z : Int)] 3)))
              have HSA : Hid (B0 ≤ (w1.alloc (.cells #[.int .i64 (z : Int)] 3)).heap.size) := Nat.le_trans HSZ1.out (by simp)
              have HIA := hid (one_int w1 (z : Int))
              have HLR2 : Hid (∀ x ∈ L ++ [((z : Int) : Int)], -9223372036854775808 ≤ x ∧ x ≤ 9223372036854775807) := fun x hx => by
                rcases List.mem_append.1 hx with hx | hx
                · exact HLR.out x hx
                · rw [List.mem_singleton.1 hx]; omega
              clear HL1 HK1 HB1 HSZ1 hpl hneg
              go_wp2_with (at_builtin; refine wpList_append_ints rfl _ _ rfl B0 _ L [((z : Int) : Int)] rfl HXA.out (some ⟨w1.heap.size, 0, none⟩) 1 rfl HIA.out (fun e => by cases e) (by simp; omega) HSA.out ?_; intro v' w3 hr3 hg3; have HB3 := hid (HBA.out.grown hg3 HBA.out.size (fun k e => Nat.le_trans HWR.out (HXA.out.own k e))); have HK3 := hid (HKA.out.keep (KeepT.grown hg3 (owns_typed HXA.out) (by decide)) (KeepT.grown hg3 (owns_typed HXA.out) (by decide))); have HS3 : Hid (B0 ≤ w3.heap.size) := Nat.le_trans HSA.out hg3.size)
              go_roundw
              case rel => exact ⟨k + 1, L ++ [((z : Int) : Int)], by omega, by go_num, by simp [hLk], HLR2, hr3, HK3, HB3, HS3⟩
              case measure => simp [intOf]; omega
          · have hgt : ¬ (0 : Int) < (W.length : Int) := by omega
            have hgt2 : decide (0 < W.length) = false := decide_eq_false (by omega)
            have HXA := hid (HL'.out.below ((Below.refl _ wr).alloc (Nat.le_refl _) (.cells #[.int .i64 1] 3)))
            have HBA := hid (HB'.out.alloc HB'.out.size (.cells #[.int .i64 1] 3))
            have HKA := hid (HK'.out.below ((Below.refl _ wr).alloc (Nat.le_refl _) (.cells #[.int .i64 1] 3)))
            have HSA : Hid (B0 ≤ (wr.alloc (.cells #[.int .i64 1] 3)).heap.size) := Nat.le_trans HSZ'.out (by simp)
            have HIA := hid (one_int wr 1)
            have HLR2 : Hid (∀ x ∈ L ++ [(1 : Int)], -9223372036854775808 ≤ x ∧ x ≤ 9223372036854775807) := fun x hx => by
              rcases List.mem_append.1 hx with hx | hx
              · exact HLR.out x hx
              · rw [List.mem_singleton.1 hx]; omega
            clear HL' HK' HB' HSZ' 
            go_wp2_with (at_builtin; refine wpList_append_ints rfl _ _ rfl B0 _ L [(1 : Int)] rfl HXA.out (some ⟨wr.heap.size, 0, none⟩) 1 rfl HIA.out (fun e => by cases e) (by simp; omega) HSA.out ?_; intro v' w3 hr3 hg3; have HB3 := hid (HBA.out.grown hg3 HBA.out.size (fun k e => Nat.le_trans HWR.out (HXA.out.own k e))); have HK3 := hid (HKA.out.keep (KeepT.grown hg3 (owns_typed HXA.out) (by decide)) (KeepT.grown hg3 (owns_typed HXA.out) (by decide))); have HS3 : Hid (B0 ≤ w3.heap.size) := Nat.le_trans HSA.out hg3.size)
            go_roundw
            case rel => exact ⟨k + 1, L ++ [(1 : Int)], by omega, by go_num, by simp [hLk], HLR2, hr3, HK3, HB3, HS3⟩
            case measure => simp [intOf]; omega
        · obtain rfl : k = n := by omega
          obtain ⟨dl, cl, rfl, hii⟩ := RwI.ints HL'.out
          have HRO : Hid (Calls Tryz.prog 29 #[.slice dl k cl, .int .i64 0, .int .i64 (k : Nat)] wr fun e w' => ∃ (x : Value) (Ls : List Nat), e = .returned x ∧ RwF w' wr.heap.size x (rawF Ls) ∧ Wts Ls k ∧ 1 ≤ Ls.sum ∧ Below wr.heap.size wr w') := by
            have h := HROW.out dl cl L _ hii HLR.out hLk
            rw [hLk] at h
            exact h
          clear hii HL'
          go_wp2_with fail
          refine HRO.out.mono ?_
          rintro e w3 ⟨xa, La, rfl, hxa, hwa, hsa, hb3⟩
          obtain ⟨da, na, ca, rfl⟩ := hxa.slv
          obtain ⟨dy, cy, rfl, -⟩ := owns_slice HK'.out.1
          have hAL := (Below.refl w3.heap.size w3).alloc (Nat.le_refl _) (.cells #[.slice da na ca] 27)
          have hone : (w3.alloc (.cells #[.slice da na ca] 27)).heap[w3.heap.size]? = some (.cells #[.slice da na ca] 27 (0, 0)) := heap_alloc_new w3 _
          have HC1 : Hid ((w3.alloc (.cells #[.slice da na ca] 27)).cell? ⟨w3.heap.size, 0, none⟩ = some (.slice da na ca)) := by
            show _ = _
            rw [cell_of_row _ _ _ _ _ (0, 0) hone]
            rfl
          have HB4 := hid ((HB'.out.trans (hb3.mono HB'.out.size)).alloc (Nat.le_trans HB'.out.size hb3.size) (.cells #[.slice da na ca] 27))
          have HA := hid ((hxa.lower HB'.out.size).below hAL)
          have HK4 := hid ((HK'.out.below hb3).below hAL)
          have HPP := hid (HP1.out.push (.slice da na ca) hwa hsa)
          have HL1 := hid HP1.out.1
          clear hone hAL hxa hwa hsa hb3 HK' HB'
          go_wp2_with (at_builtin; refine wpList_append_rs rfl _ _ rfl w.heap.size (.slice dy P1.length cy) P1 (.slice da na ca) ⟨_, _, _, rfl⟩ rfl HK4.out.1 w3.heap.size rfl HC1.out (by rw [HL1.out]; omega) HB4.out.size ?_; intro v5 w5 hr5 hg5; have HK5 := hid (HK4.out.push hr5 hg5 HA.out); have HB5 := hid (HB4.out.grown hg5 HB4.out.size (fun k e => owns_from HK4.out.1 k e)))
          go_roundw
          case rel => exact ⟨i + 1, by omega, by go_num, _, HK5, HPP, HB5⟩
          case measure => simp [intOf]; omega
    · obtain rfl : i = n := by omega
      go_wp2
      go_ret
      exact ⟨_, P1, rfl, HK.out, HP1.out, HB.out⟩
end Go.Proofs.YtbejijgelljeaaaGreatDoor

/- A chain that is made of raw numbers may be; what it is after so many steps. -/
namespace Go.Proofs.YtbejijgelljeaaaGreatDoor
open Go.RowKit Go.Shelf
theorem fw_small : ∀ {l : List Fr}, (∀ f ∈ l, f.2.1.size + f.2.2.size ≤ 2) → fw l ≤ 10 * l.length
  | [], _ => Nat.zero_le _
  | f :: l, h => by
    have h1 := h f List.mem_cons_self
    have h2 := fw_small (l := l) fun g hg => h g (List.mem_cons_of_mem _ hg)
    simp only [fw, List.length_cons]
    omega
theorem raw_lF {Ls : List Nat} {n : Nat} (hw : Wts Ls n) : rawF Ls = lF n fun j => (Ls.getD j 0 : Rat) / (Ls.sum : Rat) := by
  refine List.ext_getElem (by rw [rawF_length, lF_length]; exact hw.len) fun i h1 h2 => ?_
  have hi : i < Ls.length := by rw [rawF_length] at h1; exact h1
  rw [lF_get]
  simp [rawF, hi]
theorem raw_fits {Ls : List Nat} {n : Nat} (hw : Wts Ls n) (hn : n ≤ 5) (hs : 1 ≤ Ls.sum) (j : Nat) : Fits 1 ((Ls.getD j 0 : Rat) / (Ls.sum : Rat)) := by
  have h6 := sum_le6 hw.six
  have hl := hw.len
  have h1 : Ls.getD j 0 ≤ 6 := by
    by_cases hj : j < Ls.length
    · exact hw.six _ (getD_mem hj)
    · rw [List.getD_eq_getElem?_getD, List.getElem?_eq_none (by omega)]; simp
  exact ⟨(Ls.getD j 0 : Int), Ls.sum, by omega, by rw [Rat.mkRat_eq_div]; rfl, by omega, by simp only [Int.natAbs_natCast]; omega⟩
theorem chM_of {n : Nat} {P1 : List PR} (h1 : 1 ≤ n) (h5 : n ≤ 5) (h : RwP n n P1) : ∃ P : Nat → Nat → Rat, rOf P1 = mR n P ∧ ChM n P := by
  have hl : (rOf P1).length = n := by simp [rOf, h.1]
  have key : ∀ i, ∃ f : Nat → Rat, ∀ hi : i < (rOf P1).length, (rOf P1)[i] = lF n f ∧ (∀ j, Fits 1 (f j)) ∧ rowB (lF n f) = true := fun i => by
    by_cases hi : i < (rOf P1).length
    · have hi' : i < P1.length := by simpa [rOf] using hi
      obtain ⟨Ls, e1, e2, e3⟩ := h.2 P1[i] (List.getElem_mem hi')
      refine ⟨fun j => (Ls.getD j 0 : Rat) / (Ls.sum : Rat), fun _ => ⟨by rw [← raw_lF e2, ← e1]; simp [rOf], raw_fits e2 h5 e3, by rw [← raw_lF e2]; exact rawF_row e3⟩⟩
    · exact ⟨fun _ => 0, fun hi' => absurd hi' hi⟩
  have hch : ∃ P : Nat → Nat → Rat, ∀ i (hi : i < (rOf P1).length), (rOf P1)[i] = lF n (P i) ∧ (∀ j, Fits 1 (P i j)) ∧ rowB (lF n (P i)) = true := ⟨fun i => Classical.choose (key i), fun i hi => Classical.choose_spec (key i) hi⟩
  obtain ⟨P, hP⟩ := hch
  have hrow : ∀ i, i < n → rowB (lF n (P i)) = true := fun i hi => (hP i (by omega)).2.2
  have hfit : ∀ i j, i < n → Fits 1 (P i j) := fun i j hi => (hP i (by omega)).2.1 j
  refine ⟨P, List.ext_getElem (by rw [mR_length]; exact hl) fun i q1 q2 => by rw [mR_get]; exact (hP i q1).1, h1, h5, ⟨fun i j hi hj => ?_, fun i hi => ?_⟩, fun i j hi _ => hfit i j hi, ⟨mR_length n P, fun i hi => by rw [mR_get, lF_length], fun i hi => ?_, fun i hi => by rw [mR_get]; exact hrow i (by rw [mR_length] at hi; exact hi)⟩, by decide, Nat.le_trans (bE_mono 3 h5) (by decide)⟩
  · have h9 := hrow i hi
    rw [rowB, Bool.and_eq_true, List.all_eq_true] at h9
    have h8 := h9.1 (qF (P i j)) (List.mem_map.2 ⟨j, List.mem_range.2 hj, rfl⟩)
    rw [frQ_qF] at h8
    exact Rat.not_lt.1 (of_decide_eq_true h8)
  · have h9 := hrow i hi
    rw [rowB, Bool.and_eq_true] at h9
    rw [← fsum_lF]
    exact of_decide_eq_true h9.2
  · have hi' : i < n := by rw [mR_length] at hi; exact hi
    rw [mR_get]
    have h9 := fw_small (l := lF n (P i)) fun f hf => by
      obtain ⟨j, hj, rfl⟩ := List.mem_map.1 hf
      show (nu _).size + (de _).size ≤ 2
      rw [own_size]
      have := fits_qw (hfit i j hi')
      omega
    rw [lF_length] at h9
    omega
end Go.Proofs.YtbejijgelljeaaaGreatDoor

/- A chain that was evened is one that may be. -/
namespace Go.Proofs.YtbejijgelljeaaaGreatDoor
open Go.RowKit Go.Shelf
theorem row_of {n : Nat} {f : Nat → Rat} (low : ∀ j, j < n → 0 ≤ f j) (one : sumR f n = 1) : rowB (lF n f) = true := by
  rw [rowB, Bool.and_eq_true, List.all_eq_true]
  refine ⟨fun x hx => ?_, decide_eq_true (by rw [fsum_lF]; exact one)⟩
  obtain ⟨j, hj, rfl⟩ := List.mem_map.1 hx
  rw [frQ_qF]
  exact decide_eq_true (Rat.not_lt.2 (low j (List.mem_range.1 hj)))
theorem fw_few {c : Nat} : ∀ {l : List Fr}, (∀ f ∈ l, f.2.1.size + f.2.2.size ≤ c) → fw l ≤ (c + 8) * l.length
  | [], _ => Nat.zero_le _
  | f :: l, h => by
    have h1 := h f List.mem_cons_self
    have h2 := fw_few (l := l) fun g hg => h g (List.mem_cons_of_mem _ hg)
    simp only [fw, List.length_cons]
    rw [Nat.mul_add]
    omega
end Go.Proofs.YtbejijgelljeaaaGreatDoor

/- Back of package chain. -/
namespace Go.Proofs.YtbejijgelljeaaaGreatDoor
open Go.RowKit Go.Shelf
theorem stX_fits {n : Nat} {P : Nat → Nat → Rat} {l : List Nat} (hc : Cls n P l) (hm : ChM n P) {k : Nat} (hk : k < l.length) : Fits 3413 (stX P l k) := by
  have h5 : l.length ≤ 5 := Nat.le_trans (nod_most hc.nd hc.lt) hm.five
  exact fits_up (elm_fits (b := 3) (fun i c hi _ => sM_fits hm.fit hc.lt i c hi) (fun j hj => hc.piv hm.chn j hj) _ (Nat.le_refl _) k _ hk (Nat.le_refl _)) (Nat.le_trans (bE_mono 3 h5) (by decide))
theorem stQ_fits {n : Nat} {P : Nat → Nat → Rat} {l : List Nat} (hc : Cls n P l) (hm : ChM n P) (i : Nat) : Fits 3413 (stQ P l i) := by
  by_cases e : i ∈ l
  · obtain ⟨k, hk, rfl⟩ := getD_of e
    rw [stQ_on hc hk]
    exact stX_fits hc hm hk
  · rw [stQ_off e]
    exact fits_up fits_zero (by omega)
end Go.Proofs.YtbejijgelljeaaaGreatDoor

/- moved and Step of package chain, for longer numbers. -/
namespace Go.Proofs.YtbejijgelljeaaaGreatDoor
open Go.RowKit Go.Shelf
/-- Numbers, each as long as may be, stand for these. -/
structure LsW (n : Nat) (f : Nat → Rat) (l : List Fr) : Prop where
  len : l.length = n
  is : ∀ i (h : i < l.length), frQ l[i] = f i
  size : ∀ i (h : i < l.length), l[i].2.1.size + l[i].2.2.size ≤ 20000
theorem LsW.mk' {n : Nat} {f : Nat → Rat} (h : ∀ i, i < n → qw (f i) ≤ 20000) : LsW n f (lF n f) := by
  refine ⟨lF_length n f, fun i hi => by rw [lF_get]; exact frQ_qF _, fun i hi => ?_⟩
  rw [lF_get]
  show (nu (f i)).size + (de (f i)).size ≤ 20000
  rw [own_size]
  exact h i (by rw [lF_length] at hi; exact hi)
theorem fsum_is {f : Nat → Rat} : ∀ (l : List Fr) (n : Nat), l.length = n → (∀ i (h : i < l.length), frQ l[i] = f i) → fsum l = sumR f n := fun l => by
  induction l using snoc_ind with
  | h0 => intro n hn _; subst hn; rfl
  | h1 l x ih =>
    intro n hn hi
    obtain rfl : n = l.length + 1 := by rw [← hn]; simp
    rw [fsum_snoc, sumR, ih l.length rfl fun i h => ?_]
    · congr 1
      have := hi l.length (by simp)
      rw [List.getElem_append_right (Nat.le_refl _)] at this
      exact (show frQ x = f l.length by simpa using this)
    · have := hi i (by simp; omega)
      rw [List.getElem_append_left h] at this
      exact this
theorem LsW.fsum {n : Nat} {f : Nat → Rat} {l : List Fr} (h : LsW n f l) : fsum l = sumR f n := fsum_is l n h.len h.is
theorem LsW.fsumk {n k : Nat} {f : Nat → Rat} {l : List Fr} (h : LsW n f l) (hk : k ≤ n) : Go.Proofs.YtbejijgelljeaaaGreatDoor.fsum (l.take k) = sumR f k := by
  refine fsum_is _ k (by rw [List.length_take, h.len]; omega) fun i hi => ?_
  rw [List.getElem_take]
  exact h.is i (by rw [List.length_take] at hi; omega)
set_option maxRecDepth 100000 in
set_option maxHeartbeats 2000000 in
theorem chMoved_long (a c : Option Addr) (ca cc n : Nat) (l : List Fr) (R : List (List Fr)) (f : Nat → Rat) (g : Nat → Nat → Rat) (w : World) (ha : FrS w a l) (hR : FsS w c R) (hf : LsW n f l) (hRl : R.length = n) (hg : ∀ i (h : i < R.length), LsW n (g i) R[i]) (hsz : ∀ i j, i < n → j < n → qw (f i * g i j) ≤ 20000) (hps : ∀ j k, j < n → k ≤ n → qw (sumR (fun i => f i * g i j) k) ≤ 40000) (hn : n ≤ 6) :
    Calls Tryz.prog 48 #[.slice a n ca, .slice c n cc] w fun e w' => ∃ G, e = .returned (.slice (some ⟨G, 0, none⟩) n n) ∧ w.heap.size ≤ G ∧ RowF w' G (lF n fun j => sumR (fun i => f i * g i j) n) ∧ Below w.heap.size w w' := by
  obtain ⟨i0, hi0, hz0, hz1, hz2⟩ := info_parts Tryz.infoFrac
  have HFA := hid ha
  have HFR := hid hR
  have HLA := hid hf
  have HG := hid hg
  have HSZ := hid hsz
  have HPQ := hid hps
  have HRL := hid hRl
  clear ha hR hf hg hsz hRl hps
  have hfl := lF_length n fun j => sumR (fun i => f i * g i j) n
  have HFG := hid (fun j (hj : j < n) => lF_get? (f := fun j => sumR (fun i => f i * g i j) n) hj)
  generalize (lF n fun j => sumR (fun i => f i * g i j) n) = FL at *
  go_enter Tryz.func48, Tryz.ntmps48
  go_upto_region 2 with (at_make; refine wpList_make_full _ rfl _ _ 27 rfl w.heap.size 33 i0 (.agg #[.bool false, .string ⟨#[]⟩, .string ⟨#[]⟩]) 3 Tryz.underlying27 hi0 hz0 hz1 .i64 .i64 _ _ n rfl rfl (by go_num) (by go_num) (by rw [hz2]; omega) (by unfold maxLen; omega) (Nat.le_refl _) ?_; intro w2 hown2 hgrow2)
  have hb2 := block_of_own3 hown2
  rw [made_frs] at hb2
  have hB2 : Below w.heap.size w w2 := (Below.refl _ w).grown hgrow2 (Nat.le_refl _) (fun k e => by cases e)
  have HK0 : Hid (MF w w.heap.size (partF FL 0) w2) := ⟨by rw [partF_zero, hfl]; exact hb2, hB2⟩
  clear hown2 hgrow2 hb2 hB2
  go_wp2_with fail
  go_loopw [14] (fun jv wr => ∃ j : Nat, j ≤ n ∧ jv = .int .i64 j ∧ Hid (MF w w.heap.size (partF FL j) wr)) (fun jv _ => n - (intOf jv).toNat)
  case atStart => exact ⟨0, Nat.zero_le _, rfl, HK0⟩
  case round =>
    obtain ⟨j, hj, rfl, HK⟩ := hrel
    clear HK0
    by_cases hjl : j < n
    · have htl := lF_length n fun i => f i * g i j
      have HTG := hid (fun i (hi : i < n) => lF_get? (f := fun i => f i * g i j) hi)
      have HTL : Hid (LsW n (fun i => f i * g i j) (lF n fun i => f i * g i j)) := LsW.mk' fun i hi => HSZ.out i j hi hjl
      generalize (lF n fun i => f i * g i j) = TL at *
      generalize wr = W at *
      go_upto_region 6 with (at_make; refine wpList_make_full _ rfl _ _ 27 rfl W.heap.size 33 i0 (.agg #[.bool false, .string ⟨#[]⟩, .string ⟨#[]⟩]) 3 Tryz.underlying27 hi0 hz0 hz1 .i64 .i64 _ _ n rfl rfl (by go_num) (by go_num) (by rw [hz2]; omega) (by unfold maxLen; omega) (Nat.le_refl _) ?_; intro w2 hown2 hgrow2)
      have hb2 := block_of_own3 hown2
      rw [made_frs] at hb2
      have hB2 : Below W.heap.size W w2 := (Below.refl _ W).grown hgrow2 (Nat.le_refl _) (fun k e => by cases e)
      have HI0 : Hid (MF W W.heap.size (partF TL 0) w2) := ⟨by rw [partF_zero, htl]; exact hb2, hB2⟩
      clear hown2 hgrow2 hb2 hB2
      go_wp2_with fail
      go_loopw [22] (fun iv wr => ∃ i : Nat, i ≤ n ∧ iv = .int .i64 i ∧ Hid (MF W W.heap.size (partF TL i) wr)) (fun iv _ => n - (intOf iv).toNat)
      case atStart => exact ⟨0, Nat.zero_le _, rfl, HI0⟩
      case round =>
        obtain ⟨i, hi, rfl, HI⟩ := hrel
        clear HI0
        by_cases hlt : i < n
        · have hia : i < l.length := by rw [HLA.out.len]; exact hlt
          have hiR : i < R.length := by rw [HRL.out]; exact hlt
          have hjr : j < R[i].length := by rw [(HG.out i hiR).len]; exact hjl
          obtain ⟨ga, oa, rfl, hga, a0, a1, a2⟩ := HFA.out i hia
          obtain ⟨gc, oc, bc, cr, rfl, hgc, c0, hrow, hcr⟩ := HFR.out i hiR
          obtain ⟨gr, or_, rfl, hgr, b0, b1, b2⟩ := hrow j hjr
          obtain ⟨hd1, hd2⟩ := List.getElem?_eq_some_iff.1 (HTG.out i hlt)
          have HPS := hid (partF_set TL hd1)
          rw [hd2] at HPS
          have hrl := (HG.out i hiR).len
          have HMU : Hid (∀ V : World, Calls Tryz.prog 54 #[.agg #[.bool l[i].1, .string l[i].2.1, .string l[i].2.2], .agg #[.bool R[i][j].1, .string R[i][j].2.1, .string R[i][j].2.2]] V fun e w' => e = .returned (.agg #[.bool (qF (f i * g i j)).1, .string (qF (f i * g i j)).2.1, .string (qF (f i * g i j)).2.2]) ∧ Below V.heap.size V w') := fun V => by
            have h1 := HLA.out.size i hia
            have h2 := (HG.out i hiR).size j hjr
            exact fMul_q (f i * g i j) (HLA.out.is i hia) ((HG.out i hiR).is j hjr) rfl (by omega) (by omega)
          clear hd1 hd2 hrow
          generalize qF (f i * g i j) = qf at *
          generalize l[i].1 = an at *
          generalize l[i].2.1 = ax at *
          generalize l[i].2.2 = ay at *
          generalize R[i][j].1 = bn at *
          generalize R[i][j].2.1 = bx at *
          generalize R[i][j].2.2 = by_ at *
          generalize R[i].length = rn at *
          go_upto_region 9 with fail
          have HELD : Hid (∀ u, Below W.heap.size W u → u.cell? ⟨ga, oa + i * 3, none⟩ = some (.bool an) ∧ u.cell? ⟨ga, oa + i * 3 + 1, none⟩ = some (.string ax) ∧ u.cell? ⟨ga, oa + i * 3 + 2, none⟩ = some (.string ay) ∧ u.cell? ⟨gc, oc + i, none⟩ = some (.slice (some ⟨gr, or_, none⟩) rn cr) ∧ u.cell? ⟨gr, or_ + j * 3, none⟩ = some (.bool bn) ∧ u.cell? ⟨gr, or_ + j * 3 + 1, none⟩ = some (.string bx) ∧ u.cell? ⟨gr, or_ + j * 3 + 2, none⟩ = some (.string by_)) := fun u h0 => by
            have h := HK.out.bel.trans (h0.mono HK.out.bel.size)
            exact ⟨(h.cell (p := ⟨ga, _, none⟩) hga).trans a0, (h.cell (p := ⟨ga, _, none⟩) hga).trans a1, (h.cell (p := ⟨ga, _, none⟩) hga).trans a2, (h.cell (p := ⟨gc, _, none⟩) hgc).trans c0, (h.cell (p := ⟨gr, _, none⟩) hgr).trans b0, (h.cell (p := ⟨gr, _, none⟩) hgr).trans b1, (h.cell (p := ⟨gr, _, none⟩) hgr).trans b2⟩
          clear a0 a1 a2 c0 b0 b1 b2
          replace HI := hid HI.out.drew
          refine wp_region_held_drew (S := fun u => u.cell? ⟨ga, oa + i * 3, none⟩ = some (.bool an) ∧ u.cell? ⟨ga, oa + i * 3 + 1, none⟩ = some (.string ax) ∧ u.cell? ⟨ga, oa + i * 3 + 2, none⟩ = some (.string ay) ∧ u.cell? ⟨gc, oc + i, none⟩ = some (.slice (some ⟨gr, or_, none⟩) rn cr) ∧ u.cell? ⟨gr, or_ + j * 3, none⟩ = some (.bool bn) ∧ u.cell? ⟨gr, or_ + j * 3 + 1, none⟩ = some (.string bx) ∧ u.cell? ⟨gr, or_ + j * 3 + 2, none⟩ = some (.string by_)) (by kernel_rfl) (HELD.out _ HI.out.bel) (fun hSd => ?_)
          generalize wr.drew = u0 at *
          refine wpAnyH_take (i := 0) (oi := _) (v := .slice (some ⟨W.heap.size, 0, none⟩) n n) rfl (by kernel_rfl) (by kernel_rfl) (by kernel_rfl) (fun _ _ _ h => h) (Or.inl ⟨by rfl, ?_⟩) (by assumption) ?_
          · intro u' hSu
            (try simp only [List.getElem_toArray, List.getElem_cons_zero])
            go_simp
          (try simp only [List.getElem_toArray, List.getElem_cons_zero])
          (try simp only [Act.put, List.setIfInBounds_toArray, List.set_cons_zero, List.set_cons_succ])
          refine wpAnyH_take (i := 1) (oi := _) (v := .int .i64 (i : Nat)) rfl (by kernel_rfl) (by kernel_rfl) (by kernel_rfl) (fun _ _ _ h => h) (Or.inl ⟨by rfl, ?_⟩) (by assumption) ?_
          · intro u' hSu
            (try simp only [List.getElem_toArray, List.getElem_cons_zero, List.getElem_cons_succ])
            go_simp
          (try simp only [List.getElem_toArray, List.getElem_cons_zero, List.getElem_cons_succ])
          (try simp only [Act.put, List.setIfInBounds_toArray, List.set_cons_zero, List.set_cons_succ])
          refine wpAnyH_take (i := 2) (oi := _) (v := .slice (some ⟨ga, oa, none⟩) n ca) rfl (by kernel_rfl) (by kernel_rfl) (by kernel_rfl) (fun _ _ _ h => h) (Or.inl ⟨by rfl, ?_⟩) (by assumption) ?_
          · intro u' hSu
            (try simp only [List.getElem_toArray, List.getElem_cons_zero, List.getElem_cons_succ])
            go_simp
          (try simp only [List.getElem_toArray, List.getElem_cons_zero, List.getElem_cons_succ])
          (try simp only [Act.put, List.setIfInBounds_toArray, List.set_cons_zero, List.set_cons_succ])
          refine wpAnyH_take (i := 3) (oi := _) (v := .int .i64 (i : Nat)) rfl (by kernel_rfl) (by kernel_rfl) (by kernel_rfl) (fun _ _ _ h => h) (Or.inl ⟨by rfl, ?_⟩) (by assumption) ?_
          · intro u' hSu
            (try simp only [List.getElem_toArray, List.getElem_cons_zero, List.getElem_cons_succ])
            go_simp
          (try simp only [List.getElem_toArray, List.getElem_cons_zero, List.getElem_cons_succ])
          (try simp only [Act.put, List.setIfInBounds_toArray, List.set_cons_zero, List.set_cons_succ])
          refine wpAnyH_take (i := 4) (oi := _) (v := .pointer (some ⟨ga, oa + i * 3, none⟩)) rfl (by kernel_rfl) (by kernel_rfl) (by kernel_rfl) (fun _ _ _ h => h) (Or.inl ⟨by rfl, ?_⟩) (by assumption) ?_
          · intro u' hSu
            (try simp only [List.getElem_toArray, List.getElem_cons_zero, List.getElem_cons_succ])
            go_simp
          (try simp only [List.getElem_toArray, List.getElem_cons_zero, List.getElem_cons_succ])
          (try simp only [Act.put, List.setIfInBounds_toArray, List.set_cons_zero, List.set_cons_succ])
          refine wpAnyH_take (i := 5) (oi := _) (v := .agg #[.bool an, .string ax, .string ay]) rfl (by kernel_rfl) (by kernel_rfl) (by kernel_rfl) (fun _ _ _ h => h) (Or.inl ⟨by rfl, ?_⟩) (by assumption) ?_
          · intro u' hSu
            (try simp only [List.getElem_toArray, List.getElem_cons_zero, List.getElem_cons_succ])
            obtain ⟨s0, s1, s2, s3, s4, s5, s6⟩ := hSu
            go_simp
          (try simp only [List.getElem_toArray, List.getElem_cons_zero, List.getElem_cons_succ])
          (try simp only [Act.put, List.setIfInBounds_toArray, List.set_cons_zero, List.set_cons_succ])
          refine wpAnyH_take (i := 6) (oi := _) (v := .slice (some ⟨gc, oc, none⟩) n cc) rfl (by kernel_rfl) (by kernel_rfl) (by kernel_rfl) (fun _ _ _ h => h) (Or.inl ⟨by rfl, ?_⟩) (by assumption) ?_
          · intro u' hSu
            (try simp only [List.getElem_toArray, List.getElem_cons_zero, List.getElem_cons_succ])
            go_simp
          (try simp only [List.getElem_toArray, List.getElem_cons_zero, List.getElem_cons_succ])
          (try simp only [Act.put, List.setIfInBounds_toArray, List.set_cons_zero, List.set_cons_succ])
          refine wpAnyH_take (i := 7) (oi := _) (v := .int .i64 (i : Nat)) rfl (by kernel_rfl) (by kernel_rfl) (by kernel_rfl) (fun _ _ _ h => h) (Or.inl ⟨by rfl, ?_⟩) (by assumption) ?_
          · intro u' hSu
            (try simp only [List.getElem_toArray, List.getElem_cons_zero, List.getElem_cons_succ])
            go_simp
          (try simp only [List.getElem_toArray, List.getElem_cons_zero, List.getElem_cons_succ])
          (try simp only [Act.put, List.setIfInBounds_toArray, List.set_cons_zero, List.set_cons_succ])
          refine wpAnyH_take (i := 8) (oi := _) (v := .pointer (some ⟨gc, oc + i, none⟩)) rfl (by kernel_rfl) (by kernel_rfl) (by kernel_rfl) (fun _ _ _ h => h) (Or.inl ⟨by rfl, ?_⟩) (by assumption) ?_
          · intro u' hSu
            (try simp only [List.getElem_toArray, List.getElem_cons_zero, List.getElem_cons_succ])
            go_simp
          (try simp only [List.getElem_toArray, List.getElem_cons_zero, List.getElem_cons_succ])
          (try simp only [Act.put, List.setIfInBounds_toArray, List.set_cons_zero, List.set_cons_succ])
          refine wpAnyH_take (i := 9) (oi := _) (v := .slice (some ⟨gr, or_, none⟩) rn cr) rfl (by kernel_rfl) (by kernel_rfl) (by kernel_rfl) (fun _ _ _ h => h) (Or.inl ⟨by rfl, ?_⟩) (by assumption) ?_
          · intro u' hSu
            (try simp only [List.getElem_toArray, List.getElem_cons_zero, List.getElem_cons_succ])
            obtain ⟨s0, s1, s2, s3, s4, s5, s6⟩ := hSu
            go_simp
          (try simp only [List.getElem_toArray, List.getElem_cons_zero, List.getElem_cons_succ])
          (try simp only [Act.put, List.setIfInBounds_toArray, List.set_cons_zero, List.set_cons_succ])
          refine wpAnyH_take (i := 10) (oi := _) (v := .int .i64 (j : Nat)) rfl (by kernel_rfl) (by kernel_rfl) (by kernel_rfl) (fun _ _ _ h => h) (Or.inl ⟨by rfl, ?_⟩) (by assumption) ?_
          · intro u' hSu
            (try simp only [List.getElem_toArray, List.getElem_cons_zero, List.getElem_cons_succ])
            go_simp
          (try simp only [List.getElem_toArray, List.getElem_cons_zero, List.getElem_cons_succ])
          (try simp only [Act.put, List.setIfInBounds_toArray, List.set_cons_zero, List.set_cons_succ])
          refine wpAnyH_take (i := 11) (oi := _) (v := .pointer (some ⟨gr, or_ + j * 3, none⟩)) rfl (by kernel_rfl) (by kernel_rfl) (by kernel_rfl) (fun _ _ _ h => h) (Or.inl ⟨by rfl, ?_⟩) (by assumption) ?_
          · intro u' hSu
            (try simp only [List.getElem_toArray, List.getElem_cons_zero, List.getElem_cons_succ])
            go_simp
          (try simp only [List.getElem_toArray, List.getElem_cons_zero, List.getElem_cons_succ])
          (try simp only [Act.put, List.setIfInBounds_toArray, List.set_cons_zero, List.set_cons_succ])
          refine wpAnyH_take (i := 12) (oi := _) (v := .agg #[.bool bn, .string bx, .string by_]) rfl (by kernel_rfl) (by kernel_rfl) (by kernel_rfl) (fun _ _ _ h => h) (Or.inl ⟨by rfl, ?_⟩) (by assumption) ?_
          · intro u' hSu
            (try simp only [List.getElem_toArray, List.getElem_cons_zero, List.getElem_cons_succ])
            obtain ⟨s0, s1, s2, s3, s4, s5, s6⟩ := hSu
            go_simp
          (try simp only [List.getElem_toArray, List.getElem_cons_zero, List.getElem_cons_succ])
          (try simp only [Act.put, List.setIfInBounds_toArray, List.set_cons_zero, List.set_cons_succ])
          refine wpAnyH_ready (rs := [13]) (by kernel_rfl) (by simp) (AllReadyH.cons rfl ?_ (AllReadyH.nil))
          · intro K' hK'
            (try simp only [List.getElem_toArray, List.getElem_cons_zero, List.getElem_cons_succ])
            go_simp
            refine (HMU.out _).mono ?_
            rintro e u1 ⟨rfl, hb⟩
            replace HI := hid (HI.out.step hb)
            refine hK'.out _ _ (HELD.out _ HI.out.bel) (fun hSe => ?_)
            clear hK' K' hSd
            have hSd := hSe
            clear hSe hb
            (try simp only [List.getElem_toArray, List.getElem_cons_zero, List.getElem_cons_succ])
            (try simp only [Act.put, List.setIfInBounds_toArray, List.set_cons_zero, List.set_cons_succ])
            refine wpAnyH_take (i := 14) (oi := _) (v := .pointer (some ⟨W.heap.size, i * 3, none⟩)) rfl (by kernel_rfl) (by kernel_rfl) (by kernel_rfl) (fun _ _ _ h => h) (Or.inl ⟨by rfl, ?_⟩) (by assumption) ?_
            · intro u' hSu
              (try simp only [List.getElem_toArray, List.getElem_cons_zero, List.getElem_cons_succ])
              go_simp
            (try simp only [List.getElem_toArray, List.getElem_cons_zero, List.getElem_cons_succ])
            (try simp only [Act.put, List.setIfInBounds_toArray, List.set_cons_zero, List.set_cons_succ])
            obtain ⟨k0, k1, k2⟩ := HI.out.row.cells i (by rw [partF_length _ (by omega)]; omega)
            have f0 := HI.out.row.fz (i * 3)
            have f1 := HI.out.row.fz (i * 3 + 1)
            have f2 := HI.out.row.fz (i * 3 + 2)
            generalize (partF TL i)[i]'(by rw [partF_length _ (by omega)]; omega) = z at *
            obtain ⟨zn, zx, zy⟩ := z
            simp only at k0 k1 k2
            refine wpAnyH_ready (rs := [15]) (by kernel_rfl) (by simp) (AllReadyH.cons rfl ?_ (AllReadyH.nil))
            · intro K' hK'
              (try simp only [List.getElem_toArray, List.getElem_cons_zero, List.getElem_cons_succ])
              go_simp
              refine hK'.out _ _ (HELD.out _ (HI.out.put (Nat.le_refl _) i qf).bel) (fun _ => wpAnyH_done (by kernel_rfl) ?_ _)
              clear hK' K' hSd
              replace HI := hid (HI.out.put (Nat.le_refl _) i qf)
              rw [HPS.out] at HI
              clear k0 k1 k2 f0 f1 f2
              go_wp2
              go_roundw
              case rel => exact ⟨i + 1, by omega, by go_num, HI⟩
              case measure => simp [intOf]; omega
        · obtain rfl : i = n := by omega
          have hfin := HI.out.row
          rw [← htl, partF_all] at hfin
          obtain ⟨hd1, hd2⟩ := List.getElem?_eq_some_iff.1 (HFG.out j hjl)
          have HPS := hid (partF_set FL hd1)
          rw [hd2] at HPS
          have HSU : Hid (Calls Tryz.prog 60 #[.slice (some ⟨W.heap.size, 0, none⟩) i i] wr fun e w' => e = .returned (.agg #[.bool (qF (sumR (fun k => f k * g k j) i)).1, .string (qF (sumR (fun k => f k * g k j) i)).2.1, .string (qF (sumR (fun k => f k * g k j) i)).2.2]) ∧ Below wr.heap.size wr w') := by
            have h := fSum_cw (some ⟨W.heap.size, 0, none⟩) i TL wr hfin.fr (fun q hq => Nat.le_trans (HTL.out.size q hq) (by omega)) (fun q hq => by rw [HTL.out.fsumk (by rw [HTL.out.len] at hq; exact hq)]; exact HPQ.out j q hjl (by rw [HTL.out.len] at hq; exact hq)) (by rw [HTL.out.len]; omega)
            rw [HTL.out.len, HTL.out.fsum] at h
            exact h
          have HB := hid HI.out.bel
          clear hfin hd1 hd2 HI
          generalize qF (sumR (fun k => f k * g k j) i) = qf at *
          go_wp2_with fail
          refine HSU.out.mono ?_
          rintro e w5 ⟨rfl, hb5⟩
          replace HK := hid (HK.out.step (HB.out.trans (hb5.mono HB.out.size)))
          clear hb5
          obtain ⟨k0, k1, k2⟩ := HK.out.row.cells j (by rw [partF_length _ (by omega)]; omega)
          have f0 := HK.out.row.fz (j * 3)
          have f1 := HK.out.row.fz (j * 3 + 1)
          have f2 := HK.out.row.fz (j * 3 + 2)
          generalize (partF FL j)[j]'(by rw [partF_length _ (by omega)]; omega) = z at *
          obtain ⟨zn, zx, zy⟩ := z
          simp only at k0 k1 k2
          have HK2 := hid (HK.out.put (Nat.le_refl _) j qf)
          rw [HPS.out] at HK2
          go_wp2
          go_roundw
          case rel => exact ⟨j + 1, by omega, by go_num, HK2⟩
          case measure => simp [intOf]; omega
    · obtain rfl : j = n := by omega
      have hfin := HK.out.row
      rw [← hfl, partF_all] at hfin
      have HFI := hid hfin
      clear hfin
      go_wp2
      go_ret
      exact ⟨w.heap.size, rfl, Nat.le_refl _, HFI.out, HK.out.bel⟩
end Go.Proofs.YtbejijgelljeaaaGreatDoor
