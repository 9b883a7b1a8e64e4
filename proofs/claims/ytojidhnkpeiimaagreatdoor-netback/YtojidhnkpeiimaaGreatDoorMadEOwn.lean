/- The document's answer: Made: a net that may be. -/
import Derived.Test.YtojidhnkpeiimaaGreatDoorGivCToMadD
import Derived.Laws.EntriesVeiled
namespace Go.Proofs.YtojidhnkpeiimaaGreatDoor
open Go.RowKit Go.Shelf Go.Lib
def kOf (p : Nat) : Nat := [2, 2, 3, 2, 1].getD p 2
theorem kOf_fit (p : Nat) : 1 ≤ kOf p ∧ kOf p ≤ 3 := by
  match p with
  | 0 => decide
  | 1 => decide
  | 2 => decide
  | 3 => decide
  | 4 => decide
  | p + 5 => exact ⟨by show 1 ≤ 2; omega, by show 2 ≤ 3; omega⟩
theorem five_cell (W : World) {p : Nat} (hp : p < 5) : (W.alloc (.cells #[.int .i64 2, .int .i64 2, .int .i64 3, .int .i64 2, .int .i64 1] 3)).cell? ⟨W.heap.size, p, none⟩ = some (.int .i64 (kOf p : Nat)) := by
  rw [cell_of_row _ _ _ _ _ (0, 0) (heap_alloc_new W _)]
  match p, hp with
  | 0, _ => rfl
  | 1, _ => rfl
  | 2, _ => rfl
  | 3, _ => rfl
  | 4, _ => rfl
def MadeR (w : World) (e : Ending) (w' : World) : Prop := ∃ (bk : Bool) (n : Nat) (x y z : Value) (Vs : List PV) (Ls : List PL) (Rs : List PR), e = .returned (.agg #[x, y, z]) ∧ (1 ≤ n ∧ n ≤ 6) ∧ VK n Vs ∧ LK2 bk n n (sizesN (vOf Vs)) Ls Rs ∧ OwV w' w.heap.size x Vs ∧ OwL w' w.heap.size y Ls ∧ OwR w' w.heap.size z Rs ∧ Below w.heap.size w w'
def Rng (l : List Int) : Prop := l.length ≤ 140737488355328 ∧ ∀ x ∈ l, -9223372036854775808 ≤ x ∧ x ≤ 9223372036854775807
set_option maxRecDepth 100000 in
set_option maxHeartbeats 4000000 in
theorem made_any (a1 a2 a3 : Option Addr) (c1 c2 c3 : Nat) (L1 L2 L3 : List Int) (bk : Bool) (w : World) (h1 : IntS w a1 L1) (h2 : IntS w a2 L2) (h3 : IntS w a3 L3) (r1 : Rng L1) (r2 : Rng L2) (r3 : Rng L3) :
    Calls Tryz.prog 4 #[.agg #[.slice a1 L1.length c1, .slice a2 L2.length c2, .slice a3 L3.length c3, .bool bk]] w fun e w' => MadeR w e w' := by
  have HI1 := hid h1
  have HI2 := hid h2
  have HI3 := hid h3
  have HR1 := hid r1.2
  have HR2 := hid r2.2
  have HR3 := hid r3.2
  have hl1 := r1.1
  have hl2 := r2.1
  have hl3 := r3.1
  have HT1 := hid (fun (i : Nat) (hi : i ≤ 1000) (U : World) => rNumText i U hi)
  have HT2 := hid (fun (i : Nat) (hi : i ≤ 1000) (U : World) => rTextOf i U hi)
  have HCL := hid (fun (k : Nat) (hk : k ≤ 3) (U : World) => called_any k U hk)
  have HP5 := hid (fun (c : Int) (h : -9223372036854775808 ≤ c ∧ c ≤ 9223372036854775807) (U : World) => rPick_any c 5 U h.1 h.2 (by omega) (by omega))
  have HROW := hid (fun (k : Nat) (hk : k ≤ 100000) (n : Nat) (h1 : 1 ≤ n) (h3' : n ≤ 3) (U : World) (hU : IntS U a3 L3) => rowOf_any a3 c3 k n L3 U hU r3.2 hk h1 (by omega) r3.1)
  have HP2 := hid (fun (c : Int) (h : -9223372036854775808 ≤ c ∧ c ≤ 9223372036854775807) (U : World) => rPick_any c 2 U h.1 h.2 (by omega) (by omega))
  clear h1 h2 h3 r1 r2 r3
  have hrb0 : ((w.alloc (.cells #[.slice a1 L1.length c1, .slice a2 L2.length c2, .slice a3 L3.length c3, .bool bk] 24)).alloc (NC (.slice none 0 0) (.slice none 0 0) (.slice none 0 0))).heap[w.heap.size]? = some (.cells #[.slice a1 L1.length c1, .slice a2 L2.length c2, .slice a3 L3.length c3, .bool bk] 24 (0, 0)) := (Below.heap_alloc _ _ _ (by simp)).trans (heap_alloc_new w _)
  have hc0 : ((w.alloc (.cells #[.slice a1 L1.length c1, .slice a2 L2.length c2, .slice a3 L3.length c3, .bool bk] 24)).alloc (NC (.slice none 0 0) (.slice none 0 0) (.slice none 0 0))).cell? ⟨w.heap.size, 0, none⟩ = some (.slice a1 L1.length c1) := by rw [cell_of_row _ _ _ _ _ (0, 0) hrb0]; rfl
  have HM0 : Hid (MS w (((w.alloc (.cells #[.slice a1 L1.length c1, .slice a2 L2.length c2, .slice a3 L3.length c3, .bool bk] 24)).alloc (NC (.slice none 0 0) (.slice none 0 0) (.slice none 0 0))).alloc (NC (.slice none 0 0) (.slice none 0 0) (.slice none 0 0))) (.slice a1 L1.length c1) (.slice a2 L2.length c2) (.slice a3 L3.length c3) bk (.slice none 0 0) (.slice none 0 0) (.slice none 0 0) [] [] []) := ⟨(Below.heap_alloc _ _ _ (by simp; omega)).trans hrb0, (NBox.at (by simp) _ _ _).below ((Below.refl _ _).alloc (Nat.le_refl _) _) (by simp), NBox.at (by simp) _ _ _, OwV.nil _ _, OwL.nil _ _, OwR.nil _ _, (((Below.refl _ w).alloc (Nat.le_refl _) _).alloc (by simp) _).alloc (by simp; omega) _⟩
  clear hrb0
  go_enter Tryz.func4, Tryz.ntmps4
  go_upto_if 23 with fail
  clear hc0
  generalize hW0 : ((w.alloc (.cells #[.slice a1 L1.length c1, .slice a2 L2.length c2, .slice a3 L3.length c3, .bool bk] 24)).alloc (NC (.slice none 0 0) (.slice none 0 0) (.slice none 0 0))) = W0 at *
  go_cut [3] from 19 to 25 (fun s wx => ∃ n : Nat, s = .int .i64 (n : Nat) ∧ 1 ≤ n ∧ n ≤ 140737488355328 ∧ wx = W0)
  case first =>
    by_cases hl : L1.length < 1
    · have hl' : (L1.length : Int) < 1 := by omega
      go_wp2_with fail
      go_meet
      exact ⟨1, rfl, by omega, by omega, rfl⟩
    · have hl' : (1 : Int) ≤ (L1.length : Int) := by omega
      go_wp2_with fail
      go_meet
      exact ⟨L1.length, rfl, by omega, by omega, rfl⟩
  case rest =>
  obtain ⟨n0, rfl, hn01, hn0b, hcw⟩ := hcut
  rw [hcw]
  clear hcw
  go_upto_if 25 with fail
  go_cut [3] from 19 to 25 (fun s wx => ∃ n : Nat, s = .int .i64 (n : Nat) ∧ 1 ≤ n ∧ n ≤ 6 ∧ wx = W0)
  case first =>
    by_cases hl : 6 < n0
    · have hl' : (6 : Int) < (n0 : Int) := by omega
      go_wp2_with fail
      go_meet
      exact ⟨6, rfl, by omega, by omega, rfl⟩
    · have hl' : (n0 : Int) ≤ 6 := by omega
      go_wp2_with fail
      go_meet
      exact ⟨n0, rfl, by omega, by omega, rfl⟩
  case rest =>
  obtain ⟨n, rfl, hn1, hn6, hcw⟩ := hcut
  rw [hcw]
  clear hcw hn01 hn0b
  have hW0s : W0.heap.size = w.heap.size + 2 := by rw [← hW0]; simp
  clear hW0
  go_upto_region 7 with fail
  generalize (W0.alloc (NC (.slice none 0 0) (.slice none 0 0) (.slice none 0 0))) = W1 at *
  clear hW0s
  go_wp2_with fail
  go_loopw [5] (fun iv wr => ∃ (v : Nat) (x : Value) (Vs : List PV), v ≤ n ∧ iv = .int .i64 v ∧ Hid (VK v Vs) ∧ Hid (MS w wr (.slice a1 L1.length c1) (.slice a2 L2.length c2) (.slice a3 L3.length c3) bk x (.slice none 0 0) (.slice none 0 0) Vs [] [])) (fun iv _ => n - (intOf iv).toNat)
  case atStart => exact ⟨0, _, [], Nat.zero_le _, rfl, ⟨rfl, fun j hj => absurd hj (by simp)⟩, HM0⟩
  case round =>
    obtain ⟨v, x, Vs, hv, rfl, HVK, HMS⟩ := hrel
    clear HM0
    by_cases hlt : v < n
    · obtain ⟨d0, -, -, -⟩ := HMS.out.cells
      go_upto_if 36 with fail
      clear d0
      go_cut [6] from 27 to 58 (fun s wx => ∃ k : Nat, s = .int .i64 (k : Nat) ∧ 1 ≤ k ∧ k ≤ 3 ∧ Hid (MS w wx (.slice a1 L1.length c1) (.slice a2 L2.length c2) (.slice a3 L3.length c3) bk x (.slice none 0 0) (.slice none 0 0) Vs [] []))
      case first =>
        by_cases hvl : v < L1.length
        · have hvl' : (v : Int) < (L1.length : Int) := by omega
          have hbA : Below wr.heap.size wr (wr.alloc (.cells #[.int .i64 2, .int .i64 2, .int .i64 3, .int .i64 2, .int .i64 1] 3)) := (Below.refl _ wr).alloc (Nat.le_refl _) _
          have hMA := HMS.out.step hbA
          obtain ⟨d0, -, -, -⟩ := hMA.cells
          obtain ⟨g', o', rfl, hg', cs⟩ := (HI1.out.below hMA.bel) v hvl
          have HPK := hid (fun U => HP5.out L1[v] (HR1.out _ (List.getElem_mem hvl)) U)
          have hp5 := pickN_lt L1[v] (n := 5) (by omega)
          have h5 := five_cell wr hp5
          have hkf := kOf_fit (pickN L1[v] 5)
          generalize L1[v] = lv at *
          generalize pickN lv 5 = pk at *
          generalize kOf pk = kk at *
          have HMA := hid hMA
          clear hMA hbA
          go_wp2_with (go_at_call 10; refine (HPK.out _).mono ?_; rintro e w2 ⟨rfl, hb⟩; have h52 := (hb.cell (p := ⟨wr.heap.size, pk, none⟩) (by simp)).trans h5; have HM2 := hid (HMA.out.step hb))
          go_meet
          exact ⟨kk, rfl, hkf.1, hkf.2, HM2⟩
        · have hvl' : (L1.length : Int) ≤ (v : Int) := by omega
          go_wp2_with fail
          go_meet
          exact ⟨2, rfl, by omega, by omega, HMS⟩
      case rest =>
      obtain ⟨k, rfl, hk1, hk3, HMC⟩ := hcut
      clear HMS
      go_wp2_with fail
      refine (HT1.out v (by omega) _).mono ?_
      rintro e w1 ⟨rfl, hb1⟩
      go_wp2_with fail
      refine (HT2.out v (by omega) _).mono ?_
      rintro e W14 ⟨rfl, hb2⟩
      have hM := (HMC.out.step hb1).step hb2
      have hdz := dgB_size (i := v) (by omega)
      clear hb1 hb2 HMC
      go_upto_region 14 with fail
      replace hM := hM.step (Below.refl _ _).drew
      refine wp_region_held_drew (S := fun _ => True) (by kernel_rfl) trivial (fun hSd => ?_)
      generalize W14.drew = u0 at *
      have hx0 := hM.box.cells.1
      refine wpAnyH_take (i := 0) (oi := _) (v := .pointer (some ⟨w.heap.size + 2, 0, none⟩)) rfl (by kernel_rfl) (by kernel_rfl) (by kernel_rfl) (fun _ _ _ h => h) (Or.inl ⟨by rfl, ?_⟩) (by assumption) ?_
      · intro u' hSu
        (try simp only [List.getElem_toArray, List.getElem_cons_zero])
        go_simp
      (try simp only [List.getElem_toArray, List.getElem_cons_zero])
      (try simp only [Act.put, List.setIfInBounds_toArray, List.set_cons_zero, List.set_cons_succ])
      refine wpAnyH_take (i := 2) (oi := _) (v := .string (dgB v)) rfl (by kernel_rfl) (by kernel_rfl) (by kernel_rfl) (fun _ _ _ h => h) (Or.inl ⟨by rfl, ?_⟩) (by assumption) ?_
      · intro u' hSu
        (try simp only [List.getElem_toArray, List.getElem_cons_zero, List.getElem_cons_succ])
        go_simp
      (try simp only [List.getElem_toArray, List.getElem_cons_zero, List.getElem_cons_succ])
      (try simp only [Act.put, List.setIfInBounds_toArray, List.set_cons_zero, List.set_cons_succ])
      refine wpAnyH_take (i := 3) (oi := _) (v := .string (nmB 110 v)) rfl (by kernel_rfl) (by kernel_rfl) (by kernel_rfl) (fun _ _ _ h => h) (Or.inl ⟨by rfl, ?_⟩) (by assumption) ?_
      · intro u' hSu
        (try simp only [List.getElem_toArray, List.getElem_cons_zero, List.getElem_cons_succ])
        go_simp
      (try simp only [List.getElem_toArray, List.getElem_cons_zero, List.getElem_cons_succ])
      (try simp only [Act.put, List.setIfInBounds_toArray, List.set_cons_zero, List.set_cons_succ])
      refine wpAnyH_take (i := 4) (oi := _) (v := .int .i64 (k : Nat)) rfl (by kernel_rfl) (by kernel_rfl) (by kernel_rfl) (fun _ _ _ h => h) (Or.inl ⟨by rfl, ?_⟩) (by assumption) ?_
      · intro u' hSu
        (try simp only [List.getElem_toArray, List.getElem_cons_zero, List.getElem_cons_succ])
        go_simp
      (try simp only [List.getElem_toArray, List.getElem_cons_zero, List.getElem_cons_succ])
      (try simp only [Act.put, List.setIfInBounds_toArray, List.set_cons_zero, List.set_cons_succ])
      refine wpAnyH_ready (rs := [1, 5]) (by kernel_rfl) (by simp) (AllReadyH.cons rfl ?_ (AllReadyH.cons rfl ?_ (AllReadyH.nil)))
      · intro K' hK'
        (try simp only [List.getElem_toArray, List.getElem_cons_zero, List.getElem_cons_succ])
        go_simp
        refine hK'.out _ _ trivial (fun _ => ?_)
        clear hK' K'
        (try simp only [List.getElem_toArray, List.getElem_cons_zero, List.getElem_cons_succ])
        (try simp only [Act.put, List.setIfInBounds_toArray, List.set_cons_zero, List.set_cons_succ])
        refine wpAnyH_ready (rs := [5]) (by kernel_rfl) (by simp) (AllReadyH.cons rfl ?_ (AllReadyH.nil))
        · intro K' hK'
          (try simp only [List.getElem_toArray, List.getElem_cons_zero, List.getElem_cons_succ])
          go_simp
          refine (HCL.out k hk3 _).mono ?_
          rintro e u1 ⟨q, rfl, hq0, hb⟩
          have hq : RwS u1 w.heap.size q (valsN k) := owns_lower hq0 hM.bel.size
          replace hM := hM.step hb
          obtain ⟨dq, nq, cq, rfl⟩ : ∃ a n c, q = .slice a n c := by obtain ⟨a, c, e, _⟩ := owns_slice hq; exact ⟨_, _, _, e⟩
          refine hK'.out _ _ trivial (fun _ => ?_)
          clear hb hq0 hx0
          have hx0 := hM.box.cells.1
          clear hK' K'
          (try simp only [List.getElem_toArray, List.getElem_cons_zero, List.getElem_cons_succ])
          (try simp only [Act.put, List.setIfInBounds_toArray, List.set_cons_zero, List.set_cons_succ])
          refine wpAnyH_take (i := 6) (oi := _) (v := .agg #[.string (nmB 110 v), .slice dq nq cq]) rfl (by kernel_rfl) (by kernel_rfl) (by kernel_rfl) (fun _ _ _ h => h) (Or.inl ⟨by rfl, ?_⟩) (by assumption) ?_
          · intro u' hSu
            (try simp only [List.getElem_toArray, List.getElem_cons_zero, List.getElem_cons_succ])
            go_simp
          (try simp only [List.getElem_toArray, List.getElem_cons_zero, List.getElem_cons_succ])
          (try simp only [Act.put, List.setIfInBounds_toArray, List.set_cons_zero, List.set_cons_succ])
          refine wpAnyH_ready (rs := [7]) (by kernel_rfl) (by simp) (AllReadyH.cons rfl ?_ (AllReadyH.nil))
          · intro K' hK'
            (try simp only [List.getElem_toArray, List.getElem_cons_zero, List.getElem_cons_succ])
            go_simp
            obtain ⟨hb0, hb1⟩ := vbox_new u1 (.string (nmB 110 v)) (.slice dq nq cq)
            have hbA := (Below.refl _ u1).alloc (Nat.le_refl _) (VC (.string (nmB 110 v)) (.slice dq nq cq))
            replace hM := hM.step hbA
            replace hq := RwS.step hq hbA
            refine hK'.out _ _ trivial (fun _ => ?_)
            generalize (u1.alloc (VC (.string (nmB 110 v)) (.slice dq nq cq))) = u2 at *
            generalize u1.heap.size = gq at *
            clear hbA hx0
            have hx0 := hM.box.cells.1
            clear hK' K'
            (try simp only [List.getElem_toArray, List.getElem_cons_zero, List.getElem_cons_succ])
            (try simp only [Act.put, List.setIfInBounds_toArray, List.set_cons_zero, List.set_cons_succ])
            refine wpAnyH_ready (rs := [8]) (by kernel_rfl) (by simp) (AllReadyH.cons rfl ?_ (AllReadyH.nil))
            · intro K' hK'
              rw [if_pos (by rfl)]
              refine wp_append_var _ _ rfl w.heap.size x Vs (nmB 110 v) (.slice dq nq cq) ⟨_, _, _, rfl⟩ rfl hM.vs.1 gq rfl hb0 hb1 (by have := HVK.out.len; omega) (by have := hM.lt; omega) ?_
              intro v' u4 hr4 hg4
              obtain ⟨d4, cd4, rfl, -⟩ := owns_slice hr4
              have hpv := hM.pushV hr4 hg4 hq
              refine hK'.out _ _ trivial (fun _ => ?_)
              clear hM hr4 hg4 hq hb0 hb1 hx0
              clear hK' K'
              (try simp only [List.getElem_toArray, List.getElem_cons_zero, List.getElem_cons_succ])
              (try simp only [Act.put, List.setIfInBounds_toArray, List.set_cons_zero, List.set_cons_succ])
              have hm0 := hpv.1.cells.1
              have hmf : u4.frozen? ⟨w.heap.size + 2, 0, none⟩ = false := frozen_of_row _ _ 0 _ _ hpv.1
              refine wpAnyH_take (i := 9) (oi := _) (v := .pointer (some ⟨w.heap.size + 2, 0, none⟩)) rfl (by kernel_rfl) (by kernel_rfl) (by kernel_rfl) (fun _ _ _ h => h) (Or.inl ⟨by rfl, ?_⟩) (by assumption) ?_
              · intro u' hSu
                (try simp only [List.getElem_toArray, List.getElem_cons_zero, List.getElem_cons_succ])
                go_simp
              (try simp only [List.getElem_toArray, List.getElem_cons_zero, List.getElem_cons_succ])
              (try simp only [Act.put, List.setIfInBounds_toArray, List.set_cons_zero, List.set_cons_succ])
              refine wpAnyH_ready (rs := [10]) (by kernel_rfl) (by simp) (AllReadyH.cons rfl ?_ (AllReadyH.nil))
              · intro K' hK'
                (try simp only [List.getElem_toArray, List.getElem_cons_zero, List.getElem_cons_succ])
                go_simp
                refine hK'.out _ _ trivial (fun _ => wpAnyH_done (by kernel_rfl) ?_ _)
                clear hK' K' hm0 hmf
                have HPV := hid hpv.2
                clear hpv
                go_wp2
                go_roundw
                case rel => exact ⟨v + 1, _, _, by omega, by go_num, HVK.out.snoc (.slice dq nq cq) hk1 hk3, HPV⟩
                case measure => simp [intOf]; omega
      · intro K' hK'
        (try simp only [List.getElem_toArray, List.getElem_cons_zero, List.getElem_cons_succ])
        go_simp
        refine (HCL.out k hk3 _).mono ?_
        rintro e u1 ⟨q, rfl, hq0, hb⟩
        have hq : RwS u1 w.heap.size q (valsN k) := owns_lower hq0 hM.bel.size
        replace hM := hM.step hb
        obtain ⟨dq, nq, cq, rfl⟩ : ∃ a n c, q = .slice a n c := by obtain ⟨a, c, e, _⟩ := owns_slice hq; exact ⟨_, _, _, e⟩
        refine hK'.out _ _ trivial (fun _ => ?_)
        clear hb hq0 hx0
        have hx0 := hM.box.cells.1
        clear hK' K'
        (try simp only [List.getElem_toArray, List.getElem_cons_zero, List.getElem_cons_succ])
        (try simp only [Act.put, List.setIfInBounds_toArray, List.set_cons_zero, List.set_cons_succ])
        refine wpAnyH_take (i := 6) (oi := _) (v := .agg #[.string (nmB 110 v), .slice dq nq cq]) rfl (by kernel_rfl) (by kernel_rfl) (by kernel_rfl) (fun _ _ _ h => h) (Or.inl ⟨by rfl, ?_⟩) (by assumption) ?_
        · intro u' hSu
          (try simp only [List.getElem_toArray, List.getElem_cons_zero, List.getElem_cons_succ])
          go_simp
        (try simp only [List.getElem_toArray, List.getElem_cons_zero, List.getElem_cons_succ])
        (try simp only [Act.put, List.setIfInBounds_toArray, List.set_cons_zero, List.set_cons_succ])
        refine wpAnyH_ready (rs := [1, 7]) (by kernel_rfl) (by simp) (AllReadyH.cons rfl ?_ (AllReadyH.cons rfl ?_ (AllReadyH.nil)))
        · intro K' hK'
          (try simp only [List.getElem_toArray, List.getElem_cons_zero, List.getElem_cons_succ])
          go_simp
          refine hK'.out _ _ trivial (fun _ => ?_)
          clear hK' K'
          (try simp only [List.getElem_toArray, List.getElem_cons_zero, List.getElem_cons_succ])
          (try simp only [Act.put, List.setIfInBounds_toArray, List.set_cons_zero, List.set_cons_succ])
          refine wpAnyH_ready (rs := [7]) (by kernel_rfl) (by simp) (AllReadyH.cons rfl ?_ (AllReadyH.nil))
          · intro K' hK'
            (try simp only [List.getElem_toArray, List.getElem_cons_zero, List.getElem_cons_succ])
            go_simp
            obtain ⟨hb0, hb1⟩ := vbox_new u1 (.string (nmB 110 v)) (.slice dq nq cq)
            have hbA := (Below.refl _ u1).alloc (Nat.le_refl _) (VC (.string (nmB 110 v)) (.slice dq nq cq))
            replace hM := hM.step hbA
            replace hq := RwS.step hq hbA
            refine hK'.out _ _ trivial (fun _ => ?_)
            generalize (u1.alloc (VC (.string (nmB 110 v)) (.slice dq nq cq))) = u2 at *
            generalize u1.heap.size = gq at *
            clear hbA hx0
            have hx0 := hM.box.cells.1
            clear hK' K'
            (try simp only [List.getElem_toArray, List.getElem_cons_zero, List.getElem_cons_succ])
            (try simp only [Act.put, List.setIfInBounds_toArray, List.set_cons_zero, List.set_cons_succ])
            refine wpAnyH_ready (rs := [8]) (by kernel_rfl) (by simp) (AllReadyH.cons rfl ?_ (AllReadyH.nil))
            · intro K' hK'
              rw [if_pos (by rfl)]
              refine wp_append_var _ _ rfl w.heap.size x Vs (nmB 110 v) (.slice dq nq cq) ⟨_, _, _, rfl⟩ rfl hM.vs.1 gq rfl hb0 hb1 (by have := HVK.out.len; omega) (by have := hM.lt; omega) ?_
              intro v' u4 hr4 hg4
              obtain ⟨d4, cd4, rfl, -⟩ := owns_slice hr4
              have hpv := hM.pushV hr4 hg4 hq
              refine hK'.out _ _ trivial (fun _ => ?_)
              clear hM hr4 hg4 hq hb0 hb1 hx0
              clear hK' K'
              (try simp only [List.getElem_toArray, List.getElem_cons_zero, List.getElem_cons_succ])
              (try simp only [Act.put, List.setIfInBounds_toArray, List.set_cons_zero, List.set_cons_succ])
              have hm0 := hpv.1.cells.1
              have hmf : u4.frozen? ⟨w.heap.size + 2, 0, none⟩ = false := frozen_of_row _ _ 0 _ _ hpv.1
              refine wpAnyH_take (i := 9) (oi := _) (v := .pointer (some ⟨w.heap.size + 2, 0, none⟩)) rfl (by kernel_rfl) (by kernel_rfl) (by kernel_rfl) (fun _ _ _ h => h) (Or.inl ⟨by rfl, ?_⟩) (by assumption) ?_
              · intro u' hSu
                (try simp only [List.getElem_toArray, List.getElem_cons_zero, List.getElem_cons_succ])
                go_simp
              (try simp only [List.getElem_toArray, List.getElem_cons_zero, List.getElem_cons_succ])
              (try simp only [Act.put, List.setIfInBounds_toArray, List.set_cons_zero, List.set_cons_succ])
              refine wpAnyH_ready (rs := [10]) (by kernel_rfl) (by simp) (AllReadyH.cons rfl ?_ (AllReadyH.nil))
              · intro K' hK'
                (try simp only [List.getElem_toArray, List.getElem_cons_zero, List.getElem_cons_succ])
                go_simp
                refine hK'.out _ _ trivial (fun _ => wpAnyH_done (by kernel_rfl) ?_ _)
                clear hK' K' hm0 hmf
                have HPV := hid hpv.2
                clear hpv
                go_wp2
                go_roundw
                case rel => exact ⟨v + 1, _, _, by omega, by go_num, HVK.out.snoc (.slice dq nq cq) hk1 hk3, HPV⟩
                case measure => simp [intOf]; omega
        · intro K' hK'
          (try simp only [List.getElem_toArray, List.getElem_cons_zero, List.getElem_cons_succ])
          go_simp
          obtain ⟨hb0, hb1⟩ := vbox_new u1 (.string (nmB 110 v)) (.slice dq nq cq)
          have hbA := (Below.refl _ u1).alloc (Nat.le_refl _) (VC (.string (nmB 110 v)) (.slice dq nq cq))
          replace hM := hM.step hbA
          replace hq := RwS.step hq hbA
          refine hK'.out _ _ trivial (fun _ => ?_)
          generalize (u1.alloc (VC (.string (nmB 110 v)) (.slice dq nq cq))) = u2 at *
          generalize u1.heap.size = gq at *
          clear hbA hx0
          have hx0 := hM.box.cells.1
          clear hK' K'
          (try simp only [List.getElem_toArray, List.getElem_cons_zero, List.getElem_cons_succ])
          (try simp only [Act.put, List.setIfInBounds_toArray, List.set_cons_zero, List.set_cons_succ])
          refine wpAnyH_ready (rs := [1]) (by kernel_rfl) (by simp) (AllReadyH.cons rfl ?_ (AllReadyH.nil))
          · intro K' hK'
            (try simp only [List.getElem_toArray, List.getElem_cons_zero, List.getElem_cons_succ])
            go_simp
            refine hK'.out _ _ trivial (fun _ => ?_)
            clear hK' K'
            (try simp only [List.getElem_toArray, List.getElem_cons_zero, List.getElem_cons_succ])
            (try simp only [Act.put, List.setIfInBounds_toArray, List.set_cons_zero, List.set_cons_succ])
            refine wpAnyH_ready (rs := [8]) (by kernel_rfl) (by simp) (AllReadyH.cons rfl ?_ (AllReadyH.nil))
            · intro K' hK'
              rw [if_pos (by rfl)]
              refine wp_append_var _ _ rfl w.heap.size x Vs (nmB 110 v) (.slice dq nq cq) ⟨_, _, _, rfl⟩ rfl hM.vs.1 gq rfl hb0 hb1 (by have := HVK.out.len; omega) (by have := hM.lt; omega) ?_
              intro v' u4 hr4 hg4
              obtain ⟨d4, cd4, rfl, -⟩ := owns_slice hr4
              have hpv := hM.pushV hr4 hg4 hq
              refine hK'.out _ _ trivial (fun _ => ?_)
              clear hM hr4 hg4 hq hb0 hb1 hx0
              clear hK' K'
              (try simp only [List.getElem_toArray, List.getElem_cons_zero, List.getElem_cons_succ])
              (try simp only [Act.put, List.setIfInBounds_toArray, List.set_cons_zero, List.set_cons_succ])
              have hm0 := hpv.1.cells.1
              have hmf : u4.frozen? ⟨w.heap.size + 2, 0, none⟩ = false := frozen_of_row _ _ 0 _ _ hpv.1
              refine wpAnyH_take (i := 9) (oi := _) (v := .pointer (some ⟨w.heap.size + 2, 0, none⟩)) rfl (by kernel_rfl) (by kernel_rfl) (by kernel_rfl) (fun _ _ _ h => h) (Or.inl ⟨by rfl, ?_⟩) (by assumption) ?_
              · intro u' hSu
                (try simp only [List.getElem_toArray, List.getElem_cons_zero, List.getElem_cons_succ])
                go_simp
              (try simp only [List.getElem_toArray, List.getElem_cons_zero, List.getElem_cons_succ])
              (try simp only [Act.put, List.setIfInBounds_toArray, List.set_cons_zero, List.set_cons_succ])
              refine wpAnyH_ready (rs := [10]) (by kernel_rfl) (by simp) (AllReadyH.cons rfl ?_ (AllReadyH.nil))
              · intro K' hK'
                (try simp only [List.getElem_toArray, List.getElem_cons_zero, List.getElem_cons_succ])
                go_simp
                refine hK'.out _ _ trivial (fun _ => wpAnyH_done (by kernel_rfl) ?_ _)
                clear hK' K' hm0 hmf
                have HPV := hid hpv.2
                clear hpv
                go_wp2
                go_roundw
                case rel => exact ⟨v + 1, _, _, by omega, by go_num, HVK.out.snoc (.slice dq nq cq) hk1 hk3, HPV⟩
                case measure => simp [intOf]; omega
    · obtain rfl : n = v := by omega
      obtain ⟨ax, cx, rfl, hvs⟩ := HMS.out.vs.vars
      have hVl : (vOf Vs).length = n := by simp [vOf, HVK.out.len]
      have HSZ := hid (fun U hU => rSizes_any ax none none cx 0 0 0 0 (vOf Vs) U hU (by omega))
      have hSK := HVK.out.sizes
      have HVS := hid hvs
      have HSE : Hid (sizesN (vOf Vs) = sizesN (vOf Vs)) := rfl
      rw [hVl] at HSZ HMS
      generalize hSe : sizesN (vOf Vs) = S at *
      have HSQ := hid hSe
      have HSK := hid hSK
      clear hSe hSK hvs HSE
      obtain ⟨e0, e1, e2⟩ := HMS.out.box.cells
      go_wp2_with fail
      refine (HSZ.out _ HVS.out).mono ?_
      rintro e W2 ⟨xv, rfl, hrw, hb⟩
      have hSn : (iL S).length = n := by rw [iL_length]; exact HSK.out.len
      obtain ⟨d10, cd10, e10, -⟩ := owns_slice hrw
      rw [hSn] at e10
      subst e10
      have HS0 : Hid (RwI W2 w.heap.size (.slice d10 n cd10) (iL S)) := owns_lower hrw HMS.out.bel.size
      have HM2 := hid (HMS.out.step hb)
      clear hrw hb e0 e1 e2 HMS HSZ HVS hVl hlt hv
      generalize hxg : Value.slice ax n cx = x at *
      clear hxg
      go_wp2_with fail
      go_loopw [8, 9, 11] (fun ev av iv wr => ∃ (v e at_ : Nat) (y z : Value) (Ls : List PL) (Rs : List PR), v ≤ n ∧ iv = .int .i64 v ∧ ev = .int .i64 (e : Nat) ∧ av = .int .i64 (at_ : Nat) ∧ e ≤ 6 * v ∧ at_ ≤ 81 * v ∧ Hid (LK2 bk n v S Ls Rs) ∧ Hid (MS w wr (.slice a1 L1.length c1) (.slice a2 L2.length c2) (.slice a3 L3.length c3) bk x y z Vs Ls Rs) ∧ Hid (RwI wr w.heap.size (.slice d10 n cd10) (iL S))) (fun _ _ iv _ => n - (intOf iv).toNat)
      case atStart => exact ⟨0, 0, 0, _, _, [], [], Nat.zero_le _, rfl, rfl, rfl, Nat.le_refl _, Nat.le_refl _, ⟨rfl, rfl, fun j hj => absurd hj (by simp), fun j hj => absurd hj (by simp)⟩, HM2, HS0⟩
      case round =>
        obtain ⟨v, e, at_, y, z, Ls, Rs, hv, rfl, rfl, rfl, he6, ha81, HLK, HMS, HS⟩ := hrel
        clear HM2 HS0
        by_cases hlt : v < n
        · go_wp2_with fail
          generalize wr = wb at *
          go_loopw [8, 12, 13] (fun ev pv uv wr3 => ∃ (u e' : Nat) (pl : List Int), u ≤ n ∧ uv = .int .i64 u ∧ ev = .int .i64 (e' : Nat) ∧ e' ≤ e + u ∧ Hid (PP bk n v u pl) ∧ Hid (RwI wr3 wb.heap.size pv pl) ∧ Hid (Below wb.heap.size wb wr3)) (fun _ _ uv _ => n - (intOf uv).toNat)
          case atStart => exact ⟨0, e, [], Nat.zero_le _, rfl, rfl, Nat.le_refl _, PP.nil bk n v, RwI.emptyB _ _, Below.refl _ _⟩
          case round =>
            obtain ⟨u, e', pl, hu, rfl, rfl, hee, HPP, HPL, HBB⟩ := hrel
            by_cases hul : u < n
            · generalize wr = wr3 at *
              obtain ⟨dp, cp, hpe, -⟩ := owns_slice HPL.out
              subst hpe
              have hM3 := HMS.out.step HBB.out
              obtain ⟨-, -, -, d3⟩ := hM3.cells
              have hfew := HPP.out.ok.few
              have he1 : e' ≤ 1000 := by omega
              cases bk
              case true =>
                by_cases hs : (u : Int) ≤ (v : Int)
                · go_wp2
                  go_roundw
                  case rel => exact ⟨u + 1, e', pl, by omega, by go_num, rfl, by omega, HPP.out.skip, HPL, HBB⟩
                  case measure => simp [intOf]; omega
                · have hk : (v : Int) < (u : Int) := by omega
                  clear hs
                  by_cases hl3 : pl.length = 3
                  · have hlb : ((pl.length : Int) == 3) = true := by rw [hl3]; rfl
                    clear hl3
                    go_wp2
                    go_roundw
                    case rel => exact ⟨u + 1, e', pl, by omega, by go_num, rfl, by omega, HPP.out.skip, HPL, HBB⟩
                    case measure => simp [intOf]; omega
                  · have hlb : ((pl.length : Int) == 3) = false := by
                      have : ¬ (pl.length : Int) = 3 := by omega
                      simpa using this
                    have hrk : if true = true then v < u else u < v := by simp; omega
                    go_upto_region 26 with fail
                    clear d3 hlb
                    have hBr : Below wr3.heap.size wr3 wr3.drew := (Below.refl _ _).drew
                    go_cut [109] from 66 to 115 (fun s wx => ∃ b : Bool, s = .bool b ∧ Hid (Below wr3.heap.size wr3 wx))
                    case first =>
                      by_cases hl20 : 0 < L2.length
                      · obtain ⟨t, ht⟩ : ∃ t, t = e' % L2.length := ⟨_, rfl⟩
                        have htl : t < L2.length := by rw [ht]; exact Nat.mod_lt _ hl20
                        have hrem : (e' : Int) % (L2.length : Int) = (t : Int) := by rw [ht, Int.natCast_emod]
                        have hwt : IntKind.i64.wrap (t : Int) = (t : Int) := by rw [IntKind.wrap_i64]; omega
                        have hwr2 : IntKind.i64.wrap ((e' : Int) % (L2.length : Int)) = (t : Int) := by rw [hrem]; exact hwt
                        have hl2p : (0 : Int) < (L2.length : Int) := by omega
                        have hl2n : ¬ (L2.length : Int) = 0 := by omega
                        have HPT := hid (fun U => HP2.out L2[t] (HR2.out _ (List.getElem_mem htl)) U)
                        obtain ⟨g2, o2, rfl, hg2, cs⟩ := HI2.out t htl
                        have HC2 := hid cs
                        generalize L2[t] = lt at *
                        generalize pickN lt 2 = pk at *
                        obtain ⟨b, hpb⟩ : ∃ b : Bool, ((pk : Int) == 0) = b := ⟨_, rfl⟩
                        have hpb2 : (pk == 0) = b := by rw [← hpb]; cases pk <;> rfl
                        have HL20 := hid hl20
                        have HNE : Hid (¬ L2 = []) := fun h => by rw [h] at hl20; exact absurd hl20 (by simp)
                        have HTM : Hid ((e' : Int).tmod (L2.length : Int) = (t : Int)) := by rw [ht]; rfl
                        clear cs ht hl20
                        replace hM3 := hM3.step (Below.refl _ _).drew
                        refine wp_region_held_drew (S := fun u => u.cell? ⟨w.heap.size, 1, none⟩ = some (.slice (some ⟨g2, o2, none⟩) L2.length c2) ∧ u.cell? ⟨g2, o2 + t, none⟩ = some (.int .i64 lt)) (by kernel_rfl) ⟨hM3.cells.2.1, (hM3.bel.cell (p := ⟨g2, o2 + t, none⟩) hg2).trans HC2.out⟩ (fun hSd => ?_)
                        generalize wr3.drew = u0 at *
                        refine wpAnyH_take (i := 0) (oi := _) (v := .pointer (some ⟨w.heap.size, 1, none⟩)) rfl (by kernel_rfl) (by kernel_rfl) (by kernel_rfl) (fun _ _ _ h => h) (Or.inl ⟨by rfl, ?_⟩) (by assumption) ?_
                        · intro u' hSu
                          (try simp only [List.getElem_toArray, List.getElem_cons_zero])
                          go_simp
                        (try simp only [List.getElem_toArray, List.getElem_cons_zero])
                        (try simp only [Act.put, List.setIfInBounds_toArray, List.set_cons_zero, List.set_cons_succ])
                        refine wpAnyH_take (i := 1) (oi := _) (v := .slice (some ⟨g2, o2, none⟩) L2.length c2) rfl (by kernel_rfl) (by kernel_rfl) (by kernel_rfl) (fun _ _ _ h => h) (Or.inl ⟨by rfl, ?_⟩) (by assumption) ?_
                        · intro u' hSu
                          (try simp only [List.getElem_toArray, List.getElem_cons_zero, List.getElem_cons_succ])
                          obtain ⟨s1, s2⟩ := hSu
                          go_simp
                        (try simp only [List.getElem_toArray, List.getElem_cons_zero, List.getElem_cons_succ])
                        (try simp only [Act.put, List.setIfInBounds_toArray, List.set_cons_zero, List.set_cons_succ])
                        refine wpAnyH_take (i := 2) (oi := _) (v := .int .i64 (L2.length : Nat)) rfl (by kernel_rfl) (by kernel_rfl) (by kernel_rfl) (fun _ _ _ h => h) (Or.inl ⟨by rfl, ?_⟩) (by assumption) ?_
                        · intro u' hSu
                          (try simp only [List.getElem_toArray, List.getElem_cons_zero, List.getElem_cons_succ])
                          go_simp
                        (try simp only [List.getElem_toArray, List.getElem_cons_zero, List.getElem_cons_succ])
                        (try simp only [Act.put, List.setIfInBounds_toArray, List.set_cons_zero, List.set_cons_succ])
                        refine wpAnyH_take (i := 3) (oi := _) (v := .bool true) rfl (by kernel_rfl) (by kernel_rfl) (by kernel_rfl) (fun _ _ _ h => h) (Or.inl ⟨by rfl, ?_⟩) (by assumption) ?_
                        · intro u' hSu
                          (try simp only [List.getElem_toArray, List.getElem_cons_zero, List.getElem_cons_succ])
                          go_simp
                          exact HL20.out
                        (try simp only [List.getElem_toArray, List.getElem_cons_zero, List.getElem_cons_succ])
                        (try simp only [Act.put, List.setIfInBounds_toArray, List.set_cons_zero, List.set_cons_succ])
                        refine wpAnyH_take (i := 4) (oi := _) (v := .bool true) rfl (by kernel_rfl) (by kernel_rfl) (by kernel_rfl) (fun _ _ _ h => h) (Or.inl ⟨by rfl, ?_⟩) (by assumption) ?_
                        · intro u' hSu
                          (try simp only [List.getElem_toArray, List.getElem_cons_zero, List.getElem_cons_succ])
                          go_simp
                        (try simp only [List.getElem_toArray, List.getElem_cons_zero, List.getElem_cons_succ])
                        (try simp only [Act.put, List.setIfInBounds_toArray, List.set_cons_zero, List.set_cons_succ])
                        refine wpAnyH_take (i := 5) (oi := _) (v := .pointer (some ⟨w.heap.size, 1, none⟩)) rfl (by kernel_rfl) (by kernel_rfl) (by kernel_rfl) (fun _ _ _ h => h) (Or.inl ⟨by rfl, ?_⟩) (by assumption) ?_
                        · intro u' hSu
                          (try simp only [List.getElem_toArray, List.getElem_cons_zero, List.getElem_cons_succ])
                          go_simp
                        (try simp only [List.getElem_toArray, List.getElem_cons_zero, List.getElem_cons_succ])
                        (try simp only [Act.put, List.setIfInBounds_toArray, List.set_cons_zero, List.set_cons_succ])
                        refine wpAnyH_take (i := 6) (oi := _) (v := .slice (some ⟨g2, o2, none⟩) L2.length c2) rfl (by kernel_rfl) (by kernel_rfl) (by kernel_rfl) (fun _ _ _ h => h) (Or.inl ⟨by rfl, ?_⟩) (by assumption) ?_
                        · intro u' hSu
                          (try simp only [List.getElem_toArray, List.getElem_cons_zero, List.getElem_cons_succ])
                          obtain ⟨s1, s2⟩ := hSu
                          go_simp
                        (try simp only [List.getElem_toArray, List.getElem_cons_zero, List.getElem_cons_succ])
                        (try simp only [Act.put, List.setIfInBounds_toArray, List.set_cons_zero, List.set_cons_succ])
                        refine wpAnyH_take (i := 7) (oi := _) (v := .int .i64 (e' : Nat)) rfl (by kernel_rfl) (by kernel_rfl) (by kernel_rfl) (fun _ _ _ h => h) (Or.inl ⟨by rfl, ?_⟩) (by assumption) ?_
                        · intro u' hSu
                          (try simp only [List.getElem_toArray, List.getElem_cons_zero, List.getElem_cons_succ])
                          go_simp
                        (try simp only [List.getElem_toArray, List.getElem_cons_zero, List.getElem_cons_succ])
                        (try simp only [Act.put, List.setIfInBounds_toArray, List.set_cons_zero, List.set_cons_succ])
                        refine wpAnyH_take (i := 8) (oi := _) (v := .pointer (some ⟨w.heap.size, 1, none⟩)) rfl (by kernel_rfl) (by kernel_rfl) (by kernel_rfl) (fun _ _ _ h => h) (Or.inl ⟨by rfl, ?_⟩) (by assumption) ?_
                        · intro u' hSu
                          (try simp only [List.getElem_toArray, List.getElem_cons_zero, List.getElem_cons_succ])
                          go_simp
                        (try simp only [List.getElem_toArray, List.getElem_cons_zero, List.getElem_cons_succ])
                        (try simp only [Act.put, List.setIfInBounds_toArray, List.set_cons_zero, List.set_cons_succ])
                        refine wpAnyH_take (i := 9) (oi := _) (v := .slice (some ⟨g2, o2, none⟩) L2.length c2) rfl (by kernel_rfl) (by kernel_rfl) (by kernel_rfl) (fun _ _ _ h => h) (Or.inl ⟨by rfl, ?_⟩) (by assumption) ?_
                        · intro u' hSu
                          (try simp only [List.getElem_toArray, List.getElem_cons_zero, List.getElem_cons_succ])
                          obtain ⟨s1, s2⟩ := hSu
                          go_simp
                        (try simp only [List.getElem_toArray, List.getElem_cons_zero, List.getElem_cons_succ])
                        (try simp only [Act.put, List.setIfInBounds_toArray, List.set_cons_zero, List.set_cons_succ])
                        refine wpAnyH_take (i := 10) (oi := _) (v := .int .i64 (L2.length : Nat)) rfl (by kernel_rfl) (by kernel_rfl) (by kernel_rfl) (fun _ _ _ h => h) (Or.inl ⟨by rfl, ?_⟩) (by assumption) ?_
                        · intro u' hSu
                          (try simp only [List.getElem_toArray, List.getElem_cons_zero, List.getElem_cons_succ])
                          go_simp
                        (try simp only [List.getElem_toArray, List.getElem_cons_zero, List.getElem_cons_succ])
                        (try simp only [Act.put, List.setIfInBounds_toArray, List.set_cons_zero, List.set_cons_succ])
                        refine wpAnyH_take (i := 11) (oi := _) (v := .int .i64 (t : Nat)) rfl (by kernel_rfl) (by kernel_rfl) (by kernel_rfl) (fun _ _ _ h => h) (Or.inl ⟨by rfl, ?_⟩) (by assumption) ?_
                        · intro u' hSu
                          (try simp only [List.getElem_toArray, List.getElem_cons_zero, List.getElem_cons_succ])
                          go_simp
                          rw [if_neg HNE.out, HTM.out]
                        (try simp only [List.getElem_toArray, List.getElem_cons_zero, List.getElem_cons_succ])
                        (try simp only [Act.put, List.setIfInBounds_toArray, List.set_cons_zero, List.set_cons_succ])
                        refine wpAnyH_take (i := 12) (oi := _) (v := .pointer (some ⟨g2, o2 + t, none⟩)) rfl (by kernel_rfl) (by kernel_rfl) (by kernel_rfl) (fun _ _ _ h => h) (Or.inl ⟨by rfl, ?_⟩) (by assumption) ?_
                        · intro u' hSu
                          (try simp only [List.getElem_toArray, List.getElem_cons_zero, List.getElem_cons_succ])
                          go_simp
                        (try simp only [List.getElem_toArray, List.getElem_cons_zero, List.getElem_cons_succ])
                        (try simp only [Act.put, List.setIfInBounds_toArray, List.set_cons_zero, List.set_cons_succ])
                        refine wpAnyH_take (i := 13) (oi := _) (v := .int .i64 lt) rfl (by kernel_rfl) (by kernel_rfl) (by kernel_rfl) (fun _ _ _ h => h) (Or.inl ⟨by rfl, ?_⟩) (by assumption) ?_
                        · intro u' hSu
                          (try simp only [List.getElem_toArray, List.getElem_cons_zero, List.getElem_cons_succ])
                          obtain ⟨s1, s2⟩ := hSu
                          go_simp
                        (try simp only [List.getElem_toArray, List.getElem_cons_zero, List.getElem_cons_succ])
                        (try simp only [Act.put, List.setIfInBounds_toArray, List.set_cons_zero, List.set_cons_succ])
                        refine wpAnyH_ready (rs := [14]) (by kernel_rfl) (by simp) (AllReadyH.cons rfl ?_ (AllReadyH.nil))
                        · intro K' hK'
                          (try simp only [List.getElem_toArray, List.getElem_cons_zero, List.getElem_cons_succ])
                          go_simp
                          refine (HPT.out _).mono ?_
                          rintro _ u1 ⟨rfl, hb⟩
                          replace hM3 := hM3.step hb
                          replace hBr := hBr.trans (hb.mono hBr.size)
                          refine hK'.out _ _ ⟨hM3.cells.2.1, (hM3.bel.cell (p := ⟨g2, o2 + t, none⟩) hg2).trans HC2.out⟩ (fun hSe => ?_)
                          clear hb
                          clear hK' K' hSd
                          have hSd := hSe
                          clear hSe
                          (try simp only [List.getElem_toArray, List.getElem_cons_zero, List.getElem_cons_succ])
                          (try simp only [Act.put, List.setIfInBounds_toArray, List.set_cons_zero, List.set_cons_succ])
                          refine wpAnyH_take (i := 15) (oi := _) (v := .bool b) rfl (by kernel_rfl) (by kernel_rfl) (by kernel_rfl) (fun _ _ _ h => h) (Or.inl ⟨by rfl, ?_⟩) (by assumption) ?_
                          · intro u' hSu
                            (try simp only [List.getElem_toArray, List.getElem_cons_zero, List.getElem_cons_succ])
                            go_simp
                          (try simp only [List.getElem_toArray, List.getElem_cons_zero, List.getElem_cons_succ])
                          (try simp only [Act.put, List.setIfInBounds_toArray, List.set_cons_zero, List.set_cons_succ])
                          refine wpAnyH_take (i := 16) (oi := _) (v := .bool b) rfl (by kernel_rfl) (by kernel_rfl) (by kernel_rfl) (fun _ _ _ h => h) (Or.inl ⟨by rfl, ?_⟩) (by assumption) ?_
                          · intro u' hSu
                            (try simp only [List.getElem_toArray, List.getElem_cons_zero, List.getElem_cons_succ])
                            go_simp
                          (try simp only [List.getElem_toArray, List.getElem_cons_zero, List.getElem_cons_succ])
                          (try simp only [Act.put, List.setIfInBounds_toArray, List.set_cons_zero, List.set_cons_succ])
                          refine wpAnyH_done (by kernel_rfl) ?_ _
                          clear hSd
                          go_wp2_with fail
                          go_meet
                          exact ⟨b, rfl, hBr⟩
                      · have hl2p : ¬ (0 : Int) < (L2.length : Int) := by omega
                        have hl2q : decide ((0 : Int) < (L2.length : Int)) = false := decide_eq_false hl2p
                        have hl2r : ¬ 0 < L2.length := hl20
                        clear hl20
                        replace hM3 := hM3.step (Below.refl _ _).drew
                        refine wp_region_held_drew (S := fun u => u.cell? ⟨w.heap.size, 1, none⟩ = some (.slice a2 L2.length c2)) (by kernel_rfl) hM3.cells.2.1 (fun hSd => ?_)
                        generalize wr3.drew = u0 at *
                        refine wpAnyH_take (i := 0) (oi := _) (v := .pointer (some ⟨w.heap.size, 1, none⟩)) rfl (by kernel_rfl) (by kernel_rfl) (by kernel_rfl) (fun _ _ _ h => h) (Or.inl ⟨by rfl, ?_⟩) (by assumption) ?_
                        · intro u' hSu
                          (try simp only [List.getElem_toArray, List.getElem_cons_zero])
                          go_simp
                        (try simp only [List.getElem_toArray, List.getElem_cons_zero])
                        (try simp only [Act.put, List.setIfInBounds_toArray, List.set_cons_zero, List.set_cons_succ])
                        refine wpAnyH_take (i := 1) (oi := _) (v := .slice a2 L2.length c2) rfl (by kernel_rfl) (by kernel_rfl) (by kernel_rfl) (fun _ _ _ h => h) (Or.inl ⟨by rfl, ?_⟩) (by assumption) ?_
                        · intro u' hSu
                          (try simp only [List.getElem_toArray, List.getElem_cons_zero, List.getElem_cons_succ])
                          go_simp
                        (try simp only [List.getElem_toArray, List.getElem_cons_zero, List.getElem_cons_succ])
                        (try simp only [Act.put, List.setIfInBounds_toArray, List.set_cons_zero, List.set_cons_succ])
                        refine wpAnyH_take (i := 2) (oi := _) (v := .int .i64 (L2.length : Nat)) rfl (by kernel_rfl) (by kernel_rfl) (by kernel_rfl) (fun _ _ _ h => h) (Or.inl ⟨by rfl, ?_⟩) (by assumption) ?_
                        · intro u' hSu
                          (try simp only [List.getElem_toArray, List.getElem_cons_zero, List.getElem_cons_succ])
                          go_simp
                        (try simp only [List.getElem_toArray, List.getElem_cons_zero, List.getElem_cons_succ])
                        (try simp only [Act.put, List.setIfInBounds_toArray, List.set_cons_zero, List.set_cons_succ])
                        refine wpAnyH_take (i := 3) (oi := _) (v := .bool false) rfl (by kernel_rfl) (by kernel_rfl) (by kernel_rfl) (fun _ _ _ h => h) (Or.inl ⟨by rfl, ?_⟩) (by assumption) ?_
                        · intro u' hSu
                          (try simp only [List.getElem_toArray, List.getElem_cons_zero, List.getElem_cons_succ])
                          go_simp
                        (try simp only [List.getElem_toArray, List.getElem_cons_zero, List.getElem_cons_succ])
                        (try simp only [Act.put, List.setIfInBounds_toArray, List.set_cons_zero, List.set_cons_succ])
                        refine wpAnyH_take (i := 4) (oi := _) (v := .bool false) rfl (by kernel_rfl) (by kernel_rfl) (by kernel_rfl) (fun _ _ _ h => h) (Or.inl ⟨by rfl, ?_⟩) (by assumption) ?_
                        · intro u' hSu
                          (try simp only [List.getElem_toArray, List.getElem_cons_zero, List.getElem_cons_succ])
                          go_simp
                        (try simp only [List.getElem_toArray, List.getElem_cons_zero, List.getElem_cons_succ])
                        (try simp only [Act.put, List.setIfInBounds_toArray, List.set_cons_zero, List.set_cons_succ])
                        refine wpAnyH_take (i := 5) (oi := _) (v := undef) rfl (by kernel_rfl) (by kernel_rfl) (by kernel_rfl) (fun _ _ _ h => h) (Or.inr ⟨by rfl, rfl⟩) (by assumption) ?_
                        (try simp only [List.getElem_toArray, List.getElem_cons_zero, List.getElem_cons_succ])
                        (try simp only [Act.put, List.setIfInBounds_toArray, List.set_cons_zero, List.set_cons_succ])
                        refine wpAnyH_take (i := 6) (oi := _) (v := undef) rfl (by kernel_rfl) (by kernel_rfl) (by kernel_rfl) (fun _ _ _ h => h) (Or.inr ⟨by rfl, rfl⟩) (by assumption) ?_
                        (try simp only [List.getElem_toArray, List.getElem_cons_zero, List.getElem_cons_succ])
                        (try simp only [Act.put, List.setIfInBounds_toArray, List.set_cons_zero, List.set_cons_succ])
                        refine wpAnyH_take (i := 7) (oi := _) (v := undef) rfl (by kernel_rfl) (by kernel_rfl) (by kernel_rfl) (fun _ _ _ h => h) (Or.inr ⟨by rfl, rfl⟩) (by assumption) ?_
                        (try simp only [List.getElem_toArray, List.getElem_cons_zero, List.getElem_cons_succ])
                        (try simp only [Act.put, List.setIfInBounds_toArray, List.set_cons_zero, List.set_cons_succ])
                        refine wpAnyH_take (i := 8) (oi := _) (v := undef) rfl (by kernel_rfl) (by kernel_rfl) (by kernel_rfl) (fun _ _ _ h => h) (Or.inr ⟨by rfl, rfl⟩) (by assumption) ?_
                        (try simp only [List.getElem_toArray, List.getElem_cons_zero, List.getElem_cons_succ])
                        (try simp only [Act.put, List.setIfInBounds_toArray, List.set_cons_zero, List.set_cons_succ])
                        refine wpAnyH_take (i := 9) (oi := _) (v := undef) rfl (by kernel_rfl) (by kernel_rfl) (by kernel_rfl) (fun _ _ _ h => h) (Or.inr ⟨by rfl, rfl⟩) (by assumption) ?_
                        (try simp only [List.getElem_toArray, List.getElem_cons_zero, List.getElem_cons_succ])
                        (try simp only [Act.put, List.setIfInBounds_toArray, List.set_cons_zero, List.set_cons_succ])
                        refine wpAnyH_take (i := 10) (oi := _) (v := undef) rfl (by kernel_rfl) (by kernel_rfl) (by kernel_rfl) (fun _ _ _ h => h) (Or.inr ⟨by rfl, rfl⟩) (by assumption) ?_
                        (try simp only [List.getElem_toArray, List.getElem_cons_zero, List.getElem_cons_succ])
                        (try simp only [Act.put, List.setIfInBounds_toArray, List.set_cons_zero, List.set_cons_succ])
                        refine wpAnyH_take (i := 11) (oi := _) (v := undef) rfl (by kernel_rfl) (by kernel_rfl) (by kernel_rfl) (fun _ _ _ h => h) (Or.inr ⟨by rfl, rfl⟩) (by assumption) ?_
                        (try simp only [List.getElem_toArray, List.getElem_cons_zero, List.getElem_cons_succ])
                        (try simp only [Act.put, List.setIfInBounds_toArray, List.set_cons_zero, List.set_cons_succ])
                        refine wpAnyH_take (i := 12) (oi := _) (v := undef) rfl (by kernel_rfl) (by kernel_rfl) (by kernel_rfl) (fun _ _ _ h => h) (Or.inr ⟨by rfl, rfl⟩) (by assumption) ?_
                        (try simp only [List.getElem_toArray, List.getElem_cons_zero, List.getElem_cons_succ])
                        (try simp only [Act.put, List.setIfInBounds_toArray, List.set_cons_zero, List.set_cons_succ])
                        refine wpAnyH_take (i := 13) (oi := _) (v := undef) rfl (by kernel_rfl) (by kernel_rfl) (by kernel_rfl) (fun _ _ _ h => h) (Or.inr ⟨by rfl, rfl⟩) (by assumption) ?_
                        (try simp only [List.getElem_toArray, List.getElem_cons_zero, List.getElem_cons_succ])
                        (try simp only [Act.put, List.setIfInBounds_toArray, List.set_cons_zero, List.set_cons_succ])
                        refine wpAnyH_ready (rs := [14]) (by kernel_rfl) (by simp) (AllReadyH.cons rfl ?_ (AllReadyH.nil))
                        · intro K' hK'
                          (try simp only [List.getElem_toArray, List.getElem_cons_zero, List.getElem_cons_succ])
                          go_simp
                          refine hK'.out _ _ hSd (fun hSe => ?_)
                          clear hK' K' hSd
                          have hSd := hSe
                          clear hSe
                          (try simp only [List.getElem_toArray, List.getElem_cons_zero, List.getElem_cons_succ])
                          (try simp only [Act.put, List.setIfInBounds_toArray, List.set_cons_zero, List.set_cons_succ])
                          refine wpAnyH_take (i := 15) (oi := _) (v := undef) rfl (by kernel_rfl) (by kernel_rfl) (by kernel_rfl) (fun _ _ _ h => h) (Or.inr ⟨by rfl, rfl⟩) (by assumption) ?_
                          (try simp only [List.getElem_toArray, List.getElem_cons_zero, List.getElem_cons_succ])
                          (try simp only [Act.put, List.setIfInBounds_toArray, List.set_cons_zero, List.set_cons_succ])
                          refine wpAnyH_take (i := 16) (oi := _) (v := .bool false) rfl (by kernel_rfl) (by kernel_rfl) (by kernel_rfl) (fun _ _ _ h => h) (Or.inl ⟨by rfl, ?_⟩) (by assumption) ?_
                          · intro u' hSu
                            (try simp only [List.getElem_toArray, List.getElem_cons_zero, List.getElem_cons_succ])
                            go_simp
                          (try simp only [List.getElem_toArray, List.getElem_cons_zero, List.getElem_cons_succ])
                          (try simp only [Act.put, List.setIfInBounds_toArray, List.set_cons_zero, List.set_cons_succ])
                          refine wpAnyH_done (by kernel_rfl) ?_ _
                          clear hSd
                          go_wp2_with fail
                          go_meet
                          exact ⟨false, rfl, hBr⟩
                    case rest =>
                    obtain ⟨b, rfl, HBx⟩ := hcut
                    have HPL2 := hid (HPL.out.below HBx.out)
                    have HBB2 := hid (HBB.out.trans (HBx.out.mono HBB.out.size))
                    clear HPL HBB hM3 hBr
                    cases b
                    case false =>
                      clear HBx
                      go_wp2
                      go_roundw
                      case rel => exact ⟨u + 1, e' + 1, pl, by omega, by go_num, by go_num, by omega, HPP.out.skip, HPL2, HBB2⟩
                      case measure => simp [intOf]; omega
                    case true =>
                      clear HBx
                      have HXA := hid (HPL2.out.below ((Below.refl _ wc).alloc (Nat.le_refl _) (.cells #[.int .i64 (u : Int)] 3)))
                      have HBA := hid (HBB2.out.alloc HBB2.out.size (.cells #[.int .i64 (u : Int)] 3))
                      have HIA := hid (one_int wc (u : Int))
                      have hbs : wb.heap.size ≤ (wc.alloc (.cells #[.int .i64 (u : Int)] 3)).heap.size := HBA.out.size
                      have HPS := hid (HPP.out.snoc hul hl3 hrk)
                      clear HPL2 HBB2
                      go_wp2_with (at_builtin; refine wpList_append_ints rfl _ _ rfl wb.heap.size _ pl [(u : Int)] rfl HXA.out (some ⟨wc.heap.size, 0, none⟩) 1 rfl HIA.out (fun e => by cases e) (by simp; omega) hbs ?_; intro v' w3 hr3 hg3; have HB3 := hid (HBA.out.grown hg3 hbs (fun k e => owns_from HXA.out k e)))
                      go_roundw
                      case rel => exact ⟨u + 1, e' + 1, pl ++ [(u : Int)], by omega, by go_num, by go_num, by omega, HPS, hr3, HB3⟩
                      case measure => simp [intOf]; omega
              case false =>
                by_cases hs : (v : Int) ≤ (u : Int)
                · go_wp2
                  go_roundw
                  case rel => exact ⟨u + 1, e', pl, by omega, by go_num, rfl, by omega, HPP.out.skip, HPL, HBB⟩
                  case measure => simp [intOf]; omega
                · have hk : (u : Int) < (v : Int) := by omega
                  clear hs
                  by_cases hl3 : pl.length = 3
                  · have hlb : ((pl.length : Int) == 3) = true := by rw [hl3]; rfl
                    clear hl3
                    go_wp2
                    go_roundw
                    case rel => exact ⟨u + 1, e', pl, by omega, by go_num, rfl, by omega, HPP.out.skip, HPL, HBB⟩
                    case measure => simp [intOf]; omega
                  · have hlb : ((pl.length : Int) == 3) = false := by
                      have : ¬ (pl.length : Int) = 3 := by omega
                      simpa using this
                    have hrk : if false = true then v < u else u < v := by simp; omega
                    go_upto_region 26 with fail
                    clear d3 hlb
                    have hBr : Below wr3.heap.size wr3 wr3.drew := (Below.refl _ _).drew
                    go_cut [109] from 66 to 115 (fun s wx => ∃ b : Bool, s = .bool b ∧ Hid (Below wr3.heap.size wr3 wx))
                    case first =>
                      by_cases hl20 : 0 < L2.length
                      · obtain ⟨t, ht⟩ : ∃ t, t = e' % L2.length := ⟨_, rfl⟩
                        have htl : t < L2.length := by rw [ht]; exact Nat.mod_lt _ hl20
                        have hrem : (e' : Int) % (L2.length : Int) = (t : Int) := by rw [ht, Int.natCast_emod]
                        have hwt : IntKind.i64.wrap (t : Int) = (t : Int) := by rw [IntKind.wrap_i64]; omega
                        have hwr2 : IntKind.i64.wrap ((e' : Int) % (L2.length : Int)) = (t : Int) := by rw [hrem]; exact hwt
                        have hl2p : (0 : Int) < (L2.length : Int) := by omega
                        have hl2n : ¬ (L2.length : Int) = 0 := by omega
                        have HPT := hid (fun U => HP2.out L2[t] (HR2.out _ (List.getElem_mem htl)) U)
                        obtain ⟨g2, o2, rfl, hg2, cs⟩ := HI2.out t htl
                        have HC2 := hid cs
                        generalize L2[t] = lt at *
                        generalize pickN lt 2 = pk at *
                        obtain ⟨b, hpb⟩ : ∃ b : Bool, ((pk : Int) == 0) = b := ⟨_, rfl⟩
                        have hpb2 : (pk == 0) = b := by rw [← hpb]; cases pk <;> rfl
                        have HL20 := hid hl20
                        have HNE : Hid (¬ L2 = []) := fun h => by rw [h] at hl20; exact absurd hl20 (by simp)
                        have HTM : Hid ((e' : Int).tmod (L2.length : Int) = (t : Int)) := by rw [ht]; rfl
                        clear cs ht hl20
                        replace hM3 := hM3.step (Below.refl _ _).drew
                        refine wp_region_held_drew (S := fun u => u.cell? ⟨w.heap.size, 1, none⟩ = some (.slice (some ⟨g2, o2, none⟩) L2.length c2) ∧ u.cell? ⟨g2, o2 + t, none⟩ = some (.int .i64 lt)) (by kernel_rfl) ⟨hM3.cells.2.1, (hM3.bel.cell (p := ⟨g2, o2 + t, none⟩) hg2).trans HC2.out⟩ (fun hSd => ?_)
                        generalize wr3.drew = u0 at *
                        refine wpAnyH_take (i := 0) (oi := _) (v := .pointer (some ⟨w.heap.size, 1, none⟩)) rfl (by kernel_rfl) (by kernel_rfl) (by kernel_rfl) (fun _ _ _ h => h) (Or.inl ⟨by rfl, ?_⟩) (by assumption) ?_
                        · intro u' hSu
                          (try simp only [List.getElem_toArray, List.getElem_cons_zero])
                          go_simp
                        (try simp only [List.getElem_toArray, List.getElem_cons_zero])
                        (try simp only [Act.put, List.setIfInBounds_toArray, List.set_cons_zero, List.set_cons_succ])
                        refine wpAnyH_take (i := 1) (oi := _) (v := .slice (some ⟨g2, o2, none⟩) L2.length c2) rfl (by kernel_rfl) (by kernel_rfl) (by kernel_rfl) (fun _ _ _ h => h) (Or.inl ⟨by rfl, ?_⟩) (by assumption) ?_
                        · intro u' hSu
                          (try simp only [List.getElem_toArray, List.getElem_cons_zero, List.getElem_cons_succ])
                          obtain ⟨s1, s2⟩ := hSu
                          go_simp
                        (try simp only [List.getElem_toArray, List.getElem_cons_zero, List.getElem_cons_succ])
                        (try simp only [Act.put, List.setIfInBounds_toArray, List.set_cons_zero, List.set_cons_succ])
                        refine wpAnyH_take (i := 2) (oi := _) (v := .int .i64 (L2.length : Nat)) rfl (by kernel_rfl) (by kernel_rfl) (by kernel_rfl) (fun _ _ _ h => h) (Or.inl ⟨by rfl, ?_⟩) (by assumption) ?_
                        · intro u' hSu
                          (try simp only [List.getElem_toArray, List.getElem_cons_zero, List.getElem_cons_succ])
                          go_simp
                        (try simp only [List.getElem_toArray, List.getElem_cons_zero, List.getElem_cons_succ])
                        (try simp only [Act.put, List.setIfInBounds_toArray, List.set_cons_zero, List.set_cons_succ])
                        refine wpAnyH_take (i := 3) (oi := _) (v := .bool true) rfl (by kernel_rfl) (by kernel_rfl) (by kernel_rfl) (fun _ _ _ h => h) (Or.inl ⟨by rfl, ?_⟩) (by assumption) ?_
                        · intro u' hSu
                          (try simp only [List.getElem_toArray, List.getElem_cons_zero, List.getElem_cons_succ])
                          go_simp
                          exact HL20.out
                        (try simp only [List.getElem_toArray, List.getElem_cons_zero, List.getElem_cons_succ])
                        (try simp only [Act.put, List.setIfInBounds_toArray, List.set_cons_zero, List.set_cons_succ])
                        refine wpAnyH_take (i := 4) (oi := _) (v := .bool true) rfl (by kernel_rfl) (by kernel_rfl) (by kernel_rfl) (fun _ _ _ h => h) (Or.inl ⟨by rfl, ?_⟩) (by assumption) ?_
                        · intro u' hSu
                          (try simp only [List.getElem_toArray, List.getElem_cons_zero, List.getElem_cons_succ])
                          go_simp
                        (try simp only [List.getElem_toArray, List.getElem_cons_zero, List.getElem_cons_succ])
                        (try simp only [Act.put, List.setIfInBounds_toArray, List.set_cons_zero, List.set_cons_succ])
                        refine wpAnyH_take (i := 5) (oi := _) (v := .pointer (some ⟨w.heap.size, 1, none⟩)) rfl (by kernel_rfl) (by kernel_rfl) (by kernel_rfl) (fun _ _ _ h => h) (Or.inl ⟨by rfl, ?_⟩) (by assumption) ?_
                        · intro u' hSu
                          (try simp only [List.getElem_toArray, List.getElem_cons_zero, List.getElem_cons_succ])
                          go_simp
                        (try simp only [List.getElem_toArray, List.getElem_cons_zero, List.getElem_cons_succ])
                        (try simp only [Act.put, List.setIfInBounds_toArray, List.set_cons_zero, List.set_cons_succ])
                        refine wpAnyH_take (i := 6) (oi := _) (v := .slice (some ⟨g2, o2, none⟩) L2.length c2) rfl (by kernel_rfl) (by kernel_rfl) (by kernel_rfl) (fun _ _ _ h => h) (Or.inl ⟨by rfl, ?_⟩) (by assumption) ?_
                        · intro u' hSu
                          (try simp only [List.getElem_toArray, List.getElem_cons_zero, List.getElem_cons_succ])
                          obtain ⟨s1, s2⟩ := hSu
                          go_simp
                        (try simp only [List.getElem_toArray, List.getElem_cons_zero, List.getElem_cons_succ])
                        (try simp only [Act.put, List.setIfInBounds_toArray, List.set_cons_zero, List.set_cons_succ])
                        refine wpAnyH_take (i := 7) (oi := _) (v := .int .i64 (e' : Nat)) rfl (by kernel_rfl) (by kernel_rfl) (by kernel_rfl) (fun _ _ _ h => h) (Or.inl ⟨by rfl, ?_⟩) (by assumption) ?_
                        · intro u' hSu
                          (try simp only [List.getElem_toArray, List.getElem_cons_zero, List.getElem_cons_succ])
                          go_simp
                        (try simp only [List.getElem_toArray, List.getElem_cons_zero, List.getElem_cons_succ])
                        (try simp only [Act.put, List.setIfInBounds_toArray, List.set_cons_zero, List.set_cons_succ])
                        refine wpAnyH_take (i := 8) (oi := _) (v := .pointer (some ⟨w.heap.size, 1, none⟩)) rfl (by kernel_rfl) (by kernel_rfl) (by kernel_rfl) (fun _ _ _ h => h) (Or.inl ⟨by rfl, ?_⟩) (by assumption) ?_
                        · intro u' hSu
                          (try simp only [List.getElem_toArray, List.getElem_cons_zero, List.getElem_cons_succ])
                          go_simp
                        (try simp only [List.getElem_toArray, List.getElem_cons_zero, List.getElem_cons_succ])
                        (try simp only [Act.put, List.setIfInBounds_toArray, List.set_cons_zero, List.set_cons_succ])
                        refine wpAnyH_take (i := 9) (oi := _) (v := .slice (some ⟨g2, o2, none⟩) L2.length c2) rfl (by kernel_rfl) (by kernel_rfl) (by kernel_rfl) (fun _ _ _ h => h) (Or.inl ⟨by rfl, ?_⟩) (by assumption) ?_
                        · intro u' hSu
                          (try simp only [List.getElem_toArray, List.getElem_cons_zero, List.getElem_cons_succ])
                          obtain ⟨s1, s2⟩ := hSu
                          go_simp
                        (try simp only [List.getElem_toArray, List.getElem_cons_zero, List.getElem_cons_succ])
                        (try simp only [Act.put, List.setIfInBounds_toArray, List.set_cons_zero, List.set_cons_succ])
                        refine wpAnyH_take (i := 10) (oi := _) (v := .int .i64 (L2.length : Nat)) rfl (by kernel_rfl) (by kernel_rfl) (by kernel_rfl) (fun _ _ _ h => h) (Or.inl ⟨by rfl, ?_⟩) (by assumption) ?_
                        · intro u' hSu
                          (try simp only [List.getElem_toArray, List.getElem_cons_zero, List.getElem_cons_succ])
                          go_simp
                        (try simp only [List.getElem_toArray, List.getElem_cons_zero, List.getElem_cons_succ])
                        (try simp only [Act.put, List.setIfInBounds_toArray, List.set_cons_zero, List.set_cons_succ])
                        refine wpAnyH_take (i := 11) (oi := _) (v := .int .i64 (t : Nat)) rfl (by kernel_rfl) (by kernel_rfl) (by kernel_rfl) (fun _ _ _ h => h) (Or.inl ⟨by rfl, ?_⟩) (by assumption) ?_
                        · intro u' hSu
                          (try simp only [List.getElem_toArray, List.getElem_cons_zero, List.getElem_cons_succ])
                          go_simp
                          rw [if_neg HNE.out, HTM.out]
                        (try simp only [List.getElem_toArray, List.getElem_cons_zero, List.getElem_cons_succ])
                        (try simp only [Act.put, List.setIfInBounds_toArray, List.set_cons_zero, List.set_cons_succ])
                        refine wpAnyH_take (i := 12) (oi := _) (v := .pointer (some ⟨g2, o2 + t, none⟩)) rfl (by kernel_rfl) (by kernel_rfl) (by kernel_rfl) (fun _ _ _ h => h) (Or.inl ⟨by rfl, ?_⟩) (by assumption) ?_
                        · intro u' hSu
                          (try simp only [List.getElem_toArray, List.getElem_cons_zero, List.getElem_cons_succ])
                          go_simp
                        (try simp only [List.getElem_toArray, List.getElem_cons_zero, List.getElem_cons_succ])
                        (try simp only [Act.put, List.setIfInBounds_toArray, List.set_cons_zero, List.set_cons_succ])
                        refine wpAnyH_take (i := 13) (oi := _) (v := .int .i64 lt) rfl (by kernel_rfl) (by kernel_rfl) (by kernel_rfl) (fun _ _ _ h => h) (Or.inl ⟨by rfl, ?_⟩) (by assumption) ?_
                        · intro u' hSu
                          (try simp only [List.getElem_toArray, List.getElem_cons_zero, List.getElem_cons_succ])
                          obtain ⟨s1, s2⟩ := hSu
                          go_simp
                        (try simp only [List.getElem_toArray, List.getElem_cons_zero, List.getElem_cons_succ])
                        (try simp only [Act.put, List.setIfInBounds_toArray, List.set_cons_zero, List.set_cons_succ])
                        refine wpAnyH_ready (rs := [14]) (by kernel_rfl) (by simp) (AllReadyH.cons rfl ?_ (AllReadyH.nil))
                        · intro K' hK'
                          (try simp only [List.getElem_toArray, List.getElem_cons_zero, List.getElem_cons_succ])
                          go_simp
                          refine (HPT.out _).mono ?_
                          rintro _ u1 ⟨rfl, hb⟩
                          replace hM3 := hM3.step hb
                          replace hBr := hBr.trans (hb.mono hBr.size)
                          refine hK'.out _ _ ⟨hM3.cells.2.1, (hM3.bel.cell (p := ⟨g2, o2 + t, none⟩) hg2).trans HC2.out⟩ (fun hSe => ?_)
                          clear hb
                          clear hK' K' hSd
                          have hSd := hSe
                          clear hSe
                          (try simp only [List.getElem_toArray, List.getElem_cons_zero, List.getElem_cons_succ])
                          (try simp only [Act.put, List.setIfInBounds_toArray, List.set_cons_zero, List.set_cons_succ])
                          refine wpAnyH_take (i := 15) (oi := _) (v := .bool b) rfl (by kernel_rfl) (by kernel_rfl) (by kernel_rfl) (fun _ _ _ h => h) (Or.inl ⟨by rfl, ?_⟩) (by assumption) ?_
                          · intro u' hSu
                            (try simp only [List.getElem_toArray, List.getElem_cons_zero, List.getElem_cons_succ])
                            go_simp
                          (try simp only [List.getElem_toArray, List.getElem_cons_zero, List.getElem_cons_succ])
                          (try simp only [Act.put, List.setIfInBounds_toArray, List.set_cons_zero, List.set_cons_succ])
                          refine wpAnyH_take (i := 16) (oi := _) (v := .bool b) rfl (by kernel_rfl) (by kernel_rfl) (by kernel_rfl) (fun _ _ _ h => h) (Or.inl ⟨by rfl, ?_⟩) (by assumption) ?_
                          · intro u' hSu
                            (try simp only [List.getElem_toArray, List.getElem_cons_zero, List.getElem_cons_succ])
                            go_simp
                          (try simp only [List.getElem_toArray, List.getElem_cons_zero, List.getElem_cons_succ])
                          (try simp only [Act.put, List.setIfInBounds_toArray, List.set_cons_zero, List.set_cons_succ])
                          refine wpAnyH_done (by kernel_rfl) ?_ _
                          clear hSd
                          go_wp2_with fail
                          go_meet
                          exact ⟨b, rfl, hBr⟩
                      · have hl2p : ¬ (0 : Int) < (L2.length : Int) := by omega
                        have hl2q : decide ((0 : Int) < (L2.length : Int)) = false := decide_eq_false hl2p
                        have hl2r : ¬ 0 < L2.length := hl20
                        clear hl20
                        replace hM3 := hM3.step (Below.refl _ _).drew
                        refine wp_region_held_drew (S := fun u => u.cell? ⟨w.heap.size, 1, none⟩ = some (.slice a2 L2.length c2)) (by kernel_rfl) hM3.cells.2.1 (fun hSd => ?_)
                        generalize wr3.drew = u0 at *
                        refine wpAnyH_take (i := 0) (oi := _) (v := .pointer (some ⟨w.heap.size, 1, none⟩)) rfl (by kernel_rfl) (by kernel_rfl) (by kernel_rfl) (fun _ _ _ h => h) (Or.inl ⟨by rfl, ?_⟩) (by assumption) ?_
                        · intro u' hSu
                          (try simp only [List.getElem_toArray, List.getElem_cons_zero])
                          go_simp
                        (try simp only [List.getElem_toArray, List.getElem_cons_zero])
                        (try simp only [Act.put, List.setIfInBounds_toArray, List.set_cons_zero, List.set_cons_succ])
                        refine wpAnyH_take (i := 1) (oi := _) (v := .slice a2 L2.length c2) rfl (by kernel_rfl) (by kernel_rfl) (by kernel_rfl) (fun _ _ _ h => h) (Or.inl ⟨by rfl, ?_⟩) (by assumption) ?_
                        · intro u' hSu
                          (try simp only [List.getElem_toArray, List.getElem_cons_zero, List.getElem_cons_succ])
                          go_simp
                        (try simp only [List.getElem_toArray, List.getElem_cons_zero, List.getElem_cons_succ])
                        (try simp only [Act.put, List.setIfInBounds_toArray, List.set_cons_zero, List.set_cons_succ])
                        refine wpAnyH_take (i := 2) (oi := _) (v := .int .i64 (L2.length : Nat)) rfl (by kernel_rfl) (by kernel_rfl) (by kernel_rfl) (fun _ _ _ h => h) (Or.inl ⟨by rfl, ?_⟩) (by assumption) ?_
                        · intro u' hSu
                          (try simp only [List.getElem_toArray, List.getElem_cons_zero, List.getElem_cons_succ])
                          go_simp
                        (try simp only [List.getElem_toArray, List.getElem_cons_zero, List.getElem_cons_succ])
                        (try simp only [Act.put, List.setIfInBounds_toArray, List.set_cons_zero, List.set_cons_succ])
                        refine wpAnyH_take (i := 3) (oi := _) (v := .bool false) rfl (by kernel_rfl) (by kernel_rfl) (by kernel_rfl) (fun _ _ _ h => h) (Or.inl ⟨by rfl, ?_⟩) (by assumption) ?_
                        · intro u' hSu
                          (try simp only [List.getElem_toArray, List.getElem_cons_zero, List.getElem_cons_succ])
                          go_simp
                        (try simp only [List.getElem_toArray, List.getElem_cons_zero, List.getElem_cons_succ])
                        (try simp only [Act.put, List.setIfInBounds_toArray, List.set_cons_zero, List.set_cons_succ])
                        refine wpAnyH_take (i := 4) (oi := _) (v := .bool false) rfl (by kernel_rfl) (by kernel_rfl) (by kernel_rfl) (fun _ _ _ h => h) (Or.inl ⟨by rfl, ?_⟩) (by assumption) ?_
                        · intro u' hSu
                          (try simp only [List.getElem_toArray, List.getElem_cons_zero, List.getElem_cons_succ])
                          go_simp
                        (try simp only [List.getElem_toArray, List.getElem_cons_zero, List.getElem_cons_succ])
                        (try simp only [Act.put, List.setIfInBounds_toArray, List.set_cons_zero, List.set_cons_succ])
                        refine wpAnyH_take (i := 5) (oi := _) (v := undef) rfl (by kernel_rfl) (by kernel_rfl) (by kernel_rfl) (fun _ _ _ h => h) (Or.inr ⟨by rfl, rfl⟩) (by assumption) ?_
                        (try simp only [List.getElem_toArray, List.getElem_cons_zero, List.getElem_cons_succ])
                        (try simp only [Act.put, List.setIfInBounds_toArray, List.set_cons_zero, List.set_cons_succ])
                        refine wpAnyH_take (i := 6) (oi := _) (v := undef) rfl (by kernel_rfl) (by kernel_rfl) (by kernel_rfl) (fun _ _ _ h => h) (Or.inr ⟨by rfl, rfl⟩) (by assumption) ?_
                        (try simp only [List.getElem_toArray, List.getElem_cons_zero, List.getElem_cons_succ])
                        (try simp only [Act.put, List.setIfInBounds_toArray, List.set_cons_zero, List.set_cons_succ])
                        refine wpAnyH_take (i := 7) (oi := _) (v := undef) rfl (by kernel_rfl) (by kernel_rfl) (by kernel_rfl) (fun _ _ _ h => h) (Or.inr ⟨by rfl, rfl⟩) (by assumption) ?_
                        (try simp only [List.getElem_toArray, List.getElem_cons_zero, List.getElem_cons_succ])
                        (try simp only [Act.put, List.setIfInBounds_toArray, List.set_cons_zero, List.set_cons_succ])
                        refine wpAnyH_take (i := 8) (oi := _) (v := undef) rfl (by kernel_rfl) (by kernel_rfl) (by kernel_rfl) (fun _ _ _ h => h) (Or.inr ⟨by rfl, rfl⟩) (by assumption) ?_
                        (try simp only [List.getElem_toArray, List.getElem_cons_zero, List.getElem_cons_succ])
                        (try simp only [Act.put, List.setIfInBounds_toArray, List.set_cons_zero, List.set_cons_succ])
                        refine wpAnyH_take (i := 9) (oi := _) (v := undef) rfl (by kernel_rfl) (by kernel_rfl) (by kernel_rfl) (fun _ _ _ h => h) (Or.inr ⟨by rfl, rfl⟩) (by assumption) ?_
                        (try simp only [List.getElem_toArray, List.getElem_cons_zero, List.getElem_cons_succ])
                        (try simp only [Act.put, List.setIfInBounds_toArray, List.set_cons_zero, List.set_cons_succ])
                        refine wpAnyH_take (i := 10) (oi := _) (v := undef) rfl (by kernel_rfl) (by kernel_rfl) (by kernel_rfl) (fun _ _ _ h => h) (Or.inr ⟨by rfl, rfl⟩) (by assumption) ?_
                        (try simp only [List.getElem_toArray, List.getElem_cons_zero, List.getElem_cons_succ])
                        (try simp only [Act.put, List.setIfInBounds_toArray, List.set_cons_zero, List.set_cons_succ])
                        refine wpAnyH_take (i := 11) (oi := _) (v := undef) rfl (by kernel_rfl) (by kernel_rfl) (by kernel_rfl) (fun _ _ _ h => h) (Or.inr ⟨by rfl, rfl⟩) (by assumption) ?_
                        (try simp only [List.getElem_toArray, List.getElem_cons_zero, List.getElem_cons_succ])
                        (try simp only [Act.put, List.setIfInBounds_toArray, List.set_cons_zero, List.set_cons_succ])
                        refine wpAnyH_take (i := 12) (oi := _) (v := undef) rfl (by kernel_rfl) (by kernel_rfl) (by kernel_rfl) (fun _ _ _ h => h) (Or.inr ⟨by rfl, rfl⟩) (by assumption) ?_
                        (try simp only [List.getElem_toArray, List.getElem_cons_zero, List.getElem_cons_succ])
                        (try simp only [Act.put, List.setIfInBounds_toArray, List.set_cons_zero, List.set_cons_succ])
                        refine wpAnyH_take (i := 13) (oi := _) (v := undef) rfl (by kernel_rfl) (by kernel_rfl) (by kernel_rfl) (fun _ _ _ h => h) (Or.inr ⟨by rfl, rfl⟩) (by assumption) ?_
                        (try simp only [List.getElem_toArray, List.getElem_cons_zero, List.getElem_cons_succ])
                        (try simp only [Act.put, List.setIfInBounds_toArray, List.set_cons_zero, List.set_cons_succ])
                        refine wpAnyH_ready (rs := [14]) (by kernel_rfl) (by simp) (AllReadyH.cons rfl ?_ (AllReadyH.nil))
                        · intro K' hK'
                          (try simp only [List.getElem_toArray, List.getElem_cons_zero, List.getElem_cons_succ])
                          go_simp
                          refine hK'.out _ _ hSd (fun hSe => ?_)
                          clear hK' K' hSd
                          have hSd := hSe
                          clear hSe
                          (try simp only [List.getElem_toArray, List.getElem_cons_zero, List.getElem_cons_succ])
                          (try simp only [Act.put, List.setIfInBounds_toArray, List.set_cons_zero, List.set_cons_succ])
                          refine wpAnyH_take (i := 15) (oi := _) (v := undef) rfl (by kernel_rfl) (by kernel_rfl) (by kernel_rfl) (fun _ _ _ h => h) (Or.inr ⟨by rfl, rfl⟩) (by assumption) ?_
                          (try simp only [List.getElem_toArray, List.getElem_cons_zero, List.getElem_cons_succ])
                          (try simp only [Act.put, List.setIfInBounds_toArray, List.set_cons_zero, List.set_cons_succ])
                          refine wpAnyH_take (i := 16) (oi := _) (v := .bool false) rfl (by kernel_rfl) (by kernel_rfl) (by kernel_rfl) (fun _ _ _ h => h) (Or.inl ⟨by rfl, ?_⟩) (by assumption) ?_
                          · intro u' hSu
                            (try simp only [List.getElem_toArray, List.getElem_cons_zero, List.getElem_cons_succ])
                            go_simp
                          (try simp only [List.getElem_toArray, List.getElem_cons_zero, List.getElem_cons_succ])
                          (try simp only [Act.put, List.setIfInBounds_toArray, List.set_cons_zero, List.set_cons_succ])
                          refine wpAnyH_done (by kernel_rfl) ?_ _
                          clear hSd
                          go_wp2_with fail
                          go_meet
                          exact ⟨false, rfl, hBr⟩
                    case rest =>
                    obtain ⟨b, rfl, HBx⟩ := hcut
                    have HPL2 := hid (HPL.out.below HBx.out)
                    have HBB2 := hid (HBB.out.trans (HBx.out.mono HBB.out.size))
                    clear HPL HBB hM3 hBr
                    cases b
                    case false =>
                      clear HBx
                      go_wp2
                      go_roundw
                      case rel => exact ⟨u + 1, e' + 1, pl, by omega, by go_num, by go_num, by omega, HPP.out.skip, HPL2, HBB2⟩
                      case measure => simp [intOf]; omega
                    case true =>
                      clear HBx
                      have HXA := hid (HPL2.out.below ((Below.refl _ wc).alloc (Nat.le_refl _) (.cells #[.int .i64 (u : Int)] 3)))
                      have HBA := hid (HBB2.out.alloc HBB2.out.size (.cells #[.int .i64 (u : Int)] 3))
                      have HIA := hid (one_int wc (u : Int))
                      have hbs : wb.heap.size ≤ (wc.alloc (.cells #[.int .i64 (u : Int)] 3)).heap.size := HBA.out.size
                      have HPS := hid (HPP.out.snoc hul hl3 hrk)
                      clear HPL2 HBB2
                      go_wp2_with (at_builtin; refine wpList_append_ints rfl _ _ rfl wb.heap.size _ pl [(u : Int)] rfl HXA.out (some ⟨wc.heap.size, 0, none⟩) 1 rfl HIA.out (fun e => by cases e) (by simp; omega) hbs ?_; intro v' w3 hr3 hg3; have HB3 := hid (HBA.out.grown hg3 hbs (fun k e => owns_from HXA.out k e)))
                      go_roundw
                      case rel => exact ⟨u + 1, e' + 1, pl ++ [(u : Int)], by omega, by go_num, by go_num, by omega, HPS, hr3, HB3⟩
                      case measure => simp [intOf]; omega
            · obtain rfl : n = u := by omega
              obtain ⟨dp, cp, hpe, -⟩ := owns_slice HPL.out
              subst hpe
              have hM3 := HMS.out.step HBB.out
              have hS3 := HS.out.below HBB.out
              have hP3 : RwI wr w.heap.size (.slice dp pl.length cp) pl := owns_lower HPL.out HMS.out.bel.size
              obtain ⟨dy, cy, hye, -⟩ := owns_slice hM3.ls.1
              subst hye
              have hbA : Below wr.heap.size wr (wr.alloc (.cells #[.slice dp pl.length cp] 22)) := (Below.refl _ wr).alloc (Nat.le_refl _) _
              have hMA := hM3.step hbA
              have hSA := hS3.below hbA
              have hPA := hP3.below hbA
              have hyc := hMA.box.cells.2.1
              have hyc0 := hM3.box.cells.2.1
              have HCA := hid ((Boxed.new wr 22 (.slice dp pl.length cp)).cell)
              have hbs : w.heap.size ≤ (wr.alloc (.cells #[.slice dp pl.length cp] 22)).heap.size := hMA.bel.size
              have HMA := hid hMA
              have HSA := hid hSA
              have HPA := hid hPA
              clear hM3 hS3 hP3 hMA hSA hPA HMS HS HPL HBB hyc hbA
              go_wp2_with (at_builtin; refine wpList_append_ls rfl _ _ rfl w.heap.size _ Ls (.slice dp pl.length cp) ⟨_, _, _, rfl⟩ rfl HMA.out.ls.1 wr.heap.size rfl HCA.out (by have := HLK.out.len; omega) hbs ?_; intro v4 W4 hr4 hg4; obtain ⟨d4, cd4, rfl, -⟩ := owns_slice hr4; have hpv := HMA.out.pushL hr4 hg4 HPA.out; have hm1 := hpv.1.cells.2.1; have hmf : W4.frozen? ⟨w.heap.size + 2, 1, none⟩ = false := frozen_of_row _ _ 1 _ _ hpv.1; have HPV := hid hpv.2; have HKI := hid (push_keep (j := 1) (v' := .slice d4 (Ls.length + 1) cd4) HMA.out.ls.1 hg4 hpv.1 3 (by decide) (by decide)); clear hpv hr4 hg4)
              clear hm1 hmf hyc0
              have HS5 : Hid (RwI (W4.setCell ⟨w.heap.size + 2, 1, none⟩ (.slice d4 (Ls.length + 1) cd4)) w.heap.size (.slice d10 n cd10) (iL S)) := owns_keep HSA.out HKI.out
              have HP5' : Hid (RwI (W4.setCell ⟨w.heap.size + 2, 1, none⟩ (.slice d4 (Ls.length + 1) cd4)) w.heap.size (.slice dp pl.length cp) pl) := owns_keep HPA.out HKI.out
              generalize (W4.setCell ⟨w.heap.size + 2, 1, none⟩ (.slice d4 (Ls.length + 1) cd4)) = W5 at *
              clear HMA HSA HPA HKI HCA hbs
              have hSn2 : (iL S).length = n := by rw [iL_length]; exact HSK.out.len
              have HCT : Hid (Calls Tryz.prog 15 #[.slice d10 n cd10, .slice dp pl.length cp] W5 fun e w' => e = .returned (.tuple #[.int .i64 (cnt S (toN pl) : Nat), .int .i64 0]) ∧ Below W5.heap.size W5 w') := by
                have h5 := HS5.out
                rw [← hSn2] at h5
                have h := rCount_in d10 dp cd10 cp (iL S) pl W5 (RwI.intS h5) (RwI.intS HP5'.out) (HSK.out.fine hn1 (by omega)) (by rw [hSn2]; exact HPP.out.ok.up)
                rwa [hSn2, toN_iL] at h
              obtain ⟨hc1', hc27⟩ := cnt_27 HSK.out (l := toN pl) (by rw [toN_length]; exact HPP.out.ok.few)
              obtain ⟨hsv1, hsv3⟩ := HSK.out.sz v
              have hsvl : v < S.length := by rw [HSK.out.len]; exact hlt
              have hsve : S[v]'hsvl = sz S v := by rw [Go.Proofs.YtojidhnkpeiimaaGreatDoor.sz, List.getElem?_eq_getElem hsvl]; rfl
              have HPO := hid HPP.out.ok
              generalize hcq : cnt S (toN pl) = cq0 at *
              have HCQ := hid hcq
              clear hcq
              refine HCT.out.mono ?_
              rintro e8 wb2 ⟨rfl, hb8⟩
              have HM6 := hid (HPV.out.step hb8)
              have hS6 := HS5.out.below hb8
              rw [← hSn2] at hS6
              obtain ⟨g10, o10, e10, hg10, cs10⟩ := (RwI.intS hS6) v (by rw [hSn2]; exact hlt)
              subst e10
              have ee : (iL S)[v]'(by rw [hSn2]; exact hlt) = ((S[v]'hsvl : Nat) : Int) := by simp [iL]
              rw [ee, hsve] at cs10
              rw [hSn2] at hS6
              have HC10 := hid cs10
              have HS6 := hid hS6
              clear hb8 HPV HS5 HP5' HCT cs10 hS6 ee hsve
              generalize hsvq : sz S v = sv at *
              have HSVQ := hid hsvq
              clear hsvq
              go_wp2_with fail
              go_loopw [9, 16, 17] (fun av rv kv wr4 => ∃ (k at2 : Nat) (r : List Fr), k ≤ cq0 ∧ kv = .int .i64 k ∧ av = .int .i64 (at2 : Nat) ∧ at2 ≤ at_ + 3 * k ∧ Hid (RP sv k r) ∧ Hid (RwF wr4 wb2.heap.size rv r) ∧ Hid (Below wb2.heap.size wb2 wr4)) (fun _ _ kv _ => cq0 - (intOf kv).toNat)
              case atStart => exact ⟨0, at_, [], Nat.zero_le _, rfl, rfl, Nat.le_refl _, RP.nil sv, RwF.empty _ _, Below.refl _ _⟩
              case round =>
                obtain ⟨k, at2, r, hk, rfl, rfl, hat2, HRP, HR4, HB4⟩ := hrel
                obtain ⟨d16, cd16, h16e, -⟩ := owns_slice HR4.out
                subst h16e
                generalize wr = wr4 at *
                by_cases hkc : k < cq0
                · have hkc2 : k < 27 := by omega
                  have hM4 := HM6.out.step HB4.out
                  have hcs4 := (HB4.out.cell (p := ⟨g10, o10 + v, none⟩) hg10).trans HC10.out
                  have hcs4w := hcs4
                  have hg104 : g10 < wr4.heap.size := Nat.lt_of_lt_of_le hg10 HB4.out.size
                  have hat9 : at2 ≤ 100000 := by omega
                  go_upto_region 35 with fail
                  replace hM4 := hM4.step (Below.refl _ _).drew
                  have hBd : Below wr4.heap.size wr4 wr4.drew := (Below.refl _ _).drew
                  refine wp_region_held_drew (S := fun u => u.cell? ⟨w.heap.size, 2, none⟩ = some (.slice a3 L3.length c3) ∧ u.cell? ⟨g10, o10 + v, none⟩ = some (.int .i64 (sv : Nat))) (by kernel_rfl) ⟨hM4.cells.2.2.1, hcs4⟩ (fun hSd => ?_)
                  generalize wr4.drew = u0 at *
                  refine wpAnyH_take (i := 0) (oi := _) (v := .pointer (some ⟨w.heap.size, 2, none⟩)) rfl (by kernel_rfl) (by kernel_rfl) (by kernel_rfl) (fun _ _ _ h => h) (Or.inl ⟨by rfl, ?_⟩) (by assumption) ?_
                  · intro u' hSu
                    (try simp only [List.getElem_toArray, List.getElem_cons_zero])
                    go_simp
                  (try simp only [List.getElem_toArray, List.getElem_cons_zero])
                  (try simp only [Act.put, List.setIfInBounds_toArray, List.set_cons_zero, List.set_cons_succ])
                  refine wpAnyH_take (i := 1) (oi := _) (v := .slice a3 L3.length c3) rfl (by kernel_rfl) (by kernel_rfl) (by kernel_rfl) (fun _ _ _ h => h) (Or.inl ⟨by rfl, ?_⟩) (by assumption) ?_
                  · intro u' hSu
                    (try simp only [List.getElem_toArray, List.getElem_cons_zero, List.getElem_cons_succ])
                    obtain ⟨s1, s2⟩ := hSu
                    go_simp
                  (try simp only [List.getElem_toArray, List.getElem_cons_zero, List.getElem_cons_succ])
                  (try simp only [Act.put, List.setIfInBounds_toArray, List.set_cons_zero, List.set_cons_succ])
                  refine wpAnyH_take (i := 2) (oi := _) (v := .int .i64 (at2 : Nat)) rfl (by kernel_rfl) (by kernel_rfl) (by kernel_rfl) (fun _ _ _ h => h) (Or.inl ⟨by rfl, ?_⟩) (by assumption) ?_
                  · intro u' hSu
                    (try simp only [List.getElem_toArray, List.getElem_cons_zero, List.getElem_cons_succ])
                    go_simp
                  (try simp only [List.getElem_toArray, List.getElem_cons_zero, List.getElem_cons_succ])
                  (try simp only [Act.put, List.setIfInBounds_toArray, List.set_cons_zero, List.set_cons_succ])
                  refine wpAnyH_take (i := 3) (oi := _) (v := .slice (some ⟨g10, o10, none⟩) n cd10) rfl (by kernel_rfl) (by kernel_rfl) (by kernel_rfl) (fun _ _ _ h => h) (Or.inl ⟨by rfl, ?_⟩) (by assumption) ?_
                  · intro u' hSu
                    (try simp only [List.getElem_toArray, List.getElem_cons_zero, List.getElem_cons_succ])
                    go_simp
                  (try simp only [List.getElem_toArray, List.getElem_cons_zero, List.getElem_cons_succ])
                  (try simp only [Act.put, List.setIfInBounds_toArray, List.set_cons_zero, List.set_cons_succ])
                  refine wpAnyH_take (i := 4) (oi := _) (v := .int .i64 (v : Nat)) rfl (by kernel_rfl) (by kernel_rfl) (by kernel_rfl) (fun _ _ _ h => h) (Or.inl ⟨by rfl, ?_⟩) (by assumption) ?_
                  · intro u' hSu
                    (try simp only [List.getElem_toArray, List.getElem_cons_zero, List.getElem_cons_succ])
                    go_simp
                  (try simp only [List.getElem_toArray, List.getElem_cons_zero, List.getElem_cons_succ])
                  (try simp only [Act.put, List.setIfInBounds_toArray, List.set_cons_zero, List.set_cons_succ])
                  refine wpAnyH_take (i := 5) (oi := _) (v := .pointer (some ⟨g10, o10 + v, none⟩)) rfl (by kernel_rfl) (by kernel_rfl) (by kernel_rfl) (fun _ _ _ h => h) (Or.inl ⟨by rfl, ?_⟩) (by assumption) ?_
                  · intro u' hSu
                    (try simp only [List.getElem_toArray, List.getElem_cons_zero, List.getElem_cons_succ])
                    go_simp
                  (try simp only [List.getElem_toArray, List.getElem_cons_zero, List.getElem_cons_succ])
                  (try simp only [Act.put, List.setIfInBounds_toArray, List.set_cons_zero, List.set_cons_succ])
                  refine wpAnyH_take (i := 6) (oi := _) (v := .int .i64 (sv : Nat)) rfl (by kernel_rfl) (by kernel_rfl) (by kernel_rfl) (fun _ _ _ h => h) (Or.inl ⟨by rfl, ?_⟩) (by assumption) ?_
                  · intro u' hSu
                    (try simp only [List.getElem_toArray, List.getElem_cons_zero, List.getElem_cons_succ])
                    obtain ⟨s1, s2⟩ := hSu
                    go_simp
                  (try simp only [List.getElem_toArray, List.getElem_cons_zero, List.getElem_cons_succ])
                  (try simp only [Act.put, List.setIfInBounds_toArray, List.set_cons_zero, List.set_cons_succ])
                  refine wpAnyH_ready (rs := [7]) (by kernel_rfl) (by simp) (AllReadyH.cons rfl ?_ (AllReadyH.nil))
                  · intro K' hK'
                    (try simp only [List.getElem_toArray, List.getElem_cons_zero, List.getElem_cons_succ])
                    go_simp
                    refine (HROW.out at2 (by omega) sv hsv1 hsv3 _ (HI3.out.below hM4.bel)).mono ?_
                    rintro e9 u1 ⟨x18, Ls3, rfl, hrw, hwt, hsum, hb⟩
                    have hb04 := hBd.trans (hb.mono hBd.size)
                    obtain ⟨d18, cd18, rfl, hf18⟩ := hrw.fr
                    have hlen18 : (rawF Ls3).length = sv := by rw [rawF_length]; exact hwt.len
                    rw [hlen18]
                    obtain ⟨g18, o18, e18, -, -⟩ := hf18 0 (by omega)
                    subst e18
                    have HF18 := hid hf18
                    have HRB := hid (rawF_row hsum)
                    have HSM3 := hid (rawF_small hwt.six (by rw [hwt.len]; exact hsv3) hsum)
                    have HL18 := hid hlen18
                    replace hM4 := hM4.step hb
                    refine hK'.out _ _ ⟨hM4.cells.2.2.1, (hb04.cell (p := ⟨g10, o10 + v, none⟩) hg104).trans hcs4w⟩ (fun hSe => ?_)
                    clear hb hrw hwt hsum hf18
                    clear hK' K' hSd
                    have hSd := hSe
                    clear hSe
                    (try simp only [List.getElem_toArray, List.getElem_cons_zero, List.getElem_cons_succ])
                    (try simp only [Act.put, List.setIfInBounds_toArray, List.set_cons_zero, List.set_cons_succ])
                    refine wpAnyH_take (i := 8) (oi := _) (v := .slice (some ⟨g18, o18, none⟩) sv cd18) rfl (by kernel_rfl) (by kernel_rfl) (by kernel_rfl) (fun _ _ _ h => h) (Or.inl ⟨by rfl, ?_⟩) (by assumption) ?_
                    · intro u' hSu
                      (try simp only [List.getElem_toArray, List.getElem_cons_zero, List.getElem_cons_succ])
                      go_simp
                    (try simp only [List.getElem_toArray, List.getElem_cons_zero, List.getElem_cons_succ])
                    (try simp only [Act.put, List.setIfInBounds_toArray, List.set_cons_zero, List.set_cons_succ])
                    refine wpAnyH_done (by kernel_rfl) ?_ _
                    clear hSd
                    have HY1 := hid (HR4.out.below hb04)
                    have HB1 := hid (HB4.out.trans (hb04.mono HB4.out.size))
                    have hbs : wb2.heap.size ≤ u1.heap.size := HB1.out.size
                    have hrl := HRP.out.len
                    have hks : k * sv ≤ 81 := Nat.le_trans (Nat.mul_le_mul (Nat.le_of_lt hkc2) hsv3) (by omega)
                    have hrl2 : r.length ≤ 81 := by omega
                    clear hrl
                    go_wp2_with (at_builtin; refine wpList_append_frs rfl _ _ rfl wb2.heap.size _ r (rawF Ls3) rfl HY1.out g18 o18 cd18 (by rw [HL18.out]; rfl) HF18.out (by rw [HL18.out]; omega) hbs ?_; intro v9 u2 hr9 hg9; have hB9 := HB1.out.grown hg9 hbs (fun k e => owns_from HY1.out k e); have hcs9 := (hB9.cell (p := ⟨g10, o10 + v, none⟩) hg10).trans HC10.out; have HB9 := hid hB9; clear hB9)
                    go_roundw
                    case rel => exact ⟨k + 1, at2 + sv, r ++ rawF Ls3, by omega, by go_num, by go_num, by omega, HRP.out.snoc HL18.out HRB.out HSM3.out, hr9, HB9⟩
                    case measure => simp [intOf]; omega
                · obtain rfl : cq0 = k := by omega
                  have hM4 := HM6.out.step HB4.out
                  have hS4 := HS6.out.below HB4.out
                  have hR4 : RwF wr4 w.heap.size (.slice d16 r.length cd16) r := owns_lower HR4.out HM6.out.bel.size
                  obtain ⟨dz, cz, hze, -⟩ := owns_slice hM4.rs.1
                  subst hze
                  have hbA : Below wr4.heap.size wr4 (wr4.alloc (.cells #[.slice d16 r.length cd16] 51)) := (Below.refl _ wr4).alloc (Nat.le_refl _) _
                  have HMA := hid (hM4.step hbA)
                  have HSA := hid (hS4.below hbA)
                  have HRA := hid (hR4.below hbA)
                  have hzc0 := hM4.box.cells.2.2
                  have HCA := hid ((Boxed.new wr4 51 (.slice d16 r.length cd16)).cell)
                  have hbs : w.heap.size ≤ (wr4.alloc (.cells #[.slice d16 r.length cd16] 51)).heap.size := HMA.out.bel.size
                  have HRO : Hid (RowOK S v pl r) := ⟨by rw [HCQ.out, HSVQ.out]; exact HRP.out.len, fun i hi => by rw [HSVQ.out]; exact HRP.out.rows i (by rw [← HCQ.out]; exact hi), HRP.out.small⟩
                  clear hM4 hS4 hR4 hbA HR4 HB4
                  go_wp2_with (at_builtin; refine wpList_append_rs rfl _ _ rfl w.heap.size _ Rs (.slice d16 r.length cd16) ⟨_, _, _, rfl⟩ rfl HMA.out.rs.1 wr4.heap.size rfl HCA.out (by have := HLK.out.lenR; omega) hbs ?_; intro v5 W7 hr7 hg7; obtain ⟨d7, cd7, rfl, -⟩ := owns_slice hr7; have hpv := HMA.out.pushR hr7 hg7 HRA.out; have hm2 := hpv.1.cells.2.2; have hmf2 : W7.frozen? ⟨w.heap.size + 2, 2, none⟩ = false := frozen_of_row _ _ 2 _ _ hpv.1; have HPV2 := hid hpv.2; have HKI2 := hid (push_keep (j := 2) (v' := .slice d7 (Rs.length + 1) cd7) HMA.out.rs.1 hg7 hpv.1 3 (by decide) (by decide)); clear hpv hr7 hg7)
                  go_roundw
                  case rel => exact ⟨v + 1, e', at2, _, _, _, _, by omega, by go_num, rfl, rfl, by omega, by omega, HLK.out.snoc HPO.out HRO.out, HPV2, owns_keep HSA.out HKI2.out⟩
                  case measure => simp [intOf]; omega
        · obtain rfl : n = v := by omega
          obtain ⟨dx, cx', hxe, -⟩ := owns_slice HMS.out.vs.1
          subst hxe
          obtain ⟨dy, cy, hye, -⟩ := owns_slice HMS.out.ls.1
          subst hye
          obtain ⟨dz, cz, hze, -⟩ := owns_slice HMS.out.rs.1
          subst hze
          obtain ⟨e0, e1, e2⟩ := HMS.out.box.cells
          obtain ⟨q0, q1, q2⟩ := HMS.out.res.cells
          have f0 : wr.frozen? ⟨w.heap.size + 1, 0, none⟩ = false := frozen_of_row _ _ 0 _ _ HMS.out.res
          have f1 : wr.frozen? ⟨w.heap.size + 1, 1, none⟩ = false := frozen_of_row _ _ 1 _ _ HMS.out.res
          have f2 : wr.frozen? ⟨w.heap.size + 1, 2, none⟩ = false := frozen_of_row _ _ 2 _ _ HMS.out.res
          obtain ⟨o1, o2, o3, o4, o5⟩ := HMS.out.out3
          have HO1 := hid o1
          have HO2 := hid o2
          have HO3 := hid o3
          have HO4 := hid o4
          have HO5 := hid o5
          clear o1 o2 o3 o4 o5
          go_wp2
          refine bodyPost_ret (results_cell_row rfl _ _ (w.heap.size + 1) _ _ _ _ rfl HO1.out Tryz.underlying29 rfl (by kernel_rfl)) rfl ?_
          exact ⟨bk, n, _, _, _, Vs, Ls, Rs, rfl, ⟨hn1, hn6⟩, HVK.out, by rw [HSQ.out]; exact HLK.out, HO2.out, HO3.out, HO4.out, HO5.out⟩
end Go.Proofs.YtojidhnkpeiimaaGreatDoor
