/- Nets: all, Joint of package net (of a contract of Check). -/
import Derived.Test.YtncccbdledcibaaGreatDoorJntAToSumN
namespace Go.Proofs.YtncccbdledcibaaGreatDoor
open Go.RowKit Go.Shelf

theorem range_part (n i : Nat) (h : i < n) : (List.range n)[i]? = some i := by rw [List.getElem?_range h]
set_option maxRecDepth 100000 in
set_option maxHeartbeats 1000000 in
theorem nAll_any (a b c : Option Addr) (ca cb cc n m : Nat) (V : List Vr) (w : World) (hV : V.length ≤ 8) :
    Calls Tryz.prog 35 #[.agg #[.slice a V.length ca, .slice b n cb, .slice c m cc]] w fun e w' => ∃ G, e = .returned (.slice (some ⟨G, 0, none⟩) V.length V.length) ∧ RowI w' G (List.range V.length) ∧ Below w.heap.size w w' := by
  obtain ⟨i0, hi0, hz0, hz1, hz2⟩ := info_parts Tryz.infoInt
  have hsl : (List.range V.length).length = V.length := List.length_range
  have HPS : Hid (∀ i, i < V.length → (partD (List.range V.length) i).set i i = partD (List.range V.length) (i + 1)) := fun i hi => by
    have h1 : i < (List.range V.length).length := by rw [hsl]; exact hi
    have h2 := partD_set (List.range V.length) h1
    rwa [List.getElem_range] at h2
  generalize List.range V.length = ds at *
  have hN := NBox.at (w := w) rfl (.slice a V.length ca) (.slice b n cb) (.slice c m cc)
  have hB0 := (Below.refl _ w).alloc (Nat.le_refl _) (NC (.slice a V.length ca) (.slice b n cb) (.slice c m cc))
  obtain ⟨c0, -, -⟩ := hN.cells
  go_enter Tryz.func35, Tryz.ntmps35
  go_upto_region 1 with fail
  generalize (w.alloc (NC (.slice a V.length ca) (.slice b n cb) (.slice c m cc))) = w1 at *
  go_wp2_with (first
    | (at_make; refine wpList_make_full _ rfl _ _ 27 rfl w1.heap.size 3 i0 (.int .i64 0) 1 Tryz.underlying27 hi0 hz0 hz1 .i64 .i64 _ _ V.length rfl rfl (by go_num) (by go_num) (by rw [hz2]; omega) (by unfold maxLen; omega) (Nat.le_refl _) ?_; intro w2 hown2 hgrow2))
  have hb2 := block_of_own hown2
  rw [made_ints] at hb2
  have hB2 : Below w1.heap.size w1 w2 := (Below.refl _ w1).grown hgrow2 (Nat.le_refl _) (fun k e => by cases e)
  have HI : Hid (RowI w2 w1.heap.size (List.replicate V.length 0)) := hb2
  have HB2 : Hid (Below w.heap.size w w2) := hB0.trans (hB2.mono hB0.size)
  have hG := hB0.size
  clear hown2 hgrow2 hb2 hB2 c0
  go_wp2_with fail
  go_loopw [11] (fun iv wr => ∃ i : Nat, i ≤ V.length ∧ iv = .int .i64 i ∧ Hid (RowI wr w1.heap.size (partD ds i)) ∧ Hid (Below w.heap.size w wr)) (fun iv _ => V.length - (intOf iv).toNat)
  case atStart => exact ⟨0, Nat.zero_le _, rfl, by rw [partD_zero, hsl]; exact HI, HB2⟩
  case round =>
    obtain ⟨i, hi, rfl, HR, HB⟩ := hrel
    clear HI HB2
    by_cases hlt : i < V.length
    · have k0 := HR.out.cell i (by rw [partD_length _ (by omega)]; omega)
      have f0 := HR.out.fz i
      have hS := HR.out.set i i
      rw [HPS.out i hlt] at hS
      have HS := hid hS
      have HBS := hid (HB.out.setCell (p := ⟨w1.heap.size, i, none⟩) hG (.int .i64 (i : Nat)))
      generalize (partD ds i)[i]'(by rw [partD_length _ (by omega)]; omega) = z at *
      clear hS
      go_wp2
      go_roundw
      case rel => exact ⟨i + 1, by omega, by go_num, HS, HBS⟩
      case measure => simp [intOf]; omega
    · obtain rfl : i = V.length := by omega
      have hfin := HR.out
      rw [← hsl, partD_all] at hfin
      have HFI := hid hfin
      clear hfin
      go_wp2
      go_ret
      exact ⟨w1.heap.size, rfl, HFI.out, HB.out⟩

set_option maxRecDepth 100000 in
set_option maxHeartbeats 2000000 in
theorem nJoint_any (a b c d : Option Addr) (ca cb cc cd : Nat) (V : List Vr) (L : List (List Int)) (R : List (List Fr)) (at_ : List Int) (w : World) (h : NetI w a b c V L R) (hs : NSm V L R) (hw : ∀ l ∈ R, fw l ≤ 4200) (hA : IntS w d at_) (hAl : at_.length ≤ 5000) (hCK : ∀ U : World, NetI U a b c V L R → Calls Tryz.prog 10 #[.agg #[.slice a V.length ca, .slice b L.length cb, .slice c R.length cc]] U fun e w' => e = .returned (.int .i64 (netE V L R)) ∧ Below U.heap.size U w') :
    Calls Tryz.prog 8 #[.agg #[.slice a V.length ca, .slice b L.length cb, .slice c R.length cc], .slice d at_.length cd] w fun e w' => e = .returned (.tuple #[frV (jF V L R at_), .int .i64 (jE V L R at_)]) ∧ Below w.heap.size w w' := by
  have HI := hid h
  have HA := hid hA
  have hV5 := hs.vars.1
  have HNC := hid hCK
  have HO1 := hid (fun U : World => fOf_q (k := 1) (w := U) 1 1 rfl (by decide) (by rfl))
  have HE1 : Hid (netE V L R ≠ 0 → jE V L R at_ = netE V L R ∧ jF V L R at_ = (false, ⟨#[]⟩, ⟨#[]⟩)) := fun h => by
    have e : jE V L R at_ = netE V L R := if_neg h
    exact ⟨e, by rw [jF, e, if_neg h]⟩
  have HE2 : Hid (netE V L R = 0 → (indexA (iL (sizesN V)) (allI V.length) at_).2 ≠ 0 → jE V L R at_ = (indexA (iL (sizesN V)) (allI V.length) at_).2 ∧ jF V L R at_ = (false, ⟨#[]⟩, ⟨#[]⟩)) := fun h h' => by
    have e : jE V L R at_ = (indexA (iL (sizesN V)) (allI V.length) at_).2 := if_pos h
    exact ⟨e, by rw [jF, e, if_neg h']⟩
  have HE3 : Hid (netE V L R = 0 → (indexA (iL (sizesN V)) (allI V.length) at_).2 = 0 → jE V L R at_ = 0 ∧ jF V L R at_ = qF (prodV V L R (fun u => (toN at_).getD u 0) V.length)) := fun h h' => by
    have e : jE V L R at_ = 0 := (if_pos h).trans h'
    exact ⟨e, by rw [jF, if_pos e]⟩
  have HOK : Hid (netE V L R = 0 → NOK V L R) := netE_ok
  have HJ : Hid (netE V L R = 0 → (indexA (iL (sizesN V)) (allI V.length) at_).2 = 0 → ∀ (v : Nat) (U : World), v < V.length → NetI U a b c V L R → IntS U d at_ → Calls Tryz.prog 29 #[.agg #[.slice a V.length ca, .slice b L.length cb, .slice c R.length cc], .int .i64 (v : Nat), .slice d at_.length cd] U fun e w' => e = .returned (frV (likF V L R (fun u => (toN at_).getD u 0) v)) ∧ Below U.heap.size U w') := fun h1 h2 v U hv h3 h4 => by
    have hok := netE_ok h1
    obtain ⟨e1, e2, e3, e4⟩ := at_fit hok.fine h2
    have hL : v < L.length := by rw [hok.len]; exact hv
    have hR : v < R.length := by rw [hok.lenR]; exact hv
    rw [likF_eq hL hR]
    have := likely_any a b c d ca cb cc cd v V L R (toN at_) U h3 (by rw [e2]; exact h4) (by rw [toN_length]; exact e1) hok.n8 hv hL hR hok.fine (hok.up v hL) (hok.rows v hL hR) _ e3 e4
    rwa [toN_length] at this
  have HPSS : Hid (netE V L R = 0 → (indexA (iL (sizesN V)) (allI V.length) at_).2 = 0 → ∀ v, v < V.length → (likF V L R (fun u => (toN at_).getD u 0) v).2.1.size + (likF V L R (fun u => (toN at_).getD u 0) v).2.2.size ≤ 4200 ∧ (nu (prodV V L R (fun u => (toN at_).getD u 0) v)).size + (de (prodV V L R (fun u => (toN at_).getD u 0) v)).size ≤ 50000) := fun h1 h2 v hv => by
    have hok := netE_ok h1
    obtain ⟨e1, e2, e3, e4⟩ := at_fit hok.fine h2
    refine ⟨likF_size hok e3 hw hv, ?_⟩
    have h3 := prodV_size hok e3 hw v (by omega)
    have h4 : v * 4201 ≤ 8 * 4201 := Nat.mul_le_mul_right _ (by have := hok.n8; omega)
    rw [own_size]
    omega
  have HPX' : Hid (∀ k, prodV V L R (fun u => (toN at_).getD u 0) (k + 1) = prodV V L R (fun u => (toN at_).getD u 0) k * frQ (likF V L R (fun u => (toN at_).getD u 0) k)) := fun k => rfl
  have HP0 : Hid (prodV V L R (fun u => (toN at_).getD u 0) 0 = 1) := rfl
  have hsl : (iL (sizesN V)).length = V.length := by rw [iL_length, sizesN_length]
  have hal := allI_length V.length
  have HIX : Hid (∀ (U : World) (x y : Option Addr) (cx cy : Nat), IntS U x (iL (sizesN V)) → IntS U y (allI V.length) → IntS U d at_ → Calls Tryz.prog 34 #[.slice x V.length cx, .slice y V.length cy, .slice d at_.length cd] U fun e w' => e = .returned (.tuple #[.int .i64 (indexA (iL (sizesN V)) (allI V.length) at_).1, .int .i64 (indexA (iL (sizesN V)) (allI V.length) at_).2]) ∧ Below U.heap.size U w') := fun U x y cx cy h1 h2 h3 => by
    have := tIndex_any x y d cx cy cd (iL (sizesN V)) (allI V.length) at_ U h1 h2 h3 (by omega) (by omega) (by omega)
    rwa [hsl, hal] at this
  have HSL := hid hsl
  have HAL := hid hal
  generalize hPV : prodV V L R (fun u => (toN at_).getD u 0) = PV at *
  generalize hLF : likF V L R (fun u => (toN at_).getD u 0) = LF at *
  generalize jE V L R at_ = je at *
  generalize jF V L R at_ = jf at *
  generalize netE V L R = ne at *
  clear h hA hs hw hsl hal hAl hPV hLF hCK
  have HK0 := hid (LK.new w (.slice a V.length ca) (.slice b L.length cb) (.slice c R.length cc))
  obtain ⟨c0, c1, c2⟩ := HK0.out.1.1.cells
  go_enter Tryz.func8, Tryz.ntmps8
  go_wp2_with fail
  generalize ((w.alloc (NC (.slice a V.length ca) (.slice b L.length cb) (.slice c R.length cc))).alloc (FC false ⟨#[]⟩ ⟨#[]⟩)) = w1 at *
  refine (HNC.out _ (HI.out.below HK0.out.1.2)).mono ?_
  rintro e w2 ⟨rfl, hb⟩
  have hK := HK0.out.step hb
  clear hb HK0 c0 c1 c2 HNC
  obtain ⟨c0, c1, c2⟩ := hK.1.1.cells
  by_cases hn0 : ne = 0
  · subst hn0
    have HE2' := hid (HE2.out rfl)
    have HE3' := hid (HE3.out rfl)
    have HJ' := hid (HJ.out rfl)
    have HK := hid hK
    have hn8 := (HOK.out rfl).n8
    have HPS' := hid (HPSS.out rfl)
    clear HE1 HE2 HE3 HJ hK HOK HPSS
    go_upto_region 4 with fail
    refine wp_region_held_drew (S := fun u => u.cell? ⟨w.heap.size, 0, none⟩ = some (.slice a V.length ca) ∧ u.cell? ⟨w.heap.size, 1, none⟩ = some (.slice b L.length cb) ∧ u.cell? ⟨w.heap.size, 2, none⟩ = some (.slice c R.length cc)) (by kernel_rfl) HK.out.1.1.cells (fun hSd => ?_)
    have hKd : LK w w2.drew (.slice a V.length ca) (.slice b L.length cb) (.slice c R.length cc) := ⟨⟨HK.out.1.1, HK.out.1.2.drew⟩, HK.out.2⟩
    clear c0 c1 c2 HK
    generalize w2.drew = u0 at *
    (try simp only [List.getElem_toArray, List.getElem_cons_zero, List.getElem_cons_succ])
    (try simp only [Act.put, List.setIfInBounds_toArray, List.set_cons_zero, List.set_cons_succ])
    refine wpAnyH_take (i := 0) (oi := _) (v := .agg #[.slice a V.length ca, .slice b L.length cb, .slice c R.length cc]) rfl (by kernel_rfl) (by kernel_rfl) (by kernel_rfl) (fun _ _ _ h => h) (Or.inl ⟨by rfl, ?_⟩) (by assumption) ?_
    · intro u' hSu
      (try simp only [List.getElem_toArray, List.getElem_cons_zero])
      obtain ⟨s0, s1, s2⟩ := hSu
      go_simp
    (try simp only [List.getElem_toArray, List.getElem_cons_zero])
    (try simp only [Act.put, List.setIfInBounds_toArray, List.set_cons_zero, List.set_cons_succ])
    refine wpAnyH_take (i := 2) (oi := _) (v := .agg #[.slice a V.length ca, .slice b L.length cb, .slice c R.length cc]) rfl (by kernel_rfl) (by kernel_rfl) (by kernel_rfl) (fun _ _ _ h => h) (Or.inl ⟨by rfl, ?_⟩) (by assumption) ?_
    · intro u' hSu
      (try simp only [List.getElem_toArray, List.getElem_cons_zero, List.getElem_cons_succ])
      obtain ⟨s0, s1, s2⟩ := hSu
      go_simp
    (try simp only [List.getElem_toArray, List.getElem_cons_zero, List.getElem_cons_succ])
    (try simp only [Act.put, List.setIfInBounds_toArray, List.set_cons_zero, List.set_cons_succ])
    refine wpAnyH_take (i := 4) (oi := _) (v := .slice d at_.length cd) rfl (by kernel_rfl) (by kernel_rfl) (by kernel_rfl) (fun _ _ _ h => h) (Or.inl ⟨by rfl, ?_⟩) (by assumption) ?_
    · intro u' hSu
      (try simp only [List.getElem_toArray, List.getElem_cons_zero, List.getElem_cons_succ])
      go_simp
    (try simp only [List.getElem_toArray, List.getElem_cons_zero, List.getElem_cons_succ])
    (try simp only [Act.put, List.setIfInBounds_toArray, List.set_cons_zero, List.set_cons_succ])
    refine wpAnyH_ready (rs := [1]) (by kernel_rfl) (by simp) (AllReadyH.cons rfl ?_ (AllReadyH.nil))
    · intro K' hK'
      (try simp only [List.getElem_toArray, List.getElem_cons_zero, List.getElem_cons_succ])
      go_simp
      refine (nSizes_any a b c ca cb cc L.length R.length V _ (HI.out.below hKd.1.2).vars hV5).mono ?_
      rintro e u1 ⟨G, rfl, hG, hrow, hb⟩
      replace hKd := hKd.step hb
      have hx : IntS u1 (some ⟨G, 0, none⟩) (iL (sizesN V)) := hrow.ints
      refine hK'.out _ _ hKd.1.1.cells (fun hSe => ?_)
      clear hK' K' hSd
      have hSd := hSe
      clear hSe hb
      clear hrow
      (try simp only [List.getElem_toArray, List.getElem_cons_zero, List.getElem_cons_succ])
      (try simp only [Act.put, List.setIfInBounds_toArray, List.set_cons_zero, List.set_cons_succ])
      refine wpAnyH_ready (rs := [3]) (by kernel_rfl) (by simp) (AllReadyH.cons rfl ?_ (AllReadyH.nil))
      · intro K' hK'
        (try simp only [List.getElem_toArray, List.getElem_cons_zero, List.getElem_cons_succ])
        go_simp
        refine (nAll_any a b c ca cb cc L.length R.length V _ hn8).mono ?_
        rintro e u2 ⟨G2, rfl, hrow, hb⟩
        replace hKd := hKd.step hb
        replace hx := hx.below hb
        have hy : IntS u2 (some ⟨G2, 0, none⟩) (allI V.length) := hrow.ints
        refine hK'.out _ _ hKd.1.1.cells (fun hSe => ?_)
        clear hK' K' hSd
        have hSd := hSe
        clear hSe hb
        clear hrow
        (try simp only [List.getElem_toArray, List.getElem_cons_zero, List.getElem_cons_succ])
        (try simp only [Act.put, List.setIfInBounds_toArray, List.set_cons_zero, List.set_cons_succ])
        refine wpAnyH_ready (rs := [5]) (by kernel_rfl) (by simp) (AllReadyH.cons rfl ?_ (AllReadyH.nil))
        · intro K' hK'
          (try simp only [List.getElem_toArray, List.getElem_cons_zero, List.getElem_cons_succ])
          go_simp
          refine (HIX.out _ (some ⟨G, 0, none⟩) (some ⟨G2, 0, none⟩) V.length V.length hx hy (HA.out.below hKd.1.2)).mono ?_
          rintro e u3 ⟨rfl, hb⟩
          replace hKd := hKd.step hb
          generalize (indexA (iL (sizesN V)) (allI V.length) at_).1 = i1 at *
          generalize (indexA (iL (sizesN V)) (allI V.length) at_).2 = i2 at *
          refine hK'.out _ _ hKd.1.1.cells (fun hSe => ?_)
          clear hK' K' hSd
          have hSd := hSe
          clear hSe hb
          clear hx hy HIX
          (try simp only [List.getElem_toArray, List.getElem_cons_zero, List.getElem_cons_succ])
          (try simp only [Act.put, List.setIfInBounds_toArray, List.set_cons_zero, List.set_cons_succ])
          refine wpAnyH_take (i := 6) (oi := _) (v := .tuple #[.int .i64 i1, .int .i64 i2]) rfl (by kernel_rfl) (by kernel_rfl) (by kernel_rfl) (fun _ _ _ h => h) (Or.inl ⟨by rfl, ?_⟩) (by assumption) ?_
          · intro u' hSu
            (try simp only [List.getElem_toArray, List.getElem_cons_zero, List.getElem_cons_succ])
            go_simp
          (try simp only [List.getElem_toArray, List.getElem_cons_zero, List.getElem_cons_succ])
          (try simp only [Act.put, List.setIfInBounds_toArray, List.set_cons_zero, List.set_cons_succ])
          refine wpAnyH_take (i := 7) (oi := _) (v := .int .i64 i1) rfl (by kernel_rfl) (by kernel_rfl) (by kernel_rfl) (fun _ _ _ h => h) (Or.inl ⟨by rfl, ?_⟩) (by assumption) ?_
          · intro u' hSu
            (try simp only [List.getElem_toArray, List.getElem_cons_zero, List.getElem_cons_succ])
            go_simp
          (try simp only [List.getElem_toArray, List.getElem_cons_zero, List.getElem_cons_succ])
          (try simp only [Act.put, List.setIfInBounds_toArray, List.set_cons_zero, List.set_cons_succ])
          refine wpAnyH_take (i := 8) (oi := _) (v := .int .i64 i2) rfl (by kernel_rfl) (by kernel_rfl) (by kernel_rfl) (fun _ _ _ h => h) (Or.inl ⟨by rfl, ?_⟩) (by assumption) ?_
          · intro u' hSu
            (try simp only [List.getElem_toArray, List.getElem_cons_zero, List.getElem_cons_succ])
            go_simp
          (try simp only [List.getElem_toArray, List.getElem_cons_zero, List.getElem_cons_succ])
          (try simp only [Act.put, List.setIfInBounds_toArray, List.set_cons_zero, List.set_cons_succ])
          refine wpAnyH_take (i := 9) (oi := _) (v := .int .i64 i1) rfl (by kernel_rfl) (by kernel_rfl) (by kernel_rfl) (fun _ _ _ h => h) (Or.inl ⟨by rfl, ?_⟩) (by assumption) ?_
          · intro u' hSu
            (try simp only [List.getElem_toArray, List.getElem_cons_zero, List.getElem_cons_succ])
            go_simp
          (try simp only [List.getElem_toArray, List.getElem_cons_zero, List.getElem_cons_succ])
          (try simp only [Act.put, List.setIfInBounds_toArray, List.set_cons_zero, List.set_cons_succ])
          refine wpAnyH_take (i := 10) (oi := _) (v := .int .i64 i2) rfl (by kernel_rfl) (by kernel_rfl) (by kernel_rfl) (fun _ _ _ h => h) (Or.inl ⟨by rfl, ?_⟩) (by assumption) ?_
          · intro u' hSu
            (try simp only [List.getElem_toArray, List.getElem_cons_zero, List.getElem_cons_succ])
            go_simp
          (try simp only [List.getElem_toArray, List.getElem_cons_zero, List.getElem_cons_succ])
          (try simp only [Act.put, List.setIfInBounds_toArray, List.set_cons_zero, List.set_cons_succ])
          refine wpAnyH_done (by kernel_rfl) ?_ _
          clear hSd
          by_cases hi0 : i2 = 0
          · subst hi0
            obtain ⟨q1', q2'⟩ := HE3'.out rfl
            have HQ1 := hid q1'
            have HQ2 := hid q2'
            have HLK := hid (HJ'.out rfl)
            have HPS := hid (HPS'.out rfl)
            have HPX := HPX'
            have HKd := hid hKd
            clear q1' q2' HE2' HE3' HJ' HPS' hKd
            go_wp2_with fail
            refine (HO1.out _).mono ?_
            rintro e w5 ⟨rfl, hb⟩
            have hB2 : w.heap.size + 1 < w5.heap.size := (HKd.out.step hb).2.lt
            have HK2 := hid ((HKd.out.step hb).step ((Below.refl _ w5).alloc (Nat.le_refl _) (FC (sgn 1) (nu 1) (de 1))))
            have HBX := hid (Box.new w5 (sgn 1) (nu 1) (de 1))
            obtain ⟨c0, c1, c2⟩ := HK2.out.1.1.cells
            clear hb HKd
            go_wp2_with fail
            generalize (w5.alloc (FC (sgn 1) (nu 1) (de 1))) = w6 at *
            generalize w5.heap.size = Bp at *
            clear c0 c1 c2
            go_loopw [34] (fun iv wr => ∃ v : Nat, v ≤ V.length ∧ iv = .int .i64 v ∧ Hid (LK w wr (.slice a V.length ca) (.slice b L.length cb) (.slice c R.length cc)) ∧ Hid (Box wr Bp (sgn (PV v)) (nu (PV v)) (de (PV v)))) (fun iv _ => V.length - (intOf iv).toNat)
            case atStart => exact ⟨0, Nat.zero_le _, rfl, HK2, by rw [HP0.out]; exact HBX⟩
            case round =>
              obtain ⟨v, hv, rfl, HK, HP⟩ := hrel
              clear HK2 HBX
              obtain ⟨c0, c1, c2⟩ := HK.out.1.1.cells
              by_cases hlt : v < V.length
              · have hls := (HPS.out v hlt).1
                have hps := (HPS.out v hlt).2
                have HPv := hid (HPX.out v).symm
                generalize hlf : LF v = lf at *
                obtain ⟨lfn, lfx, lfy⟩ := lf
                simp only at hls
                have HLV : Hid (LF v = (lfn, lfx, lfy)) := hlf
                clear hlf
                have HLK1 : Hid (∀ (U : World), v < V.length → NetI U a b c V L R → IntS U d at_ → Calls Tryz.prog 29 #[.agg #[.slice a V.length ca, .slice b L.length cb, .slice c R.length cc], .int .i64 (v : Nat), .slice d at_.length cd] U fun e w' => e = .returned (frV (lfn, lfx, lfy)) ∧ Below U.heap.size U w') := fun U h1 h2 h3 => by
                  have := HLK.out v U h1 h2 h3
                  rwa [HLV.out] at this
                go_upto_region 11 with fail
                refine wp_region_held_drew (S := fun u => u.cell? ⟨w.heap.size, 0, none⟩ = some (.slice a V.length ca) ∧ u.cell? ⟨w.heap.size, 1, none⟩ = some (.slice b L.length cb) ∧ u.cell? ⟨w.heap.size, 2, none⟩ = some (.slice c R.length cc)) (by kernel_rfl) HK.out.1.1.cells (fun hSd => ?_)
                have hKd : LK w wr.drew (.slice a V.length ca) (.slice b L.length cb) (.slice c R.length cc) := ⟨⟨HK.out.1.1, HK.out.1.2.drew⟩, HK.out.2⟩
                have hPd : Box wr.drew Bp (sgn (PV v)) (nu (PV v)) (de (PV v)) := HP.out
                clear c0 c1 c2 HK HP
                generalize wr.drew = u0 at *
                obtain ⟨q0, q1, q2, -⟩ := hPd.facts
                (try simp only [List.getElem_toArray, List.getElem_cons_zero, List.getElem_cons_succ])
                (try simp only [Act.put, List.setIfInBounds_toArray, List.set_cons_zero, List.set_cons_succ])
                refine wpAnyH_take (i := 1) (oi := _) (v := .agg #[.slice a V.length ca, .slice b L.length cb, .slice c R.length cc]) rfl (by kernel_rfl) (by kernel_rfl) (by kernel_rfl) (fun _ _ _ h => h) (Or.inl ⟨by rfl, ?_⟩) (by assumption) ?_
                · intro u' hSu
                  (try simp only [List.getElem_toArray, List.getElem_cons_zero, List.getElem_cons_succ])
                  obtain ⟨s0, s1, s2⟩ := hSu
                  go_simp
                (try simp only [List.getElem_toArray, List.getElem_cons_zero, List.getElem_cons_succ])
                (try simp only [Act.put, List.setIfInBounds_toArray, List.set_cons_zero, List.set_cons_succ])
                refine wpAnyH_take (i := 2) (oi := _) (v := .int .i64 (v : Nat)) rfl (by kernel_rfl) (by kernel_rfl) (by kernel_rfl) (fun _ _ _ h => h) (Or.inl ⟨by rfl, ?_⟩) (by assumption) ?_
                · intro u' hSu
                  (try simp only [List.getElem_toArray, List.getElem_cons_zero, List.getElem_cons_succ])
                  go_simp
                (try simp only [List.getElem_toArray, List.getElem_cons_zero, List.getElem_cons_succ])
                (try simp only [Act.put, List.setIfInBounds_toArray, List.set_cons_zero, List.set_cons_succ])
                refine wpAnyH_take (i := 3) (oi := _) (v := .slice d at_.length cd) rfl (by kernel_rfl) (by kernel_rfl) (by kernel_rfl) (fun _ _ _ h => h) (Or.inl ⟨by rfl, ?_⟩) (by assumption) ?_
                · intro u' hSu
                  (try simp only [List.getElem_toArray, List.getElem_cons_zero, List.getElem_cons_succ])
                  go_simp
                (try simp only [List.getElem_toArray, List.getElem_cons_zero, List.getElem_cons_succ])
                (try simp only [Act.put, List.setIfInBounds_toArray, List.set_cons_zero, List.set_cons_succ])
                refine wpAnyH_ready (rs := [0, 4]) (by kernel_rfl) (by simp) (AllReadyH.cons rfl ?_ (AllReadyH.cons rfl ?_ (AllReadyH.nil)))
                · intro K' hK'
                  (try simp only [List.getElem_toArray, List.getElem_cons_zero])
                  go_simp
                  clear q0 q1 q2
                  refine hK'.out _ _ hKd.1.1.cells (fun hSe => ?_)
                  clear hK' K' hSd
                  have hSd := hSe
                  clear hSe
                  (try simp only [List.getElem_toArray, List.getElem_cons_zero, List.getElem_cons_succ])
                  (try simp only [Act.put, List.setIfInBounds_toArray, List.set_cons_zero, List.set_cons_succ])
                  refine wpAnyH_ready (rs := [4]) (by kernel_rfl) (by simp) (AllReadyH.cons rfl ?_ (AllReadyH.nil))
                  · intro K' hK'
                    (try simp only [List.getElem_toArray, List.getElem_cons_zero, List.getElem_cons_succ])
                    go_simp
                    refine (HLK1.out _ hlt (HI.out.below hKd.1.2) (HA.out.below hKd.1.2)).mono ?_
                    rintro e u1 ⟨rfl, hb⟩
                    replace hKd := hKd.step hb
                    replace hPd := hPd.below hb hPd.lt
                    refine hK'.out _ _ hKd.1.1.cells (fun hSe => ?_)
                    clear hK' K' hSd
                    have hSd := hSe
                    clear hSe hb
                    (try simp only [List.getElem_toArray, List.getElem_cons_zero, List.getElem_cons_succ])
                    (try simp only [Act.put, List.setIfInBounds_toArray, List.set_cons_zero, List.set_cons_succ])
                    refine wpAnyH_ready (rs := [5]) (by kernel_rfl) (by simp) (AllReadyH.cons rfl ?_ (AllReadyH.nil))
                    · intro K' hK'
                      (try simp only [List.getElem_toArray, List.getElem_cons_zero, List.getElem_cons_succ])
                      go_simp
                      refine (fMul_q (PV (v + 1)) (val_own (PV v)) (show val lfn lfx lfy = frQ (lfn, lfx, lfy) from rfl) HPv.out (by omega) (by omega)).mono ?_
                      rintro e u5 ⟨rfl, hb⟩
                      replace hKd := hKd.step hb
                      replace hPd := hPd.below hb hPd.lt
                      refine hK'.out _ _ hKd.1.1.cells (fun hSe => ?_)
                      clear hK' K' hSd
                      have hSd := hSe
                      clear hSe hb
                      (try simp only [List.getElem_toArray, List.getElem_cons_zero, List.getElem_cons_succ])
                      (try simp only [Act.put, List.setIfInBounds_toArray, List.set_cons_zero, List.set_cons_succ])
                      obtain ⟨k0, k1, k2, f0, f1, f2⟩ := hPd.facts
                      refine wpAnyH_ready (rs := [6]) (by kernel_rfl) (by simp) (AllReadyH.cons rfl ?_ (AllReadyH.nil))
                      · intro K' hK'
                        (try simp only [List.getElem_toArray, List.getElem_cons_zero, List.getElem_cons_succ])
                        go_simp
                        have HPU := hid (hPd.put (sgn (PV (v + 1))) (nu (PV (v + 1))) (de (PV (v + 1))))
                        have HKU := hid (hKd.put hB2 (sgn (PV (v + 1))) (nu (PV (v + 1))) (de (PV (v + 1))))
                        refine hK'.out _ _ HKU.out.1.1.cells (fun hSe => ?_)
                        clear hK' K' hSd hSe k0 k1 k2 f0 f1 f2 hPd hKd
                        (try simp only [List.getElem_toArray, List.getElem_cons_zero, List.getElem_cons_succ])
                        (try simp only [Act.put, List.setIfInBounds_toArray, List.set_cons_zero, List.set_cons_succ])
                        refine wpAnyH_done (by kernel_rfl) ?_ _
                        go_wp2
                        go_roundw
                        case rel => exact ⟨v + 1, by omega, by go_num, HKU, HPU⟩
                        case measure => simp [intOf]; omega
                · intro K' hK'
                  (try simp only [List.getElem_toArray, List.getElem_cons_zero, List.getElem_cons_succ])
                  go_simp
                  refine (HLK1.out _ hlt (HI.out.below hKd.1.2) (HA.out.below hKd.1.2)).mono ?_
                  rintro e u1 ⟨rfl, hb⟩
                  replace hKd := hKd.step hb
                  replace hPd := hPd.below hb hPd.lt
                  clear q0 q1 q2
                  obtain ⟨q0, q1, q2, -⟩ := hPd.facts
                  refine hK'.out _ _ hKd.1.1.cells (fun hSe => ?_)
                  clear hK' K' hSd
                  have hSd := hSe
                  clear hSe hb
                  (try simp only [List.getElem_toArray, List.getElem_cons_zero, List.getElem_cons_succ])
                  (try simp only [Act.put, List.setIfInBounds_toArray, List.set_cons_zero, List.set_cons_succ])
                  refine wpAnyH_ready (rs := [0]) (by kernel_rfl) (by simp) (AllReadyH.cons rfl ?_ (AllReadyH.nil))
                  · intro K' hK'
                    (try simp only [List.getElem_toArray, List.getElem_cons_zero])
                    go_simp
                    clear q0 q1 q2
                    refine hK'.out _ _ hKd.1.1.cells (fun hSe => ?_)
                    clear hK' K' hSd
                    have hSd := hSe
                    clear hSe
                    (try simp only [List.getElem_toArray, List.getElem_cons_zero, List.getElem_cons_succ])
                    (try simp only [Act.put, List.setIfInBounds_toArray, List.set_cons_zero, List.set_cons_succ])
                    refine wpAnyH_ready (rs := [5]) (by kernel_rfl) (by simp) (AllReadyH.cons rfl ?_ (AllReadyH.nil))
                    · intro K' hK'
                      (try simp only [List.getElem_toArray, List.getElem_cons_zero, List.getElem_cons_succ])
                      go_simp
                      refine (fMul_q (PV (v + 1)) (val_own (PV v)) (show val lfn lfx lfy = frQ (lfn, lfx, lfy) from rfl) HPv.out (by omega) (by omega)).mono ?_
                      rintro e u5 ⟨rfl, hb⟩
                      replace hKd := hKd.step hb
                      replace hPd := hPd.below hb hPd.lt
                      refine hK'.out _ _ hKd.1.1.cells (fun hSe => ?_)
                      clear hK' K' hSd
                      have hSd := hSe
                      clear hSe hb
                      (try simp only [List.getElem_toArray, List.getElem_cons_zero, List.getElem_cons_succ])
                      (try simp only [Act.put, List.setIfInBounds_toArray, List.set_cons_zero, List.set_cons_succ])
                      obtain ⟨k0, k1, k2, f0, f1, f2⟩ := hPd.facts
                      refine wpAnyH_ready (rs := [6]) (by kernel_rfl) (by simp) (AllReadyH.cons rfl ?_ (AllReadyH.nil))
                      · intro K' hK'
                        (try simp only [List.getElem_toArray, List.getElem_cons_zero, List.getElem_cons_succ])
                        go_simp
                        have HPU := hid (hPd.put (sgn (PV (v + 1))) (nu (PV (v + 1))) (de (PV (v + 1))))
                        have HKU := hid (hKd.put hB2 (sgn (PV (v + 1))) (nu (PV (v + 1))) (de (PV (v + 1))))
                        refine hK'.out _ _ HKU.out.1.1.cells (fun hSe => ?_)
                        clear hK' K' hSd hSe k0 k1 k2 f0 f1 f2 hPd hKd
                        (try simp only [List.getElem_toArray, List.getElem_cons_zero, List.getElem_cons_succ])
                        (try simp only [Act.put, List.setIfInBounds_toArray, List.set_cons_zero, List.set_cons_succ])
                        refine wpAnyH_done (by kernel_rfl) ?_ _
                        go_wp2
                        go_roundw
                        case rel => exact ⟨v + 1, by omega, by go_num, HKU, HPU⟩
                        case measure => simp [intOf]; omega
              · obtain rfl : v = V.length := by omega
                obtain ⟨k0, k1, k2, f0, f1, f2⟩ := HK.out.2.facts
                obtain ⟨q0, q1, q2, -⟩ := HP.out.facts
                have hfin := HK.out.2.put (sgn (PV V.length)) (nu (PV V.length)) (de (PV V.length))
                have hbf := below_put HK.out.1.2 (show w.heap.size ≤ w.heap.size + 1 by omega) (.bool (sgn (PV V.length))) (.string (nu (PV V.length))) (.string (de (PV V.length)))
                go_wp2
                refine bodyPost_ret (hfin.result2 rfl _ rfl) rfl ?_
                exact ⟨by rw [HQ1.out, HQ2.out]; rfl, hbf⟩
          · obtain ⟨q1', q2'⟩ := HE2'.out hi0
            have HQ1 := hid q1'
            have HQ2 := hid q2'
            have hib : (i2 == 0) = false := by simpa using hi0
            obtain ⟨k0, k1, k2, f0, f1, f2⟩ := hKd.2.facts
            have hfin := hKd.2.put false ⟨#[]⟩ ⟨#[]⟩
            have hbf := below_put hKd.1.2 (show w.heap.size ≤ w.heap.size + 1 by omega) (.bool false) (.string ⟨#[]⟩) (.string ⟨#[]⟩)
            clear q1' q2' hi0
            go_wp2
            refine bodyPost_ret (hfin.result2 rfl _ rfl) rfl ?_
            exact ⟨by rw [HQ1.out, HQ2.out]; rfl, hbf⟩
  · obtain ⟨q1, q2⟩ := HE1.out hn0
    have HQ1 := hid q1
    have HQ2 := hid q2
    have hnb : (ne == 0) = false := by simpa using hn0
    obtain ⟨k0, k1, k2, f0, f1, f2⟩ := hK.2.facts
    have hfin := hK.2.put false ⟨#[]⟩ ⟨#[]⟩
    have hbf := below_put hK.1.2 (show w.heap.size ≤ w.heap.size + 1 by omega) (.bool false) (.string ⟨#[]⟩) (.string ⟨#[]⟩)
    clear q1 q2 hn0 c0 c1 c2
    go_wp2
    refine bodyPost_ret (hfin.result2 rfl _ rfl) rfl ?_
    exact ⟨by rw [HQ1.out, HQ2.out]; rfl, hbf⟩
end Go.Proofs.YtncccbdledcibaaGreatDoor
