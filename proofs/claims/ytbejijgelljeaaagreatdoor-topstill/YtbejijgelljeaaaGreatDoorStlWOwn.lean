/- TopStill: the law's walk. -/
import Derived.Test.YtbejijgelljeaaaGreatDoorStlFToStlG
import Derived.Test.YtbejijgelljeaaaGreatDoorSumMToChnL
namespace Go.Proofs.YtbejijgelljeaaaGreatDoor
open Go.RowKit Go.Shelf

theorem count_one {p : Nat → Bool} {k : Nat} : ∀ {L : List Nat}, L.Nodup → k ∈ L → p k = true → (∀ x ∈ L, p x = true → x = k) → (L.map p).count true = 1
  | x :: L, hn, hk, hp, ho => by
    rw [List.map_cons, List.count_cons]
    have hn' := List.nodup_cons.1 hn
    by_cases e : x = k
    · subst e
      rw [hp]
      have h0 : (L.map p).count true = 0 := by
        rw [List.count_eq_zero]
        intro h
        obtain ⟨y, hy, ey⟩ := List.mem_map.1 h
        exact hn'.1 (by rw [← ho y (List.mem_cons_of_mem _ hy) ey]; exact hy)
      rw [h0]
      rfl
    · have hkL : k ∈ L := by
        rcases List.mem_cons.1 hk with h | h
        · exact absurd h.symm e
        · exact h
      have hpx : p x = false := by
        cases q : p x with
        | false => rfl
        | true => exact absurd (ho x List.mem_cons_self q) e
      rw [hpx, count_one hn'.2 hkL hp fun y hy => ho y (List.mem_cons_of_mem _ hy)]
      rfl
theorem count_more {l : List Bool} (h : true ∈ l.drop (fstT l + 1)) : 2 ≤ l.count true := by
  have hm : true ∈ l := List.mem_of_mem_drop h
  obtain ⟨hk, h1, _⟩ := fstT_spec l hm
  rw [← List.take_append_drop (fstT l + 1) l, List.count_append]
  have e1 : 1 ≤ (l.take (fstT l + 1)).count true := List.count_pos_iff.2 (by
    rw [List.mem_iff_getElem]
    exact ⟨fstT l, by rw [List.length_take]; omega, by rw [List.getElem_take]; exact h1⟩)
  have e2 : 1 ≤ (l.drop (fstT l + 1)).count true := List.count_pos_iff.2 h
  omega
theorem OneC.count {n : Nat} {P : Nat → Nat → Rat} {k : Nat} (h : OneC n P k) : (clB n P).count true = 1 := count_one (lstN_nodup _ _ _) h.mem h.shut h.only
theorem OneC.iff {n : Nat} {P : Nat → Nat → Rat} {k i : Nat} (h : OneC n P k) (hi : i < n) : (stB n (cmsB n P) i = true ↔ i ∈ clN n (cmsB n P) k) ∧ (stB n (cmsB n P) i = true → clN n (cmsB n P) i = clN n (cmsB n P) k) := by
  have key : stB n (cmsB n P) i = true → clN n (cmsB n P) i = clN n (cmsB n P) k := fun hs => by
    obtain ⟨j, hj, hm⟩ := lst_of (P := P) hi
    have e := h.only j hj (stB_same hi hm hs)
    subst e
    exact (clN_same hi hm).symm
  refine ⟨⟨fun hs => ?_, fun hm => stB_same h.lt hm h.shut⟩, key⟩
  rw [← key hs]
  exact clN_mem.2 ⟨hi, cms_self _ _ _, cms_self _ _ _⟩
/-- What the law asks of a state. -/
theorem OneC.at {n : Nat} {P : Nat → Nat → Rat} {k i : Nat} (h : OneC n P k) (hc : Chn n P) (hi : i < n) : (stB n (cmsB n P) i = true ∧ stQ P (clN n (cmsB n P) i) i = stQ P (clN n (cmsB n P) k) i ∧ 0 < stQ P (clN n (cmsB n P) k) i) ∨ (stB n (cmsB n P) i = false ∧ stQ P (clN n (cmsB n P) k) i = 0) := by
  obtain ⟨h1, h2⟩ := h.iff hi
  cases hs : stB n (cmsB n P) i with
  | true =>
    refine .inl ⟨rfl, by rw [h2 hs], ?_⟩
    obtain ⟨t, ht, e⟩ := getD_of (h1.1 hs)
    rw [← e, stQ_on h.cls ht]
    exact h.cls.pos hc t ht
  | false =>
    refine .inr ⟨rfl, stQ_off fun hm => ?_⟩
    rw [h1.2 hm] at hs
    cases hs
theorem Box.trio' {w : World} {g : Nat} {neg : Bool} {num den : ByteArray} (h : Box w g neg num den) : w.cell? ⟨g, 0, none⟩ = some (.bool neg) ∧ w.cell? ⟨g, 1, none⟩ = some (.string num) ∧ w.cell? ⟨g, 2, none⟩ = some (.string den) := ⟨h.c0, h.c1, h.c2⟩
theorem bytes_like' {a b : ByteArray} (h : a.toList = b.toList) : a = b := by
  rw [Go.Lib.toList_data, Go.Lib.toList_data] at h
  exact ByteArray.ext (Array.toList_inj.1 h)
theorem qF_same' {p q : Rat} (h : qF p = qF q) : p = q := by
  have := congrArg frQ h
  rwa [frQ_qF, frQ_qF] at this

set_option maxRecDepth 100000 in
set_option maxHeartbeats 8000000 in
theorem topStill_walk (a0 : Option Addr) (c0 : Nat) (X0 : List Int) (n1 : Int) (w : World) (h0 : IntS w a0 X0) (r0 : ∀ x ∈ X0, -9223372036854775808 ≤ x ∧ x ≤ 9223372036854775807) (hn1 : -9223372036854775808 ≤ n1 ∧ n1 ≤ 9223372036854775807) (hX : X0.length ≤ 140737488355328) :
    Calls Tryz.prog 4 #[.slice a0 X0.length c0, .int .i64 n1] w fun e w' => e = .returned (.bool true) ∧ Below w.heap.size w w' := by
  have HPN := hid (fun U : World => rPick_any n1 5 U hn1.1 hn1.2 (by omega) (by omega))
  have hp1 := pickN_lt n1 (n := 5) (by omega)
  clear hn1
  generalize pickN n1 5 = p1 at *
  obtain ⟨n, hnn⟩ : ∃ n, n = 1 + p1 := ⟨_, rfl⟩
  have HEN : Hid ((1 : Int) + (p1 : Int) = (n : Int)) := by show _ = _; omega
  have hn1 : 1 ≤ n := by omega
  have hn5 : n ≤ 5 := by omega
  clear hnn
  have HMO := hid (fun (U : World) (hU : IntS U a0 X0) => matrixOf_any a0 c0 n X0 U hU r0 hX hn1 hn5)
  have HX0' := hid h0
  clear h0 r0
  have HO0 := hid (fun V : World => rOf_zero V)
  have HO1 := hid (fun V : World => rOf_one V)
  have hone : (w.alloc (.cells #[.slice a0 X0.length c0] 22)).heap[w.heap.size]? = some (.cells #[.slice a0 X0.length c0] 22 (0, 0)) := heap_alloc_new w _
  have HHV : Hid (Calls Tryz.prog 17 #[.slice (some ⟨w.heap.size, 0, none⟩) 1 1] (w.alloc (.cells #[.slice a0 X0.length c0] 22)) fun e w' => e = .returned (.bool (decide (512 < X0.length))) ∧ w' = w.alloc (.cells #[.slice a0 X0.length c0] 22)) := topHeavy_one w.heap.size X0.length a0 c0 _ (by rw [cell_of_row _ _ _ _ _ (0, 0) hone]; rfl) hX
  have HB0 := hid ((Below.refl w.heap.size w).alloc (Nat.le_refl _) (.cells #[.slice a0 X0.length c0] 22))
  clear hone
  go_enter Tryz.func4, Tryz.ntmps4
  go_wp2_with fail
  generalize (w.alloc (.cells #[.slice a0 X0.length c0] 22)) = w0 at *
  refine HHV.out.mono ?_
  rintro e w1' ⟨rfl, rfl⟩
  by_cases hbig : 512 < X0.length
  · rw [decide_eq_true hbig]
    clear hbig
    go_wp2
    go_ret
    exact ⟨rfl, HB0.out⟩
  rw [decide_eq_false hbig]
  clear hbig HHV
  go_wp2_with fail
  refine (HPN.out _).mono ?_
  rintro e w1 ⟨rfl, hb1⟩
  have HB1 := hid (HB0.out.trans (hb1.mono HB0.out.size))
  clear hb1 HB0
  go_wp2_with fail
  rw [HEN.out]
  refine (HMO.out _ (HX0'.out.below HB1.out)).mono ?_
  rintro e w2 ⟨y, P1, rfl, hy, hrp, hb2⟩
  obtain ⟨P, hPe, hm⟩ := chM_of hn1 hn5 hrp
  obtain ⟨a, ca, ey, hfy⟩ := hy.rows
  rw [hPe] at ey hfy
  rw [mR_length] at ey
  subst ey
  have HM2 := hid hfy
  have HCM := hid hm
  have HB2 := hid (HB1.out.trans (hb2.mono HB1.out.size))
  have HST := hid (fun (U : World) (hU : FsS U a (mR n P)) => chStill_any a ca n P U hU hm)
  have HCL := hid (fun (U : World) (hU : FsS U a (mR n P)) => chClasses_any a ca n P U hU hm)
  clear hb2 hy hrp hPe HMO HPN hfy hm HB1
  have HLB : Hid ((clB n P).length = (lstN n (cmsB n P) n).length) := by show _ = _; simp
  have hBl : (clB n P).length ≤ 5 := by rw [HLB.out]; have := lstN_le n (cmsB n P) n; omega
  have hBp : 1 ≤ (clB n P).length := List.length_pos_of_mem (clB_true (P := P) hn1)
  go_wp2_with fail
  refine (HST.out _ HM2.out).mono ?_
  rintro e w3 ⟨hb3, hcase⟩
  have HB3 := hid (HB2.out.trans (hb3.mono HB2.out.size))
  have HM3 := hid (HM2.out.below hb3)
  clear hb3 HST HM2 HB2
  rcases hcase with ⟨k0, G, hone, rfl, hG, hr3⟩ | ⟨hmany, rfl⟩
  · have HONE := hid hone
    have HCNT := hid hone.count
    have HRP := hid hr3
    clear hone hr3 hG
    obtain hr3' := HRP.out
    go_wp2_with fail
    refine (HCL.out _ HM3.out).mono ?_
    rintro e W ⟨x, y, Q, B, rfl, hB, hcs, hbW⟩
    have HBW := hid (HB3.out.trans (hbW.mono HB3.out.size))
    have HMW := hid (HM3.out.below hbW)
    have HRW := hid (hr3'.below hbW hr3'.lt)
    have hGW := HRW.out.lt
    have hQL := hcs.len
    obtain ⟨dx, cx, rfl, -⟩ := owns_slice hcs.row.1
    obtain ⟨dy, cy, hye, hbo, -⟩ := hcs.cl.bos
    obtain ⟨BL, hBL⟩ : ∃ BL, clB n P = BL := ⟨_, rfl⟩
    rw [show (lstN n (cmsB n P) n).map (stB n (cmsB n P)) = BL from hBL] at hye hbo
    rw [hBL] at HCNT HLB hBl hBp
    subst hye
    have HBO := hid hbo
    rw [← HLB.out] at hQL
    rw [hQL]
    obtain ⟨L, hLe⟩ : ∃ L, BL.length = L := ⟨_, rfl⟩
    rw [hLe] at hBl hBp
    simp only [hLe]
    have HLE := hid hLe
    clear hbW hcs hbo hQL hBL hLe HCL HLB HM3 HB3 hB
    have hL0 : ¬ ((L : Int) = 0) := by omega
    have hL1 : ¬ L = 0 := by omega
    go_wp2_with fail
    go_loopw [11, 12] (fun kv iv wr => ∃ (k i : Nat), i ≤ L ∧ iv = .int .i64 i ∧ kv = .int .i64 (k : Nat) ∧ k ≤ i ∧ Hid (k = (BL.take i).count true) ∧ W = wr) (fun _ iv _ => L - (intOf iv).toNat)
    case atStart => exact ⟨0, 0, Nat.zero_le _, rfl, rfl, Nat.le_refl _, rfl, rfl⟩
    case round =>
      obtain ⟨k, i, hi, rfl, rfl, hki, HKC, rfl⟩ := hrel
      by_cases hlt : i < L
      · have hil : i < BL.length := by rw [HLE.out]; exact hlt
        obtain ⟨gy, oy, hde, hgy, c0⟩ := HBO.out i hil
        subst hde
        have HT : Hid ((BL.take (i + 1)).count true = (BL.take i).count true + if BL[i] then 1 else 0) := by
          show _ = _
          rw [List.take_succ_eq_append_getElem hil, List.count_append]
          congr 1
          cases BL[i] <;> rfl
        cases hbv : BL[i] with
        | true =>
          rw [hbv] at c0 HT
          have HK2 : Hid (k + 1 = (BL.take (i + 1)).count true) := by show _ = _; rw [HT.out, HKC.out]; rfl
          go_wp2
          go_roundw
          case rel => exact ⟨k + 1, i + 1, by omega, by go_num, by go_num, by omega, HK2, trivial⟩
          case measure => simp [intOf]; omega
        | false =>
          rw [hbv] at c0 HT
          have HK2 : Hid (k = (BL.take (i + 1)).count true) := by show _ = _; rw [HT.out, HKC.out]; rfl
          go_wp2
          go_roundw
          case rel => exact ⟨k, i + 1, by omega, by go_num, rfl, by omega, HK2, trivial⟩
          case measure => simp [intOf]; omega
      · obtain rfl : L = i := by omega
        have hkc : k = BL.count true := by
          have h9 := HKC.out
          rw [← HLE.out, List.take_length] at h9
          exact h9
        have hk1 : k = 1 := by rw [hkc]; exact HCNT.out
        clear hkc HKC
        subst hk1
        have HFP : Hid (∀ i, i < n → Fits 3413 (stQ P (clN n (cmsB n P) k0) i)) := fun i _ => stQ_fits HONE.out.cls HCM.out i
        have HSTP := hid (fun (U : World) (hU : Below W.heap.size W U) => chStep_long (some ⟨G, 0, none⟩) a n ca n (stQ P (clN n (cmsB n P) k0)) P U (HRW.out.fr.below hU) (HMW.out.below hU) HCM.out HFP.out)
        have HSTE : Hid ((lF n fun j => sumR (fun i => stQ P (clN n (cmsB n P) k0) i * P i j) n) = lF n (stQ P (clN n (cmsB n P) k0))) := lF_congr fun j hj => HONE.out.cls.stays HCM.out.chn hj
        have HSUM : Hid (∀ (U : World), Below W.heap.size W U → Calls Tryz.prog 22 #[.slice (some ⟨G, 0, none⟩) n n] U fun e w' => e = .returned (.agg #[.bool (sgn 1), .string (nu 1), .string (de 1)]) ∧ Below U.heap.size U w') := fun U hU => by
          have h9 := rSum_long (some ⟨G, 0, none⟩) n (lF n (stQ P (clN n (cmsB n P) k0))) U (HRW.out.fr.below hU) (fun i hi => by
            rw [lF_get]
            show (nu _).size + (de _).size ≤ _
            rw [own_size]
            have := fits_qw (HFP.out i (by rw [lF_length] at hi; exact hi))
            omega) (fun i hi => by
            have hin : i ≤ n := by rw [lF_length] at hi; exact hi
            rw [(LsW.mk' (f := stQ P (clN n (cmsB n P) k0)) (n := n) fun j hj => by have := fits_qw (HFP.out j hj); omega).fsumk hin]
            have h1 := fits_qw (fits_sumR (f := stQ P (clN n (cmsB n P) k0)) (c := 3413) (n := i) fun j hj => HFP.out j (by omega))
            have h2 : i * (3413 + 1) ≤ 5 * (3413 + 1) := Nat.mul_le_mul_right _ (by omega)
            omega) (by rw [lF_length]; omega)
          rw [lF_length, fsum_lF, HONE.out.cls.whole HCM.out.chn] at h9
          exact h9
        have HBKI := hid (fun (i : Nat) (hi : i < n) (U : World) (hU : Below W.heap.size W U) => chBack_any a ca n i P U (HMW.out.below hU) HCM.out hi)
        have HATI := hid (fun (i : Nat) (hi : i < n) => HONE.out.at HCM.out.chn hi)
        have HPC : Hid (∀ i, i < n → W.cell? ⟨G, i * 3, none⟩ = some (.bool (qF (stQ P (clN n (cmsB n P) k0) i)).1) ∧ W.cell? ⟨G, i * 3 + 1, none⟩ = some (.string (qF (stQ P (clN n (cmsB n P) k0) i)).2.1) ∧ W.cell? ⟨G, i * 3 + 2, none⟩ = some (.string (qF (stQ P (clN n (cmsB n P) k0) i)).2.2)) := fun i hi => by
          have h9 := HRW.out.cells i (by rw [lF_length]; exact hi)
          rw [lF_get] at h9
          exact h9
        generalize hsq : stQ P (clN n (cmsB n P) k0) = sq at *
        clear hsq
        go_wp2_with fail
        refine (HSTP.out _ (Below.refl _ _)).mono ?_
        rintro e w5 ⟨G5, rfl, hG5, hr5, hb5⟩
        rw [HSTE.out] at hr5
        have HB5 := hid hb5
        have HSF := hid (topSame_any (some ⟨G, 0, none⟩) (some ⟨G5, 0, none⟩) n n n (lF n sq) w5 (HRW.out.fr.below hb5) hr5.fr (lF_length _ _) (by omega))
        clear hr5 hb5 hG5 HSTP HSTE
        go_wp2_with fail
        refine HSF.out.mono ?_
        rintro e w6 ⟨rfl, hb6⟩
        have HB6 := hid (HB5.out.trans (hb6.mono HB5.out.size))
        clear hb6 HB5 HSF
        go_wp2_with fail
        refine (HSUM.out _ HB6.out).mono ?_
        rintro e w7 ⟨rfl, hb7⟩
        have HB7 := hid (HB6.out.trans (hb7.mono HB6.out.size))
        clear hb7 HB6 HSUM
        go_wp2_with fail
        refine (HO1.out _).mono ?_
        rintro e w8 ⟨rfl, hb8⟩
        have HB8 := hid (HB7.out.trans (hb8.mono HB7.out.size))
        clear hb8 HB7
        go_wp2_with fail
        go_loopw [14] (fun iv wr => ∃ i : Nat, i ≤ n ∧ iv = .int .i64 i ∧ Hid (Below W.heap.size W wr)) (fun iv _ => n - (intOf iv).toNat)
        case atStart => exact ⟨0, Nat.zero_le _, rfl, HB8⟩
        case round =>
          obtain ⟨i, hi, rfl, HBi⟩ := hrel
          clear HB8
          by_cases hlti : i < n
          · have HBK := hid (HBKI.out i hlti wr HBi.out)
            obtain ⟨p0, p1', p2⟩ := HPC.out i hlti
            have hat := HATI.out i hlti
            have hfq := HFP.out i hlti
            have HC0 : Hid (∀ U : World, Calls Tryz.prog 15 #[.agg #[.bool (qF (sq i)).1, .string (qF (sq i)).2.1, .string (qF (sq i)).2.2], .agg #[.bool (sgn 0), .string (nu 0), .string (de 0)]] U fun e w' => e = .returned (.int .i64 (cmpQ (sq i) 0)) ∧ Below U.heap.size U w') := fun U => rCmpQ (sq i) 0 U (by have := fits_qw hfq; omega) (by have := qw_zero; omega)
            have HC0N : Hid (¬ cmpQ (sq i) 0 < 0) := fun e => by
              have h9 : sq i < 0 := cmp_below.1 e
              rcases hat with ⟨_, _, h8⟩ | ⟨_, h8⟩ <;> grind
            go_wp2_with fail
            refine HBK.out.mono ?_
            rintro e w9 ⟨hb9, hbk⟩
            have HB9 := hid (HBi.out.trans (hb9.mono HBi.out.size))
            clear hb9 HBK
            rcases hbk with ⟨hs, rfl⟩ | ⟨hs, rfl⟩
            · have hat2 : stQ P (clN n (cmsB n P) i) i = sq i ∧ 0 < sq i := by
                rcases hat with ⟨_, h8, h9⟩ | ⟨h8, _⟩
                · exact ⟨h8, h9⟩
                · rw [hs] at h8; cases h8
              rw [hat2.1]
              have hpos := hat2.2
              have hq1 : 1 / sq i * sq i = 1 := by rw [Rat.div_def, Rat.one_mul, Rat.inv_mul_cancel _ (by grind)]
              have HMU : Hid (∀ U : World, Calls Tryz.prog 14 #[.agg #[.bool (qF (1 / sq i)).1, .string (qF (1 / sq i)).2.1, .string (qF (1 / sq i)).2.2], .agg #[.bool (qF (sq i)).1, .string (qF (sq i)).2.1, .string (qF (sq i)).2.2]] U fun e w' => e = .returned (.agg #[.bool (sgn 1), .string (nu 1), .string (de 1)]) ∧ Below U.heap.size U w') := fun U => by
                have h9 := rMulQ (1 / sq i) (sq i) U (by have := fits_qw (fits_divq fits_one hfq (by grind)); omega) (by have := fits_qw hfq; omega)
                rw [hq1] at h9
                exact h9
              have HNE : Hid (¬ ((qF (sq i)).1 = sgn 0 ∧ (qF (sq i)).2.1 = nu 0 ∧ (qF (sq i)).2.2 = de 0)) := fun e => by
                have h9 : sq i = 0 := qF_same' (Prod.ext e.1 (Prod.ext e.2.1 e.2.2))
                grind
              generalize hzp : qF (sq i) = zp at *
              obtain ⟨pn, px, py⟩ := zp
              generalize hzb : qF (1 / sq i) = zb at *
              obtain ⟨bn, bx, by_⟩ := zb
              simp only at p0 p1' p2 HC0 HMU HNE
              have HBq : Hid (Below W.heap.size W (w9.alloc (FC bn bx by_))) := HB9.out.alloc HB9.out.size _
              have HXq := hid (Box.new w9 bn bx by_)
              generalize cmpQ (sq i) 0 = cv at *
              clear hat hat2 hpos hq1 hs HB9 hzp hzb hfq
              go_upto_region 26 with fail
              generalize (w9.alloc (FC bn bx by_)) = Uq at *
              generalize w9.heap.size = gB at *
              have HELD : Hid (∀ u, Below Uq.heap.size Uq u → u.cell? ⟨G, i * 3, none⟩ = some (.bool pn) ∧ u.cell? ⟨G, i * 3 + 1, none⟩ = some (.string px) ∧ u.cell? ⟨G, i * 3 + 2, none⟩ = some (.string py) ∧ u.cell? ⟨gB, 0, none⟩ = some (.bool bn) ∧ u.cell? ⟨gB, 1, none⟩ = some (.string bx) ∧ u.cell? ⟨gB, 2, none⟩ = some (.string by_)) := fun u hu => by
                have h1 := HBq.out.trans (hu.mono HBq.out.size)
                have h3 := HXq.out.below hu HXq.out.lt
                exact ⟨(h1.cell (p := ⟨G, _, none⟩) hGW).trans p0, (h1.cell (p := ⟨G, _, none⟩) hGW).trans p1', (h1.cell (p := ⟨G, _, none⟩) hGW).trans p2, h3.c0, h3.c1, h3.c2⟩
              clear p0 p1' p2 HXq
              have HBz : Hid (Below Uq.heap.size Uq Uq.drew) := (Below.refl _ _).drew
              refine wp_region_held_drew (S := fun u => u.cell? ⟨G, i * 3, none⟩ = some (.bool pn) ∧ u.cell? ⟨G, i * 3 + 1, none⟩ = some (.string px) ∧ u.cell? ⟨G, i * 3 + 2, none⟩ = some (.string py) ∧ u.cell? ⟨gB, 0, none⟩ = some (.bool bn) ∧ u.cell? ⟨gB, 1, none⟩ = some (.string bx) ∧ u.cell? ⟨gB, 2, none⟩ = some (.string by_)) (by kernel_rfl) (HELD.out _ HBz.out) (fun hSd => ?_)
              generalize Uq.drew = u0 at *
              refine wpAnyH_take (i := 0) (oi := _) (v := .slice (some ⟨G, 0, none⟩) n n) rfl (by kernel_rfl) (by kernel_rfl) (by kernel_rfl) (fun _ _ _ h => h) (Or.inl ⟨by rfl, ?_⟩) (by assumption) ?_
              · intro u' hSu
                (try simp only [List.getElem_toArray, List.getElem_cons_zero])
                go_simp
              (try simp only [List.getElem_toArray, List.getElem_cons_zero])
              (try simp only [Act.put, List.setIfInBounds_toArray, List.set_cons_zero, List.set_cons_succ])
              refine wpAnyH_take (i := 1) (oi := _) (v := .int .i64 (i : Nat)) rfl (by kernel_rfl) (by kernel_rfl) (by kernel_rfl) (fun _ _ _ h => h) (Or.inl ⟨by rfl, ?_⟩) (by assumption) ?_
              · intro u' hSu
                (try simp only [List.getElem_toArray, List.getElem_cons_zero, List.getElem_cons_succ])
                go_simp
              (try simp only [List.getElem_toArray, List.getElem_cons_zero, List.getElem_cons_succ])
              (try simp only [Act.put, List.setIfInBounds_toArray, List.set_cons_zero, List.set_cons_succ])
              refine wpAnyH_take (i := 2) (oi := _) (v := .pointer (some ⟨G, i * 3, none⟩)) rfl (by kernel_rfl) (by kernel_rfl) (by kernel_rfl) (fun _ _ _ h => h) (Or.inl ⟨by rfl, ?_⟩) (by assumption) ?_
              · intro u' hSu
                (try simp only [List.getElem_toArray, List.getElem_cons_zero, List.getElem_cons_succ])
                go_simp
              (try simp only [List.getElem_toArray, List.getElem_cons_zero, List.getElem_cons_succ])
              (try simp only [Act.put, List.setIfInBounds_toArray, List.set_cons_zero, List.set_cons_succ])
              refine wpAnyH_take (i := 3) (oi := _) (v := .agg #[.bool pn, .string px, .string py]) rfl (by kernel_rfl) (by kernel_rfl) (by kernel_rfl) (fun _ _ _ h => h) (Or.inl ⟨by rfl, ?_⟩) (by assumption) ?_
              · intro u' hSu
                (try simp only [List.getElem_toArray, List.getElem_cons_zero, List.getElem_cons_succ])
                obtain ⟨s0, s1, s2, s3, s4, s5⟩ := hSu
                go_simp
              (try simp only [List.getElem_toArray, List.getElem_cons_zero, List.getElem_cons_succ])
              (try simp only [Act.put, List.setIfInBounds_toArray, List.set_cons_zero, List.set_cons_succ])
              refine wpAnyH_ready (rs := [4]) (by kernel_rfl) (by simp) (AllReadyH.cons rfl ?_ (AllReadyH.nil))
              · intro K' hK'
                (try simp only [List.getElem_toArray, List.getElem_cons_zero, List.getElem_cons_succ])
                go_simp
                refine (HO0.out _).mono ?_
                rintro e q1 ⟨rfl, hb⟩
                replace HBz := hid (HBz.out.trans (hb.mono HBz.out.size))
                refine hK'.out _ _ (HELD.out _ HBz.out) (fun hSe => ?_)
                clear hb
                clear hK' K' hSd
                have hSd := hSe
                clear hSe
                (try simp only [List.getElem_toArray, List.getElem_cons_zero, List.getElem_cons_succ])
                (try simp only [Act.put, List.setIfInBounds_toArray, List.set_cons_zero, List.set_cons_succ])
                refine wpAnyH_ready (rs := [5]) (by kernel_rfl) (by simp) (AllReadyH.cons rfl ?_ (AllReadyH.nil))
                · intro K' hK'
                  (try simp only [List.getElem_toArray, List.getElem_cons_zero, List.getElem_cons_succ])
                  go_simp
                  refine (HC0.out _).mono ?_
                  rintro e q2 ⟨rfl, hb⟩
                  replace HBz := hid (HBz.out.trans (hb.mono HBz.out.size))
                  refine hK'.out _ _ (HELD.out _ HBz.out) (fun hSe => ?_)
                  clear hb
                  clear hK' K' hSd
                  have hSd := hSe
                  clear hSe
                  (try simp only [List.getElem_toArray, List.getElem_cons_zero, List.getElem_cons_succ])
                  (try simp only [Act.put, List.setIfInBounds_toArray, List.set_cons_zero, List.set_cons_succ])
                  refine wpAnyH_take (i := 6) (oi := _) (v := .bool false) rfl (by kernel_rfl) (by kernel_rfl) (by kernel_rfl) (fun _ _ _ h => h) (Or.inl ⟨by rfl, ?_⟩) (by assumption) ?_
                  · intro u' hSu
                    (try simp only [List.getElem_toArray, List.getElem_cons_zero, List.getElem_cons_succ])
                    go_simp
                    (first | exact HC0N.out | exact Int.not_lt.1 HC0N.out)
                  (try simp only [List.getElem_toArray, List.getElem_cons_zero, List.getElem_cons_succ])
                  (try simp only [Act.put, List.setIfInBounds_toArray, List.set_cons_zero, List.set_cons_succ])
                  refine wpAnyH_take (i := 7) (oi := _) (v := .bool false) rfl (by kernel_rfl) (by kernel_rfl) (by kernel_rfl) (fun _ _ _ h => h) (Or.inl ⟨by rfl, ?_⟩) (by assumption) ?_
                  · intro u' hSu
                    (try simp only [List.getElem_toArray, List.getElem_cons_zero, List.getElem_cons_succ])
                    go_simp
                  (try simp only [List.getElem_toArray, List.getElem_cons_zero, List.getElem_cons_succ])
                  (try simp only [Act.put, List.setIfInBounds_toArray, List.set_cons_zero, List.set_cons_succ])
                  refine wpAnyH_take (i := 8) (oi := _) (v := .int .i64 0) rfl (by kernel_rfl) (by kernel_rfl) (by kernel_rfl) (fun _ _ _ h => h) (Or.inl ⟨by rfl, ?_⟩) (by assumption) ?_
                  · intro u' hSu
                    (try simp only [List.getElem_toArray, List.getElem_cons_zero, List.getElem_cons_succ])
                    go_simp
                  (try simp only [List.getElem_toArray, List.getElem_cons_zero, List.getElem_cons_succ])
                  (try simp only [Act.put, List.setIfInBounds_toArray, List.set_cons_zero, List.set_cons_succ])
                  refine wpAnyH_take (i := 9) (oi := _) (v := .bool true) rfl (by kernel_rfl) (by kernel_rfl) (by kernel_rfl) (fun _ _ _ h => h) (Or.inl ⟨by rfl, ?_⟩) (by assumption) ?_
                  · intro u' hSu
                    (try simp only [List.getElem_toArray, List.getElem_cons_zero, List.getElem_cons_succ])
                    go_simp
                  (try simp only [List.getElem_toArray, List.getElem_cons_zero, List.getElem_cons_succ])
                  (try simp only [Act.put, List.setIfInBounds_toArray, List.set_cons_zero, List.set_cons_succ])
                  refine wpAnyH_take (i := 10) (oi := _) (v := .slice (some ⟨G, 0, none⟩) n n) rfl (by kernel_rfl) (by kernel_rfl) (by kernel_rfl) (fun _ _ _ h => h) (Or.inl ⟨by rfl, ?_⟩) (by assumption) ?_
                  · intro u' hSu
                    (try simp only [List.getElem_toArray, List.getElem_cons_zero, List.getElem_cons_succ])
                    go_simp
                  (try simp only [List.getElem_toArray, List.getElem_cons_zero, List.getElem_cons_succ])
                  (try simp only [Act.put, List.setIfInBounds_toArray, List.set_cons_zero, List.set_cons_succ])
                  refine wpAnyH_take (i := 11) (oi := _) (v := .int .i64 (i : Nat)) rfl (by kernel_rfl) (by kernel_rfl) (by kernel_rfl) (fun _ _ _ h => h) (Or.inl ⟨by rfl, ?_⟩) (by assumption) ?_
                  · intro u' hSu
                    (try simp only [List.getElem_toArray, List.getElem_cons_zero, List.getElem_cons_succ])
                    go_simp
                  (try simp only [List.getElem_toArray, List.getElem_cons_zero, List.getElem_cons_succ])
                  (try simp only [Act.put, List.setIfInBounds_toArray, List.set_cons_zero, List.set_cons_succ])
                  refine wpAnyH_take (i := 12) (oi := _) (v := .pointer (some ⟨G, i * 3, none⟩)) rfl (by kernel_rfl) (by kernel_rfl) (by kernel_rfl) (fun _ _ _ h => h) (Or.inl ⟨by rfl, ?_⟩) (by assumption) ?_
                  · intro u' hSu
                    (try simp only [List.getElem_toArray, List.getElem_cons_zero, List.getElem_cons_succ])
                    go_simp
                  (try simp only [List.getElem_toArray, List.getElem_cons_zero, List.getElem_cons_succ])
                  (try simp only [Act.put, List.setIfInBounds_toArray, List.set_cons_zero, List.set_cons_succ])
                  refine wpAnyH_take (i := 13) (oi := _) (v := .agg #[.bool pn, .string px, .string py]) rfl (by kernel_rfl) (by kernel_rfl) (by kernel_rfl) (fun _ _ _ h => h) (Or.inl ⟨by rfl, ?_⟩) (by assumption) ?_
                  · intro u' hSu
                    (try simp only [List.getElem_toArray, List.getElem_cons_zero, List.getElem_cons_succ])
                    obtain ⟨s0, s1, s2, s3, s4, s5⟩ := hSu
                    go_simp
                  (try simp only [List.getElem_toArray, List.getElem_cons_zero, List.getElem_cons_succ])
                  (try simp only [Act.put, List.setIfInBounds_toArray, List.set_cons_zero, List.set_cons_succ])
                  refine wpAnyH_ready (rs := [14]) (by kernel_rfl) (by simp) (AllReadyH.cons rfl ?_ (AllReadyH.nil))
                  · intro K' hK'
                    (try simp only [List.getElem_toArray, List.getElem_cons_zero, List.getElem_cons_succ])
                    go_simp
                    refine (HO0.out _).mono ?_
                    rintro e q3 ⟨rfl, hb⟩
                    replace HBz := hid (HBz.out.trans (hb.mono HBz.out.size))
                    refine hK'.out _ _ (HELD.out _ HBz.out) (fun hSe => ?_)
                    clear hb
                    clear hK' K' hSd
                    have hSd := hSe
                    clear hSe
                    (try simp only [List.getElem_toArray, List.getElem_cons_zero, List.getElem_cons_succ])
                    (try simp only [Act.put, List.setIfInBounds_toArray, List.set_cons_zero, List.set_cons_succ])
                    refine wpAnyH_take (i := 15) (oi := _) (v := .bool true) rfl (by kernel_rfl) (by kernel_rfl) (by kernel_rfl) (fun _ _ _ h => h) (Or.inl ⟨by rfl, ?_⟩) (by assumption) ?_
                    · intro u' hSu
                      (try simp only [List.getElem_toArray, List.getElem_cons_zero, List.getElem_cons_succ])
                      go_simp
                      (try exact fun a b c => HNE.out ⟨a, bytes_like' b, bytes_like' c⟩)
                    (try simp only [List.getElem_toArray, List.getElem_cons_zero, List.getElem_cons_succ])
                    (try simp only [Act.put, List.setIfInBounds_toArray, List.set_cons_zero, List.set_cons_succ])
                    refine wpAnyH_take (i := 16) (oi := _) (v := .bool false) rfl (by kernel_rfl) (by kernel_rfl) (by kernel_rfl) (fun _ _ _ h => h) (Or.inl ⟨by rfl, ?_⟩) (by assumption) ?_
                    · intro u' hSu
                      (try simp only [List.getElem_toArray, List.getElem_cons_zero, List.getElem_cons_succ])
                      go_simp
                    (try simp only [List.getElem_toArray, List.getElem_cons_zero, List.getElem_cons_succ])
                    (try simp only [Act.put, List.setIfInBounds_toArray, List.set_cons_zero, List.set_cons_succ])
                    refine wpAnyH_take (i := 17) (oi := _) (v := .bool false) rfl (by kernel_rfl) (by kernel_rfl) (by kernel_rfl) (fun _ _ _ h => h) (Or.inl ⟨by rfl, ?_⟩) (by assumption) ?_
                    · intro u' hSu
                      (try simp only [List.getElem_toArray, List.getElem_cons_zero, List.getElem_cons_succ])
                      go_simp
                    (try simp only [List.getElem_toArray, List.getElem_cons_zero, List.getElem_cons_succ])
                    (try simp only [Act.put, List.setIfInBounds_toArray, List.set_cons_zero, List.set_cons_succ])
                    refine wpAnyH_done (by kernel_rfl) ?_ _
                    clear hSd
                    go_upto_region 28 with fail
                    replace HBz := hid HBz.out.drew
                    refine wp_region_held_drew (S := fun u => u.cell? ⟨G, i * 3, none⟩ = some (.bool pn) ∧ u.cell? ⟨G, i * 3 + 1, none⟩ = some (.string px) ∧ u.cell? ⟨G, i * 3 + 2, none⟩ = some (.string py) ∧ u.cell? ⟨gB, 0, none⟩ = some (.bool bn) ∧ u.cell? ⟨gB, 1, none⟩ = some (.string bx) ∧ u.cell? ⟨gB, 2, none⟩ = some (.string by_)) (by kernel_rfl) (HELD.out _ HBz.out) (fun hSd => ?_)
                    generalize q3.drew = u4 at *
                    refine wpAnyH_take (i := 0) (oi := _) (v := .int .i64 0) rfl (by kernel_rfl) (by kernel_rfl) (by kernel_rfl) (fun _ _ _ h => h) (Or.inl ⟨by rfl, ?_⟩) (by assumption) ?_
                    · intro u' hSu
                      (try simp only [List.getElem_toArray, List.getElem_cons_zero])
                      go_simp
                    (try simp only [List.getElem_toArray, List.getElem_cons_zero])
                    (try simp only [Act.put, List.setIfInBounds_toArray, List.set_cons_zero, List.set_cons_succ])
                    refine wpAnyH_take (i := 1) (oi := _) (v := .bool true) rfl (by kernel_rfl) (by kernel_rfl) (by kernel_rfl) (fun _ _ _ h => h) (Or.inl ⟨by rfl, ?_⟩) (by assumption) ?_
                    · intro u' hSu
                      (try simp only [List.getElem_toArray, List.getElem_cons_zero, List.getElem_cons_succ])
                      go_simp
                    (try simp only [List.getElem_toArray, List.getElem_cons_zero, List.getElem_cons_succ])
                    (try simp only [Act.put, List.setIfInBounds_toArray, List.set_cons_zero, List.set_cons_succ])
                    refine wpAnyH_take (i := 2) (oi := _) (v := .bool true) rfl (by kernel_rfl) (by kernel_rfl) (by kernel_rfl) (fun _ _ _ h => h) (Or.inl ⟨by rfl, ?_⟩) (by assumption) ?_
                    · intro u' hSu
                      (try simp only [List.getElem_toArray, List.getElem_cons_zero, List.getElem_cons_succ])
                      go_simp
                    (try simp only [List.getElem_toArray, List.getElem_cons_zero, List.getElem_cons_succ])
                    (try simp only [Act.put, List.setIfInBounds_toArray, List.set_cons_zero, List.set_cons_succ])
                    refine wpAnyH_take (i := 3) (oi := _) (v := .agg #[.bool bn, .string bx, .string by_]) rfl (by kernel_rfl) (by kernel_rfl) (by kernel_rfl) (fun _ _ _ h => h) (Or.inl ⟨by rfl, ?_⟩) (by assumption) ?_
                    · intro u' hSu
                      (try simp only [List.getElem_toArray, List.getElem_cons_zero, List.getElem_cons_succ])
                      obtain ⟨s0, s1, s2, s3, s4, s5⟩ := hSu
                      go_simp
                    (try simp only [List.getElem_toArray, List.getElem_cons_zero, List.getElem_cons_succ])
                    (try simp only [Act.put, List.setIfInBounds_toArray, List.set_cons_zero, List.set_cons_succ])
                    refine wpAnyH_take (i := 4) (oi := _) (v := .slice (some ⟨G, 0, none⟩) n n) rfl (by kernel_rfl) (by kernel_rfl) (by kernel_rfl) (fun _ _ _ h => h) (Or.inl ⟨by rfl, ?_⟩) (by assumption) ?_
                    · intro u' hSu
                      (try simp only [List.getElem_toArray, List.getElem_cons_zero, List.getElem_cons_succ])
                      go_simp
                    (try simp only [List.getElem_toArray, List.getElem_cons_zero, List.getElem_cons_succ])
                    (try simp only [Act.put, List.setIfInBounds_toArray, List.set_cons_zero, List.set_cons_succ])
                    refine wpAnyH_take (i := 5) (oi := _) (v := .int .i64 (i : Nat)) rfl (by kernel_rfl) (by kernel_rfl) (by kernel_rfl) (fun _ _ _ h => h) (Or.inl ⟨by rfl, ?_⟩) (by assumption) ?_
                    · intro u' hSu
                      (try simp only [List.getElem_toArray, List.getElem_cons_zero, List.getElem_cons_succ])
                      go_simp
                    (try simp only [List.getElem_toArray, List.getElem_cons_zero, List.getElem_cons_succ])
                    (try simp only [Act.put, List.setIfInBounds_toArray, List.set_cons_zero, List.set_cons_succ])
                    refine wpAnyH_take (i := 6) (oi := _) (v := .pointer (some ⟨G, i * 3, none⟩)) rfl (by kernel_rfl) (by kernel_rfl) (by kernel_rfl) (fun _ _ _ h => h) (Or.inl ⟨by rfl, ?_⟩) (by assumption) ?_
                    · intro u' hSu
                      (try simp only [List.getElem_toArray, List.getElem_cons_zero, List.getElem_cons_succ])
                      go_simp
                    (try simp only [List.getElem_toArray, List.getElem_cons_zero, List.getElem_cons_succ])
                    (try simp only [Act.put, List.setIfInBounds_toArray, List.set_cons_zero, List.set_cons_succ])
                    refine wpAnyH_take (i := 7) (oi := _) (v := .agg #[.bool pn, .string px, .string py]) rfl (by kernel_rfl) (by kernel_rfl) (by kernel_rfl) (fun _ _ _ h => h) (Or.inl ⟨by rfl, ?_⟩) (by assumption) ?_
                    · intro u' hSu
                      (try simp only [List.getElem_toArray, List.getElem_cons_zero, List.getElem_cons_succ])
                      obtain ⟨s0, s1, s2, s3, s4, s5⟩ := hSu
                      go_simp
                    (try simp only [List.getElem_toArray, List.getElem_cons_zero, List.getElem_cons_succ])
                    (try simp only [Act.put, List.setIfInBounds_toArray, List.set_cons_zero, List.set_cons_succ])
                    refine wpAnyH_ready (rs := [8]) (by kernel_rfl) (by simp) (AllReadyH.cons rfl ?_ (AllReadyH.nil))
                    · intro K' hK'
                      (try simp only [List.getElem_toArray, List.getElem_cons_zero, List.getElem_cons_succ])
                      go_simp
                      refine (HMU.out _).mono ?_
                      rintro e z1 ⟨rfl, hb⟩
                      replace HBz := hid (HBz.out.trans (hb.mono HBz.out.size))
                      refine hK'.out _ _ (HELD.out _ HBz.out) (fun hSe => ?_)
                      clear hb
                      clear hK' K' hSd
                      have hSd := hSe
                      clear hSe
                      (try simp only [List.getElem_toArray, List.getElem_cons_zero, List.getElem_cons_succ])
                      (try simp only [Act.put, List.setIfInBounds_toArray, List.set_cons_zero, List.set_cons_succ])
                      refine wpAnyH_ready (rs := [9]) (by kernel_rfl) (by simp) (AllReadyH.cons rfl ?_ (AllReadyH.nil))
                      · intro K' hK'
                        (try simp only [List.getElem_toArray, List.getElem_cons_zero, List.getElem_cons_succ])
                        go_simp
                        refine (HO1.out _).mono ?_
                        rintro e z2 ⟨rfl, hb⟩
                        replace HBz := hid (HBz.out.trans (hb.mono HBz.out.size))
                        refine hK'.out _ _ (HELD.out _ HBz.out) (fun hSe => ?_)
                        clear hb
                        clear hK' K' hSd
                        have hSd := hSe
                        clear hSe
                        (try simp only [List.getElem_toArray, List.getElem_cons_zero, List.getElem_cons_succ])
                        (try simp only [Act.put, List.setIfInBounds_toArray, List.set_cons_zero, List.set_cons_succ])
                        refine wpAnyH_take (i := 10) (oi := _) (v := .bool false) rfl (by kernel_rfl) (by kernel_rfl) (by kernel_rfl) (fun _ _ _ h => h) (Or.inl ⟨by rfl, ?_⟩) (by assumption) ?_
                        · intro u' hSu
                          (try simp only [List.getElem_toArray, List.getElem_cons_zero, List.getElem_cons_succ])
                          go_simp
                        (try simp only [List.getElem_toArray, List.getElem_cons_zero, List.getElem_cons_succ])
                        (try simp only [Act.put, List.setIfInBounds_toArray, List.set_cons_zero, List.set_cons_succ])
                        refine wpAnyH_take (i := 11) (oi := _) (v := .bool false) rfl (by kernel_rfl) (by kernel_rfl) (by kernel_rfl) (fun _ _ _ h => h) (Or.inl ⟨by rfl, ?_⟩) (by assumption) ?_
                        · intro u' hSu
                          (try simp only [List.getElem_toArray, List.getElem_cons_zero, List.getElem_cons_succ])
                          go_simp
                        (try simp only [List.getElem_toArray, List.getElem_cons_zero, List.getElem_cons_succ])
                        (try simp only [Act.put, List.setIfInBounds_toArray, List.set_cons_zero, List.set_cons_succ])
                        refine wpAnyH_done (by kernel_rfl) ?_ _
                        clear hSd
                        have HBN : Hid (Below W.heap.size W z2) := HBq.out.trans (HBz.out.mono HBq.out.size)
                        go_wp2
                        go_roundw
                        case rel => exact ⟨i + 1, by omega, by go_num, HBN⟩
                        case measure => simp [intOf]; omega
            · have hz : sq i = 0 := by
                rcases hat with ⟨h8, _, _⟩ | ⟨_, h9⟩
                · rw [hs] at h8; cases h8
                · exact h9
              rw [hz] at p0 p1' p2 HC0 HC0N
              have HBq : Hid (Below W.heap.size W (w9.alloc (FC false ⟨#[]⟩ ⟨#[]⟩))) := HB9.out.alloc HB9.out.size _
              have HXq := hid (Box.new w9 false ⟨#[]⟩ ⟨#[]⟩)
              have HC0' : Hid (∀ U : World, Calls Tryz.prog 15 #[.agg #[.bool (sgn 0), .string (nu 0), .string (de 0)], .agg #[.bool (sgn 0), .string (nu 0), .string (de 0)]] U fun e w' => e = .returned (.int .i64 (cmpQ 0 0)) ∧ Below U.heap.size U w') := HC0.out
              have p0' : W.cell? ⟨G, i * 3, none⟩ = some (.bool (sgn 0)) := p0
              have p1'' : W.cell? ⟨G, i * 3 + 1, none⟩ = some (.string (nu 0)) := p1'
              have p2' : W.cell? ⟨G, i * 3 + 2, none⟩ = some (.string (de 0)) := p2
              clear HC0 p0 p1' p2
              have HC0 := HC0'
              have p0 := p0'
              have p1' := p1''
              have p2 := p2'
              clear HC0' p0' p1'' p2'
              generalize cmpQ 0 0 = cv at *
              clear hat hz hs HB9 hfq
              go_upto_region 26 with fail
              generalize (w9.alloc (FC false ⟨#[]⟩ ⟨#[]⟩)) = Uq at *
              generalize w9.heap.size = gB at *
              have HELD : Hid (∀ u, Below Uq.heap.size Uq u → u.cell? ⟨G, i * 3, none⟩ = some (.bool (sgn 0)) ∧ u.cell? ⟨G, i * 3 + 1, none⟩ = some (.string (nu 0)) ∧ u.cell? ⟨G, i * 3 + 2, none⟩ = some (.string (de 0)) ∧ u.cell? ⟨gB, 0, none⟩ = some (.bool false) ∧ u.cell? ⟨gB, 1, none⟩ = some (.string ⟨#[]⟩) ∧ u.cell? ⟨gB, 2, none⟩ = some (.string ⟨#[]⟩)) := fun u hu => by
                have h1 := HBq.out.trans (hu.mono HBq.out.size)
                have h3 := HXq.out.below hu HXq.out.lt
                exact ⟨(h1.cell (p := ⟨G, _, none⟩) hGW).trans p0, (h1.cell (p := ⟨G, _, none⟩) hGW).trans p1', (h1.cell (p := ⟨G, _, none⟩) hGW).trans p2, h3.c0, h3.c1, h3.c2⟩
              clear p0 p1' p2 HXq
              have HBz : Hid (Below Uq.heap.size Uq Uq.drew) := (Below.refl _ _).drew
              refine wp_region_held_drew (S := fun u => u.cell? ⟨G, i * 3, none⟩ = some (.bool (sgn 0)) ∧ u.cell? ⟨G, i * 3 + 1, none⟩ = some (.string (nu 0)) ∧ u.cell? ⟨G, i * 3 + 2, none⟩ = some (.string (de 0)) ∧ u.cell? ⟨gB, 0, none⟩ = some (.bool false) ∧ u.cell? ⟨gB, 1, none⟩ = some (.string ⟨#[]⟩) ∧ u.cell? ⟨gB, 2, none⟩ = some (.string ⟨#[]⟩)) (by kernel_rfl) (HELD.out _ HBz.out) (fun hSd => ?_)
              generalize Uq.drew = u0 at *
              refine wpAnyH_take (i := 0) (oi := _) (v := .slice (some ⟨G, 0, none⟩) n n) rfl (by kernel_rfl) (by kernel_rfl) (by kernel_rfl) (fun _ _ _ h => h) (Or.inl ⟨by rfl, ?_⟩) (by assumption) ?_
              · intro u' hSu
                (try simp only [List.getElem_toArray, List.getElem_cons_zero])
                go_simp
              (try simp only [List.getElem_toArray, List.getElem_cons_zero])
              (try simp only [Act.put, List.setIfInBounds_toArray, List.set_cons_zero, List.set_cons_succ])
              refine wpAnyH_take (i := 1) (oi := _) (v := .int .i64 (i : Nat)) rfl (by kernel_rfl) (by kernel_rfl) (by kernel_rfl) (fun _ _ _ h => h) (Or.inl ⟨by rfl, ?_⟩) (by assumption) ?_
              · intro u' hSu
                (try simp only [List.getElem_toArray, List.getElem_cons_zero, List.getElem_cons_succ])
                go_simp
              (try simp only [List.getElem_toArray, List.getElem_cons_zero, List.getElem_cons_succ])
              (try simp only [Act.put, List.setIfInBounds_toArray, List.set_cons_zero, List.set_cons_succ])
              refine wpAnyH_take (i := 2) (oi := _) (v := .pointer (some ⟨G, i * 3, none⟩)) rfl (by kernel_rfl) (by kernel_rfl) (by kernel_rfl) (fun _ _ _ h => h) (Or.inl ⟨by rfl, ?_⟩) (by assumption) ?_
              · intro u' hSu
                (try simp only [List.getElem_toArray, List.getElem_cons_zero, List.getElem_cons_succ])
                go_simp
              (try simp only [List.getElem_toArray, List.getElem_cons_zero, List.getElem_cons_succ])
              (try simp only [Act.put, List.setIfInBounds_toArray, List.set_cons_zero, List.set_cons_succ])
              refine wpAnyH_take (i := 3) (oi := _) (v := .agg #[.bool (sgn 0), .string (nu 0), .string (de 0)]) rfl (by kernel_rfl) (by kernel_rfl) (by kernel_rfl) (fun _ _ _ h => h) (Or.inl ⟨by rfl, ?_⟩) (by assumption) ?_
              · intro u' hSu
                (try simp only [List.getElem_toArray, List.getElem_cons_zero, List.getElem_cons_succ])
                obtain ⟨s0, s1, s2, s3, s4, s5⟩ := hSu
                go_simp
              (try simp only [List.getElem_toArray, List.getElem_cons_zero, List.getElem_cons_succ])
              (try simp only [Act.put, List.setIfInBounds_toArray, List.set_cons_zero, List.set_cons_succ])
              refine wpAnyH_ready (rs := [4]) (by kernel_rfl) (by simp) (AllReadyH.cons rfl ?_ (AllReadyH.nil))
              · intro K' hK'
                (try simp only [List.getElem_toArray, List.getElem_cons_zero, List.getElem_cons_succ])
                go_simp
                refine (HO0.out _).mono ?_
                rintro e q1 ⟨rfl, hb⟩
                replace HBz := hid (HBz.out.trans (hb.mono HBz.out.size))
                refine hK'.out _ _ (HELD.out _ HBz.out) (fun hSe => ?_)
                clear hb
                clear hK' K' hSd
                have hSd := hSe
                clear hSe
                (try simp only [List.getElem_toArray, List.getElem_cons_zero, List.getElem_cons_succ])
                (try simp only [Act.put, List.setIfInBounds_toArray, List.set_cons_zero, List.set_cons_succ])
                refine wpAnyH_ready (rs := [5]) (by kernel_rfl) (by simp) (AllReadyH.cons rfl ?_ (AllReadyH.nil))
                · intro K' hK'
                  (try simp only [List.getElem_toArray, List.getElem_cons_zero, List.getElem_cons_succ])
                  go_simp
                  refine (HC0.out _).mono ?_
                  rintro e q2 ⟨rfl, hb⟩
                  replace HBz := hid (HBz.out.trans (hb.mono HBz.out.size))
                  refine hK'.out _ _ (HELD.out _ HBz.out) (fun hSe => ?_)
                  clear hb
                  clear hK' K' hSd
                  have hSd := hSe
                  clear hSe
                  (try simp only [List.getElem_toArray, List.getElem_cons_zero, List.getElem_cons_succ])
                  (try simp only [Act.put, List.setIfInBounds_toArray, List.set_cons_zero, List.set_cons_succ])
                  refine wpAnyH_take (i := 6) (oi := _) (v := .bool false) rfl (by kernel_rfl) (by kernel_rfl) (by kernel_rfl) (fun _ _ _ h => h) (Or.inl ⟨by rfl, ?_⟩) (by assumption) ?_
                  · intro u' hSu
                    (try simp only [List.getElem_toArray, List.getElem_cons_zero, List.getElem_cons_succ])
                    go_simp
                    (first | exact HC0N.out | exact Int.not_lt.1 HC0N.out)
                  (try simp only [List.getElem_toArray, List.getElem_cons_zero, List.getElem_cons_succ])
                  (try simp only [Act.put, List.setIfInBounds_toArray, List.set_cons_zero, List.set_cons_succ])
                  refine wpAnyH_take (i := 7) (oi := _) (v := .bool false) rfl (by kernel_rfl) (by kernel_rfl) (by kernel_rfl) (fun _ _ _ h => h) (Or.inl ⟨by rfl, ?_⟩) (by assumption) ?_
                  · intro u' hSu
                    (try simp only [List.getElem_toArray, List.getElem_cons_zero, List.getElem_cons_succ])
                    go_simp
                  (try simp only [List.getElem_toArray, List.getElem_cons_zero, List.getElem_cons_succ])
                  (try simp only [Act.put, List.setIfInBounds_toArray, List.set_cons_zero, List.set_cons_succ])
                  refine wpAnyH_take (i := 8) (oi := _) (v := .int .i64 16) rfl (by kernel_rfl) (by kernel_rfl) (by kernel_rfl) (fun _ _ _ h => h) (Or.inl ⟨by rfl, ?_⟩) (by assumption) ?_
                  · intro u' hSu
                    (try simp only [List.getElem_toArray, List.getElem_cons_zero, List.getElem_cons_succ])
                    go_simp
                  (try simp only [List.getElem_toArray, List.getElem_cons_zero, List.getElem_cons_succ])
                  (try simp only [Act.put, List.setIfInBounds_toArray, List.set_cons_zero, List.set_cons_succ])
                  refine wpAnyH_take (i := 9) (oi := _) (v := .bool false) rfl (by kernel_rfl) (by kernel_rfl) (by kernel_rfl) (fun _ _ _ h => h) (Or.inl ⟨by rfl, ?_⟩) (by assumption) ?_
                  · intro u' hSu
                    (try simp only [List.getElem_toArray, List.getElem_cons_zero, List.getElem_cons_succ])
                    go_simp
                  (try simp only [List.getElem_toArray, List.getElem_cons_zero, List.getElem_cons_succ])
                  (try simp only [Act.put, List.setIfInBounds_toArray, List.set_cons_zero, List.set_cons_succ])
                  refine wpAnyH_take (i := 10) (oi := _) (v := .slice (some ⟨G, 0, none⟩) n n) rfl (by kernel_rfl) (by kernel_rfl) (by kernel_rfl) (fun _ _ _ h => h) (Or.inl ⟨by rfl, ?_⟩) (by assumption) ?_
                  · intro u' hSu
                    (try simp only [List.getElem_toArray, List.getElem_cons_zero, List.getElem_cons_succ])
                    go_simp
                  (try simp only [List.getElem_toArray, List.getElem_cons_zero, List.getElem_cons_succ])
                  (try simp only [Act.put, List.setIfInBounds_toArray, List.set_cons_zero, List.set_cons_succ])
                  refine wpAnyH_take (i := 11) (oi := _) (v := .int .i64 (i : Nat)) rfl (by kernel_rfl) (by kernel_rfl) (by kernel_rfl) (fun _ _ _ h => h) (Or.inl ⟨by rfl, ?_⟩) (by assumption) ?_
                  · intro u' hSu
                    (try simp only [List.getElem_toArray, List.getElem_cons_zero, List.getElem_cons_succ])
                    go_simp
                  (try simp only [List.getElem_toArray, List.getElem_cons_zero, List.getElem_cons_succ])
                  (try simp only [Act.put, List.setIfInBounds_toArray, List.set_cons_zero, List.set_cons_succ])
                  refine wpAnyH_take (i := 12) (oi := _) (v := .pointer (some ⟨G, i * 3, none⟩)) rfl (by kernel_rfl) (by kernel_rfl) (by kernel_rfl) (fun _ _ _ h => h) (Or.inl ⟨by rfl, ?_⟩) (by assumption) ?_
                  · intro u' hSu
                    (try simp only [List.getElem_toArray, List.getElem_cons_zero, List.getElem_cons_succ])
                    go_simp
                  (try simp only [List.getElem_toArray, List.getElem_cons_zero, List.getElem_cons_succ])
                  (try simp only [Act.put, List.setIfInBounds_toArray, List.set_cons_zero, List.set_cons_succ])
                  refine wpAnyH_take (i := 13) (oi := _) (v := .agg #[.bool (sgn 0), .string (nu 0), .string (de 0)]) rfl (by kernel_rfl) (by kernel_rfl) (by kernel_rfl) (fun _ _ _ h => h) (Or.inl ⟨by rfl, ?_⟩) (by assumption) ?_
                  · intro u' hSu
                    (try simp only [List.getElem_toArray, List.getElem_cons_zero, List.getElem_cons_succ])
                    obtain ⟨s0, s1, s2, s3, s4, s5⟩ := hSu
                    go_simp
                  (try simp only [List.getElem_toArray, List.getElem_cons_zero, List.getElem_cons_succ])
                  (try simp only [Act.put, List.setIfInBounds_toArray, List.set_cons_zero, List.set_cons_succ])
                  refine wpAnyH_ready (rs := [14]) (by kernel_rfl) (by simp) (AllReadyH.cons rfl ?_ (AllReadyH.nil))
                  · intro K' hK'
                    (try simp only [List.getElem_toArray, List.getElem_cons_zero, List.getElem_cons_succ])
                    go_simp
                    refine (HO0.out _).mono ?_
                    rintro e q3 ⟨rfl, hb⟩
                    replace HBz := hid (HBz.out.trans (hb.mono HBz.out.size))
                    refine hK'.out _ _ (HELD.out _ HBz.out) (fun hSe => ?_)
                    clear hb
                    clear hK' K' hSd
                    have hSd := hSe
                    clear hSe
                    (try simp only [List.getElem_toArray, List.getElem_cons_zero, List.getElem_cons_succ])
                    (try simp only [Act.put, List.setIfInBounds_toArray, List.set_cons_zero, List.set_cons_succ])
                    refine wpAnyH_take (i := 15) (oi := _) (v := .bool false) rfl (by kernel_rfl) (by kernel_rfl) (by kernel_rfl) (fun _ _ _ h => h) (Or.inl ⟨by rfl, ?_⟩) (by assumption) ?_
                    · intro u' hSu
                      (try simp only [List.getElem_toArray, List.getElem_cons_zero, List.getElem_cons_succ])
                      go_simp
                    (try simp only [List.getElem_toArray, List.getElem_cons_zero, List.getElem_cons_succ])
                    (try simp only [Act.put, List.setIfInBounds_toArray, List.set_cons_zero, List.set_cons_succ])
                    refine wpAnyH_take (i := 16) (oi := _) (v := .bool false) rfl (by kernel_rfl) (by kernel_rfl) (by kernel_rfl) (fun _ _ _ h => h) (Or.inl ⟨by rfl, ?_⟩) (by assumption) ?_
                    · intro u' hSu
                      (try simp only [List.getElem_toArray, List.getElem_cons_zero, List.getElem_cons_succ])
                      go_simp
                    (try simp only [List.getElem_toArray, List.getElem_cons_zero, List.getElem_cons_succ])
                    (try simp only [Act.put, List.setIfInBounds_toArray, List.set_cons_zero, List.set_cons_succ])
                    refine wpAnyH_take (i := 17) (oi := _) (v := .bool false) rfl (by kernel_rfl) (by kernel_rfl) (by kernel_rfl) (fun _ _ _ h => h) (Or.inl ⟨by rfl, ?_⟩) (by assumption) ?_
                    · intro u' hSu
                      (try simp only [List.getElem_toArray, List.getElem_cons_zero, List.getElem_cons_succ])
                      go_simp
                    (try simp only [List.getElem_toArray, List.getElem_cons_zero, List.getElem_cons_succ])
                    (try simp only [Act.put, List.setIfInBounds_toArray, List.set_cons_zero, List.set_cons_succ])
                    refine wpAnyH_done (by kernel_rfl) ?_ _
                    clear hSd
                    go_upto_region 28 with fail
                    replace HBz := hid HBz.out.drew
                    refine wp_region_held_drew (S := fun u => u.cell? ⟨G, i * 3, none⟩ = some (.bool (sgn 0)) ∧ u.cell? ⟨G, i * 3 + 1, none⟩ = some (.string (nu 0)) ∧ u.cell? ⟨G, i * 3 + 2, none⟩ = some (.string (de 0)) ∧ u.cell? ⟨gB, 0, none⟩ = some (.bool false) ∧ u.cell? ⟨gB, 1, none⟩ = some (.string ⟨#[]⟩) ∧ u.cell? ⟨gB, 2, none⟩ = some (.string ⟨#[]⟩)) (by kernel_rfl) (HELD.out _ HBz.out) (fun hSd => ?_)
                    generalize q3.drew = u4 at *
                    refine wpAnyH_take (i := 0) (oi := _) (v := .int .i64 16) rfl (by kernel_rfl) (by kernel_rfl) (by kernel_rfl) (fun _ _ _ h => h) (Or.inl ⟨by rfl, ?_⟩) (by assumption) ?_
                    · intro u' hSu
                      (try simp only [List.getElem_toArray, List.getElem_cons_zero])
                      go_simp
                    (try simp only [List.getElem_toArray, List.getElem_cons_zero])
                    (try simp only [Act.put, List.setIfInBounds_toArray, List.set_cons_zero, List.set_cons_succ])
                    refine wpAnyH_take (i := 1) (oi := _) (v := .bool false) rfl (by kernel_rfl) (by kernel_rfl) (by kernel_rfl) (fun _ _ _ h => h) (Or.inl ⟨by rfl, ?_⟩) (by assumption) ?_
                    · intro u' hSu
                      (try simp only [List.getElem_toArray, List.getElem_cons_zero, List.getElem_cons_succ])
                      go_simp
                    (try simp only [List.getElem_toArray, List.getElem_cons_zero, List.getElem_cons_succ])
                    (try simp only [Act.put, List.setIfInBounds_toArray, List.set_cons_zero, List.set_cons_succ])
                    refine wpAnyH_take (i := 2) (oi := _) (v := .bool false) rfl (by kernel_rfl) (by kernel_rfl) (by kernel_rfl) (fun _ _ _ h => h) (Or.inl ⟨by rfl, ?_⟩) (by assumption) ?_
                    · intro u' hSu
                      (try simp only [List.getElem_toArray, List.getElem_cons_zero, List.getElem_cons_succ])
                      go_simp
                    (try simp only [List.getElem_toArray, List.getElem_cons_zero, List.getElem_cons_succ])
                    (try simp only [Act.put, List.setIfInBounds_toArray, List.set_cons_zero, List.set_cons_succ])
                    refine wpAnyH_take (i := 3) (oi := _) (v := undef) rfl (by kernel_rfl) (by kernel_rfl) (by kernel_rfl) (fun _ _ _ h => h) (Or.inr ⟨by rfl, rfl⟩) (by assumption) ?_
                    (try simp only [List.getElem_toArray, List.getElem_cons_zero, List.getElem_cons_succ])
                    (try simp only [Act.put, List.setIfInBounds_toArray, List.set_cons_zero, List.set_cons_succ])
                    refine wpAnyH_take (i := 4) (oi := _) (v := undef) rfl (by kernel_rfl) (by kernel_rfl) (by kernel_rfl) (fun _ _ _ h => h) (Or.inr ⟨by rfl, rfl⟩) (by assumption) ?_
                    (try simp only [List.getElem_toArray, List.getElem_cons_zero, List.getElem_cons_succ])
                    (try simp only [Act.put, List.setIfInBounds_toArray, List.set_cons_zero, List.set_cons_succ])
                    refine wpAnyH_take (i := 5) (oi := _) (v := undef) rfl (by kernel_rfl) (by kernel_rfl) (by kernel_rfl) (fun _ _ _ h => h) (Or.inr ⟨by rfl, rfl⟩) (by assumption) ?_
                    (try simp only [List.getElem_toArray, List.getElem_cons_zero, List.getElem_cons_succ])
                    (try simp only [Act.put, List.setIfInBounds_toArray, List.set_cons_zero, List.set_cons_succ])
                    refine wpAnyH_take (i := 6) (oi := _) (v := undef) rfl (by kernel_rfl) (by kernel_rfl) (by kernel_rfl) (fun _ _ _ h => h) (Or.inr ⟨by rfl, rfl⟩) (by assumption) ?_
                    (try simp only [List.getElem_toArray, List.getElem_cons_zero, List.getElem_cons_succ])
                    (try simp only [Act.put, List.setIfInBounds_toArray, List.set_cons_zero, List.set_cons_succ])
                    refine wpAnyH_take (i := 7) (oi := _) (v := undef) rfl (by kernel_rfl) (by kernel_rfl) (by kernel_rfl) (fun _ _ _ h => h) (Or.inr ⟨by rfl, rfl⟩) (by assumption) ?_
                    (try simp only [List.getElem_toArray, List.getElem_cons_zero, List.getElem_cons_succ])
                    (try simp only [Act.put, List.setIfInBounds_toArray, List.set_cons_zero, List.set_cons_succ])
                    refine wpAnyH_take (i := 8) (oi := _) (v := undef) rfl (by kernel_rfl) (by kernel_rfl) (by kernel_rfl) (fun _ _ _ h => h) (Or.inr ⟨by rfl, rfl⟩) (by assumption) ?_
                    (try simp only [List.getElem_toArray, List.getElem_cons_zero, List.getElem_cons_succ])
                    (try simp only [Act.put, List.setIfInBounds_toArray, List.set_cons_zero, List.set_cons_succ])
                    refine wpAnyH_take (i := 9) (oi := _) (v := undef) rfl (by kernel_rfl) (by kernel_rfl) (by kernel_rfl) (fun _ _ _ h => h) (Or.inr ⟨by rfl, rfl⟩) (by assumption) ?_
                    (try simp only [List.getElem_toArray, List.getElem_cons_zero, List.getElem_cons_succ])
                    (try simp only [Act.put, List.setIfInBounds_toArray, List.set_cons_zero, List.set_cons_succ])
                    refine wpAnyH_take (i := 10) (oi := _) (v := undef) rfl (by kernel_rfl) (by kernel_rfl) (by kernel_rfl) (fun _ _ _ h => h) (Or.inr ⟨by rfl, rfl⟩) (by assumption) ?_
                    (try simp only [List.getElem_toArray, List.getElem_cons_zero, List.getElem_cons_succ])
                    (try simp only [Act.put, List.setIfInBounds_toArray, List.set_cons_zero, List.set_cons_succ])
                    refine wpAnyH_take (i := 11) (oi := _) (v := .bool false) rfl (by kernel_rfl) (by kernel_rfl) (by kernel_rfl) (fun _ _ _ h => h) (Or.inl ⟨by rfl, ?_⟩) (by assumption) ?_
                    · intro u' hSu
                      (try simp only [List.getElem_toArray, List.getElem_cons_zero, List.getElem_cons_succ])
                      go_simp
                    (try simp only [List.getElem_toArray, List.getElem_cons_zero, List.getElem_cons_succ])
                    (try simp only [Act.put, List.setIfInBounds_toArray, List.set_cons_zero, List.set_cons_succ])
                    refine wpAnyH_done (by kernel_rfl) ?_ _
                    clear hSd
                    have HBN : Hid (Below W.heap.size W u4) := HBq.out.trans (HBz.out.mono HBq.out.size)
                    go_wp2
                    go_roundw
                    case rel => exact ⟨i + 1, by omega, by go_num, HBN⟩
                    case measure => simp [intOf]; omega
          · obtain rfl : n = i := by omega
            go_wp2
            go_ret
            exact ⟨rfl, HBW.out.trans (HBi.out.mono HBW.out.size)⟩
  · have HCNT := hid (count_more hmany)
    clear hmany
    go_wp2_with fail
    refine (HCL.out _ HM3.out).mono ?_
    rintro e W ⟨x, y, Q, B, rfl, hB, hcs, hbW⟩
    have HBW := hid (HB3.out.trans (hbW.mono HB3.out.size))
    have HMW := hid (HM3.out.below hbW)

    have hQL := hcs.len
    obtain ⟨dx, cx, rfl, -⟩ := owns_slice hcs.row.1
    obtain ⟨dy, cy, hye, hbo, -⟩ := hcs.cl.bos
    obtain ⟨BL, hBL⟩ : ∃ BL, clB n P = BL := ⟨_, rfl⟩
    rw [show (lstN n (cmsB n P) n).map (stB n (cmsB n P)) = BL from hBL] at hye hbo
    rw [hBL] at HCNT HLB hBl hBp
    subst hye
    have HBO := hid hbo
    rw [← HLB.out] at hQL
    rw [hQL]
    obtain ⟨L, hLe⟩ : ∃ L, BL.length = L := ⟨_, rfl⟩
    rw [hLe] at hBl hBp
    simp only [hLe]
    have HLE := hid hLe
    clear hbW hcs hbo hQL hBL hLe HCL HLB HM3 HB3 hB
    have hL0 : ¬ ((L : Int) = 0) := by omega
    have hL1 : ¬ L = 0 := by omega
    go_wp2_with fail
    go_loopw [11, 12] (fun kv iv wr => ∃ (k i : Nat), i ≤ L ∧ iv = .int .i64 i ∧ kv = .int .i64 (k : Nat) ∧ k ≤ i ∧ Hid (k = (BL.take i).count true) ∧ W = wr) (fun _ iv _ => L - (intOf iv).toNat)
    case atStart => exact ⟨0, 0, Nat.zero_le _, rfl, rfl, Nat.le_refl _, rfl, rfl⟩
    case round =>
      obtain ⟨k, i, hi, rfl, rfl, hki, HKC, rfl⟩ := hrel
      by_cases hlt : i < L
      · have hil : i < BL.length := by rw [HLE.out]; exact hlt
        obtain ⟨gy, oy, hde, hgy, c0⟩ := HBO.out i hil
        subst hde
        have HT : Hid ((BL.take (i + 1)).count true = (BL.take i).count true + if BL[i] then 1 else 0) := by
          show _ = _
          rw [List.take_succ_eq_append_getElem hil, List.count_append]
          congr 1
          cases BL[i] <;> rfl
        cases hbv : BL[i] with
        | true =>
          rw [hbv] at c0 HT
          have HK2 : Hid (k + 1 = (BL.take (i + 1)).count true) := by show _ = _; rw [HT.out, HKC.out]; rfl
          go_wp2
          go_roundw
          case rel => exact ⟨k + 1, i + 1, by omega, by go_num, by go_num, by omega, HK2, trivial⟩
          case measure => simp [intOf]; omega
        | false =>
          rw [hbv] at c0 HT
          have HK2 : Hid (k = (BL.take (i + 1)).count true) := by show _ = _; rw [HT.out, HKC.out]; rfl
          go_wp2
          go_roundw
          case rel => exact ⟨k, i + 1, by omega, by go_num, rfl, by omega, HK2, trivial⟩
          case measure => simp [intOf]; omega
      · obtain rfl : L = i := by omega
        have hkc : k = BL.count true := by
          have h9 := HKC.out
          rw [← HLE.out, List.take_length] at h9
          exact h9
        have hk2 : 2 ≤ k := by rw [hkc]; exact HCNT.out
        clear hkc HKC
        have q0 : ¬ ((k : Int) = 0) := by omega
        have q1 : ¬ ((k : Int) = 1) := by omega
        have q2 : (1 : Int) < (k : Int) := by omega
        have q3 : ((k : Int) == 0) = false := by simp; omega
        have q4 : ((k : Int) == 1) = false := by simp; omega
        have q5 : ¬ k = 0 := by omega
        have q6 : ¬ k = 1 := by omega
        have q7 : 1 < k := by omega
        go_wp2
        go_ret
        exact ⟨rfl, HBW.out⟩
end Go.Proofs.YtbejijgelljeaaaGreatDoor

