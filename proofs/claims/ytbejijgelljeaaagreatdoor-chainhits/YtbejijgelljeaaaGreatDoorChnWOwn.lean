/- ChainHits: the law's walk. -/
import Derived.Test.YtbejijgelljeaaaGreatDoorGivCToChnL
namespace Go.Proofs.YtbejijgelljeaaaGreatDoor
open Go.RowKit Go.Shelf

theorem Box.trio {w : World} {g : Nat} {neg : Bool} {num den : ByteArray} (h : Box w g neg num den) : w.cell? ⟨g, 0, none⟩ = some (.bool neg) ∧ w.cell? ⟨g, 1, none⟩ = some (.string num) ∧ w.cell? ⟨g, 2, none⟩ = some (.string den) := ⟨h.c0, h.c1, h.c2⟩
theorem bytes_like {a b : ByteArray} (h : a.toList = b.toList) : a = b := by
  rw [Go.Lib.toList_data, Go.Lib.toList_data] at h
  exact ByteArray.ext (Array.toList_inj.1 h)
theorem cmp_low {p q : Rat} (h : p ≤ q) : ¬ 0 < cmpQ p q := fun e => absurd (cmpQ_pos.1 e) (Rat.not_lt.2 h)
theorem qF_same {p q : Rat} (h : qF p = qF q) : p = q := by
  have := congrArg frQ h
  rwa [frQ_qF, frQ_qF] at this
theorem up_nat {L : List Int} {n : Nat} (h : Up L n) : ∃ S : List Nat, L = iL S ∧ S.Pairwise (· < ·) ∧ ∀ x ∈ S, x < n := by
  obtain ⟨h1, h2⟩ := up_iff.1 h
  have e : L = iL (L.map Int.toNat) := by
    rw [iL, List.map_map]
    refine (List.map_id L).symm.trans (List.map_congr_left fun x hx => ?_)
    have := h1 x hx
    show x = ((x.toNat : Nat) : Int)
    omega
  refine ⟨L.map Int.toNat, e, ?_, fun x hx => ?_⟩
  · rw [List.pairwise_map]
    refine h2.imp_of_mem fun {a b} ha hb hab => ?_
    have := h1 a ha
    have := h1 b hb
    omega
  · obtain ⟨y, hy, rfl⟩ := List.mem_map.1 hx
    have := h1 y hy
    omega
set_option maxRecDepth 100000 in
set_option maxHeartbeats 400000 in
theorem chainHits_big (a0 a2 a3 : Option Addr) (c0 c2 c3 : Nat) (X0 X2 X3 : List Int) (n1 : Int) (w : World) (h0 : X0.length ≤ 140737488355328) (h2 : X2.length ≤ 140737488355328) (h3 : X3.length ≤ 140737488355328) (h : 256 < X0.length + X2.length + X3.length) :
    Calls Tryz.prog 3 #[.slice a0 X0.length c0, .int .i64 n1, .slice a2 X2.length c2, .slice a3 X3.length c3] w fun e w' => e = .returned (.bool true) ∧ Below w.heap.size w w' := by
  have e1 : IntKind.i64.wrap ((X0.length : Int) + (X2.length : Int)) = (X0.length : Int) + (X2.length : Int) := by rw [IntKind.wrap_i64]; omega
  have e2 : IntKind.i64.wrap ((X0.length : Int) + (X2.length : Int) + (X3.length : Int)) = (X0.length : Int) + (X2.length : Int) + (X3.length : Int) := by rw [IntKind.wrap_i64]; omega
  have hg : (256 : Int) < (X0.length : Int) + (X2.length : Int) + (X3.length : Int) := by omega
  go_enter Tryz.func3, Tryz.ntmps3
  go_wp2
  go_ret
  exact ⟨rfl, Below.refl _ _⟩

theorem bL_mono : ∀ {k n : Nat}, k ≤ n → bL k ≤ bL n
  | _, 0, h => by obtain rfl := Nat.le_zero.1 h; exact Nat.le_refl _
  | k, n + 1, h => by
    rcases Nat.lt_or_ge k (n + 1) with h1 | h1
    · exact Nat.le_trans (bL_mono (Nat.lt_succ_iff.1 h1)) (by rw [bL]; omega)
    · obtain rfl : k = n + 1 := by omega
      exact Nat.le_refl _
theorem RwF.away {w : World} {B gB : Nat} {v : Value} {l : List Fr} (h : RwF w B v l) (hne : ∀ x, v.ownBlock = some x → x < gB) (j : Nat) (y : Value) : RwF (w.setCell ⟨gB, j, none⟩ y) B v l := World.ownsRow.kept h (grown_set w gB j y) (by
  cases e : v.ownBlock with
  | none => exact .inl rfl
  | some x => exact .inr fun e' => by have := hne x e; cases e'; omega)
set_option maxRecDepth 100000 in
set_option maxHeartbeats 8000000 in
theorem chainHits_walk (a0 a2 a3 : Option Addr) (c0 c2 c3 : Nat) (X0 X2 X3 : List Int) (n1 : Int) (w : World) (h0 : IntS w a0 X0) (h2 : IntS w a2 X2) (r0 : ∀ x ∈ X0, -9223372036854775808 ≤ x ∧ x ≤ 9223372036854775807) (r2 : ∀ x ∈ X2, -9223372036854775808 ≤ x ∧ x ≤ 9223372036854775807) (hn1 : -9223372036854775808 ≤ n1 ∧ n1 ≤ 9223372036854775807) (hlen : X0.length + X2.length + X3.length ≤ 256) :
    Calls Tryz.prog 3 #[.slice a0 X0.length c0, .int .i64 n1, .slice a2 X2.length c2, .slice a3 X3.length c3] w fun e w' => e = .returned (.bool true) ∧ Below w.heap.size w w' := by
  obtain ⟨i0, hi0, hz0, hz1, hz2⟩ := info_parts Tryz.infoFrac
  have HPN := hid (fun U : World => rPick_any n1 5 U hn1.1 hn1.2 (by omega) (by omega))
  have hp1 := pickN_lt n1 (n := 5) (by omega)
  have HPK := hid (fun U : World => rPick_any ((X3.length : Nat) : Int) 3 U (by omega) (by omega) (by omega) (by omega))
  have hp3 := pickN_lt ((X3.length : Nat) : Int) (n := 3) (by omega)
  clear hn1
  generalize pickN n1 5 = p1 at *
  generalize pickN ((X3.length : Nat) : Int) 3 = p3 at *
  obtain ⟨n, hnn⟩ : ∃ n, n = 1 + p1 := ⟨_, rfl⟩
  obtain ⟨KK, hKK⟩ : ∃ n, n = 3 + p3 := ⟨_, rfl⟩
  have HEN : Hid ((1 : Int) + (p1 : Int) = (n : Int)) := by show _ = _; omega
  have HEK : Hid ((3 : Int) + (p3 : Int) = (KK : Int)) := by show _ = _; omega
  have hn1 : 1 ≤ n := by omega
  have hn5 : n ≤ 5 := by omega
  have hK5 : KK ≤ 5 := by omega
  clear hnn hKK
  have HMO := hid (fun (U : World) (hU : IntS U a0 X0) => matrixOf_any a0 c0 n X0 U hU r0 (by omega) hn1 hn5)
  have HSO := hid (fun (U : World) (hU : IntS U a2 X2) => rSome_any a2 c2 n X2 U hU r2 (by omega) hn1 (by omega))
  have HX0' := hid h0
  have HX2' := hid h2
  clear h0 h2 r0 r2
  have HO0 := hid (fun V : World => rOf_zero V)
  have HO1 := hid (fun V : World => rOf_one V)
  have e1 : IntKind.i64.wrap ((X0.length : Int) + (X2.length : Int)) = (X0.length : Int) + (X2.length : Int) := by rw [IntKind.wrap_i64]; omega
  have e2 : IntKind.i64.wrap ((X0.length : Int) + (X2.length : Int) + (X3.length : Int)) = (X0.length : Int) + (X2.length : Int) + (X3.length : Int) := by rw [IntKind.wrap_i64]; omega
  have hg : ¬ (256 : Int) < (X0.length : Int) + (X2.length : Int) + (X3.length : Int) := by omega
  go_enter Tryz.func3, Tryz.ntmps3
  go_wp2_with fail
  refine (HPN.out _).mono ?_
  rintro e w1 ⟨rfl, hb1⟩
  clear e1 e2 hg
  go_wp2_with fail
  rw [HEN.out]
  refine (HMO.out _ (HX0'.out.below hb1)).mono ?_
  rintro e w2 ⟨y, P1, rfl, hy, hrp, hb2⟩
  have hb12 := hb1.trans (hb2.mono hb1.size)
  obtain ⟨P, hPe, hm⟩ := chM_of hn1 hn5 hrp
  obtain ⟨a, ca, ey, hfy⟩ := hy.rows
  rw [hPe] at ey hfy
  rw [mR_length] at ey
  subst ey
  clear hb1 hb2 hy hrp hPe HMO HPN
  have HM2 := hid hfy
  have HCM := hid hm
  have HB2 := hid hb12
  clear hfy hm hb12
  go_wp2_with fail
  refine (HSO.out _ (HX2'.out.below HB2.out)).mono ?_
  rintro e w3 ⟨x, L, rfl, hx, hup, hb3⟩
  obtain ⟨S, rfl, hpw, hSn⟩ := up_nat hup
  obtain ⟨b, cb, rfl, hib⟩ := RwI.ints hx
  rw [iL_length]
  have HB3 := hid (HB2.out.trans (hb3.mono HB2.out.size))
  have HM3 := hid (HM2.out.below hb3)
  have HS3 := hid hib
  have hSd : S.Nodup := hpw.imp fun h => Nat.ne_of_lt h
  have HIT := hid (hit_of HCM.out.chn hSn hSd)
  have HFH := hid (hitQ_fits hn5 HCM.out.chn HCM.out.fit hSn hSd S.length)
  have HHI := hid (fun (U : World) (hU : FsS U a (mR n P)) (hS : IntS U b (iL S)) => chHits_any a b ca cb n P S U hU hS HCM.out hpw hSn)
  have HSN := hid hSn
  have hS5 := nod_most hSd hSn
  clear hx hup hib hb3 hpw hSn hSd HSO HM2 HB2
  generalize hitQ n P S S.length = hq at *
  go_wp2_with fail
  refine (HHI.out _ HM3.out HS3.out).mono ?_
  rintro e W ⟨G, rfl, hG, hr4, hb4⟩
  have HBW := hid (HB3.out.trans (hb4.mono HB3.out.size))
  have HMW := hid (HM3.out.below hb4)
  have HSW := hid (HS3.out.below hb4)
  have HHW := hid hr4
  have hGW := hr4.lt
  clear hb4 hr4 hG HHI HB3 HM3 HS3
  have HFIT := hid HCM.out.fit
  obtain ⟨g, o, gr', or', cr', hae, hgW, hgr', -, -, -, -⟩ := HMW.out.at (show 0 < n by omega) (show 0 < n by omega)
  subst hae
  have HGM : Hid (g < W.heap.size) := hgW
  have HMC : Hid (∀ i j, i < n → j < n → ∃ gr or_ cr, gr < W.heap.size ∧ W.cell? ⟨g, o + i, none⟩ = some (.slice (some ⟨gr, or_, none⟩) n cr) ∧ W.cell? ⟨gr, or_ + j * 3, none⟩ = some (.bool (qF (P i j)).1) ∧ W.cell? ⟨gr, or_ + j * 3 + 1, none⟩ = some (.string (qF (P i j)).2.1) ∧ W.cell? ⟨gr, or_ + j * 3 + 2, none⟩ = some (.string (qF (P i j)).2.2)) := fun i j hi hj => by
    obtain ⟨g2, o2, gr, or_, cr, hae, _, q1, q2, q3, q4, q5⟩ := HMW.out.at hi hj
    cases hae
    exact ⟨gr, or_, cr, q1, q2, q3, q4, q5⟩
  have HQP : Hid (∀ i j, i < n → j < n → qw (P i j) ≤ 50000) := fun i j hi hj => by have := fits_qw (HFIT.out i j hi hj); omega
  have HINS : Hid (∀ (i : Nat) (U : World), Below W.heap.size W U → Calls Tryz.prog 12 #[.int .i64 (i : Nat), .slice b S.length cb] U fun e w' => e = .returned (.bool (decide (i ∈ S))) ∧ w' = U) := fun i U hU => by
    have h9 := rIn_any ((i : Nat) : Int) b cb (iL S) U (HSW.out.below hU) (by rw [iL_length]; omega)
    rw [inB_chn, iL_length] at h9
    exact h9
  have HCOMES := hid (fun (i : Nat) (hi : i < n) (U : World) (hU : Below W.heap.size W U) => lwComes_any (some ⟨g, o, none⟩) b ca cb n i P S U (HMW.out.below hU) (HSW.out.below hU) HCM.out HSN.out (by omega) hi)
  clear hgr' hgW
  have hfl := lF_length n (lowQ n P S 0)
  have HFG := hid (fun i (hi : i < n) => lF_get? (f := lowQ n P S 0) hi)
  have HL0 : Hid (∃ FL, FL = lF n (lowQ n P S 0)) := ⟨_, rfl⟩
  obtain ⟨FL, hFL⟩ := HL0.out
  rw [← hFL] at hfl HFG
  have HFL := hid hFL
  clear hFL HL0
  go_upto_region 10 with (at_make; refine wpList_make_full _ rfl _ _ 27 rfl W.heap.size 33 i0 (.agg #[.bool false, .string ⟨#[]⟩, .string ⟨#[]⟩]) 3 Tryz.underlying27 hi0 hz0 hz1 .i64 .i64 _ _ n rfl rfl (by go_num) (by go_num) (by rw [hz2]; omega) (by unfold maxLen; omega) (Nat.le_refl _) ?_; intro w5 hown2 hgrow2)
  have hb2 := block_of_own3 hown2
  rw [made_frs] at hb2
  have hB2 : Below W.heap.size W w5 := (Below.refl _ W).grown hgrow2 (Nat.le_refl _) (fun k e => by cases e)
  have HK0 : Hid (MF W W.heap.size (partF FL 0) w5) := ⟨by rw [partF_zero, hfl]; exact hb2, hB2⟩
  clear hown2 hgrow2 hb2 hB2
  go_wp2_with fail
  go_loopw [14] (fun iv wr => ∃ i : Nat, i ≤ n ∧ iv = .int .i64 i ∧ Hid (MF W W.heap.size (partF FL i) wr)) (fun iv _ => n - (intOf iv).toNat)
  case atStart => exact ⟨0, Nat.zero_le _, rfl, HK0⟩
  case round =>
    obtain ⟨i, hi, rfl, HK⟩ := hrel
    clear HK0
    by_cases hlt : i < n
    · obtain ⟨hd1, hd2⟩ := List.getElem?_eq_some_iff.1 (HFG.out i hlt)
      have HPS := hid (partF_set FL hd1)
      rw [hd2] at HPS
      clear hd1 hd2
      go_wp2_with fail
      refine (HO0.out _).mono ?_
      rintro e w6 ⟨rfl, hb6⟩
      replace HK := hid (HK.out.step hb6)
      have HK1 := hid (HK.out.put (Nat.le_refl _) i (qF 0))
      obtain ⟨k0, k1, k2⟩ := HK.out.row.cells i (by rw [partF_length _ (by omega)]; omega)
      have f0 := HK.out.row.fz (i * 3)
      have f1 := HK.out.row.fz (i * 3 + 1)
      have f2 := HK.out.row.fz (i * 3 + 2)
      generalize (partF FL i)[i]'(by rw [partF_length _ (by omega)]; omega) = z at *
      obtain ⟨zn', zx', zy'⟩ := z
      simp only at k0 k1 k2
      have HK2 : Hid (MF W W.heap.size ((partF FL i).set i (qF 0)) (((w6.setCell ⟨W.heap.size, i * 3, none⟩ (.bool (sgn 0))).setCell ⟨W.heap.size, i * 3 + 1, none⟩ (.string (nu 0))).setCell ⟨W.heap.size, i * 3 + 2, none⟩ (.string (de 0)))) := HK1.out
      clear HK HK1 hb6
      go_upto_region 14 with fail
      clear k0 k1 k2 f0 f1 f2
      generalize (((w6.setCell ⟨W.heap.size, i * 3, none⟩ (.bool (sgn 0))).setCell ⟨W.heap.size, i * 3 + 1, none⟩ (.string (nu 0))).setCell ⟨W.heap.size, i * 3 + 2, none⟩ (.string (de 0))) = w7 at *
      have HIN := hid (HINS.out i w7 HK2.out.bel)
      go_wp2_with fail
      refine HIN.out.mono ?_
      rintro e w8 ⟨rfl, rfl⟩
      clear HIN
      by_cases his : i ∈ S
      · rw [decide_eq_true his]
        go_wp2_with fail
        refine (HO1.out _).mono ?_
        rintro e w9 ⟨rfl, hb9⟩
        replace HK2 := hid (HK2.out.step hb9)
        have HPW := hid (HK2.out.put (Nat.le_refl _) i (qF 1))
        rw [List.set_set, show qF 1 = qF (lowQ n P S 0 i) from congrArg qF (if_pos his).symm, HPS.out] at HPW
        have HPW2 : Hid (MF W W.heap.size (partF FL (i + 1)) (((w9.setCell ⟨W.heap.size, i * 3, none⟩ (.bool (sgn 1))).setCell ⟨W.heap.size, i * 3 + 1, none⟩ (.string (nu 1))).setCell ⟨W.heap.size, i * 3 + 2, none⟩ (.string (de 1)))) := by
          have h9 := HPW.out
          rw [show lowQ n P S 0 i = 1 from if_pos his] at h9
          exact h9
        obtain ⟨k0, k1, k2⟩ := HK2.out.row.cells i (by rw [List.length_set, partF_length _ (by omega)]; omega)
        have f0 := HK2.out.row.fz (i * 3)
        have f1 := HK2.out.row.fz (i * 3 + 1)
        have f2 := HK2.out.row.fz (i * 3 + 2)
        generalize ((partF FL i).set i (qF 0))[i]'(by rw [List.length_set, partF_length _ (by omega)]; omega) = z at *
        obtain ⟨zn', zx', zy'⟩ := z
        simp only at k0 k1 k2
        clear HK2 HPW hb9
        go_wp2
        go_roundw
        case rel => exact ⟨i + 1, by omega, by go_num, HPW2⟩
        case measure => simp [intOf]; omega
      · rw [decide_eq_false his]
        have HPW := hid HK2.out
        rw [show qF 0 = qF (lowQ n P S 0 i) from congrArg qF (if_neg his).symm, HPS.out] at HPW
        clear HK2
        go_wp2
        go_roundw
        case rel => exact ⟨i + 1, by omega, by go_num, HPW⟩
        case measure => simp [intOf]; omega
    · obtain rfl : n = i := by omega
      have HLW : Hid (FrS wr (some ⟨W.heap.size, 0, none⟩) (lF n (lowQ n P S 0))) := by
        have h9 := HK.out.row
        have e9 : partF FL n = FL := by rw [← hfl]; exact partF_all FL
        rw [e9, HFL.out] at h9
        exact h9.fr
      have HBL := hid HK.out.bel
      clear HK HFG HFL hfl
      go_wp2_with fail
      go_loopw [13, 15] (fun lv kv wr => ∃ (k : Nat) (d : Option Addr) (c : Nat), k ≤ KK ∧ kv = .int .i64 k ∧ lv = .slice d n c ∧ Hid (FrS wr d (lF n (lowQ n P S k))) ∧ Hid (Below W.heap.size W wr)) (fun _ kv _ => KK - (intOf kv).toNat)
      case atStart => exact ⟨0, some ⟨W.heap.size, 0, none⟩, n, Nat.zero_le _, rfl, rfl, HLW, HBL⟩
      case round =>
        obtain ⟨k, d, cX, hk, rfl, rfl, HLW1, HBL1⟩ := hrel
        clear HLW HBL
        go_wp2_with fail
        refine (HPK.out _).mono ?_
        rintro e w6 ⟨rfl, hb6⟩
        have HLW := hid (HLW1.out.below hb6)
        have HBL := hid (HBL1.out.trans (hb6.mono HBL1.out.size))
        clear hb6 HLW1 HBL1
        by_cases hlk : k < KK
        · have hkI : ((k : Int) < 3 + (p3 : Int)) := by have := HEK.out; omega
          obtain ⟨gX, oX, rfl, hgX0, -, -, -⟩ := HLW.out 0 (by rw [lF_length]; omega)
          generalize hW2 : w6 = W2 at *
          clear hW2
          go_wp2_with fail
          go_loopw [16, 17] (fun nv iv wr => ∃ i : Nat, i ≤ n ∧ iv = .int .i64 i ∧ Hid (RwF wr W2.heap.size nv (lF i (lowQ n P S (k + 1)))) ∧ Hid (Below W2.heap.size W2 wr)) (fun _ iv _ => n - (intOf iv).toNat)
          case atStart => exact ⟨0, Nat.zero_le _, rfl, RwF.empty _ _, Below.refl _ _⟩
          case round =>
            obtain ⟨i, hi, rfl, HNW, HBN2⟩ := hrel
            obtain ⟨dn, nn, cn, rfl⟩ := HNW.out.slv
            by_cases hlti : i < n
            · obtain ⟨X, hX⟩ : ∃ X, X = lowQ n P S k := ⟨_, rfl⟩
              obtain ⟨F, hF⟩ : ∃ F : Nat → Rat, F = fun j => P i j * lowQ n P S k j := ⟨_, rfl⟩
              have HFE0 : Hid (∀ j, F j = P i j * lowQ n P S k j) := fun j => by rw [hF]
              have HFF : Hid (∀ j, j < n → Fits 2342 (F j)) := fun j hj => by
                rw [hF]
                have hb : bL k ≤ 2341 := Nat.le_trans (bL_mono (show k ≤ 4 by omega)) (by decide)
                exact fits_up (fits_tim (HFIT.out i j hlti hj) (lowQ_fits hn5 HFIT.out k j hj)) (by omega)
              have HQX0 : Hid (∀ j, j < n → qw (lowQ n P S k j) ≤ 50000) := fun j hj => by
                have hb : bL k ≤ 2341 := Nat.le_trans (bL_mono (show k ≤ 4 by omega)) (by decide)
                have := fits_qw (lowQ_fits (S := S) hn5 HFIT.out k j hj)
                omega
              have HQS : Hid (∀ j, j ≤ n → qw (sumR F j) ≤ 50000) := fun j hj => sum_part_qw hn5 (by omega) HFF.out hj
              have HQF : Hid (∀ j, j < n → qw (F j) ≤ 50000) := fun j hj => by have := fits_qw (HFF.out j hj); omega
              have HLWX := hid HLW.out
              have HFE : Hid (∀ j, F j = P i j * X j) := fun j => by rw [hX]; exact HFE0.out j
              have HQX : Hid (∀ j, j < n → qw (X j) ≤ 50000) := fun j hj => by rw [hX]; exact HQX0.out j hj
              rw [← hX] at HLWX
              clear hF HFF HQX0 hX
              go_wp2_with fail
              refine (HO0.out _).mono ?_
              rintro e V0 ⟨rfl, hbv⟩
              have HX0 : Hid (Box (V0.alloc (FC (sgn 0) (nu 0) (de 0))) V0.heap.size (qF (sumR F 0)).1 (qF (sumR F 0)).2.1 (qF (sumR F 0)).2.2) := Box.new V0 (sgn 0) (nu 0) (de 0)
              have HBZ : Hid (Below V0.heap.size V0 (V0.alloc (FC (sgn 0) (nu 0) (de 0)))) := (Below.refl _ _).alloc (Nat.le_refl _) _
              have HBV2 := hid (HBN2.out.trans (hbv.mono HBN2.out.size))
              have HBV := hid (HBL.out.trans (HBV2.out.mono HBL.out.size))
              have HXV := hid (HLWX.out.below HBV2.out)
              have HNV0 : Hid (RwF V0 W2.heap.size (.slice dn nn cn) (lF i (lowQ n P S (k + 1)))) := HNW.out.below hbv
              have HNB : Hid (∀ x, (Value.slice dn nn cn).ownBlock = some x → x < V0.heap.size) := fun x hx => by
                obtain ⟨cc, fr, h9⟩ := owns_typed HNV0.out x hx
                exact (Array.getElem?_eq_some_iff.1 h9).1
              clear hbv
              go_wp2_with fail
              generalize (V0.alloc (FC (sgn 0) (nu 0) (de 0))) = V1 at *
              obtain ⟨gB, hgB⟩ : ∃ x, V0.heap.size = x := ⟨_, rfl⟩
              rw [hgB] at HX0 HBZ
              have HGE := hid hgB
              have HGV : Hid (gB ≤ V0.heap.size) := Nat.le_of_eq hgB.symm
              have HWG : Hid (W.heap.size ≤ gB) := by rw [← hgB]; exact HBV.out.size
              simp only [hgB]
              clear hgB
              go_loopw [19] (fun jv wr => ∃ j : Nat, j ≤ n ∧ jv = .int .i64 j ∧ Hid (Box wr gB (qF (sumR F j)).1 (qF (sumR F j)).2.1 (qF (sumR F j)).2.2) ∧ Hid (Below gB V0 wr)) (fun jv _ => n - (intOf jv).toNat)
              case atStart => exact ⟨0, Nat.zero_le _, rfl, HX0, HBZ⟩
              case round =>
                obtain ⟨j, hj, rfl, HX, HB⟩ := hrel
                clear HX0 HBZ
                by_cases hlj : j < n
                · have HWr : Hid (Below W.heap.size W wr) := HBV.out.trans (HB.out.mono HWG.out)
                  obtain ⟨gr, or_, cr, hgr, x0, x1, x2, x3⟩ := HMC.out i j hlti hlj
                  have hxl : j < (lF n X).length := by rw [lF_length]; exact hlj
                  obtain ⟨gX', oX', hXe, hgX, y0, y1, y2⟩ := HXV.out j hxl
                  cases hXe
                  rw [lF_get] at y0 y1 y2
                  have HMU : Hid (∀ U : World, Calls Tryz.prog 14 #[.agg #[.bool (qF (P i j)).1, .string (qF (P i j)).2.1, .string (qF (P i j)).2.2], .agg #[.bool (qF (X j)).1, .string (qF (X j)).2.1, .string (qF (X j)).2.2]] U fun e w' => e = .returned (.agg #[.bool (qF (F j)).1, .string (qF (F j)).2.1, .string (qF (F j)).2.2]) ∧ Below U.heap.size U w') := fun U => by
                    rw [HFE.out j]
                    exact rMulQ (P i j) (X j) U (HQP.out i j hlti hlj) (HQX.out j hlj)
                  have HAD : Hid (∀ U : World, Calls Tryz.prog 13 #[.agg #[.bool (qF (sumR F j)).1, .string (qF (sumR F j)).2.1, .string (qF (sumR F j)).2.2], .agg #[.bool (qF (F j)).1, .string (qF (F j)).2.1, .string (qF (F j)).2.2]] U fun e w' => e = .returned (.agg #[.bool (qF (sumR F (j + 1))).1, .string (qF (sumR F (j + 1))).2.1, .string (qF (sumR F (j + 1))).2.2]) ∧ Below U.heap.size U w') := fun U => rAddQ (sumR F j) (F j) U (HQS.out j hj) (HQF.out j hlj)
                  generalize hz1 : qF (P i j) = z1 at *
                  obtain ⟨an, ax, ay⟩ := z1
                  generalize hz2 : qF (X j) = z2 at *
                  obtain ⟨bn, bx, by_⟩ := z2
                  simp only at x1 x2 x3 y0 y1 y2 HMU
                  clear hz1 hz2
                  have HELD : Hid (∀ u, Below gB V0 u → u.cell? ⟨g, o + i, none⟩ = some (.slice (some ⟨gr, or_, none⟩) n cr) ∧ u.cell? ⟨gr, or_ + j * 3, none⟩ = some (.bool an) ∧ u.cell? ⟨gr, or_ + j * 3 + 1, none⟩ = some (.string ax) ∧ u.cell? ⟨gr, or_ + j * 3 + 2, none⟩ = some (.string ay) ∧ u.cell? ⟨gX, oX + j * 3, none⟩ = some (.bool bn) ∧ u.cell? ⟨gX, oX + j * 3 + 1, none⟩ = some (.string bx) ∧ u.cell? ⟨gX, oX + j * 3 + 2, none⟩ = some (.string by_)) := fun u h => by
                    have hW := HBV.out.trans (h.mono HWG.out)
                    exact ⟨(hW.cell (p := ⟨g, _, none⟩) HGM.out).trans x0, (hW.cell (p := ⟨gr, _, none⟩) hgr).trans x1, (hW.cell (p := ⟨gr, _, none⟩) hgr).trans x2, (hW.cell (p := ⟨gr, _, none⟩) hgr).trans x3, (h.cell (p := ⟨gX, _, none⟩) (Nat.lt_of_lt_of_eq hgX HGE.out)).trans y0, (h.cell (p := ⟨gX, _, none⟩) (Nat.lt_of_lt_of_eq hgX HGE.out)).trans y1, (h.cell (p := ⟨gX, _, none⟩) (Nat.lt_of_lt_of_eq hgX HGE.out)).trans y2⟩
                  go_upto_region 27 with fail
                  clear x0 x1 x2 x3 y0 y1 y2 HWr
                  replace HX := hid HX.out.drew
                  replace HB := hid HB.out.drew
                  refine wp_region_held_drew (S := fun u => u.cell? ⟨g, o + i, none⟩ = some (.slice (some ⟨gr, or_, none⟩) n cr) ∧ u.cell? ⟨gr, or_ + j * 3, none⟩ = some (.bool an) ∧ u.cell? ⟨gr, or_ + j * 3 + 1, none⟩ = some (.string ax) ∧ u.cell? ⟨gr, or_ + j * 3 + 2, none⟩ = some (.string ay) ∧ u.cell? ⟨gX, oX + j * 3, none⟩ = some (.bool bn) ∧ u.cell? ⟨gX, oX + j * 3 + 1, none⟩ = some (.string bx) ∧ u.cell? ⟨gX, oX + j * 3 + 2, none⟩ = some (.string by_)) (by kernel_rfl) (HELD.out _ HB.out) (fun hSd => ?_)
                  generalize wr.drew = u0 at *
                  refine wpAnyH_take (i := 1) (oi := _) (v := .slice (some ⟨g, o, none⟩) n ca) rfl (by kernel_rfl) (by kernel_rfl) (by kernel_rfl) (fun _ _ _ h => h) (Or.inl ⟨by rfl, ?_⟩) (by assumption) ?_
                  · intro u' hSu
                    (try simp only [List.getElem_toArray, List.getElem_cons_zero, List.getElem_cons_succ])
                    go_simp
                  (try simp only [List.getElem_toArray, List.getElem_cons_zero, List.getElem_cons_succ])
                  (try simp only [Act.put, List.setIfInBounds_toArray, List.set_cons_zero, List.set_cons_succ])
                  refine wpAnyH_take (i := 2) (oi := _) (v := .int .i64 (i : Nat)) rfl (by kernel_rfl) (by kernel_rfl) (by kernel_rfl) (fun _ _ _ h => h) (Or.inl ⟨by rfl, ?_⟩) (by assumption) ?_
                  · intro u' hSu
                    (try simp only [List.getElem_toArray, List.getElem_cons_zero, List.getElem_cons_succ])
                    go_simp
                  (try simp only [List.getElem_toArray, List.getElem_cons_zero, List.getElem_cons_succ])
                  (try simp only [Act.put, List.setIfInBounds_toArray, List.set_cons_zero, List.set_cons_succ])
                  refine wpAnyH_take (i := 3) (oi := _) (v := .pointer (some ⟨g, o + i, none⟩)) rfl (by kernel_rfl) (by kernel_rfl) (by kernel_rfl) (fun _ _ _ h => h) (Or.inl ⟨by rfl, ?_⟩) (by assumption) ?_
                  · intro u' hSu
                    (try simp only [List.getElem_toArray, List.getElem_cons_zero, List.getElem_cons_succ])
                    go_simp
                  (try simp only [List.getElem_toArray, List.getElem_cons_zero, List.getElem_cons_succ])
                  (try simp only [Act.put, List.setIfInBounds_toArray, List.set_cons_zero, List.set_cons_succ])
                  refine wpAnyH_take (i := 4) (oi := _) (v := .slice (some ⟨gr, or_, none⟩) n cr) rfl (by kernel_rfl) (by kernel_rfl) (by kernel_rfl) (fun _ _ _ h => h) (Or.inl ⟨by rfl, ?_⟩) (by assumption) ?_
                  · intro u' hSu
                    (try simp only [List.getElem_toArray, List.getElem_cons_zero, List.getElem_cons_succ])
                    obtain ⟨s0, s1, s2, s3, s4, s5, s6⟩ := hSu
                    go_simp
                  (try simp only [List.getElem_toArray, List.getElem_cons_zero, List.getElem_cons_succ])
                  (try simp only [Act.put, List.setIfInBounds_toArray, List.set_cons_zero, List.set_cons_succ])
                  refine wpAnyH_take (i := 5) (oi := _) (v := .int .i64 (j : Nat)) rfl (by kernel_rfl) (by kernel_rfl) (by kernel_rfl) (fun _ _ _ h => h) (Or.inl ⟨by rfl, ?_⟩) (by assumption) ?_
                  · intro u' hSu
                    (try simp only [List.getElem_toArray, List.getElem_cons_zero, List.getElem_cons_succ])
                    go_simp
                  (try simp only [List.getElem_toArray, List.getElem_cons_zero, List.getElem_cons_succ])
                  (try simp only [Act.put, List.setIfInBounds_toArray, List.set_cons_zero, List.set_cons_succ])
                  refine wpAnyH_take (i := 6) (oi := _) (v := .pointer (some ⟨gr, or_ + j * 3, none⟩)) rfl (by kernel_rfl) (by kernel_rfl) (by kernel_rfl) (fun _ _ _ h => h) (Or.inl ⟨by rfl, ?_⟩) (by assumption) ?_
                  · intro u' hSu
                    (try simp only [List.getElem_toArray, List.getElem_cons_zero, List.getElem_cons_succ])
                    go_simp
                  (try simp only [List.getElem_toArray, List.getElem_cons_zero, List.getElem_cons_succ])
                  (try simp only [Act.put, List.setIfInBounds_toArray, List.set_cons_zero, List.set_cons_succ])
                  refine wpAnyH_take (i := 7) (oi := _) (v := .agg #[.bool an, .string ax, .string ay]) rfl (by kernel_rfl) (by kernel_rfl) (by kernel_rfl) (fun _ _ _ h => h) (Or.inl ⟨by rfl, ?_⟩) (by assumption) ?_
                  · intro u' hSu
                    (try simp only [List.getElem_toArray, List.getElem_cons_zero, List.getElem_cons_succ])
                    obtain ⟨s0, s1, s2, s3, s4, s5, s6⟩ := hSu
                    go_simp
                  (try simp only [List.getElem_toArray, List.getElem_cons_zero, List.getElem_cons_succ])
                  (try simp only [Act.put, List.setIfInBounds_toArray, List.set_cons_zero, List.set_cons_succ])
                  refine wpAnyH_take (i := 8) (oi := _) (v := .slice (some ⟨gX, oX, none⟩) n cX) rfl (by kernel_rfl) (by kernel_rfl) (by kernel_rfl) (fun _ _ _ h => h) (Or.inl ⟨by rfl, ?_⟩) (by assumption) ?_
                  · intro u' hSu
                    (try simp only [List.getElem_toArray, List.getElem_cons_zero, List.getElem_cons_succ])
                    go_simp
                  (try simp only [List.getElem_toArray, List.getElem_cons_zero, List.getElem_cons_succ])
                  (try simp only [Act.put, List.setIfInBounds_toArray, List.set_cons_zero, List.set_cons_succ])
                  refine wpAnyH_take (i := 9) (oi := _) (v := .int .i64 (j : Nat)) rfl (by kernel_rfl) (by kernel_rfl) (by kernel_rfl) (fun _ _ _ h => h) (Or.inl ⟨by rfl, ?_⟩) (by assumption) ?_
                  · intro u' hSu
                    (try simp only [List.getElem_toArray, List.getElem_cons_zero, List.getElem_cons_succ])
                    go_simp
                  (try simp only [List.getElem_toArray, List.getElem_cons_zero, List.getElem_cons_succ])
                  (try simp only [Act.put, List.setIfInBounds_toArray, List.set_cons_zero, List.set_cons_succ])
                  refine wpAnyH_take (i := 10) (oi := _) (v := .pointer (some ⟨gX, oX + j * 3, none⟩)) rfl (by kernel_rfl) (by kernel_rfl) (by kernel_rfl) (fun _ _ _ h => h) (Or.inl ⟨by rfl, ?_⟩) (by assumption) ?_
                  · intro u' hSu
                    (try simp only [List.getElem_toArray, List.getElem_cons_zero, List.getElem_cons_succ])
                    go_simp
                  (try simp only [List.getElem_toArray, List.getElem_cons_zero, List.getElem_cons_succ])
                  (try simp only [Act.put, List.setIfInBounds_toArray, List.set_cons_zero, List.set_cons_succ])
                  refine wpAnyH_take (i := 11) (oi := _) (v := .agg #[.bool bn, .string bx, .string by_]) rfl (by kernel_rfl) (by kernel_rfl) (by kernel_rfl) (fun _ _ _ h => h) (Or.inl ⟨by rfl, ?_⟩) (by assumption) ?_
                  · intro u' hSu
                    (try simp only [List.getElem_toArray, List.getElem_cons_zero, List.getElem_cons_succ])
                    obtain ⟨s0, s1, s2, s3, s4, s5, s6⟩ := hSu
                    go_simp
                  (try simp only [List.getElem_toArray, List.getElem_cons_zero, List.getElem_cons_succ])
                  (try simp only [Act.put, List.setIfInBounds_toArray, List.set_cons_zero, List.set_cons_succ])
                  refine wpAnyH_ready (rs := [0, 12]) (by kernel_rfl) (by simp) (AllReadyH.cons rfl ?_ (AllReadyH.cons rfl ?_ (AllReadyH.nil)))
                  · intro K' hK'
                    obtain ⟨k0, k1, k2⟩ := HX.out.trio
                    (try simp only [List.getElem_toArray, List.getElem_cons_zero])
                    go_simp
                    refine hK'.out _ _ hSd (fun hSe => ?_)
                    clear k0 k1 k2
                    clear hK' K' hSd
                    have hSd := hSe
                    clear hSe
                    (try simp only [List.getElem_toArray, List.getElem_cons_zero, List.getElem_cons_succ])
                    (try simp only [Act.put, List.setIfInBounds_toArray, List.set_cons_zero, List.set_cons_succ])
                    refine wpAnyH_ready (rs := [12]) (by kernel_rfl) (by simp) (AllReadyH.cons rfl ?_ (AllReadyH.nil))
                    · intro K' hK'
                      (try simp only [List.getElem_toArray, List.getElem_cons_zero, List.getElem_cons_succ])
                      go_simp
                      refine (HMU.out _).mono ?_
                      rintro e q1 ⟨rfl, hb⟩
                      replace HX := hid (HX.out.below hb HX.out.lt)
                      replace HB := hid (HB.out.trans (hb.mono (Nat.le_trans HGV.out HB.out.size)))
                      refine hK'.out _ _ (HELD.out _ HB.out) (fun hSe => ?_)
                      clear hb
                      clear hK' K' hSd
                      have hSd := hSe
                      clear hSe
                      (try simp only [List.getElem_toArray, List.getElem_cons_zero, List.getElem_cons_succ])
                      (try simp only [Act.put, List.setIfInBounds_toArray, List.set_cons_zero, List.set_cons_succ])
                      refine wpAnyH_ready (rs := [13]) (by kernel_rfl) (by simp) (AllReadyH.cons rfl ?_ (AllReadyH.nil))
                      · intro K' hK'
                        (try simp only [List.getElem_toArray, List.getElem_cons_zero, List.getElem_cons_succ])
                        go_simp
                        refine (HAD.out _).mono ?_
                        rintro e q2 ⟨rfl, hb⟩
                        replace HX := hid (HX.out.below hb HX.out.lt)
                        replace HB := hid (HB.out.trans (hb.mono (Nat.le_trans HGV.out HB.out.size)))
                        refine hK'.out _ _ (HELD.out _ HB.out) (fun hSe => ?_)
                        clear hb
                        clear hK' K' hSd
                        have hSd := hSe
                        clear hSe
                        (try simp only [List.getElem_toArray, List.getElem_cons_zero, List.getElem_cons_succ])
                        (try simp only [Act.put, List.setIfInBounds_toArray, List.set_cons_zero, List.set_cons_succ])
                        obtain ⟨k0, k1, k2⟩ := HX.out.trio
                        have f0 := HX.out.fz 0
                        have f1 := HX.out.fz 1
                        have f2 := HX.out.fz 2
                        refine wpAnyH_ready (rs := [14]) (by kernel_rfl) (by simp) (AllReadyH.cons rfl ?_ (AllReadyH.nil))
                        · intro K' hK'
                          (try simp only [List.getElem_toArray, List.getElem_cons_zero, List.getElem_cons_succ])
                          go_simp
                          have HXN := hid (HX.out.put (qF (sumR F (j + 1))).1 (qF (sumR F (j + 1))).2.1 (qF (sumR F (j + 1))).2.2)
                          have HBN := hid (((HB.out.setCell (p := ⟨gB, 0, none⟩) (Nat.le_refl _) (.bool (qF (sumR F (j + 1))).1)).setCell (p := ⟨gB, 1, none⟩) (Nat.le_refl _) (.string (qF (sumR F (j + 1))).2.1)).setCell (p := ⟨gB, 2, none⟩) (Nat.le_refl _) (.string (qF (sumR F (j + 1))).2.2))
                          refine hK'.out _ _ (HELD.out _ HBN.out) (fun _ => wpAnyH_done (by kernel_rfl) ?_ _)
                          clear hK' K' hSd k0 k1 k2 f0 f1 f2 HX HB
                          go_wp2
                          go_roundw
                          case rel => exact ⟨j + 1, by omega, by go_num, HXN, HBN⟩
                          case measure => simp [intOf]; omega
                  · intro K' hK'
                    (try simp only [List.getElem_toArray, List.getElem_cons_zero, List.getElem_cons_succ])
                    go_simp
                    refine (HMU.out _).mono ?_
                    rintro e q1 ⟨rfl, hb⟩
                    replace HX := hid (HX.out.below hb HX.out.lt)
                    replace HB := hid (HB.out.trans (hb.mono (Nat.le_trans HGV.out HB.out.size)))
                    refine hK'.out _ _ (HELD.out _ HB.out) (fun hSe => ?_)
                    clear hb
                    clear hK' K' hSd
                    have hSd := hSe
                    clear hSe
                    (try simp only [List.getElem_toArray, List.getElem_cons_zero, List.getElem_cons_succ])
                    (try simp only [Act.put, List.setIfInBounds_toArray, List.set_cons_zero, List.set_cons_succ])
                    refine wpAnyH_ready (rs := [0]) (by kernel_rfl) (by simp) (AllReadyH.cons rfl ?_ (AllReadyH.nil))
                    · intro K' hK'
                      obtain ⟨k0, k1, k2⟩ := HX.out.trio
                      (try simp only [List.getElem_toArray, List.getElem_cons_zero])
                      go_simp
                      refine hK'.out _ _ hSd (fun hSe => ?_)
                      clear k0 k1 k2
                      clear hK' K' hSd
                      have hSd := hSe
                      clear hSe
                      (try simp only [List.getElem_toArray, List.getElem_cons_zero, List.getElem_cons_succ])
                      (try simp only [Act.put, List.setIfInBounds_toArray, List.set_cons_zero, List.set_cons_succ])
                      refine wpAnyH_ready (rs := [13]) (by kernel_rfl) (by simp) (AllReadyH.cons rfl ?_ (AllReadyH.nil))
                      · intro K' hK'
                        (try simp only [List.getElem_toArray, List.getElem_cons_zero, List.getElem_cons_succ])
                        go_simp
                        refine (HAD.out _).mono ?_
                        rintro e q2 ⟨rfl, hb⟩
                        replace HX := hid (HX.out.below hb HX.out.lt)
                        replace HB := hid (HB.out.trans (hb.mono (Nat.le_trans HGV.out HB.out.size)))
                        refine hK'.out _ _ (HELD.out _ HB.out) (fun hSe => ?_)
                        clear hb
                        clear hK' K' hSd
                        have hSd := hSe
                        clear hSe
                        (try simp only [List.getElem_toArray, List.getElem_cons_zero, List.getElem_cons_succ])
                        (try simp only [Act.put, List.setIfInBounds_toArray, List.set_cons_zero, List.set_cons_succ])
                        obtain ⟨k0, k1, k2⟩ := HX.out.trio
                        have f0 := HX.out.fz 0
                        have f1 := HX.out.fz 1
                        have f2 := HX.out.fz 2
                        refine wpAnyH_ready (rs := [14]) (by kernel_rfl) (by simp) (AllReadyH.cons rfl ?_ (AllReadyH.nil))
                        · intro K' hK'
                          (try simp only [List.getElem_toArray, List.getElem_cons_zero, List.getElem_cons_succ])
                          go_simp
                          have HXN := hid (HX.out.put (qF (sumR F (j + 1))).1 (qF (sumR F (j + 1))).2.1 (qF (sumR F (j + 1))).2.2)
                          have HBN := hid (((HB.out.setCell (p := ⟨gB, 0, none⟩) (Nat.le_refl _) (.bool (qF (sumR F (j + 1))).1)).setCell (p := ⟨gB, 1, none⟩) (Nat.le_refl _) (.string (qF (sumR F (j + 1))).2.1)).setCell (p := ⟨gB, 2, none⟩) (Nat.le_refl _) (.string (qF (sumR F (j + 1))).2.2))
                          refine hK'.out _ _ (HELD.out _ HBN.out) (fun _ => wpAnyH_done (by kernel_rfl) ?_ _)
                          clear hK' K' hSd k0 k1 k2 f0 f1 f2 HX HB
                          go_wp2
                          go_roundw
                          case rel => exact ⟨j + 1, by omega, by go_num, HXN, HBN⟩
                          case measure => simp [intOf]; omega
                · obtain rfl : n = j := by omega
                  have HIN := hid (HINS.out i wr (HBV.out.trans (HB.out.mono HWG.out)))
                  go_wp2_with fail
                  refine HIN.out.mono ?_
                  rintro e w9 ⟨rfl, rfl⟩
                  have HGT : Hid (W2.heap.size ≤ gB) := by rw [← HGE.out]; exact HBV2.out.size
                  have HNB2 : Hid (∀ x, (Value.slice dn nn cn).ownBlock = some x → x < gB) := fun x hx => Nat.lt_of_lt_of_eq (HNB.out x hx) HGE.out
                  have HNV : Hid (RwF w9 W2.heap.size (.slice dn nn cn) (lF i (lowQ n P S (k + 1)))) := by
                    refine owns_keep HNV0.out fun x c fr hx => ?_
                    have hlx : x < V0.heap.size := (Array.getElem?_eq_some_iff.1 hx).1
                    exact (HB.out.block x (by rw [← HGE.out]; exact hlx)).trans hx
                  have HB2 : Hid (Below W2.heap.size W2 w9) := HBV2.out.trans (HB.out.mono HGT.out)
                  by_cases his : i ∈ S
                  · rw [decide_eq_true his]
                    go_wp2_with fail
                    refine (HO1.out _).mono ?_
                    rintro e w10 ⟨rfl, hb10⟩
                    have HX1 := hid (HX.out.below hb10 HX.out.lt)
                    have HN1 := hid (HNV.out.below hb10)
                    have HB3 := hid (HB2.out.trans (hb10.mono HB2.out.size))
                    obtain ⟨k0, k1, k2⟩ := HX1.out.trio
                    have f0 := HX1.out.fz 0
                    have f1 := HX1.out.fz 1
                    have f2 := HX1.out.fz 2
                    have HX2 := hid (HX1.out.put (sgn 1) (nu 1) (de 1))
                    have HB4 := hid (((HB3.out.setCell (p := ⟨gB, 0, none⟩) HGT.out (.bool (sgn 1))).setCell (p := ⟨gB, 1, none⟩) HGT.out (.string (nu 1))).setCell (p := ⟨gB, 2, none⟩) HGT.out (.string (de 1)))
                    have HN2 : Hid (RwF (((w10.setCell ⟨gB, 0, none⟩ (.bool (sgn 1))).setCell ⟨gB, 1, none⟩ (.string (nu 1))).setCell ⟨gB, 2, none⟩ (.string (de 1))) W2.heap.size (.slice dn nn cn) (lF i (lowQ n P S (k + 1)))) := ((HN1.out.away HNB2.out 0 _).away HNB2.out 1 _).away HNB2.out 2 _
                    have HLQ : Hid (lF (i + 1) (lowQ n P S (k + 1)) = lF i (lowQ n P S (k + 1)) ++ [(sgn 1, nu 1, de 1)]) := by
                      show _ = _
                      rw [lF_snoc]
                      show _ = _ ++ [qF 1]
                      congr 2
                      exact congrArg qF (if_pos his)
                    clear HX1 HN1 HB3 hb10 HIN HNV HB2 HX HB HNV0
                    go_upto_region 30 with fail
                    clear k0 k1 k2 f0 f1 f2
                    generalize (((w10.setCell ⟨gB, 0, none⟩ (.bool (sgn 1))).setCell ⟨gB, 1, none⟩ (.string (nu 1))).setCell ⟨gB, 2, none⟩ (.string (de 1))) = w11 at *
                    generalize sgn 1 = on at *
                    generalize nu 1 = ox at *
                    generalize de 1 = oy at *
                    obtain ⟨k0, k1, k2⟩ := HX2.out.trio
                    have HXA := hid (Box.new w11 on ox oy)
                    have HBA := hid (HB4.out.alloc HB4.out.size (FC on ox oy))
                    have HNA := hid (HN2.out.below ((Below.refl w11.heap.size w11).alloc (Nat.le_refl _) (FC on ox oy)))
                    have HLE : Hid ((lF i (lowQ n P S (k + 1))).length + 1 ≤ 100000) := by show _ ≤ _; rw [lF_length]; omega
                    clear HN2 HB4 HX2
                    go_wp2_with (at_builtin; refine wpList_append_fr rfl _ _ rfl W2.heap.size (.slice dn nn cn) (lF i (lowQ n P S (k + 1))) (on, ox, oy) rfl HNA.out w11.heap.size rfl HXA.out HLE.out HBA.out.size ?_; intro v3 w3' hr3 hg3'; have HB5 := hid (HBA.out.grown hg3' HBA.out.size (fun x e => HNA.out.own x e)); have HR5 : Hid (RwF w3' W2.heap.size v3 (lF (i + 1) (lowQ n P S (k + 1)))) := (by rw [HLQ.out]; exact hr3))
                    go_roundw
                    case rel => exact ⟨i + 1, by omega, by go_num, HR5, HB5⟩
                    case measure => simp [intOf]; omega
                  · rw [decide_eq_false his]
                    obtain ⟨on, hon⟩ : ∃ x, (qF (sumR F n)).1 = x := ⟨_, rfl⟩
                    obtain ⟨ox, hox⟩ : ∃ x, (qF (sumR F n)).2.1 = x := ⟨_, rfl⟩
                    obtain ⟨oy, hoy⟩ : ∃ x, (qF (sumR F n)).2.2 = x := ⟨_, rfl⟩
                    have HLQ : Hid (lF (i + 1) (lowQ n P S (k + 1)) = lF i (lowQ n P S (k + 1)) ++ [(on, ox, oy)]) := by
                      show _ = _
                      rw [lF_snoc, ← hon, ← hox, ← hoy]
                      show _ = _ ++ [qF (sumR F n)]
                      congr 2
                      refine congrArg qF ((if_neg his).trans ?_)
                      exact sumR_congr fun j _ => (HFE0.out j).symm
                    have HX2 := hid HX.out
                    rw [hon, hox, hoy] at HX2
                    have HN2 := HNV
                    have HB4 := HB2
                    clear hon hox hoy HIN HX HB HNV0 HNV HB2
                    go_upto_region 30 with fail
                    generalize w9 = w11 at *
                    obtain ⟨k0, k1, k2⟩ := HX2.out.trio
                    have HXA := hid (Box.new w11 on ox oy)
                    have HBA := hid (HB4.out.alloc HB4.out.size (FC on ox oy))
                    have HNA := hid (HN2.out.below ((Below.refl w11.heap.size w11).alloc (Nat.le_refl _) (FC on ox oy)))
                    have HLE : Hid ((lF i (lowQ n P S (k + 1))).length + 1 ≤ 100000) := by show _ ≤ _; rw [lF_length]; omega
                    clear HN2 HB4 HX2
                    go_wp2_with (at_builtin; refine wpList_append_fr rfl _ _ rfl W2.heap.size (.slice dn nn cn) (lF i (lowQ n P S (k + 1))) (on, ox, oy) rfl HNA.out w11.heap.size rfl HXA.out HLE.out HBA.out.size ?_; intro v3 w3' hr3 hg3'; have HB5 := hid (HBA.out.grown hg3' HBA.out.size (fun x e => HNA.out.own x e)); have HR5 : Hid (RwF w3' W2.heap.size v3 (lF (i + 1) (lowQ n P S (k + 1)))) := (by rw [HLQ.out]; exact hr3))
                    go_roundw
                    case rel => exact ⟨i + 1, by omega, by go_num, HR5, HB5⟩
                    case measure => simp [intOf]; omega
            · obtain rfl : n = i := by omega
              obtain ⟨d2, c2', he, hf2⟩ := HNW.out.fr
              rw [lF_length] at he
              obtain ⟨rfl, rfl, rfl⟩ : dn = d2 ∧ nn = n ∧ cn = c2' := by cases he; exact ⟨rfl, rfl, rfl⟩
              have HLN := hid hf2
              have HBN := hid (HBL.out.trans (HBN2.out.mono HBL.out.size))
              clear hf2 HNW HBN2
              go_wp2
              go_roundw
              case rel => exact ⟨k + 1, _, _, by omega, by go_num, rfl, HLN, HBN⟩
              case measure => simp [intOf]; omega
        · obtain rfl : KK = k := by omega
          have hkI : ¬ ((KK : Int) < 3 + (p3 : Int)) := by have := HEK.out; omega
          obtain ⟨gL, oL, rfl, hgL0, -, -, -⟩ := HLW.out 0 (by rw [lF_length]; omega)
          have HHS : Hid (∀ i, i < n → (i ∈ S → hq i = 1) ∧ (i ∉ S → hq i = sumR (fun j => P i j * hq j) n)) := fun i hi => ⟨fun h => HIT.out.ons i h, fun h => HIT.out.step hi h⟩
          have HHX0 := hid HHW.out.fr
          obtain ⟨cL, hcL⟩ : ∃ x, x = cX := ⟨_, rfl⟩
          rw [← hcL]
          clear hcL
          generalize hW5 : w6 = W5 at *
          clear hW5 hgL0
          go_wp2_with fail
          go_loopw [20] (fun iv wr => ∃ i : Nat, i ≤ n ∧ iv = .int .i64 i ∧ Hid (Below W5.heap.size W5 wr)) (fun iv _ => n - (intOf iv).toNat)
          case atStart => exact ⟨0, Nat.zero_le _, rfl, Below.refl _ _⟩
          case round =>
            obtain ⟨i, hi, rfl, HB5⟩ := hrel
            by_cases hlti : i < n
            · obtain ⟨X, hX⟩ : ∃ X, X = hq := ⟨_, rfl⟩
              obtain ⟨F, hF⟩ : ∃ F : Nat → Rat, F = fun j => P i j * hq j := ⟨_, rfl⟩
              have HFE0 : Hid (∀ j, F j = P i j * hq j) := fun j => by rw [hF]
              have HFF : Hid (∀ j, j < n → Fits 3414 (F j)) := fun j hj => by
                rw [hF]
                exact fits_up (fits_tim (HFIT.out i j hlti hj) (HFH.out j)) (by omega)
              have HQS : Hid (∀ j, j ≤ n → qw (sumR F j) ≤ 50000) := fun j hj => sum_part_qw hn5 (by omega) HFF.out hj
              have HQF : Hid (∀ j, j < n → qw (F j) ≤ 50000) := fun j hj => by have := fits_qw (HFF.out j hj); omega
              have HFE : Hid (∀ j, F j = P i j * X j) := fun j => by rw [hX]; exact HFE0.out j
              have HQX : Hid (∀ j, j < n → qw (X j) ≤ 50000) := fun j hj => by rw [hX]; have := fits_qw (HFH.out j); omega
              have HHX : Hid (FrS W (some ⟨G, 0, none⟩) (lF n X)) := by rw [hX]; exact HHX0.out
              clear hF HFF hX
              go_wp2_with fail
              refine (HO0.out _).mono ?_
              rintro e V0 ⟨rfl, hbv⟩
              have HX0 : Hid (Box (V0.alloc (FC (sgn 0) (nu 0) (de 0))) V0.heap.size (qF (sumR F 0)).1 (qF (sumR F 0)).2.1 (qF (sumR F 0)).2.2) := Box.new V0 (sgn 0) (nu 0) (de 0)
              have HBZ : Hid (Below V0.heap.size V0 (V0.alloc (FC (sgn 0) (nu 0) (de 0)))) := (Below.refl _ _).alloc (Nat.le_refl _) _
              have HBV5 := hid (HB5.out.trans (hbv.mono HB5.out.size))
              have HBV := hid (HBL.out.trans (HBV5.out.mono HBL.out.size))
              have HXV := hid (HHX.out.below HBV.out)
              clear hbv
              go_wp2_with fail
              generalize (V0.alloc (FC (sgn 0) (nu 0) (de 0))) = V1 at *
              obtain ⟨gB, hgB⟩ : ∃ x, V0.heap.size = x := ⟨_, rfl⟩
              rw [hgB] at HX0 HBZ
              have HGE := hid hgB
              have HGV : Hid (gB ≤ V0.heap.size) := Nat.le_of_eq hgB.symm
              have HWG : Hid (W.heap.size ≤ gB) := by rw [← hgB]; exact HBV.out.size
              simp only [hgB]
              clear hgB
              go_loopw [22] (fun jv wr => ∃ j : Nat, j ≤ n ∧ jv = .int .i64 j ∧ Hid (Box wr gB (qF (sumR F j)).1 (qF (sumR F j)).2.1 (qF (sumR F j)).2.2) ∧ Hid (Below gB V0 wr)) (fun jv _ => n - (intOf jv).toNat)
              case atStart => exact ⟨0, Nat.zero_le _, rfl, HX0, HBZ⟩
              case round =>
                obtain ⟨j, hj, rfl, HX, HB⟩ := hrel
                clear HX0 HBZ
                by_cases hlj : j < n
                · have HWr : Hid (Below W.heap.size W wr) := HBV.out.trans (HB.out.mono HWG.out)
                  obtain ⟨gr, or_, cr, hgr, x0, x1, x2, x3⟩ := HMC.out i j hlti hlj
                  have hxl : j < (lF n X).length := by rw [lF_length]; exact hlj
                  obtain ⟨gX', oX', hXe, hgX, y0, y1, y2⟩ := HXV.out j hxl
                  cases hXe
                  rw [lF_get] at y0 y1 y2
                  rw [Nat.zero_add] at y0 y1 y2
                  have HMU : Hid (∀ U : World, Calls Tryz.prog 14 #[.agg #[.bool (qF (P i j)).1, .string (qF (P i j)).2.1, .string (qF (P i j)).2.2], .agg #[.bool (qF (X j)).1, .string (qF (X j)).2.1, .string (qF (X j)).2.2]] U fun e w' => e = .returned (.agg #[.bool (qF (F j)).1, .string (qF (F j)).2.1, .string (qF (F j)).2.2]) ∧ Below U.heap.size U w') := fun U => by
                    rw [HFE.out j]
                    exact rMulQ (P i j) (X j) U (HQP.out i j hlti hlj) (HQX.out j hlj)
                  have HAD : Hid (∀ U : World, Calls Tryz.prog 13 #[.agg #[.bool (qF (sumR F j)).1, .string (qF (sumR F j)).2.1, .string (qF (sumR F j)).2.2], .agg #[.bool (qF (F j)).1, .string (qF (F j)).2.1, .string (qF (F j)).2.2]] U fun e w' => e = .returned (.agg #[.bool (qF (sumR F (j + 1))).1, .string (qF (sumR F (j + 1))).2.1, .string (qF (sumR F (j + 1))).2.2]) ∧ Below U.heap.size U w') := fun U => rAddQ (sumR F j) (F j) U (HQS.out j hj) (HQF.out j hlj)
                  generalize hz1 : qF (P i j) = z1 at *
                  obtain ⟨an, ax, ay⟩ := z1
                  generalize hz2 : qF (X j) = z2 at *
                  obtain ⟨bn, bx, by_⟩ := z2
                  simp only at x1 x2 x3 y0 y1 y2 HMU
                  clear hz1 hz2
                  have HELD : Hid (∀ u, Below gB V0 u → u.cell? ⟨g, o + i, none⟩ = some (.slice (some ⟨gr, or_, none⟩) n cr) ∧ u.cell? ⟨gr, or_ + j * 3, none⟩ = some (.bool an) ∧ u.cell? ⟨gr, or_ + j * 3 + 1, none⟩ = some (.string ax) ∧ u.cell? ⟨gr, or_ + j * 3 + 2, none⟩ = some (.string ay) ∧ u.cell? ⟨G, j * 3, none⟩ = some (.bool bn) ∧ u.cell? ⟨G, j * 3 + 1, none⟩ = some (.string bx) ∧ u.cell? ⟨G, j * 3 + 2, none⟩ = some (.string by_)) := fun u h => by
                    have hW := HBV.out.trans (h.mono HWG.out)
                    exact ⟨(hW.cell (p := ⟨g, _, none⟩) HGM.out).trans x0, (hW.cell (p := ⟨gr, _, none⟩) hgr).trans x1, (hW.cell (p := ⟨gr, _, none⟩) hgr).trans x2, (hW.cell (p := ⟨gr, _, none⟩) hgr).trans x3, (h.cell (p := ⟨G, _, none⟩) (Nat.lt_of_lt_of_eq hgX HGE.out)).trans y0, (h.cell (p := ⟨G, _, none⟩) (Nat.lt_of_lt_of_eq hgX HGE.out)).trans y1, (h.cell (p := ⟨G, _, none⟩) (Nat.lt_of_lt_of_eq hgX HGE.out)).trans y2⟩
                  go_upto_region 39 with fail
                  clear x0 x1 x2 x3 y0 y1 y2 HWr
                  replace HX := hid HX.out.drew
                  replace HB := hid HB.out.drew
                  refine wp_region_held_drew (S := fun u => u.cell? ⟨g, o + i, none⟩ = some (.slice (some ⟨gr, or_, none⟩) n cr) ∧ u.cell? ⟨gr, or_ + j * 3, none⟩ = some (.bool an) ∧ u.cell? ⟨gr, or_ + j * 3 + 1, none⟩ = some (.string ax) ∧ u.cell? ⟨gr, or_ + j * 3 + 2, none⟩ = some (.string ay) ∧ u.cell? ⟨G, j * 3, none⟩ = some (.bool bn) ∧ u.cell? ⟨G, j * 3 + 1, none⟩ = some (.string bx) ∧ u.cell? ⟨G, j * 3 + 2, none⟩ = some (.string by_)) (by kernel_rfl) (HELD.out _ HB.out) (fun hSd => ?_)
                  generalize wr.drew = u0 at *
                  refine wpAnyH_take (i := 1) (oi := _) (v := .slice (some ⟨g, o, none⟩) n ca) rfl (by kernel_rfl) (by kernel_rfl) (by kernel_rfl) (fun _ _ _ h => h) (Or.inl ⟨by rfl, ?_⟩) (by assumption) ?_
                  · intro u' hSu
                    (try simp only [List.getElem_toArray, List.getElem_cons_zero, List.getElem_cons_succ])
                    go_simp
                  (try simp only [List.getElem_toArray, List.getElem_cons_zero, List.getElem_cons_succ])
                  (try simp only [Act.put, List.setIfInBounds_toArray, List.set_cons_zero, List.set_cons_succ])
                  refine wpAnyH_take (i := 2) (oi := _) (v := .int .i64 (i : Nat)) rfl (by kernel_rfl) (by kernel_rfl) (by kernel_rfl) (fun _ _ _ h => h) (Or.inl ⟨by rfl, ?_⟩) (by assumption) ?_
                  · intro u' hSu
                    (try simp only [List.getElem_toArray, List.getElem_cons_zero, List.getElem_cons_succ])
                    go_simp
                  (try simp only [List.getElem_toArray, List.getElem_cons_zero, List.getElem_cons_succ])
                  (try simp only [Act.put, List.setIfInBounds_toArray, List.set_cons_zero, List.set_cons_succ])
                  refine wpAnyH_take (i := 3) (oi := _) (v := .pointer (some ⟨g, o + i, none⟩)) rfl (by kernel_rfl) (by kernel_rfl) (by kernel_rfl) (fun _ _ _ h => h) (Or.inl ⟨by rfl, ?_⟩) (by assumption) ?_
                  · intro u' hSu
                    (try simp only [List.getElem_toArray, List.getElem_cons_zero, List.getElem_cons_succ])
                    go_simp
                  (try simp only [List.getElem_toArray, List.getElem_cons_zero, List.getElem_cons_succ])
                  (try simp only [Act.put, List.setIfInBounds_toArray, List.set_cons_zero, List.set_cons_succ])
                  refine wpAnyH_take (i := 4) (oi := _) (v := .slice (some ⟨gr, or_, none⟩) n cr) rfl (by kernel_rfl) (by kernel_rfl) (by kernel_rfl) (fun _ _ _ h => h) (Or.inl ⟨by rfl, ?_⟩) (by assumption) ?_
                  · intro u' hSu
                    (try simp only [List.getElem_toArray, List.getElem_cons_zero, List.getElem_cons_succ])
                    obtain ⟨s0, s1, s2, s3, s4, s5, s6⟩ := hSu
                    go_simp
                  (try simp only [List.getElem_toArray, List.getElem_cons_zero, List.getElem_cons_succ])
                  (try simp only [Act.put, List.setIfInBounds_toArray, List.set_cons_zero, List.set_cons_succ])
                  refine wpAnyH_take (i := 5) (oi := _) (v := .int .i64 (j : Nat)) rfl (by kernel_rfl) (by kernel_rfl) (by kernel_rfl) (fun _ _ _ h => h) (Or.inl ⟨by rfl, ?_⟩) (by assumption) ?_
                  · intro u' hSu
                    (try simp only [List.getElem_toArray, List.getElem_cons_zero, List.getElem_cons_succ])
                    go_simp
                  (try simp only [List.getElem_toArray, List.getElem_cons_zero, List.getElem_cons_succ])
                  (try simp only [Act.put, List.setIfInBounds_toArray, List.set_cons_zero, List.set_cons_succ])
                  refine wpAnyH_take (i := 6) (oi := _) (v := .pointer (some ⟨gr, or_ + j * 3, none⟩)) rfl (by kernel_rfl) (by kernel_rfl) (by kernel_rfl) (fun _ _ _ h => h) (Or.inl ⟨by rfl, ?_⟩) (by assumption) ?_
                  · intro u' hSu
                    (try simp only [List.getElem_toArray, List.getElem_cons_zero, List.getElem_cons_succ])
                    go_simp
                  (try simp only [List.getElem_toArray, List.getElem_cons_zero, List.getElem_cons_succ])
                  (try simp only [Act.put, List.setIfInBounds_toArray, List.set_cons_zero, List.set_cons_succ])
                  refine wpAnyH_take (i := 7) (oi := _) (v := .agg #[.bool an, .string ax, .string ay]) rfl (by kernel_rfl) (by kernel_rfl) (by kernel_rfl) (fun _ _ _ h => h) (Or.inl ⟨by rfl, ?_⟩) (by assumption) ?_
                  · intro u' hSu
                    (try simp only [List.getElem_toArray, List.getElem_cons_zero, List.getElem_cons_succ])
                    obtain ⟨s0, s1, s2, s3, s4, s5, s6⟩ := hSu
                    go_simp
                  (try simp only [List.getElem_toArray, List.getElem_cons_zero, List.getElem_cons_succ])
                  (try simp only [Act.put, List.setIfInBounds_toArray, List.set_cons_zero, List.set_cons_succ])
                  refine wpAnyH_take (i := 8) (oi := _) (v := .slice (some ⟨G, 0, none⟩) n n) rfl (by kernel_rfl) (by kernel_rfl) (by kernel_rfl) (fun _ _ _ h => h) (Or.inl ⟨by rfl, ?_⟩) (by assumption) ?_
                  · intro u' hSu
                    (try simp only [List.getElem_toArray, List.getElem_cons_zero, List.getElem_cons_succ])
                    go_simp
                  (try simp only [List.getElem_toArray, List.getElem_cons_zero, List.getElem_cons_succ])
                  (try simp only [Act.put, List.setIfInBounds_toArray, List.set_cons_zero, List.set_cons_succ])
                  refine wpAnyH_take (i := 9) (oi := _) (v := .int .i64 (j : Nat)) rfl (by kernel_rfl) (by kernel_rfl) (by kernel_rfl) (fun _ _ _ h => h) (Or.inl ⟨by rfl, ?_⟩) (by assumption) ?_
                  · intro u' hSu
                    (try simp only [List.getElem_toArray, List.getElem_cons_zero, List.getElem_cons_succ])
                    go_simp
                  (try simp only [List.getElem_toArray, List.getElem_cons_zero, List.getElem_cons_succ])
                  (try simp only [Act.put, List.setIfInBounds_toArray, List.set_cons_zero, List.set_cons_succ])
                  refine wpAnyH_take (i := 10) (oi := _) (v := .pointer (some ⟨G, j * 3, none⟩)) rfl (by kernel_rfl) (by kernel_rfl) (by kernel_rfl) (fun _ _ _ h => h) (Or.inl ⟨by rfl, ?_⟩) (by assumption) ?_
                  · intro u' hSu
                    (try simp only [List.getElem_toArray, List.getElem_cons_zero, List.getElem_cons_succ])
                    go_simp
                  (try simp only [List.getElem_toArray, List.getElem_cons_zero, List.getElem_cons_succ])
                  (try simp only [Act.put, List.setIfInBounds_toArray, List.set_cons_zero, List.set_cons_succ])
                  refine wpAnyH_take (i := 11) (oi := _) (v := .agg #[.bool bn, .string bx, .string by_]) rfl (by kernel_rfl) (by kernel_rfl) (by kernel_rfl) (fun _ _ _ h => h) (Or.inl ⟨by rfl, ?_⟩) (by assumption) ?_
                  · intro u' hSu
                    (try simp only [List.getElem_toArray, List.getElem_cons_zero, List.getElem_cons_succ])
                    obtain ⟨s0, s1, s2, s3, s4, s5, s6⟩ := hSu
                    go_simp
                  (try simp only [List.getElem_toArray, List.getElem_cons_zero, List.getElem_cons_succ])
                  (try simp only [Act.put, List.setIfInBounds_toArray, List.set_cons_zero, List.set_cons_succ])
                  refine wpAnyH_ready (rs := [0, 12]) (by kernel_rfl) (by simp) (AllReadyH.cons rfl ?_ (AllReadyH.cons rfl ?_ (AllReadyH.nil)))
                  · intro K' hK'
                    obtain ⟨k0, k1, k2⟩ := HX.out.trio
                    (try simp only [List.getElem_toArray, List.getElem_cons_zero])
                    go_simp
                    refine hK'.out _ _ hSd (fun hSe => ?_)
                    clear k0 k1 k2
                    clear hK' K' hSd
                    have hSd := hSe
                    clear hSe
                    (try simp only [List.getElem_toArray, List.getElem_cons_zero, List.getElem_cons_succ])
                    (try simp only [Act.put, List.setIfInBounds_toArray, List.set_cons_zero, List.set_cons_succ])
                    refine wpAnyH_ready (rs := [12]) (by kernel_rfl) (by simp) (AllReadyH.cons rfl ?_ (AllReadyH.nil))
                    · intro K' hK'
                      (try simp only [List.getElem_toArray, List.getElem_cons_zero, List.getElem_cons_succ])
                      go_simp
                      refine (HMU.out _).mono ?_
                      rintro e q1 ⟨rfl, hb⟩
                      replace HX := hid (HX.out.below hb HX.out.lt)
                      replace HB := hid (HB.out.trans (hb.mono (Nat.le_trans HGV.out HB.out.size)))
                      refine hK'.out _ _ (HELD.out _ HB.out) (fun hSe => ?_)
                      clear hb
                      clear hK' K' hSd
                      have hSd := hSe
                      clear hSe
                      (try simp only [List.getElem_toArray, List.getElem_cons_zero, List.getElem_cons_succ])
                      (try simp only [Act.put, List.setIfInBounds_toArray, List.set_cons_zero, List.set_cons_succ])
                      refine wpAnyH_ready (rs := [13]) (by kernel_rfl) (by simp) (AllReadyH.cons rfl ?_ (AllReadyH.nil))
                      · intro K' hK'
                        (try simp only [List.getElem_toArray, List.getElem_cons_zero, List.getElem_cons_succ])
                        go_simp
                        refine (HAD.out _).mono ?_
                        rintro e q2 ⟨rfl, hb⟩
                        replace HX := hid (HX.out.below hb HX.out.lt)
                        replace HB := hid (HB.out.trans (hb.mono (Nat.le_trans HGV.out HB.out.size)))
                        refine hK'.out _ _ (HELD.out _ HB.out) (fun hSe => ?_)
                        clear hb
                        clear hK' K' hSd
                        have hSd := hSe
                        clear hSe
                        (try simp only [List.getElem_toArray, List.getElem_cons_zero, List.getElem_cons_succ])
                        (try simp only [Act.put, List.setIfInBounds_toArray, List.set_cons_zero, List.set_cons_succ])
                        obtain ⟨k0, k1, k2⟩ := HX.out.trio
                        have f0 := HX.out.fz 0
                        have f1 := HX.out.fz 1
                        have f2 := HX.out.fz 2
                        refine wpAnyH_ready (rs := [14]) (by kernel_rfl) (by simp) (AllReadyH.cons rfl ?_ (AllReadyH.nil))
                        · intro K' hK'
                          (try simp only [List.getElem_toArray, List.getElem_cons_zero, List.getElem_cons_succ])
                          go_simp
                          have HXN := hid (HX.out.put (qF (sumR F (j + 1))).1 (qF (sumR F (j + 1))).2.1 (qF (sumR F (j + 1))).2.2)
                          have HBN := hid (((HB.out.setCell (p := ⟨gB, 0, none⟩) (Nat.le_refl _) (.bool (qF (sumR F (j + 1))).1)).setCell (p := ⟨gB, 1, none⟩) (Nat.le_refl _) (.string (qF (sumR F (j + 1))).2.1)).setCell (p := ⟨gB, 2, none⟩) (Nat.le_refl _) (.string (qF (sumR F (j + 1))).2.2))
                          refine hK'.out _ _ (HELD.out _ HBN.out) (fun _ => wpAnyH_done (by kernel_rfl) ?_ _)
                          clear hK' K' hSd k0 k1 k2 f0 f1 f2 HX HB
                          go_wp2
                          go_roundw
                          case rel => exact ⟨j + 1, by omega, by go_num, HXN, HBN⟩
                          case measure => simp [intOf]; omega
                  · intro K' hK'
                    (try simp only [List.getElem_toArray, List.getElem_cons_zero, List.getElem_cons_succ])
                    go_simp
                    refine (HMU.out _).mono ?_
                    rintro e q1 ⟨rfl, hb⟩
                    replace HX := hid (HX.out.below hb HX.out.lt)
                    replace HB := hid (HB.out.trans (hb.mono (Nat.le_trans HGV.out HB.out.size)))
                    refine hK'.out _ _ (HELD.out _ HB.out) (fun hSe => ?_)
                    clear hb
                    clear hK' K' hSd
                    have hSd := hSe
                    clear hSe
                    (try simp only [List.getElem_toArray, List.getElem_cons_zero, List.getElem_cons_succ])
                    (try simp only [Act.put, List.setIfInBounds_toArray, List.set_cons_zero, List.set_cons_succ])
                    refine wpAnyH_ready (rs := [0]) (by kernel_rfl) (by simp) (AllReadyH.cons rfl ?_ (AllReadyH.nil))
                    · intro K' hK'
                      obtain ⟨k0, k1, k2⟩ := HX.out.trio
                      (try simp only [List.getElem_toArray, List.getElem_cons_zero])
                      go_simp
                      refine hK'.out _ _ hSd (fun hSe => ?_)
                      clear k0 k1 k2
                      clear hK' K' hSd
                      have hSd := hSe
                      clear hSe
                      (try simp only [List.getElem_toArray, List.getElem_cons_zero, List.getElem_cons_succ])
                      (try simp only [Act.put, List.setIfInBounds_toArray, List.set_cons_zero, List.set_cons_succ])
                      refine wpAnyH_ready (rs := [13]) (by kernel_rfl) (by simp) (AllReadyH.cons rfl ?_ (AllReadyH.nil))
                      · intro K' hK'
                        (try simp only [List.getElem_toArray, List.getElem_cons_zero, List.getElem_cons_succ])
                        go_simp
                        refine (HAD.out _).mono ?_
                        rintro e q2 ⟨rfl, hb⟩
                        replace HX := hid (HX.out.below hb HX.out.lt)
                        replace HB := hid (HB.out.trans (hb.mono (Nat.le_trans HGV.out HB.out.size)))
                        refine hK'.out _ _ (HELD.out _ HB.out) (fun hSe => ?_)
                        clear hb
                        clear hK' K' hSd
                        have hSd := hSe
                        clear hSe
                        (try simp only [List.getElem_toArray, List.getElem_cons_zero, List.getElem_cons_succ])
                        (try simp only [Act.put, List.setIfInBounds_toArray, List.set_cons_zero, List.set_cons_succ])
                        obtain ⟨k0, k1, k2⟩ := HX.out.trio
                        have f0 := HX.out.fz 0
                        have f1 := HX.out.fz 1
                        have f2 := HX.out.fz 2
                        refine wpAnyH_ready (rs := [14]) (by kernel_rfl) (by simp) (AllReadyH.cons rfl ?_ (AllReadyH.nil))
                        · intro K' hK'
                          (try simp only [List.getElem_toArray, List.getElem_cons_zero, List.getElem_cons_succ])
                          go_simp
                          have HXN := hid (HX.out.put (qF (sumR F (j + 1))).1 (qF (sumR F (j + 1))).2.1 (qF (sumR F (j + 1))).2.2)
                          have HBN := hid (((HB.out.setCell (p := ⟨gB, 0, none⟩) (Nat.le_refl _) (.bool (qF (sumR F (j + 1))).1)).setCell (p := ⟨gB, 1, none⟩) (Nat.le_refl _) (.string (qF (sumR F (j + 1))).2.1)).setCell (p := ⟨gB, 2, none⟩) (Nat.le_refl _) (.string (qF (sumR F (j + 1))).2.2))
                          refine hK'.out _ _ (HELD.out _ HBN.out) (fun _ => wpAnyH_done (by kernel_rfl) ?_ _)
                          clear hK' K' hSd k0 k1 k2 f0 f1 f2 HX HB
                          go_wp2
                          go_roundw
                          case rel => exact ⟨j + 1, by omega, by go_num, HXN, HBN⟩
                          case measure => simp [intOf]; omega
                · obtain rfl : n = j := by omega
                  have HIN := hid (HINS.out i wr (HBV.out.trans (HB.out.mono HWG.out)))
                  go_wp2_with fail
                  refine HIN.out.mono ?_
                  rintro e w9 ⟨rfl, rfl⟩
                  have HG5 : Hid (W5.heap.size ≤ gB) := by rw [← HGE.out]; exact HBV5.out.size
                  have HB2 : Hid (Below W5.heap.size W5 w9) := HBV5.out.trans (HB.out.mono HG5.out)
                  have HSTEP := hid (HHS.out i hlti)
                  by_cases his : i ∈ S
                  · rw [decide_eq_true his]
                    go_wp2_with fail
                    refine (HO1.out _).mono ?_
                    rintro e w10 ⟨rfl, hb10⟩
                    have HX1 := hid (HX.out.below hb10 HX.out.lt)
                    have HB3 := hid (HB2.out.trans (hb10.mono HB2.out.size))
                    obtain ⟨k0, k1, k2⟩ := HX1.out.trio
                    have f0 := HX1.out.fz 0
                    have f1 := HX1.out.fz 1
                    have f2 := HX1.out.fz 2
                    have HX2 := hid (HX1.out.put (sgn 1) (nu 1) (de 1))
                    have HBq := hid (((HB3.out.setCell (p := ⟨gB, 0, none⟩) HG5.out (.bool (sgn 1))).setCell (p := ⟨gB, 1, none⟩) HG5.out (.string (nu 1))).setCell (p := ⟨gB, 2, none⟩) HG5.out (.string (de 1)))
                    have HE9 : Hid (qF (hq i) = (sgn 1, nu 1, de 1)) := by show _ = _; rw [HSTEP.out.1 his]; rfl
                    clear HX1 HB3 hb10 HIN HB2 HX HB
                    go_upto_region 42 with fail
                    clear k0 k1 k2 f0 f1 f2
                    generalize (((w10.setCell ⟨gB, 0, none⟩ (.bool (sgn 1))).setCell ⟨gB, 1, none⟩ (.string (nu 1))).setCell ⟨gB, 2, none⟩ (.string (de 1))) = Uq at *
                    have HXq : Hid (Box Uq gB (qF (hq i)).1 (qF (hq i)).2.1 (qF (hq i)).2.2) := by
                      show Box _ _ _ _ _
                      rw [HE9.out]
                      exact HX2.out
                    clear HX2 HE9
                    have HBqW : Hid (Below W.heap.size W Uq) := HBL.out.trans (HBq.out.mono HBL.out.size)
                    have HELD : Hid (∀ u, Below Uq.heap.size Uq u → u.cell? ⟨G, i * 3, none⟩ = some (.bool (qF (hq i)).1) ∧ u.cell? ⟨G, i * 3 + 1, none⟩ = some (.string (qF (hq i)).2.1) ∧ u.cell? ⟨G, i * 3 + 2, none⟩ = some (.string (qF (hq i)).2.2) ∧ u.cell? ⟨gL, oL + i * 3, none⟩ = some (.bool (qF (lowQ n P S KK i)).1) ∧ u.cell? ⟨gL, oL + i * 3 + 1, none⟩ = some (.string (qF (lowQ n P S KK i)).2.1) ∧ u.cell? ⟨gL, oL + i * 3 + 2, none⟩ = some (.string (qF (lowQ n P S KK i)).2.2) ∧ u.cell? ⟨gB, 0, none⟩ = some (.bool (qF (hq i)).1) ∧ u.cell? ⟨gB, 1, none⟩ = some (.string (qF (hq i)).2.1) ∧ u.cell? ⟨gB, 2, none⟩ = some (.string (qF (hq i)).2.2)) := fun u hu => by
                      have h1 := HBqW.out.trans (hu.mono HBqW.out.size)
                      obtain ⟨p0, p1', p2⟩ := HHW.out.cells i (by rw [lF_length]; exact hlti)
                      rw [lF_get] at p0 p1' p2
                      obtain ⟨gL', oL', hLe, hgL, l0, l1, l2⟩ := HLW.out i (by rw [lF_length]; exact hlti)
                      cases hLe
                      rw [lF_get] at l0 l1 l2
                      have h2 := HBq.out.trans (hu.mono HBq.out.size)
                      have h3 := HXq.out.below hu HXq.out.lt
                      exact ⟨(h1.cell (p := ⟨G, _, none⟩) hGW).trans p0, (h1.cell (p := ⟨G, _, none⟩) hGW).trans p1', (h1.cell (p := ⟨G, _, none⟩) hGW).trans p2, (h2.cell (p := ⟨gL, _, none⟩) hgL).trans l0, (h2.cell (p := ⟨gL, _, none⟩) hgL).trans l1, (h2.cell (p := ⟨gL, _, none⟩) hgL).trans l2, h3.c0, h3.c1, h3.c2⟩
                    have HC1 : Hid (∀ U : World, Calls Tryz.prog 15 #[.agg #[.bool (qF (lowQ n P S KK i)).1, .string (qF (lowQ n P S KK i)).2.1, .string (qF (lowQ n P S KK i)).2.2], .agg #[.bool (qF (hq i)).1, .string (qF (hq i)).2.1, .string (qF (hq i)).2.2]] U fun e w' => e = .returned (.int .i64 (cmpQ (lowQ n P S KK i) (hq i))) ∧ Below U.heap.size U w') := fun U => rCmpQ (lowQ n P S KK i) (hq i) U (by
                      have hb : bL KK ≤ 11716 := Nat.le_trans (bL_mono hK5) (by decide)
                      have := fits_qw (lowQ_fits (S := S) hn5 HFIT.out KK i hlti)
                      omega) (by have := fits_qw (HFH.out i); omega)
                    have HC2 : Hid (∀ U : World, Calls Tryz.prog 15 #[.agg #[.bool (qF (hq i)).1, .string (qF (hq i)).2.1, .string (qF (hq i)).2.2], .agg #[.bool (sgn 1), .string (nu 1), .string (de 1)]] U fun e w' => e = .returned (.int .i64 (cmpQ (hq i) 1)) ∧ Below U.heap.size U w') := fun U => rCmpQ (hq i) 1 U (by have := fits_qw (HFH.out i); omega) (by have h1 : qw 1 ≤ 2 := qw_one2; omega)
                    have HC1N : Hid (¬ 0 < cmpQ (lowQ n P S KK i) (hq i)) := cmp_low (lowQ_le HIT.out KK i hlti)
                    have HC2N : Hid (¬ 0 < cmpQ (hq i) 1) := cmp_low (HIT.out.all hlti).2
                    have HCOM := hid (fun (U : World) (hU : Below Uq.heap.size Uq U) => HCOMES.out i hlti U (HBqW.out.trans (hU.mono HBqW.out.size)))
                    have HANY : Hid (S.any (cmsB n P i) = false ↔ hq i = 0) := by
                      refine Iff.trans ?_ (HIT.out.none hlti).symm
                      rw [List.any_eq_false]
                      exact ⟨fun h j hj => Bool.eq_false_iff.2 (h j hj), fun h j hj => Bool.eq_false_iff.1 (h j hj)⟩
                    have hcase : (((qF (hq i)).1 = sgn 0 ∧ (qF (hq i)).2.1 = nu 0 ∧ (qF (hq i)).2.2 = de 0) ∧ S.length = 0 ∧ S.any (cmsB n P i) = false) ∨ (((qF (hq i)).1 = sgn 0 ∧ (qF (hq i)).2.1 = nu 0 ∧ (qF (hq i)).2.2 = de 0) ∧ ¬ S.length = 0 ∧ S.any (cmsB n P i) = false) ∨ (¬ ((qF (hq i)).1 = sgn 0 ∧ (qF (hq i)).2.1 = nu 0 ∧ (qF (hq i)).2.2 = de 0) ∧ ¬ S.length = 0 ∧ S.any (cmsB n P i) = true) := by
                      by_cases hz : hq i = 0
                      · have e0 : (qF (hq i)).1 = sgn 0 ∧ (qF (hq i)).2.1 = nu 0 ∧ (qF (hq i)).2.2 = de 0 := by rw [hz]; exact ⟨rfl, rfl, rfl⟩
                        by_cases hs : S.length = 0
                        · exact .inl ⟨e0, hs, HANY.out.2 hz⟩
                        · exact .inr (.inl ⟨e0, hs, HANY.out.2 hz⟩)
                      · have ha : S.any (cmsB n P i) = true := by
                          cases h9 : S.any (cmsB n P i) with
                          | true => rfl
                          | false => exact absurd (HANY.out.1 h9) hz
                        refine .inr (.inr ⟨fun e => hz (qF_same (Prod.ext e.1 (Prod.ext e.2.1 e.2.2))), fun hs => ?_, ha⟩)
                        rw [List.eq_nil_of_length_eq_zero hs] at ha
                        cases ha
                    have HCASE := hid hcase
                    clear hcase HANY HIT HSTEP HBqW
                    generalize S.any (cmsB n P i) = av at *
                    generalize cmpQ (lowQ n P S KK i) (hq i) = cv1 at *
                    generalize cmpQ (hq i) 1 = cv2 at *
                    generalize hzl : qF (lowQ n P S KK i) = zl at *
                    obtain ⟨ln_, lx_, ly_⟩ := zl
                    generalize hzh : qF (hq i) = zh at *
                    obtain ⟨hn_, hx_, hy_⟩ := zh
                    simp only at HELD HC1 HC2 HCASE
                    clear hzl hzh HXq
                    generalize sgn 0 = zn at *
                    generalize nu 0 = zx at *
                    generalize de 0 = zy at *
                    generalize sgn 1 = on at *
                    generalize nu 1 = ox at *
                    generalize de 1 = oy at *
                    have HBz : Hid (Below Uq.heap.size Uq Uq.drew) := (Below.refl _ _).drew
                    refine wp_region_held_drew (S := fun u => u.cell? ⟨G, i * 3, none⟩ = some (.bool hn_) ∧ u.cell? ⟨G, i * 3 + 1, none⟩ = some (.string hx_) ∧ u.cell? ⟨G, i * 3 + 2, none⟩ = some (.string hy_) ∧ u.cell? ⟨gL, oL + i * 3, none⟩ = some (.bool ln_) ∧ u.cell? ⟨gL, oL + i * 3 + 1, none⟩ = some (.string lx_) ∧ u.cell? ⟨gL, oL + i * 3 + 2, none⟩ = some (.string ly_) ∧ u.cell? ⟨gB, 0, none⟩ = some (.bool hn_) ∧ u.cell? ⟨gB, 1, none⟩ = some (.string hx_) ∧ u.cell? ⟨gB, 2, none⟩ = some (.string hy_)) (by kernel_rfl) (HELD.out _ HBz.out) (fun hSd => ?_)
                    generalize Uq.drew = u0 at *
                    refine wpAnyH_take (i := 0) (oi := _) (v := .slice (some ⟨G, 0, none⟩) n n) rfl (by kernel_rfl) (by kernel_rfl) (by kernel_rfl) (fun _ _ _ h => h) (Or.inl ⟨by rfl, ?_⟩) (by assumption) ?_
                    · intro u' hSu
                      (try simp only [List.getElem_toArray, List.getElem_cons_zero])
                      go_simp
                    (try simp only [List.getElem_toArray, List.getElem_cons_zero])
                    (try simp only [Act.put, List.setIfInBounds_toArray, List.set_cons_zero, List.set_cons_succ])
                    refine wpAnyH_take (i := 1) (oi := _) (v := .int .i64 (i : Nat)) rfl (by kernel_rfl) (by kernel_rfl) (by kernel_rfl) (fun _ _ _ h => h) (Or.inl ⟨by rfl, ?_⟩) (by assumption) ?_
                    · intro u' hSu
                      (try simp only [List.getElem_toArray, List.getElem_cons_zero, List.getElem_cons_succ])
                      go_simp
                    (try simp only [List.getElem_toArray, List.getElem_cons_zero, List.getElem_cons_succ])
                    (try simp only [Act.put, List.setIfInBounds_toArray, List.set_cons_zero, List.set_cons_succ])
                    refine wpAnyH_take (i := 2) (oi := _) (v := .pointer (some ⟨G, i * 3, none⟩)) rfl (by kernel_rfl) (by kernel_rfl) (by kernel_rfl) (fun _ _ _ h => h) (Or.inl ⟨by rfl, ?_⟩) (by assumption) ?_
                    · intro u' hSu
                      (try simp only [List.getElem_toArray, List.getElem_cons_zero, List.getElem_cons_succ])
                      go_simp
                    (try simp only [List.getElem_toArray, List.getElem_cons_zero, List.getElem_cons_succ])
                    (try simp only [Act.put, List.setIfInBounds_toArray, List.set_cons_zero, List.set_cons_succ])
                    refine wpAnyH_take (i := 3) (oi := _) (v := .agg #[.bool hn_, .string hx_, .string hy_]) rfl (by kernel_rfl) (by kernel_rfl) (by kernel_rfl) (fun _ _ _ h => h) (Or.inl ⟨by rfl, ?_⟩) (by assumption) ?_
                    · intro u' hSu
                      (try simp only [List.getElem_toArray, List.getElem_cons_zero, List.getElem_cons_succ])
                      obtain ⟨s0, s1, s2, s3, s4, s5, s6, s7, s8⟩ := hSu
                      go_simp
                    (try simp only [List.getElem_toArray, List.getElem_cons_zero, List.getElem_cons_succ])
                    (try simp only [Act.put, List.setIfInBounds_toArray, List.set_cons_zero, List.set_cons_succ])
                    refine wpAnyH_take (i := 4) (oi := _) (v := .agg #[.bool hn_, .string hx_, .string hy_]) rfl (by kernel_rfl) (by kernel_rfl) (by kernel_rfl) (fun _ _ _ h => h) (Or.inl ⟨by rfl, ?_⟩) (by assumption) ?_
                    · intro u' hSu
                      (try simp only [List.getElem_toArray, List.getElem_cons_zero, List.getElem_cons_succ])
                      obtain ⟨s0, s1, s2, s3, s4, s5, s6, s7, s8⟩ := hSu
                      go_simp
                    (try simp only [List.getElem_toArray, List.getElem_cons_zero, List.getElem_cons_succ])
                    (try simp only [Act.put, List.setIfInBounds_toArray, List.set_cons_zero, List.set_cons_succ])
                    refine wpAnyH_take (i := 5) (oi := _) (v := .bool false) rfl (by kernel_rfl) (by kernel_rfl) (by kernel_rfl) (fun _ _ _ h => h) (Or.inl ⟨by rfl, ?_⟩) (by assumption) ?_
                    · intro u' hSu
                      (try simp only [List.getElem_toArray, List.getElem_cons_zero, List.getElem_cons_succ])
                      go_simp
                    (try simp only [List.getElem_toArray, List.getElem_cons_zero, List.getElem_cons_succ])
                    (try simp only [Act.put, List.setIfInBounds_toArray, List.set_cons_zero, List.set_cons_succ])
                    refine wpAnyH_take (i := 6) (oi := _) (v := .bool false) rfl (by kernel_rfl) (by kernel_rfl) (by kernel_rfl) (fun _ _ _ h => h) (Or.inl ⟨by rfl, ?_⟩) (by assumption) ?_
                    · intro u' hSu
                      (try simp only [List.getElem_toArray, List.getElem_cons_zero, List.getElem_cons_succ])
                      go_simp
                    (try simp only [List.getElem_toArray, List.getElem_cons_zero, List.getElem_cons_succ])
                    (try simp only [Act.put, List.setIfInBounds_toArray, List.set_cons_zero, List.set_cons_succ])
                    refine wpAnyH_take (i := 7) (oi := _) (v := .slice (some ⟨gL, oL, none⟩) n cL) rfl (by kernel_rfl) (by kernel_rfl) (by kernel_rfl) (fun _ _ _ h => h) (Or.inl ⟨by rfl, ?_⟩) (by assumption) ?_
                    · intro u' hSu
                      (try simp only [List.getElem_toArray, List.getElem_cons_zero, List.getElem_cons_succ])
                      go_simp
                    (try simp only [List.getElem_toArray, List.getElem_cons_zero, List.getElem_cons_succ])
                    (try simp only [Act.put, List.setIfInBounds_toArray, List.set_cons_zero, List.set_cons_succ])
                    refine wpAnyH_take (i := 8) (oi := _) (v := .int .i64 (i : Nat)) rfl (by kernel_rfl) (by kernel_rfl) (by kernel_rfl) (fun _ _ _ h => h) (Or.inl ⟨by rfl, ?_⟩) (by assumption) ?_
                    · intro u' hSu
                      (try simp only [List.getElem_toArray, List.getElem_cons_zero, List.getElem_cons_succ])
                      go_simp
                    (try simp only [List.getElem_toArray, List.getElem_cons_zero, List.getElem_cons_succ])
                    (try simp only [Act.put, List.setIfInBounds_toArray, List.set_cons_zero, List.set_cons_succ])
                    refine wpAnyH_take (i := 9) (oi := _) (v := .pointer (some ⟨gL, oL + i * 3, none⟩)) rfl (by kernel_rfl) (by kernel_rfl) (by kernel_rfl) (fun _ _ _ h => h) (Or.inl ⟨by rfl, ?_⟩) (by assumption) ?_
                    · intro u' hSu
                      (try simp only [List.getElem_toArray, List.getElem_cons_zero, List.getElem_cons_succ])
                      go_simp
                    (try simp only [List.getElem_toArray, List.getElem_cons_zero, List.getElem_cons_succ])
                    (try simp only [Act.put, List.setIfInBounds_toArray, List.set_cons_zero, List.set_cons_succ])
                    refine wpAnyH_take (i := 10) (oi := _) (v := .agg #[.bool ln_, .string lx_, .string ly_]) rfl (by kernel_rfl) (by kernel_rfl) (by kernel_rfl) (fun _ _ _ h => h) (Or.inl ⟨by rfl, ?_⟩) (by assumption) ?_
                    · intro u' hSu
                      (try simp only [List.getElem_toArray, List.getElem_cons_zero, List.getElem_cons_succ])
                      obtain ⟨s0, s1, s2, s3, s4, s5, s6, s7, s8⟩ := hSu
                      go_simp
                    (try simp only [List.getElem_toArray, List.getElem_cons_zero, List.getElem_cons_succ])
                    (try simp only [Act.put, List.setIfInBounds_toArray, List.set_cons_zero, List.set_cons_succ])
                    refine wpAnyH_take (i := 11) (oi := _) (v := .slice (some ⟨G, 0, none⟩) n n) rfl (by kernel_rfl) (by kernel_rfl) (by kernel_rfl) (fun _ _ _ h => h) (Or.inl ⟨by rfl, ?_⟩) (by assumption) ?_
                    · intro u' hSu
                      (try simp only [List.getElem_toArray, List.getElem_cons_zero, List.getElem_cons_succ])
                      go_simp
                    (try simp only [List.getElem_toArray, List.getElem_cons_zero, List.getElem_cons_succ])
                    (try simp only [Act.put, List.setIfInBounds_toArray, List.set_cons_zero, List.set_cons_succ])
                    refine wpAnyH_take (i := 12) (oi := _) (v := .int .i64 (i : Nat)) rfl (by kernel_rfl) (by kernel_rfl) (by kernel_rfl) (fun _ _ _ h => h) (Or.inl ⟨by rfl, ?_⟩) (by assumption) ?_
                    · intro u' hSu
                      (try simp only [List.getElem_toArray, List.getElem_cons_zero, List.getElem_cons_succ])
                      go_simp
                    (try simp only [List.getElem_toArray, List.getElem_cons_zero, List.getElem_cons_succ])
                    (try simp only [Act.put, List.setIfInBounds_toArray, List.set_cons_zero, List.set_cons_succ])
                    refine wpAnyH_take (i := 13) (oi := _) (v := .pointer (some ⟨G, i * 3, none⟩)) rfl (by kernel_rfl) (by kernel_rfl) (by kernel_rfl) (fun _ _ _ h => h) (Or.inl ⟨by rfl, ?_⟩) (by assumption) ?_
                    · intro u' hSu
                      (try simp only [List.getElem_toArray, List.getElem_cons_zero, List.getElem_cons_succ])
                      go_simp
                    (try simp only [List.getElem_toArray, List.getElem_cons_zero, List.getElem_cons_succ])
                    (try simp only [Act.put, List.setIfInBounds_toArray, List.set_cons_zero, List.set_cons_succ])
                    refine wpAnyH_take (i := 14) (oi := _) (v := .agg #[.bool hn_, .string hx_, .string hy_]) rfl (by kernel_rfl) (by kernel_rfl) (by kernel_rfl) (fun _ _ _ h => h) (Or.inl ⟨by rfl, ?_⟩) (by assumption) ?_
                    · intro u' hSu
                      (try simp only [List.getElem_toArray, List.getElem_cons_zero, List.getElem_cons_succ])
                      obtain ⟨s0, s1, s2, s3, s4, s5, s6, s7, s8⟩ := hSu
                      go_simp
                    (try simp only [List.getElem_toArray, List.getElem_cons_zero, List.getElem_cons_succ])
                    (try simp only [Act.put, List.setIfInBounds_toArray, List.set_cons_zero, List.set_cons_succ])
                    refine wpAnyH_ready (rs := [15]) (by kernel_rfl) (by simp) (AllReadyH.cons rfl ?_ (AllReadyH.nil))
                    · intro K' hK'
                      (try simp only [List.getElem_toArray, List.getElem_cons_zero, List.getElem_cons_succ])
                      go_simp
                      refine (HC1.out _).mono ?_
                      rintro e q1 ⟨rfl, hb⟩
                      replace HBz := hid (HBz.out.trans (hb.mono HBz.out.size))
                      refine hK'.out _ _ (HELD.out _ HBz.out) (fun hSe => ?_)
                      clear hb
                      clear hK' K' hSd
                      have hSd := hSe
                      clear hSe
                      (try simp only [List.getElem_toArray, List.getElem_cons_zero, List.getElem_cons_succ])
                      (try simp only [Act.put, List.setIfInBounds_toArray, List.set_cons_zero, List.set_cons_succ])
                      refine wpAnyH_take (i := 16) (oi := _) (v := .bool false) rfl (by kernel_rfl) (by kernel_rfl) (by kernel_rfl) (fun _ _ _ h => h) (Or.inl ⟨by rfl, ?_⟩) (by assumption) ?_
                      · intro u' hSu
                        (try simp only [List.getElem_toArray, List.getElem_cons_zero, List.getElem_cons_succ])
                        go_simp
                        (try exact Int.not_lt.1 HC1N.out)
                      (try simp only [List.getElem_toArray, List.getElem_cons_zero, List.getElem_cons_succ])
                      (try simp only [Act.put, List.setIfInBounds_toArray, List.set_cons_zero, List.set_cons_succ])
                      refine wpAnyH_take (i := 17) (oi := _) (v := .bool false) rfl (by kernel_rfl) (by kernel_rfl) (by kernel_rfl) (fun _ _ _ h => h) (Or.inl ⟨by rfl, ?_⟩) (by assumption) ?_
                      · intro u' hSu
                        (try simp only [List.getElem_toArray, List.getElem_cons_zero, List.getElem_cons_succ])
                        go_simp
                      (try simp only [List.getElem_toArray, List.getElem_cons_zero, List.getElem_cons_succ])
                      (try simp only [Act.put, List.setIfInBounds_toArray, List.set_cons_zero, List.set_cons_succ])
                      refine wpAnyH_take (i := 18) (oi := _) (v := .bool false) rfl (by kernel_rfl) (by kernel_rfl) (by kernel_rfl) (fun _ _ _ h => h) (Or.inl ⟨by rfl, ?_⟩) (by assumption) ?_
                      · intro u' hSu
                        (try simp only [List.getElem_toArray, List.getElem_cons_zero, List.getElem_cons_succ])
                        go_simp
                      (try simp only [List.getElem_toArray, List.getElem_cons_zero, List.getElem_cons_succ])
                      (try simp only [Act.put, List.setIfInBounds_toArray, List.set_cons_zero, List.set_cons_succ])
                      refine wpAnyH_take (i := 19) (oi := _) (v := .slice (some ⟨G, 0, none⟩) n n) rfl (by kernel_rfl) (by kernel_rfl) (by kernel_rfl) (fun _ _ _ h => h) (Or.inl ⟨by rfl, ?_⟩) (by assumption) ?_
                      · intro u' hSu
                        (try simp only [List.getElem_toArray, List.getElem_cons_zero, List.getElem_cons_succ])
                        go_simp
                      (try simp only [List.getElem_toArray, List.getElem_cons_zero, List.getElem_cons_succ])
                      (try simp only [Act.put, List.setIfInBounds_toArray, List.set_cons_zero, List.set_cons_succ])
                      refine wpAnyH_take (i := 20) (oi := _) (v := .int .i64 (i : Nat)) rfl (by kernel_rfl) (by kernel_rfl) (by kernel_rfl) (fun _ _ _ h => h) (Or.inl ⟨by rfl, ?_⟩) (by assumption) ?_
                      · intro u' hSu
                        (try simp only [List.getElem_toArray, List.getElem_cons_zero, List.getElem_cons_succ])
                        go_simp
                      (try simp only [List.getElem_toArray, List.getElem_cons_zero, List.getElem_cons_succ])
                      (try simp only [Act.put, List.setIfInBounds_toArray, List.set_cons_zero, List.set_cons_succ])
                      refine wpAnyH_take (i := 21) (oi := _) (v := .pointer (some ⟨G, i * 3, none⟩)) rfl (by kernel_rfl) (by kernel_rfl) (by kernel_rfl) (fun _ _ _ h => h) (Or.inl ⟨by rfl, ?_⟩) (by assumption) ?_
                      · intro u' hSu
                        (try simp only [List.getElem_toArray, List.getElem_cons_zero, List.getElem_cons_succ])
                        go_simp
                      (try simp only [List.getElem_toArray, List.getElem_cons_zero, List.getElem_cons_succ])
                      (try simp only [Act.put, List.setIfInBounds_toArray, List.set_cons_zero, List.set_cons_succ])
                      refine wpAnyH_take (i := 22) (oi := _) (v := .agg #[.bool hn_, .string hx_, .string hy_]) rfl (by kernel_rfl) (by kernel_rfl) (by kernel_rfl) (fun _ _ _ h => h) (Or.inl ⟨by rfl, ?_⟩) (by assumption) ?_
                      · intro u' hSu
                        (try simp only [List.getElem_toArray, List.getElem_cons_zero, List.getElem_cons_succ])
                        obtain ⟨s0, s1, s2, s3, s4, s5, s6, s7, s8⟩ := hSu
                        go_simp
                      (try simp only [List.getElem_toArray, List.getElem_cons_zero, List.getElem_cons_succ])
                      (try simp only [Act.put, List.setIfInBounds_toArray, List.set_cons_zero, List.set_cons_succ])
                      refine wpAnyH_ready (rs := [23]) (by kernel_rfl) (by simp) (AllReadyH.cons rfl ?_ (AllReadyH.nil))
                      · intro K' hK'
                        (try simp only [List.getElem_toArray, List.getElem_cons_zero, List.getElem_cons_succ])
                        go_simp
                        refine (HO1.out _).mono ?_
                        rintro e q2 ⟨rfl, hb⟩
                        replace HBz := hid (HBz.out.trans (hb.mono HBz.out.size))
                        refine hK'.out _ _ (HELD.out _ HBz.out) (fun hSe => ?_)
                        clear hb
                        clear hK' K' hSd
                        have hSd := hSe
                        clear hSe
                        (try simp only [List.getElem_toArray, List.getElem_cons_zero, List.getElem_cons_succ])
                        (try simp only [Act.put, List.setIfInBounds_toArray, List.set_cons_zero, List.set_cons_succ])
                        refine wpAnyH_ready (rs := [24]) (by kernel_rfl) (by simp) (AllReadyH.cons rfl ?_ (AllReadyH.nil))
                        · intro K' hK'
                          (try simp only [List.getElem_toArray, List.getElem_cons_zero, List.getElem_cons_succ])
                          go_simp
                          refine (HC2.out _).mono ?_
                          rintro e q3 ⟨rfl, hb⟩
                          replace HBz := hid (HBz.out.trans (hb.mono HBz.out.size))
                          refine hK'.out _ _ (HELD.out _ HBz.out) (fun hSe => ?_)
                          clear hb
                          clear hK' K' hSd
                          have hSd := hSe
                          clear hSe
                          (try simp only [List.getElem_toArray, List.getElem_cons_zero, List.getElem_cons_succ])
                          (try simp only [Act.put, List.setIfInBounds_toArray, List.set_cons_zero, List.set_cons_succ])
                          refine wpAnyH_take (i := 25) (oi := _) (v := .bool false) rfl (by kernel_rfl) (by kernel_rfl) (by kernel_rfl) (fun _ _ _ h => h) (Or.inl ⟨by rfl, ?_⟩) (by assumption) ?_
                          · intro u' hSu
                            (try simp only [List.getElem_toArray, List.getElem_cons_zero, List.getElem_cons_succ])
                            go_simp
                            (try exact Int.not_lt.1 HC2N.out)
                          (try simp only [List.getElem_toArray, List.getElem_cons_zero, List.getElem_cons_succ])
                          (try simp only [Act.put, List.setIfInBounds_toArray, List.set_cons_zero, List.set_cons_succ])
                          refine wpAnyH_take (i := 26) (oi := _) (v := .bool false) rfl (by kernel_rfl) (by kernel_rfl) (by kernel_rfl) (fun _ _ _ h => h) (Or.inl ⟨by rfl, ?_⟩) (by assumption) ?_
                          · intro u' hSu
                            (try simp only [List.getElem_toArray, List.getElem_cons_zero, List.getElem_cons_succ])
                            go_simp
                          (try simp only [List.getElem_toArray, List.getElem_cons_zero, List.getElem_cons_succ])
                          (try simp only [Act.put, List.setIfInBounds_toArray, List.set_cons_zero, List.set_cons_succ])
                          refine wpAnyH_done (by kernel_rfl) ?_ _
                          clear hSd
                          go_upto_region 44 with fail
                          replace HBz := hid HBz.out.drew
                          refine wp_region_held_drew (S := fun u => u.cell? ⟨G, i * 3, none⟩ = some (.bool hn_) ∧ u.cell? ⟨G, i * 3 + 1, none⟩ = some (.string hx_) ∧ u.cell? ⟨G, i * 3 + 2, none⟩ = some (.string hy_) ∧ u.cell? ⟨gL, oL + i * 3, none⟩ = some (.bool ln_) ∧ u.cell? ⟨gL, oL + i * 3 + 1, none⟩ = some (.string lx_) ∧ u.cell? ⟨gL, oL + i * 3 + 2, none⟩ = some (.string ly_) ∧ u.cell? ⟨gB, 0, none⟩ = some (.bool hn_) ∧ u.cell? ⟨gB, 1, none⟩ = some (.string hx_) ∧ u.cell? ⟨gB, 2, none⟩ = some (.string hy_)) (by kernel_rfl) (HELD.out _ HBz.out) (fun hSd => ?_)
                          generalize q3.drew = u4 at *
                          rcases HCASE.out with ⟨hz, hem, hany⟩ | ⟨hz, hem, hany⟩ | ⟨hz, hem, hany⟩
                          · have hz' : hn_ = zn ∧ hx_ = zx ∧ hy_ = zy := hz
                            obtain ⟨rfl, rfl, rfl⟩ := hz'
                            have HSLI : Hid (S = []) := List.eq_nil_of_length_eq_zero hem
                            clear hem
                            refine wpAnyH_take (i := 0) (oi := _) (v := .slice (some ⟨G, 0, none⟩) n n) rfl (by kernel_rfl) (by kernel_rfl) (by kernel_rfl) (fun _ _ _ h => h) (Or.inl ⟨by rfl, ?_⟩) (by assumption) ?_
                            · intro u' hSu
                              (try simp only [List.getElem_toArray, List.getElem_cons_zero])
                              go_simp
                            (try simp only [List.getElem_toArray, List.getElem_cons_zero])
                            (try simp only [Act.put, List.setIfInBounds_toArray, List.set_cons_zero, List.set_cons_succ])
                            refine wpAnyH_take (i := 1) (oi := _) (v := .int .i64 (i : Nat)) rfl (by kernel_rfl) (by kernel_rfl) (by kernel_rfl) (fun _ _ _ h => h) (Or.inl ⟨by rfl, ?_⟩) (by assumption) ?_
                            · intro u' hSu
                              (try simp only [List.getElem_toArray, List.getElem_cons_zero, List.getElem_cons_succ])
                              go_simp
                            (try simp only [List.getElem_toArray, List.getElem_cons_zero, List.getElem_cons_succ])
                            (try simp only [Act.put, List.setIfInBounds_toArray, List.set_cons_zero, List.set_cons_succ])
                            refine wpAnyH_take (i := 2) (oi := _) (v := .pointer (some ⟨G, i * 3, none⟩)) rfl (by kernel_rfl) (by kernel_rfl) (by kernel_rfl) (fun _ _ _ h => h) (Or.inl ⟨by rfl, ?_⟩) (by assumption) ?_
                            · intro u' hSu
                              (try simp only [List.getElem_toArray, List.getElem_cons_zero, List.getElem_cons_succ])
                              go_simp
                            (try simp only [List.getElem_toArray, List.getElem_cons_zero, List.getElem_cons_succ])
                            (try simp only [Act.put, List.setIfInBounds_toArray, List.set_cons_zero, List.set_cons_succ])
                            refine wpAnyH_take (i := 3) (oi := _) (v := .agg #[.bool hn_, .string hx_, .string hy_]) rfl (by kernel_rfl) (by kernel_rfl) (by kernel_rfl) (fun _ _ _ h => h) (Or.inl ⟨by rfl, ?_⟩) (by assumption) ?_
                            · intro u' hSu
                              (try simp only [List.getElem_toArray, List.getElem_cons_zero, List.getElem_cons_succ])
                              obtain ⟨s0, s1, s2, s3, s4, s5, s6, s7, s8⟩ := hSu
                              go_simp
                            (try simp only [List.getElem_toArray, List.getElem_cons_zero, List.getElem_cons_succ])
                            (try simp only [Act.put, List.setIfInBounds_toArray, List.set_cons_zero, List.set_cons_succ])
                            refine wpAnyH_take (i := 6) (oi := _) (v := .slice b S.length cb) rfl (by kernel_rfl) (by kernel_rfl) (by kernel_rfl) (fun _ _ _ h => h) (Or.inl ⟨by rfl, ?_⟩) (by assumption) ?_
                            · intro u' hSu
                              (try simp only [List.getElem_toArray, List.getElem_cons_zero, List.getElem_cons_succ])
                              go_simp
                            (try simp only [List.getElem_toArray, List.getElem_cons_zero, List.getElem_cons_succ])
                            (try simp only [Act.put, List.setIfInBounds_toArray, List.set_cons_zero, List.set_cons_succ])
                            refine wpAnyH_take (i := 7) (oi := _) (v := .int .i64 ((S.length : Nat) : Int)) rfl (by kernel_rfl) (by kernel_rfl) (by kernel_rfl) (fun _ _ _ h => h) (Or.inl ⟨by rfl, ?_⟩) (by assumption) ?_
                            · intro u' hSu
                              (try simp only [List.getElem_toArray, List.getElem_cons_zero, List.getElem_cons_succ])
                              go_simp
                            (try simp only [List.getElem_toArray, List.getElem_cons_zero, List.getElem_cons_succ])
                            (try simp only [Act.put, List.setIfInBounds_toArray, List.set_cons_zero, List.set_cons_succ])
                            refine wpAnyH_take (i := 8) (oi := _) (v := .bool true) rfl (by kernel_rfl) (by kernel_rfl) (by kernel_rfl) (fun _ _ _ h => h) (Or.inl ⟨by rfl, ?_⟩) (by assumption) ?_
                            · intro u' hSu
                              (try simp only [List.getElem_toArray, List.getElem_cons_zero, List.getElem_cons_succ])
                              go_simp
                              (try exact HSLI.out)
                            (try simp only [List.getElem_toArray, List.getElem_cons_zero, List.getElem_cons_succ])
                            (try simp only [Act.put, List.setIfInBounds_toArray, List.set_cons_zero, List.set_cons_succ])
                            refine wpAnyH_ready (rs := [4]) (by kernel_rfl) (by simp) (AllReadyH.cons rfl ?_ (AllReadyH.nil))
                            · intro K' hK'
                              (try simp only [List.getElem_toArray, List.getElem_cons_zero, List.getElem_cons_succ])
                              go_simp
                              refine (HO0.out _).mono ?_
                              rintro e t1 ⟨rfl, hb⟩
                              replace HBz := hid (HBz.out.trans (hb.mono HBz.out.size))
                              refine hK'.out _ _ (HELD.out _ HBz.out) (fun hSe => ?_)
                              clear hb
                              clear hK' K' hSd
                              have hSd := hSe
                              clear hSe
                              (try simp only [List.getElem_toArray, List.getElem_cons_zero, List.getElem_cons_succ])
                              (try simp only [Act.put, List.setIfInBounds_toArray, List.set_cons_zero, List.set_cons_succ])
                              refine wpAnyH_take (i := 5) (oi := _) (v := .bool true) rfl (by kernel_rfl) (by kernel_rfl) (by kernel_rfl) (fun _ _ _ h => h) (Or.inl ⟨by rfl, ?_⟩) (by assumption) ?_
                              · intro u' hSu
                                (try simp only [List.getElem_toArray, List.getElem_cons_zero, List.getElem_cons_succ])
                                go_simp
                              (try simp only [List.getElem_toArray, List.getElem_cons_zero, List.getElem_cons_succ])
                              (try simp only [Act.put, List.setIfInBounds_toArray, List.set_cons_zero, List.set_cons_succ])
                              refine wpAnyH_take (i := 9) (oi := _) (v := .bool true) rfl (by kernel_rfl) (by kernel_rfl) (by kernel_rfl) (fun _ _ _ h => h) (Or.inl ⟨by rfl, ?_⟩) (by assumption) ?_
                              · intro u' hSu
                                (try simp only [List.getElem_toArray, List.getElem_cons_zero, List.getElem_cons_succ])
                                go_simp
                              (try simp only [List.getElem_toArray, List.getElem_cons_zero, List.getElem_cons_succ])
                              (try simp only [Act.put, List.setIfInBounds_toArray, List.set_cons_zero, List.set_cons_succ])
                              refine wpAnyH_take (i := 10) (oi := _) (v := undef) rfl (by kernel_rfl) (by kernel_rfl) (by kernel_rfl) (fun _ _ _ h => h) (Or.inr ⟨by rfl, rfl⟩) (by assumption) ?_
                              (try simp only [List.getElem_toArray, List.getElem_cons_zero, List.getElem_cons_succ])
                              (try simp only [Act.put, List.setIfInBounds_toArray, List.set_cons_zero, List.set_cons_succ])
                              refine wpAnyH_take (i := 11) (oi := _) (v := undef) rfl (by kernel_rfl) (by kernel_rfl) (by kernel_rfl) (fun _ _ _ h => h) (Or.inr ⟨by rfl, rfl⟩) (by assumption) ?_
                              (try simp only [List.getElem_toArray, List.getElem_cons_zero, List.getElem_cons_succ])
                              (try simp only [Act.put, List.setIfInBounds_toArray, List.set_cons_zero, List.set_cons_succ])
                              refine wpAnyH_take (i := 12) (oi := _) (v := undef) rfl (by kernel_rfl) (by kernel_rfl) (by kernel_rfl) (fun _ _ _ h => h) (Or.inr ⟨by rfl, rfl⟩) (by assumption) ?_
                              (try simp only [List.getElem_toArray, List.getElem_cons_zero, List.getElem_cons_succ])
                              (try simp only [Act.put, List.setIfInBounds_toArray, List.set_cons_zero, List.set_cons_succ])
                              refine wpAnyH_take (i := 13) (oi := _) (v := undef) rfl (by kernel_rfl) (by kernel_rfl) (by kernel_rfl) (fun _ _ _ h => h) (Or.inr ⟨by rfl, rfl⟩) (by assumption) ?_
                              (try simp only [List.getElem_toArray, List.getElem_cons_zero, List.getElem_cons_succ])
                              (try simp only [Act.put, List.setIfInBounds_toArray, List.set_cons_zero, List.set_cons_succ])
                              refine wpAnyH_take (i := 14) (oi := _) (v := undef) rfl (by kernel_rfl) (by kernel_rfl) (by kernel_rfl) (fun _ _ _ h => h) (Or.inr ⟨by rfl, rfl⟩) (by assumption) ?_
                              (try simp only [List.getElem_toArray, List.getElem_cons_zero, List.getElem_cons_succ])
                              (try simp only [Act.put, List.setIfInBounds_toArray, List.set_cons_zero, List.set_cons_succ])
                              refine wpAnyH_take (i := 15) (oi := _) (v := .bool true) rfl (by kernel_rfl) (by kernel_rfl) (by kernel_rfl) (fun _ _ _ h => h) (Or.inl ⟨by rfl, ?_⟩) (by assumption) ?_
                              · intro u' hSu
                                (try simp only [List.getElem_toArray, List.getElem_cons_zero, List.getElem_cons_succ])
                                go_simp
                              (try simp only [List.getElem_toArray, List.getElem_cons_zero, List.getElem_cons_succ])
                              (try simp only [Act.put, List.setIfInBounds_toArray, List.set_cons_zero, List.set_cons_succ])
                              refine wpAnyH_take (i := 16) (oi := _) (v := .bool false) rfl (by kernel_rfl) (by kernel_rfl) (by kernel_rfl) (fun _ _ _ h => h) (Or.inl ⟨by rfl, ?_⟩) (by assumption) ?_
                              · intro u' hSu
                                (try simp only [List.getElem_toArray, List.getElem_cons_zero, List.getElem_cons_succ])
                                go_simp
                              (try simp only [List.getElem_toArray, List.getElem_cons_zero, List.getElem_cons_succ])
                              (try simp only [Act.put, List.setIfInBounds_toArray, List.set_cons_zero, List.set_cons_succ])
                              refine wpAnyH_done (by kernel_rfl) ?_ _
                              clear hSd
                              have HB6 : Hid (Below W5.heap.size W5 t1) := HBq.out.trans (HBz.out.mono HBq.out.size)
                              go_wp2
                              go_roundw
                              case rel => exact ⟨i + 1, by omega, by go_num, HB6⟩
                              case measure => simp [intOf]; omega
                          · obtain ⟨rfl, rfl, rfl⟩ := hz
                            rw [hany] at HCOM
                            have hsl : ¬ ((S.length : Nat) : Int) = 0 := by omega
                            refine wpAnyH_take (i := 0) (oi := _) (v := .slice (some ⟨G, 0, none⟩) n n) rfl (by kernel_rfl) (by kernel_rfl) (by kernel_rfl) (fun _ _ _ h => h) (Or.inl ⟨by rfl, ?_⟩) (by assumption) ?_
                            · intro u' hSu
                              (try simp only [List.getElem_toArray, List.getElem_cons_zero])
                              go_simp
                            (try simp only [List.getElem_toArray, List.getElem_cons_zero])
                            (try simp only [Act.put, List.setIfInBounds_toArray, List.set_cons_zero, List.set_cons_succ])
                            refine wpAnyH_take (i := 1) (oi := _) (v := .int .i64 (i : Nat)) rfl (by kernel_rfl) (by kernel_rfl) (by kernel_rfl) (fun _ _ _ h => h) (Or.inl ⟨by rfl, ?_⟩) (by assumption) ?_
                            · intro u' hSu
                              (try simp only [List.getElem_toArray, List.getElem_cons_zero, List.getElem_cons_succ])
                              go_simp
                            (try simp only [List.getElem_toArray, List.getElem_cons_zero, List.getElem_cons_succ])
                            (try simp only [Act.put, List.setIfInBounds_toArray, List.set_cons_zero, List.set_cons_succ])
                            refine wpAnyH_take (i := 2) (oi := _) (v := .pointer (some ⟨G, i * 3, none⟩)) rfl (by kernel_rfl) (by kernel_rfl) (by kernel_rfl) (fun _ _ _ h => h) (Or.inl ⟨by rfl, ?_⟩) (by assumption) ?_
                            · intro u' hSu
                              (try simp only [List.getElem_toArray, List.getElem_cons_zero, List.getElem_cons_succ])
                              go_simp
                            (try simp only [List.getElem_toArray, List.getElem_cons_zero, List.getElem_cons_succ])
                            (try simp only [Act.put, List.setIfInBounds_toArray, List.set_cons_zero, List.set_cons_succ])
                            refine wpAnyH_take (i := 3) (oi := _) (v := .agg #[.bool hn_, .string hx_, .string hy_]) rfl (by kernel_rfl) (by kernel_rfl) (by kernel_rfl) (fun _ _ _ h => h) (Or.inl ⟨by rfl, ?_⟩) (by assumption) ?_
                            · intro u' hSu
                              (try simp only [List.getElem_toArray, List.getElem_cons_zero, List.getElem_cons_succ])
                              obtain ⟨s0, s1, s2, s3, s4, s5, s6, s7, s8⟩ := hSu
                              go_simp
                            (try simp only [List.getElem_toArray, List.getElem_cons_zero, List.getElem_cons_succ])
                            (try simp only [Act.put, List.setIfInBounds_toArray, List.set_cons_zero, List.set_cons_succ])
                            refine wpAnyH_take (i := 6) (oi := _) (v := .slice b S.length cb) rfl (by kernel_rfl) (by kernel_rfl) (by kernel_rfl) (fun _ _ _ h => h) (Or.inl ⟨by rfl, ?_⟩) (by assumption) ?_
                            · intro u' hSu
                              (try simp only [List.getElem_toArray, List.getElem_cons_zero, List.getElem_cons_succ])
                              go_simp
                            (try simp only [List.getElem_toArray, List.getElem_cons_zero, List.getElem_cons_succ])
                            (try simp only [Act.put, List.setIfInBounds_toArray, List.set_cons_zero, List.set_cons_succ])
                            refine wpAnyH_take (i := 7) (oi := _) (v := .int .i64 ((S.length : Nat) : Int)) rfl (by kernel_rfl) (by kernel_rfl) (by kernel_rfl) (fun _ _ _ h => h) (Or.inl ⟨by rfl, ?_⟩) (by assumption) ?_
                            · intro u' hSu
                              (try simp only [List.getElem_toArray, List.getElem_cons_zero, List.getElem_cons_succ])
                              go_simp
                            (try simp only [List.getElem_toArray, List.getElem_cons_zero, List.getElem_cons_succ])
                            (try simp only [Act.put, List.setIfInBounds_toArray, List.set_cons_zero, List.set_cons_succ])
                            refine wpAnyH_take (i := 8) (oi := _) (v := .bool false) rfl (by kernel_rfl) (by kernel_rfl) (by kernel_rfl) (fun _ _ _ h => h) (Or.inl ⟨by rfl, ?_⟩) (by assumption) ?_
                            · intro u' hSu
                              (try simp only [List.getElem_toArray, List.getElem_cons_zero, List.getElem_cons_succ])
                              go_simp
                            (try simp only [List.getElem_toArray, List.getElem_cons_zero, List.getElem_cons_succ])
                            (try simp only [Act.put, List.setIfInBounds_toArray, List.set_cons_zero, List.set_cons_succ])
                            refine wpAnyH_ready (rs := [4]) (by kernel_rfl) (by simp) (AllReadyH.cons rfl ?_ (AllReadyH.nil))
                            · intro K' hK'
                              (try simp only [List.getElem_toArray, List.getElem_cons_zero, List.getElem_cons_succ])
                              go_simp
                              refine (HO0.out _).mono ?_
                              rintro e t1 ⟨rfl, hb⟩
                              replace HBz := hid (HBz.out.trans (hb.mono HBz.out.size))
                              refine hK'.out _ _ (HELD.out _ HBz.out) (fun hSe => ?_)
                              clear hb
                              clear hK' K' hSd
                              have hSd := hSe
                              clear hSe
                              (try simp only [List.getElem_toArray, List.getElem_cons_zero, List.getElem_cons_succ])
                              (try simp only [Act.put, List.setIfInBounds_toArray, List.set_cons_zero, List.set_cons_succ])
                              refine wpAnyH_take (i := 5) (oi := _) (v := .bool true) rfl (by kernel_rfl) (by kernel_rfl) (by kernel_rfl) (fun _ _ _ h => h) (Or.inl ⟨by rfl, ?_⟩) (by assumption) ?_
                              · intro u' hSu
                                (try simp only [List.getElem_toArray, List.getElem_cons_zero, List.getElem_cons_succ])
                                go_simp
                              (try simp only [List.getElem_toArray, List.getElem_cons_zero, List.getElem_cons_succ])
                              (try simp only [Act.put, List.setIfInBounds_toArray, List.set_cons_zero, List.set_cons_succ])
                              refine wpAnyH_take (i := 9) (oi := _) (v := .bool false) rfl (by kernel_rfl) (by kernel_rfl) (by kernel_rfl) (fun _ _ _ h => h) (Or.inl ⟨by rfl, ?_⟩) (by assumption) ?_
                              · intro u' hSu
                                (try simp only [List.getElem_toArray, List.getElem_cons_zero, List.getElem_cons_succ])
                                go_simp
                              (try simp only [List.getElem_toArray, List.getElem_cons_zero, List.getElem_cons_succ])
                              (try simp only [Act.put, List.setIfInBounds_toArray, List.set_cons_zero, List.set_cons_succ])
                              refine wpAnyH_take (i := 10) (oi := _) (v := .slice (some ⟨g, o, none⟩) n ca) rfl (by kernel_rfl) (by kernel_rfl) (by kernel_rfl) (fun _ _ _ h => h) (Or.inl ⟨by rfl, ?_⟩) (by assumption) ?_
                              · intro u' hSu
                                (try simp only [List.getElem_toArray, List.getElem_cons_zero, List.getElem_cons_succ])
                                go_simp
                              (try simp only [List.getElem_toArray, List.getElem_cons_zero, List.getElem_cons_succ])
                              (try simp only [Act.put, List.setIfInBounds_toArray, List.set_cons_zero, List.set_cons_succ])
                              refine wpAnyH_take (i := 11) (oi := _) (v := .int .i64 (i : Nat)) rfl (by kernel_rfl) (by kernel_rfl) (by kernel_rfl) (fun _ _ _ h => h) (Or.inl ⟨by rfl, ?_⟩) (by assumption) ?_
                              · intro u' hSu
                                (try simp only [List.getElem_toArray, List.getElem_cons_zero, List.getElem_cons_succ])
                                go_simp
                              (try simp only [List.getElem_toArray, List.getElem_cons_zero, List.getElem_cons_succ])
                              (try simp only [Act.put, List.setIfInBounds_toArray, List.set_cons_zero, List.set_cons_succ])
                              refine wpAnyH_take (i := 12) (oi := _) (v := .slice b S.length cb) rfl (by kernel_rfl) (by kernel_rfl) (by kernel_rfl) (fun _ _ _ h => h) (Or.inl ⟨by rfl, ?_⟩) (by assumption) ?_
                              · intro u' hSu
                                (try simp only [List.getElem_toArray, List.getElem_cons_zero, List.getElem_cons_succ])
                                go_simp
                              (try simp only [List.getElem_toArray, List.getElem_cons_zero, List.getElem_cons_succ])
                              (try simp only [Act.put, List.setIfInBounds_toArray, List.set_cons_zero, List.set_cons_succ])
                              refine wpAnyH_ready (rs := [13]) (by kernel_rfl) (by simp) (AllReadyH.cons rfl ?_ (AllReadyH.nil))
                              · intro K' hK'
                                (try simp only [List.getElem_toArray, List.getElem_cons_zero, List.getElem_cons_succ])
                                go_simp
                                refine (HCOM.out _ HBz.out).mono ?_
                                rintro e t2 ⟨rfl, hb⟩
                                replace HBz := hid (HBz.out.trans (hb.mono HBz.out.size))
                                refine hK'.out _ _ (HELD.out _ HBz.out) (fun hSe => ?_)
                                clear hb
                                clear hK' K' hSd
                                have hSd := hSe
                                clear hSe
                                (try simp only [List.getElem_toArray, List.getElem_cons_zero, List.getElem_cons_succ])
                                (try simp only [Act.put, List.setIfInBounds_toArray, List.set_cons_zero, List.set_cons_succ])
                                refine wpAnyH_take (i := 14) (oi := _) (v := .bool true) rfl (by kernel_rfl) (by kernel_rfl) (by kernel_rfl) (fun _ _ _ h => h) (Or.inl ⟨by rfl, ?_⟩) (by assumption) ?_
                                · intro u' hSu
                                  (try simp only [List.getElem_toArray, List.getElem_cons_zero, List.getElem_cons_succ])
                                  go_simp
                                (try simp only [List.getElem_toArray, List.getElem_cons_zero, List.getElem_cons_succ])
                                (try simp only [Act.put, List.setIfInBounds_toArray, List.set_cons_zero, List.set_cons_succ])
                                refine wpAnyH_take (i := 15) (oi := _) (v := .bool true) rfl (by kernel_rfl) (by kernel_rfl) (by kernel_rfl) (fun _ _ _ h => h) (Or.inl ⟨by rfl, ?_⟩) (by assumption) ?_
                                · intro u' hSu
                                  (try simp only [List.getElem_toArray, List.getElem_cons_zero, List.getElem_cons_succ])
                                  go_simp
                                (try simp only [List.getElem_toArray, List.getElem_cons_zero, List.getElem_cons_succ])
                                (try simp only [Act.put, List.setIfInBounds_toArray, List.set_cons_zero, List.set_cons_succ])
                                refine wpAnyH_take (i := 16) (oi := _) (v := .bool false) rfl (by kernel_rfl) (by kernel_rfl) (by kernel_rfl) (fun _ _ _ h => h) (Or.inl ⟨by rfl, ?_⟩) (by assumption) ?_
                                · intro u' hSu
                                  (try simp only [List.getElem_toArray, List.getElem_cons_zero, List.getElem_cons_succ])
                                  go_simp
                                (try simp only [List.getElem_toArray, List.getElem_cons_zero, List.getElem_cons_succ])
                                (try simp only [Act.put, List.setIfInBounds_toArray, List.set_cons_zero, List.set_cons_succ])
                                refine wpAnyH_done (by kernel_rfl) ?_ _
                                clear hSd
                                have HB6 : Hid (Below W5.heap.size W5 t2) := HBq.out.trans (HBz.out.mono HBq.out.size)
                                go_wp2
                                go_roundw
                                case rel => exact ⟨i + 1, by omega, by go_num, HB6⟩
                                case measure => simp [intOf]; omega
                          · have HNE : Hid (¬ (hn_ = zn ∧ hx_ = zx ∧ hy_ = zy)) := hz
                            rw [hany] at HCOM
                            have hsl : ¬ ((S.length : Nat) : Int) = 0 := by omega
                            refine wpAnyH_take (i := 0) (oi := _) (v := .slice (some ⟨G, 0, none⟩) n n) rfl (by kernel_rfl) (by kernel_rfl) (by kernel_rfl) (fun _ _ _ h => h) (Or.inl ⟨by rfl, ?_⟩) (by assumption) ?_
                            · intro u' hSu
                              (try simp only [List.getElem_toArray, List.getElem_cons_zero])
                              go_simp
                            (try simp only [List.getElem_toArray, List.getElem_cons_zero])
                            (try simp only [Act.put, List.setIfInBounds_toArray, List.set_cons_zero, List.set_cons_succ])
                            refine wpAnyH_take (i := 1) (oi := _) (v := .int .i64 (i : Nat)) rfl (by kernel_rfl) (by kernel_rfl) (by kernel_rfl) (fun _ _ _ h => h) (Or.inl ⟨by rfl, ?_⟩) (by assumption) ?_
                            · intro u' hSu
                              (try simp only [List.getElem_toArray, List.getElem_cons_zero, List.getElem_cons_succ])
                              go_simp
                            (try simp only [List.getElem_toArray, List.getElem_cons_zero, List.getElem_cons_succ])
                            (try simp only [Act.put, List.setIfInBounds_toArray, List.set_cons_zero, List.set_cons_succ])
                            refine wpAnyH_take (i := 2) (oi := _) (v := .pointer (some ⟨G, i * 3, none⟩)) rfl (by kernel_rfl) (by kernel_rfl) (by kernel_rfl) (fun _ _ _ h => h) (Or.inl ⟨by rfl, ?_⟩) (by assumption) ?_
                            · intro u' hSu
                              (try simp only [List.getElem_toArray, List.getElem_cons_zero, List.getElem_cons_succ])
                              go_simp
                            (try simp only [List.getElem_toArray, List.getElem_cons_zero, List.getElem_cons_succ])
                            (try simp only [Act.put, List.setIfInBounds_toArray, List.set_cons_zero, List.set_cons_succ])
                            refine wpAnyH_take (i := 3) (oi := _) (v := .agg #[.bool hn_, .string hx_, .string hy_]) rfl (by kernel_rfl) (by kernel_rfl) (by kernel_rfl) (fun _ _ _ h => h) (Or.inl ⟨by rfl, ?_⟩) (by assumption) ?_
                            · intro u' hSu
                              (try simp only [List.getElem_toArray, List.getElem_cons_zero, List.getElem_cons_succ])
                              obtain ⟨s0, s1, s2, s3, s4, s5, s6, s7, s8⟩ := hSu
                              go_simp
                            (try simp only [List.getElem_toArray, List.getElem_cons_zero, List.getElem_cons_succ])
                            (try simp only [Act.put, List.setIfInBounds_toArray, List.set_cons_zero, List.set_cons_succ])
                            refine wpAnyH_take (i := 6) (oi := _) (v := .slice b S.length cb) rfl (by kernel_rfl) (by kernel_rfl) (by kernel_rfl) (fun _ _ _ h => h) (Or.inl ⟨by rfl, ?_⟩) (by assumption) ?_
                            · intro u' hSu
                              (try simp only [List.getElem_toArray, List.getElem_cons_zero, List.getElem_cons_succ])
                              go_simp
                            (try simp only [List.getElem_toArray, List.getElem_cons_zero, List.getElem_cons_succ])
                            (try simp only [Act.put, List.setIfInBounds_toArray, List.set_cons_zero, List.set_cons_succ])
                            refine wpAnyH_take (i := 7) (oi := _) (v := .int .i64 ((S.length : Nat) : Int)) rfl (by kernel_rfl) (by kernel_rfl) (by kernel_rfl) (fun _ _ _ h => h) (Or.inl ⟨by rfl, ?_⟩) (by assumption) ?_
                            · intro u' hSu
                              (try simp only [List.getElem_toArray, List.getElem_cons_zero, List.getElem_cons_succ])
                              go_simp
                            (try simp only [List.getElem_toArray, List.getElem_cons_zero, List.getElem_cons_succ])
                            (try simp only [Act.put, List.setIfInBounds_toArray, List.set_cons_zero, List.set_cons_succ])
                            refine wpAnyH_take (i := 8) (oi := _) (v := .bool false) rfl (by kernel_rfl) (by kernel_rfl) (by kernel_rfl) (fun _ _ _ h => h) (Or.inl ⟨by rfl, ?_⟩) (by assumption) ?_
                            · intro u' hSu
                              (try simp only [List.getElem_toArray, List.getElem_cons_zero, List.getElem_cons_succ])
                              go_simp
                            (try simp only [List.getElem_toArray, List.getElem_cons_zero, List.getElem_cons_succ])
                            (try simp only [Act.put, List.setIfInBounds_toArray, List.set_cons_zero, List.set_cons_succ])
                            refine wpAnyH_ready (rs := [4]) (by kernel_rfl) (by simp) (AllReadyH.cons rfl ?_ (AllReadyH.nil))
                            · intro K' hK'
                              (try simp only [List.getElem_toArray, List.getElem_cons_zero, List.getElem_cons_succ])
                              go_simp
                              refine (HO0.out _).mono ?_
                              rintro e t1 ⟨rfl, hb⟩
                              replace HBz := hid (HBz.out.trans (hb.mono HBz.out.size))
                              refine hK'.out _ _ (HELD.out _ HBz.out) (fun hSe => ?_)
                              clear hb
                              clear hK' K' hSd
                              have hSd := hSe
                              clear hSe
                              (try simp only [List.getElem_toArray, List.getElem_cons_zero, List.getElem_cons_succ])
                              (try simp only [Act.put, List.setIfInBounds_toArray, List.set_cons_zero, List.set_cons_succ])
                              refine wpAnyH_take (i := 5) (oi := _) (v := .bool false) rfl (by kernel_rfl) (by kernel_rfl) (by kernel_rfl) (fun _ _ _ h => h) (Or.inl ⟨by rfl, ?_⟩) (by assumption) ?_
                              · intro u' hSu
                                (try simp only [List.getElem_toArray, List.getElem_cons_zero, List.getElem_cons_succ])
                                go_simp
                                exact fun a b c => HNE.out ⟨a, bytes_like b, bytes_like c⟩
                              (try simp only [List.getElem_toArray, List.getElem_cons_zero, List.getElem_cons_succ])
                              (try simp only [Act.put, List.setIfInBounds_toArray, List.set_cons_zero, List.set_cons_succ])
                              refine wpAnyH_take (i := 9) (oi := _) (v := .bool false) rfl (by kernel_rfl) (by kernel_rfl) (by kernel_rfl) (fun _ _ _ h => h) (Or.inl ⟨by rfl, ?_⟩) (by assumption) ?_
                              · intro u' hSu
                                (try simp only [List.getElem_toArray, List.getElem_cons_zero, List.getElem_cons_succ])
                                go_simp
                              (try simp only [List.getElem_toArray, List.getElem_cons_zero, List.getElem_cons_succ])
                              (try simp only [Act.put, List.setIfInBounds_toArray, List.set_cons_zero, List.set_cons_succ])
                              refine wpAnyH_take (i := 10) (oi := _) (v := .slice (some ⟨g, o, none⟩) n ca) rfl (by kernel_rfl) (by kernel_rfl) (by kernel_rfl) (fun _ _ _ h => h) (Or.inl ⟨by rfl, ?_⟩) (by assumption) ?_
                              · intro u' hSu
                                (try simp only [List.getElem_toArray, List.getElem_cons_zero, List.getElem_cons_succ])
                                go_simp
                              (try simp only [List.getElem_toArray, List.getElem_cons_zero, List.getElem_cons_succ])
                              (try simp only [Act.put, List.setIfInBounds_toArray, List.set_cons_zero, List.set_cons_succ])
                              refine wpAnyH_take (i := 11) (oi := _) (v := .int .i64 (i : Nat)) rfl (by kernel_rfl) (by kernel_rfl) (by kernel_rfl) (fun _ _ _ h => h) (Or.inl ⟨by rfl, ?_⟩) (by assumption) ?_
                              · intro u' hSu
                                (try simp only [List.getElem_toArray, List.getElem_cons_zero, List.getElem_cons_succ])
                                go_simp
                              (try simp only [List.getElem_toArray, List.getElem_cons_zero, List.getElem_cons_succ])
                              (try simp only [Act.put, List.setIfInBounds_toArray, List.set_cons_zero, List.set_cons_succ])
                              refine wpAnyH_take (i := 12) (oi := _) (v := .slice b S.length cb) rfl (by kernel_rfl) (by kernel_rfl) (by kernel_rfl) (fun _ _ _ h => h) (Or.inl ⟨by rfl, ?_⟩) (by assumption) ?_
                              · intro u' hSu
                                (try simp only [List.getElem_toArray, List.getElem_cons_zero, List.getElem_cons_succ])
                                go_simp
                              (try simp only [List.getElem_toArray, List.getElem_cons_zero, List.getElem_cons_succ])
                              (try simp only [Act.put, List.setIfInBounds_toArray, List.set_cons_zero, List.set_cons_succ])
                              refine wpAnyH_ready (rs := [13]) (by kernel_rfl) (by simp) (AllReadyH.cons rfl ?_ (AllReadyH.nil))
                              · intro K' hK'
                                (try simp only [List.getElem_toArray, List.getElem_cons_zero, List.getElem_cons_succ])
                                go_simp
                                refine (HCOM.out _ HBz.out).mono ?_
                                rintro e t2 ⟨rfl, hb⟩
                                replace HBz := hid (HBz.out.trans (hb.mono HBz.out.size))
                                refine hK'.out _ _ (HELD.out _ HBz.out) (fun hSe => ?_)
                                clear hb
                                clear hK' K' hSd
                                have hSd := hSe
                                clear hSe
                                (try simp only [List.getElem_toArray, List.getElem_cons_zero, List.getElem_cons_succ])
                                (try simp only [Act.put, List.setIfInBounds_toArray, List.set_cons_zero, List.set_cons_succ])
                                refine wpAnyH_take (i := 14) (oi := _) (v := .bool false) rfl (by kernel_rfl) (by kernel_rfl) (by kernel_rfl) (fun _ _ _ h => h) (Or.inl ⟨by rfl, ?_⟩) (by assumption) ?_
                                · intro u' hSu
                                  (try simp only [List.getElem_toArray, List.getElem_cons_zero, List.getElem_cons_succ])
                                  go_simp
                                (try simp only [List.getElem_toArray, List.getElem_cons_zero, List.getElem_cons_succ])
                                (try simp only [Act.put, List.setIfInBounds_toArray, List.set_cons_zero, List.set_cons_succ])
                                refine wpAnyH_take (i := 15) (oi := _) (v := .bool false) rfl (by kernel_rfl) (by kernel_rfl) (by kernel_rfl) (fun _ _ _ h => h) (Or.inl ⟨by rfl, ?_⟩) (by assumption) ?_
                                · intro u' hSu
                                  (try simp only [List.getElem_toArray, List.getElem_cons_zero, List.getElem_cons_succ])
                                  go_simp
                                (try simp only [List.getElem_toArray, List.getElem_cons_zero, List.getElem_cons_succ])
                                (try simp only [Act.put, List.setIfInBounds_toArray, List.set_cons_zero, List.set_cons_succ])
                                refine wpAnyH_take (i := 16) (oi := _) (v := .bool false) rfl (by kernel_rfl) (by kernel_rfl) (by kernel_rfl) (fun _ _ _ h => h) (Or.inl ⟨by rfl, ?_⟩) (by assumption) ?_
                                · intro u' hSu
                                  (try simp only [List.getElem_toArray, List.getElem_cons_zero, List.getElem_cons_succ])
                                  go_simp
                                (try simp only [List.getElem_toArray, List.getElem_cons_zero, List.getElem_cons_succ])
                                (try simp only [Act.put, List.setIfInBounds_toArray, List.set_cons_zero, List.set_cons_succ])
                                refine wpAnyH_done (by kernel_rfl) ?_ _
                                clear hSd
                                have HB6 : Hid (Below W5.heap.size W5 t2) := HBq.out.trans (HBz.out.mono HBq.out.size)
                                go_wp2
                                go_roundw
                                case rel => exact ⟨i + 1, by omega, by go_num, HB6⟩
                                case measure => simp [intOf]; omega
                  · rw [decide_eq_false his]
                    have HXq : Hid (Box w9 gB (qF (hq i)).1 (qF (hq i)).2.1 (qF (hq i)).2.2) := by
                      show Box _ _ _ _ _
                      rw [HSTEP.out.2 his]
                      have h9 := HX.out
                      rw [show sumR F n = sumR (fun j => P i j * hq j) n from sumR_congr fun j _ => HFE0.out j] at h9
                      exact h9
                    have HBq := HB2
                    clear HIN HB2 HX HB
                    go_upto_region 42 with fail
                    generalize w9 = Uq at *
                    have HBqW : Hid (Below W.heap.size W Uq) := HBL.out.trans (HBq.out.mono HBL.out.size)
                    have HELD : Hid (∀ u, Below Uq.heap.size Uq u → u.cell? ⟨G, i * 3, none⟩ = some (.bool (qF (hq i)).1) ∧ u.cell? ⟨G, i * 3 + 1, none⟩ = some (.string (qF (hq i)).2.1) ∧ u.cell? ⟨G, i * 3 + 2, none⟩ = some (.string (qF (hq i)).2.2) ∧ u.cell? ⟨gL, oL + i * 3, none⟩ = some (.bool (qF (lowQ n P S KK i)).1) ∧ u.cell? ⟨gL, oL + i * 3 + 1, none⟩ = some (.string (qF (lowQ n P S KK i)).2.1) ∧ u.cell? ⟨gL, oL + i * 3 + 2, none⟩ = some (.string (qF (lowQ n P S KK i)).2.2) ∧ u.cell? ⟨gB, 0, none⟩ = some (.bool (qF (hq i)).1) ∧ u.cell? ⟨gB, 1, none⟩ = some (.string (qF (hq i)).2.1) ∧ u.cell? ⟨gB, 2, none⟩ = some (.string (qF (hq i)).2.2)) := fun u hu => by
                      have h1 := HBqW.out.trans (hu.mono HBqW.out.size)
                      obtain ⟨p0, p1', p2⟩ := HHW.out.cells i (by rw [lF_length]; exact hlti)
                      rw [lF_get] at p0 p1' p2
                      obtain ⟨gL', oL', hLe, hgL, l0, l1, l2⟩ := HLW.out i (by rw [lF_length]; exact hlti)
                      cases hLe
                      rw [lF_get] at l0 l1 l2
                      have h2 := HBq.out.trans (hu.mono HBq.out.size)
                      have h3 := HXq.out.below hu HXq.out.lt
                      exact ⟨(h1.cell (p := ⟨G, _, none⟩) hGW).trans p0, (h1.cell (p := ⟨G, _, none⟩) hGW).trans p1', (h1.cell (p := ⟨G, _, none⟩) hGW).trans p2, (h2.cell (p := ⟨gL, _, none⟩) hgL).trans l0, (h2.cell (p := ⟨gL, _, none⟩) hgL).trans l1, (h2.cell (p := ⟨gL, _, none⟩) hgL).trans l2, h3.c0, h3.c1, h3.c2⟩
                    have HC1 : Hid (∀ U : World, Calls Tryz.prog 15 #[.agg #[.bool (qF (lowQ n P S KK i)).1, .string (qF (lowQ n P S KK i)).2.1, .string (qF (lowQ n P S KK i)).2.2], .agg #[.bool (qF (hq i)).1, .string (qF (hq i)).2.1, .string (qF (hq i)).2.2]] U fun e w' => e = .returned (.int .i64 (cmpQ (lowQ n P S KK i) (hq i))) ∧ Below U.heap.size U w') := fun U => rCmpQ (lowQ n P S KK i) (hq i) U (by
                      have hb : bL KK ≤ 11716 := Nat.le_trans (bL_mono hK5) (by decide)
                      have := fits_qw (lowQ_fits (S := S) hn5 HFIT.out KK i hlti)
                      omega) (by have := fits_qw (HFH.out i); omega)
                    have HC2 : Hid (∀ U : World, Calls Tryz.prog 15 #[.agg #[.bool (qF (hq i)).1, .string (qF (hq i)).2.1, .string (qF (hq i)).2.2], .agg #[.bool (sgn 1), .string (nu 1), .string (de 1)]] U fun e w' => e = .returned (.int .i64 (cmpQ (hq i) 1)) ∧ Below U.heap.size U w') := fun U => rCmpQ (hq i) 1 U (by have := fits_qw (HFH.out i); omega) (by have h1 : qw 1 ≤ 2 := qw_one2; omega)
                    have HC1N : Hid (¬ 0 < cmpQ (lowQ n P S KK i) (hq i)) := cmp_low (lowQ_le HIT.out KK i hlti)
                    have HC2N : Hid (¬ 0 < cmpQ (hq i) 1) := cmp_low (HIT.out.all hlti).2
                    have HCOM := hid (fun (U : World) (hU : Below Uq.heap.size Uq U) => HCOMES.out i hlti U (HBqW.out.trans (hU.mono HBqW.out.size)))
                    have HANY : Hid (S.any (cmsB n P i) = false ↔ hq i = 0) := by
                      refine Iff.trans ?_ (HIT.out.none hlti).symm
                      rw [List.any_eq_false]
                      exact ⟨fun h j hj => Bool.eq_false_iff.2 (h j hj), fun h j hj => Bool.eq_false_iff.1 (h j hj)⟩
                    have hcase : (((qF (hq i)).1 = sgn 0 ∧ (qF (hq i)).2.1 = nu 0 ∧ (qF (hq i)).2.2 = de 0) ∧ S.length = 0 ∧ S.any (cmsB n P i) = false) ∨ (((qF (hq i)).1 = sgn 0 ∧ (qF (hq i)).2.1 = nu 0 ∧ (qF (hq i)).2.2 = de 0) ∧ ¬ S.length = 0 ∧ S.any (cmsB n P i) = false) ∨ (¬ ((qF (hq i)).1 = sgn 0 ∧ (qF (hq i)).2.1 = nu 0 ∧ (qF (hq i)).2.2 = de 0) ∧ ¬ S.length = 0 ∧ S.any (cmsB n P i) = true) := by
                      by_cases hz : hq i = 0
                      · have e0 : (qF (hq i)).1 = sgn 0 ∧ (qF (hq i)).2.1 = nu 0 ∧ (qF (hq i)).2.2 = de 0 := by rw [hz]; exact ⟨rfl, rfl, rfl⟩
                        by_cases hs : S.length = 0
                        · exact .inl ⟨e0, hs, HANY.out.2 hz⟩
                        · exact .inr (.inl ⟨e0, hs, HANY.out.2 hz⟩)
                      · have ha : S.any (cmsB n P i) = true := by
                          cases h9 : S.any (cmsB n P i) with
                          | true => rfl
                          | false => exact absurd (HANY.out.1 h9) hz
                        refine .inr (.inr ⟨fun e => hz (qF_same (Prod.ext e.1 (Prod.ext e.2.1 e.2.2))), fun hs => ?_, ha⟩)
                        rw [List.eq_nil_of_length_eq_zero hs] at ha
                        cases ha
                    have HCASE := hid hcase
                    clear hcase HANY HIT HSTEP HBqW
                    generalize S.any (cmsB n P i) = av at *
                    generalize cmpQ (lowQ n P S KK i) (hq i) = cv1 at *
                    generalize cmpQ (hq i) 1 = cv2 at *
                    generalize hzl : qF (lowQ n P S KK i) = zl at *
                    obtain ⟨ln_, lx_, ly_⟩ := zl
                    generalize hzh : qF (hq i) = zh at *
                    obtain ⟨hn_, hx_, hy_⟩ := zh
                    simp only at HELD HC1 HC2 HCASE
                    clear hzl hzh HXq
                    generalize sgn 0 = zn at *
                    generalize nu 0 = zx at *
                    generalize de 0 = zy at *
                    generalize sgn 1 = on at *
                    generalize nu 1 = ox at *
                    generalize de 1 = oy at *
                    have HBz : Hid (Below Uq.heap.size Uq Uq.drew) := (Below.refl _ _).drew
                    refine wp_region_held_drew (S := fun u => u.cell? ⟨G, i * 3, none⟩ = some (.bool hn_) ∧ u.cell? ⟨G, i * 3 + 1, none⟩ = some (.string hx_) ∧ u.cell? ⟨G, i * 3 + 2, none⟩ = some (.string hy_) ∧ u.cell? ⟨gL, oL + i * 3, none⟩ = some (.bool ln_) ∧ u.cell? ⟨gL, oL + i * 3 + 1, none⟩ = some (.string lx_) ∧ u.cell? ⟨gL, oL + i * 3 + 2, none⟩ = some (.string ly_) ∧ u.cell? ⟨gB, 0, none⟩ = some (.bool hn_) ∧ u.cell? ⟨gB, 1, none⟩ = some (.string hx_) ∧ u.cell? ⟨gB, 2, none⟩ = some (.string hy_)) (by kernel_rfl) (HELD.out _ HBz.out) (fun hSd => ?_)
                    generalize Uq.drew = u0 at *
                    refine wpAnyH_take (i := 0) (oi := _) (v := .slice (some ⟨G, 0, none⟩) n n) rfl (by kernel_rfl) (by kernel_rfl) (by kernel_rfl) (fun _ _ _ h => h) (Or.inl ⟨by rfl, ?_⟩) (by assumption) ?_
                    · intro u' hSu
                      (try simp only [List.getElem_toArray, List.getElem_cons_zero])
                      go_simp
                    (try simp only [List.getElem_toArray, List.getElem_cons_zero])
                    (try simp only [Act.put, List.setIfInBounds_toArray, List.set_cons_zero, List.set_cons_succ])
                    refine wpAnyH_take (i := 1) (oi := _) (v := .int .i64 (i : Nat)) rfl (by kernel_rfl) (by kernel_rfl) (by kernel_rfl) (fun _ _ _ h => h) (Or.inl ⟨by rfl, ?_⟩) (by assumption) ?_
                    · intro u' hSu
                      (try simp only [List.getElem_toArray, List.getElem_cons_zero, List.getElem_cons_succ])
                      go_simp
                    (try simp only [List.getElem_toArray, List.getElem_cons_zero, List.getElem_cons_succ])
                    (try simp only [Act.put, List.setIfInBounds_toArray, List.set_cons_zero, List.set_cons_succ])
                    refine wpAnyH_take (i := 2) (oi := _) (v := .pointer (some ⟨G, i * 3, none⟩)) rfl (by kernel_rfl) (by kernel_rfl) (by kernel_rfl) (fun _ _ _ h => h) (Or.inl ⟨by rfl, ?_⟩) (by assumption) ?_
                    · intro u' hSu
                      (try simp only [List.getElem_toArray, List.getElem_cons_zero, List.getElem_cons_succ])
                      go_simp
                    (try simp only [List.getElem_toArray, List.getElem_cons_zero, List.getElem_cons_succ])
                    (try simp only [Act.put, List.setIfInBounds_toArray, List.set_cons_zero, List.set_cons_succ])
                    refine wpAnyH_take (i := 3) (oi := _) (v := .agg #[.bool hn_, .string hx_, .string hy_]) rfl (by kernel_rfl) (by kernel_rfl) (by kernel_rfl) (fun _ _ _ h => h) (Or.inl ⟨by rfl, ?_⟩) (by assumption) ?_
                    · intro u' hSu
                      (try simp only [List.getElem_toArray, List.getElem_cons_zero, List.getElem_cons_succ])
                      obtain ⟨s0, s1, s2, s3, s4, s5, s6, s7, s8⟩ := hSu
                      go_simp
                    (try simp only [List.getElem_toArray, List.getElem_cons_zero, List.getElem_cons_succ])
                    (try simp only [Act.put, List.setIfInBounds_toArray, List.set_cons_zero, List.set_cons_succ])
                    refine wpAnyH_take (i := 4) (oi := _) (v := .agg #[.bool hn_, .string hx_, .string hy_]) rfl (by kernel_rfl) (by kernel_rfl) (by kernel_rfl) (fun _ _ _ h => h) (Or.inl ⟨by rfl, ?_⟩) (by assumption) ?_
                    · intro u' hSu
                      (try simp only [List.getElem_toArray, List.getElem_cons_zero, List.getElem_cons_succ])
                      obtain ⟨s0, s1, s2, s3, s4, s5, s6, s7, s8⟩ := hSu
                      go_simp
                    (try simp only [List.getElem_toArray, List.getElem_cons_zero, List.getElem_cons_succ])
                    (try simp only [Act.put, List.setIfInBounds_toArray, List.set_cons_zero, List.set_cons_succ])
                    refine wpAnyH_take (i := 5) (oi := _) (v := .bool false) rfl (by kernel_rfl) (by kernel_rfl) (by kernel_rfl) (fun _ _ _ h => h) (Or.inl ⟨by rfl, ?_⟩) (by assumption) ?_
                    · intro u' hSu
                      (try simp only [List.getElem_toArray, List.getElem_cons_zero, List.getElem_cons_succ])
                      go_simp
                    (try simp only [List.getElem_toArray, List.getElem_cons_zero, List.getElem_cons_succ])
                    (try simp only [Act.put, List.setIfInBounds_toArray, List.set_cons_zero, List.set_cons_succ])
                    refine wpAnyH_take (i := 6) (oi := _) (v := .bool false) rfl (by kernel_rfl) (by kernel_rfl) (by kernel_rfl) (fun _ _ _ h => h) (Or.inl ⟨by rfl, ?_⟩) (by assumption) ?_
                    · intro u' hSu
                      (try simp only [List.getElem_toArray, List.getElem_cons_zero, List.getElem_cons_succ])
                      go_simp
                    (try simp only [List.getElem_toArray, List.getElem_cons_zero, List.getElem_cons_succ])
                    (try simp only [Act.put, List.setIfInBounds_toArray, List.set_cons_zero, List.set_cons_succ])
                    refine wpAnyH_take (i := 7) (oi := _) (v := .slice (some ⟨gL, oL, none⟩) n cL) rfl (by kernel_rfl) (by kernel_rfl) (by kernel_rfl) (fun _ _ _ h => h) (Or.inl ⟨by rfl, ?_⟩) (by assumption) ?_
                    · intro u' hSu
                      (try simp only [List.getElem_toArray, List.getElem_cons_zero, List.getElem_cons_succ])
                      go_simp
                    (try simp only [List.getElem_toArray, List.getElem_cons_zero, List.getElem_cons_succ])
                    (try simp only [Act.put, List.setIfInBounds_toArray, List.set_cons_zero, List.set_cons_succ])
                    refine wpAnyH_take (i := 8) (oi := _) (v := .int .i64 (i : Nat)) rfl (by kernel_rfl) (by kernel_rfl) (by kernel_rfl) (fun _ _ _ h => h) (Or.inl ⟨by rfl, ?_⟩) (by assumption) ?_
                    · intro u' hSu
                      (try simp only [List.getElem_toArray, List.getElem_cons_zero, List.getElem_cons_succ])
                      go_simp
                    (try simp only [List.getElem_toArray, List.getElem_cons_zero, List.getElem_cons_succ])
                    (try simp only [Act.put, List.setIfInBounds_toArray, List.set_cons_zero, List.set_cons_succ])
                    refine wpAnyH_take (i := 9) (oi := _) (v := .pointer (some ⟨gL, oL + i * 3, none⟩)) rfl (by kernel_rfl) (by kernel_rfl) (by kernel_rfl) (fun _ _ _ h => h) (Or.inl ⟨by rfl, ?_⟩) (by assumption) ?_
                    · intro u' hSu
                      (try simp only [List.getElem_toArray, List.getElem_cons_zero, List.getElem_cons_succ])
                      go_simp
                    (try simp only [List.getElem_toArray, List.getElem_cons_zero, List.getElem_cons_succ])
                    (try simp only [Act.put, List.setIfInBounds_toArray, List.set_cons_zero, List.set_cons_succ])
                    refine wpAnyH_take (i := 10) (oi := _) (v := .agg #[.bool ln_, .string lx_, .string ly_]) rfl (by kernel_rfl) (by kernel_rfl) (by kernel_rfl) (fun _ _ _ h => h) (Or.inl ⟨by rfl, ?_⟩) (by assumption) ?_
                    · intro u' hSu
                      (try simp only [List.getElem_toArray, List.getElem_cons_zero, List.getElem_cons_succ])
                      obtain ⟨s0, s1, s2, s3, s4, s5, s6, s7, s8⟩ := hSu
                      go_simp
                    (try simp only [List.getElem_toArray, List.getElem_cons_zero, List.getElem_cons_succ])
                    (try simp only [Act.put, List.setIfInBounds_toArray, List.set_cons_zero, List.set_cons_succ])
                    refine wpAnyH_take (i := 11) (oi := _) (v := .slice (some ⟨G, 0, none⟩) n n) rfl (by kernel_rfl) (by kernel_rfl) (by kernel_rfl) (fun _ _ _ h => h) (Or.inl ⟨by rfl, ?_⟩) (by assumption) ?_
                    · intro u' hSu
                      (try simp only [List.getElem_toArray, List.getElem_cons_zero, List.getElem_cons_succ])
                      go_simp
                    (try simp only [List.getElem_toArray, List.getElem_cons_zero, List.getElem_cons_succ])
                    (try simp only [Act.put, List.setIfInBounds_toArray, List.set_cons_zero, List.set_cons_succ])
                    refine wpAnyH_take (i := 12) (oi := _) (v := .int .i64 (i : Nat)) rfl (by kernel_rfl) (by kernel_rfl) (by kernel_rfl) (fun _ _ _ h => h) (Or.inl ⟨by rfl, ?_⟩) (by assumption) ?_
                    · intro u' hSu
                      (try simp only [List.getElem_toArray, List.getElem_cons_zero, List.getElem_cons_succ])
                      go_simp
                    (try simp only [List.getElem_toArray, List.getElem_cons_zero, List.getElem_cons_succ])
                    (try simp only [Act.put, List.setIfInBounds_toArray, List.set_cons_zero, List.set_cons_succ])
                    refine wpAnyH_take (i := 13) (oi := _) (v := .pointer (some ⟨G, i * 3, none⟩)) rfl (by kernel_rfl) (by kernel_rfl) (by kernel_rfl) (fun _ _ _ h => h) (Or.inl ⟨by rfl, ?_⟩) (by assumption) ?_
                    · intro u' hSu
                      (try simp only [List.getElem_toArray, List.getElem_cons_zero, List.getElem_cons_succ])
                      go_simp
                    (try simp only [List.getElem_toArray, List.getElem_cons_zero, List.getElem_cons_succ])
                    (try simp only [Act.put, List.setIfInBounds_toArray, List.set_cons_zero, List.set_cons_succ])
                    refine wpAnyH_take (i := 14) (oi := _) (v := .agg #[.bool hn_, .string hx_, .string hy_]) rfl (by kernel_rfl) (by kernel_rfl) (by kernel_rfl) (fun _ _ _ h => h) (Or.inl ⟨by rfl, ?_⟩) (by assumption) ?_
                    · intro u' hSu
                      (try simp only [List.getElem_toArray, List.getElem_cons_zero, List.getElem_cons_succ])
                      obtain ⟨s0, s1, s2, s3, s4, s5, s6, s7, s8⟩ := hSu
                      go_simp
                    (try simp only [List.getElem_toArray, List.getElem_cons_zero, List.getElem_cons_succ])
                    (try simp only [Act.put, List.setIfInBounds_toArray, List.set_cons_zero, List.set_cons_succ])
                    refine wpAnyH_ready (rs := [15]) (by kernel_rfl) (by simp) (AllReadyH.cons rfl ?_ (AllReadyH.nil))
                    · intro K' hK'
                      (try simp only [List.getElem_toArray, List.getElem_cons_zero, List.getElem_cons_succ])
                      go_simp
                      refine (HC1.out _).mono ?_
                      rintro e q1 ⟨rfl, hb⟩
                      replace HBz := hid (HBz.out.trans (hb.mono HBz.out.size))
                      refine hK'.out _ _ (HELD.out _ HBz.out) (fun hSe => ?_)
                      clear hb
                      clear hK' K' hSd
                      have hSd := hSe
                      clear hSe
                      (try simp only [List.getElem_toArray, List.getElem_cons_zero, List.getElem_cons_succ])
                      (try simp only [Act.put, List.setIfInBounds_toArray, List.set_cons_zero, List.set_cons_succ])
                      refine wpAnyH_take (i := 16) (oi := _) (v := .bool false) rfl (by kernel_rfl) (by kernel_rfl) (by kernel_rfl) (fun _ _ _ h => h) (Or.inl ⟨by rfl, ?_⟩) (by assumption) ?_
                      · intro u' hSu
                        (try simp only [List.getElem_toArray, List.getElem_cons_zero, List.getElem_cons_succ])
                        go_simp
                        (try exact Int.not_lt.1 HC1N.out)
                      (try simp only [List.getElem_toArray, List.getElem_cons_zero, List.getElem_cons_succ])
                      (try simp only [Act.put, List.setIfInBounds_toArray, List.set_cons_zero, List.set_cons_succ])
                      refine wpAnyH_take (i := 17) (oi := _) (v := .bool false) rfl (by kernel_rfl) (by kernel_rfl) (by kernel_rfl) (fun _ _ _ h => h) (Or.inl ⟨by rfl, ?_⟩) (by assumption) ?_
                      · intro u' hSu
                        (try simp only [List.getElem_toArray, List.getElem_cons_zero, List.getElem_cons_succ])
                        go_simp
                      (try simp only [List.getElem_toArray, List.getElem_cons_zero, List.getElem_cons_succ])
                      (try simp only [Act.put, List.setIfInBounds_toArray, List.set_cons_zero, List.set_cons_succ])
                      refine wpAnyH_take (i := 18) (oi := _) (v := .bool false) rfl (by kernel_rfl) (by kernel_rfl) (by kernel_rfl) (fun _ _ _ h => h) (Or.inl ⟨by rfl, ?_⟩) (by assumption) ?_
                      · intro u' hSu
                        (try simp only [List.getElem_toArray, List.getElem_cons_zero, List.getElem_cons_succ])
                        go_simp
                      (try simp only [List.getElem_toArray, List.getElem_cons_zero, List.getElem_cons_succ])
                      (try simp only [Act.put, List.setIfInBounds_toArray, List.set_cons_zero, List.set_cons_succ])
                      refine wpAnyH_take (i := 19) (oi := _) (v := .slice (some ⟨G, 0, none⟩) n n) rfl (by kernel_rfl) (by kernel_rfl) (by kernel_rfl) (fun _ _ _ h => h) (Or.inl ⟨by rfl, ?_⟩) (by assumption) ?_
                      · intro u' hSu
                        (try simp only [List.getElem_toArray, List.getElem_cons_zero, List.getElem_cons_succ])
                        go_simp
                      (try simp only [List.getElem_toArray, List.getElem_cons_zero, List.getElem_cons_succ])
                      (try simp only [Act.put, List.setIfInBounds_toArray, List.set_cons_zero, List.set_cons_succ])
                      refine wpAnyH_take (i := 20) (oi := _) (v := .int .i64 (i : Nat)) rfl (by kernel_rfl) (by kernel_rfl) (by kernel_rfl) (fun _ _ _ h => h) (Or.inl ⟨by rfl, ?_⟩) (by assumption) ?_
                      · intro u' hSu
                        (try simp only [List.getElem_toArray, List.getElem_cons_zero, List.getElem_cons_succ])
                        go_simp
                      (try simp only [List.getElem_toArray, List.getElem_cons_zero, List.getElem_cons_succ])
                      (try simp only [Act.put, List.setIfInBounds_toArray, List.set_cons_zero, List.set_cons_succ])
                      refine wpAnyH_take (i := 21) (oi := _) (v := .pointer (some ⟨G, i * 3, none⟩)) rfl (by kernel_rfl) (by kernel_rfl) (by kernel_rfl) (fun _ _ _ h => h) (Or.inl ⟨by rfl, ?_⟩) (by assumption) ?_
                      · intro u' hSu
                        (try simp only [List.getElem_toArray, List.getElem_cons_zero, List.getElem_cons_succ])
                        go_simp
                      (try simp only [List.getElem_toArray, List.getElem_cons_zero, List.getElem_cons_succ])
                      (try simp only [Act.put, List.setIfInBounds_toArray, List.set_cons_zero, List.set_cons_succ])
                      refine wpAnyH_take (i := 22) (oi := _) (v := .agg #[.bool hn_, .string hx_, .string hy_]) rfl (by kernel_rfl) (by kernel_rfl) (by kernel_rfl) (fun _ _ _ h => h) (Or.inl ⟨by rfl, ?_⟩) (by assumption) ?_
                      · intro u' hSu
                        (try simp only [List.getElem_toArray, List.getElem_cons_zero, List.getElem_cons_succ])
                        obtain ⟨s0, s1, s2, s3, s4, s5, s6, s7, s8⟩ := hSu
                        go_simp
                      (try simp only [List.getElem_toArray, List.getElem_cons_zero, List.getElem_cons_succ])
                      (try simp only [Act.put, List.setIfInBounds_toArray, List.set_cons_zero, List.set_cons_succ])
                      refine wpAnyH_ready (rs := [23]) (by kernel_rfl) (by simp) (AllReadyH.cons rfl ?_ (AllReadyH.nil))
                      · intro K' hK'
                        (try simp only [List.getElem_toArray, List.getElem_cons_zero, List.getElem_cons_succ])
                        go_simp
                        refine (HO1.out _).mono ?_
                        rintro e q2 ⟨rfl, hb⟩
                        replace HBz := hid (HBz.out.trans (hb.mono HBz.out.size))
                        refine hK'.out _ _ (HELD.out _ HBz.out) (fun hSe => ?_)
                        clear hb
                        clear hK' K' hSd
                        have hSd := hSe
                        clear hSe
                        (try simp only [List.getElem_toArray, List.getElem_cons_zero, List.getElem_cons_succ])
                        (try simp only [Act.put, List.setIfInBounds_toArray, List.set_cons_zero, List.set_cons_succ])
                        refine wpAnyH_ready (rs := [24]) (by kernel_rfl) (by simp) (AllReadyH.cons rfl ?_ (AllReadyH.nil))
                        · intro K' hK'
                          (try simp only [List.getElem_toArray, List.getElem_cons_zero, List.getElem_cons_succ])
                          go_simp
                          refine (HC2.out _).mono ?_
                          rintro e q3 ⟨rfl, hb⟩
                          replace HBz := hid (HBz.out.trans (hb.mono HBz.out.size))
                          refine hK'.out _ _ (HELD.out _ HBz.out) (fun hSe => ?_)
                          clear hb
                          clear hK' K' hSd
                          have hSd := hSe
                          clear hSe
                          (try simp only [List.getElem_toArray, List.getElem_cons_zero, List.getElem_cons_succ])
                          (try simp only [Act.put, List.setIfInBounds_toArray, List.set_cons_zero, List.set_cons_succ])
                          refine wpAnyH_take (i := 25) (oi := _) (v := .bool false) rfl (by kernel_rfl) (by kernel_rfl) (by kernel_rfl) (fun _ _ _ h => h) (Or.inl ⟨by rfl, ?_⟩) (by assumption) ?_
                          · intro u' hSu
                            (try simp only [List.getElem_toArray, List.getElem_cons_zero, List.getElem_cons_succ])
                            go_simp
                            (try exact Int.not_lt.1 HC2N.out)
                          (try simp only [List.getElem_toArray, List.getElem_cons_zero, List.getElem_cons_succ])
                          (try simp only [Act.put, List.setIfInBounds_toArray, List.set_cons_zero, List.set_cons_succ])
                          refine wpAnyH_take (i := 26) (oi := _) (v := .bool false) rfl (by kernel_rfl) (by kernel_rfl) (by kernel_rfl) (fun _ _ _ h => h) (Or.inl ⟨by rfl, ?_⟩) (by assumption) ?_
                          · intro u' hSu
                            (try simp only [List.getElem_toArray, List.getElem_cons_zero, List.getElem_cons_succ])
                            go_simp
                          (try simp only [List.getElem_toArray, List.getElem_cons_zero, List.getElem_cons_succ])
                          (try simp only [Act.put, List.setIfInBounds_toArray, List.set_cons_zero, List.set_cons_succ])
                          refine wpAnyH_done (by kernel_rfl) ?_ _
                          clear hSd
                          go_upto_region 44 with fail
                          replace HBz := hid HBz.out.drew
                          refine wp_region_held_drew (S := fun u => u.cell? ⟨G, i * 3, none⟩ = some (.bool hn_) ∧ u.cell? ⟨G, i * 3 + 1, none⟩ = some (.string hx_) ∧ u.cell? ⟨G, i * 3 + 2, none⟩ = some (.string hy_) ∧ u.cell? ⟨gL, oL + i * 3, none⟩ = some (.bool ln_) ∧ u.cell? ⟨gL, oL + i * 3 + 1, none⟩ = some (.string lx_) ∧ u.cell? ⟨gL, oL + i * 3 + 2, none⟩ = some (.string ly_) ∧ u.cell? ⟨gB, 0, none⟩ = some (.bool hn_) ∧ u.cell? ⟨gB, 1, none⟩ = some (.string hx_) ∧ u.cell? ⟨gB, 2, none⟩ = some (.string hy_)) (by kernel_rfl) (HELD.out _ HBz.out) (fun hSd => ?_)
                          generalize q3.drew = u4 at *
                          rcases HCASE.out with ⟨hz, hem, hany⟩ | ⟨hz, hem, hany⟩ | ⟨hz, hem, hany⟩
                          · have hz' : hn_ = zn ∧ hx_ = zx ∧ hy_ = zy := hz
                            obtain ⟨rfl, rfl, rfl⟩ := hz'
                            have HSLI : Hid (S = []) := List.eq_nil_of_length_eq_zero hem
                            clear hem
                            refine wpAnyH_take (i := 0) (oi := _) (v := .slice (some ⟨G, 0, none⟩) n n) rfl (by kernel_rfl) (by kernel_rfl) (by kernel_rfl) (fun _ _ _ h => h) (Or.inl ⟨by rfl, ?_⟩) (by assumption) ?_
                            · intro u' hSu
                              (try simp only [List.getElem_toArray, List.getElem_cons_zero])
                              go_simp
                            (try simp only [List.getElem_toArray, List.getElem_cons_zero])
                            (try simp only [Act.put, List.setIfInBounds_toArray, List.set_cons_zero, List.set_cons_succ])
                            refine wpAnyH_take (i := 1) (oi := _) (v := .int .i64 (i : Nat)) rfl (by kernel_rfl) (by kernel_rfl) (by kernel_rfl) (fun _ _ _ h => h) (Or.inl ⟨by rfl, ?_⟩) (by assumption) ?_
                            · intro u' hSu
                              (try simp only [List.getElem_toArray, List.getElem_cons_zero, List.getElem_cons_succ])
                              go_simp
                            (try simp only [List.getElem_toArray, List.getElem_cons_zero, List.getElem_cons_succ])
                            (try simp only [Act.put, List.setIfInBounds_toArray, List.set_cons_zero, List.set_cons_succ])
                            refine wpAnyH_take (i := 2) (oi := _) (v := .pointer (some ⟨G, i * 3, none⟩)) rfl (by kernel_rfl) (by kernel_rfl) (by kernel_rfl) (fun _ _ _ h => h) (Or.inl ⟨by rfl, ?_⟩) (by assumption) ?_
                            · intro u' hSu
                              (try simp only [List.getElem_toArray, List.getElem_cons_zero, List.getElem_cons_succ])
                              go_simp
                            (try simp only [List.getElem_toArray, List.getElem_cons_zero, List.getElem_cons_succ])
                            (try simp only [Act.put, List.setIfInBounds_toArray, List.set_cons_zero, List.set_cons_succ])
                            refine wpAnyH_take (i := 3) (oi := _) (v := .agg #[.bool hn_, .string hx_, .string hy_]) rfl (by kernel_rfl) (by kernel_rfl) (by kernel_rfl) (fun _ _ _ h => h) (Or.inl ⟨by rfl, ?_⟩) (by assumption) ?_
                            · intro u' hSu
                              (try simp only [List.getElem_toArray, List.getElem_cons_zero, List.getElem_cons_succ])
                              obtain ⟨s0, s1, s2, s3, s4, s5, s6, s7, s8⟩ := hSu
                              go_simp
                            (try simp only [List.getElem_toArray, List.getElem_cons_zero, List.getElem_cons_succ])
                            (try simp only [Act.put, List.setIfInBounds_toArray, List.set_cons_zero, List.set_cons_succ])
                            refine wpAnyH_take (i := 6) (oi := _) (v := .slice b S.length cb) rfl (by kernel_rfl) (by kernel_rfl) (by kernel_rfl) (fun _ _ _ h => h) (Or.inl ⟨by rfl, ?_⟩) (by assumption) ?_
                            · intro u' hSu
                              (try simp only [List.getElem_toArray, List.getElem_cons_zero, List.getElem_cons_succ])
                              go_simp
                            (try simp only [List.getElem_toArray, List.getElem_cons_zero, List.getElem_cons_succ])
                            (try simp only [Act.put, List.setIfInBounds_toArray, List.set_cons_zero, List.set_cons_succ])
                            refine wpAnyH_take (i := 7) (oi := _) (v := .int .i64 ((S.length : Nat) : Int)) rfl (by kernel_rfl) (by kernel_rfl) (by kernel_rfl) (fun _ _ _ h => h) (Or.inl ⟨by rfl, ?_⟩) (by assumption) ?_
                            · intro u' hSu
                              (try simp only [List.getElem_toArray, List.getElem_cons_zero, List.getElem_cons_succ])
                              go_simp
                            (try simp only [List.getElem_toArray, List.getElem_cons_zero, List.getElem_cons_succ])
                            (try simp only [Act.put, List.setIfInBounds_toArray, List.set_cons_zero, List.set_cons_succ])
                            refine wpAnyH_take (i := 8) (oi := _) (v := .bool true) rfl (by kernel_rfl) (by kernel_rfl) (by kernel_rfl) (fun _ _ _ h => h) (Or.inl ⟨by rfl, ?_⟩) (by assumption) ?_
                            · intro u' hSu
                              (try simp only [List.getElem_toArray, List.getElem_cons_zero, List.getElem_cons_succ])
                              go_simp
                              (try exact HSLI.out)
                            (try simp only [List.getElem_toArray, List.getElem_cons_zero, List.getElem_cons_succ])
                            (try simp only [Act.put, List.setIfInBounds_toArray, List.set_cons_zero, List.set_cons_succ])
                            refine wpAnyH_ready (rs := [4]) (by kernel_rfl) (by simp) (AllReadyH.cons rfl ?_ (AllReadyH.nil))
                            · intro K' hK'
                              (try simp only [List.getElem_toArray, List.getElem_cons_zero, List.getElem_cons_succ])
                              go_simp
                              refine (HO0.out _).mono ?_
                              rintro e t1 ⟨rfl, hb⟩
                              replace HBz := hid (HBz.out.trans (hb.mono HBz.out.size))
                              refine hK'.out _ _ (HELD.out _ HBz.out) (fun hSe => ?_)
                              clear hb
                              clear hK' K' hSd
                              have hSd := hSe
                              clear hSe
                              (try simp only [List.getElem_toArray, List.getElem_cons_zero, List.getElem_cons_succ])
                              (try simp only [Act.put, List.setIfInBounds_toArray, List.set_cons_zero, List.set_cons_succ])
                              refine wpAnyH_take (i := 5) (oi := _) (v := .bool true) rfl (by kernel_rfl) (by kernel_rfl) (by kernel_rfl) (fun _ _ _ h => h) (Or.inl ⟨by rfl, ?_⟩) (by assumption) ?_
                              · intro u' hSu
                                (try simp only [List.getElem_toArray, List.getElem_cons_zero, List.getElem_cons_succ])
                                go_simp
                              (try simp only [List.getElem_toArray, List.getElem_cons_zero, List.getElem_cons_succ])
                              (try simp only [Act.put, List.setIfInBounds_toArray, List.set_cons_zero, List.set_cons_succ])
                              refine wpAnyH_take (i := 9) (oi := _) (v := .bool true) rfl (by kernel_rfl) (by kernel_rfl) (by kernel_rfl) (fun _ _ _ h => h) (Or.inl ⟨by rfl, ?_⟩) (by assumption) ?_
                              · intro u' hSu
                                (try simp only [List.getElem_toArray, List.getElem_cons_zero, List.getElem_cons_succ])
                                go_simp
                              (try simp only [List.getElem_toArray, List.getElem_cons_zero, List.getElem_cons_succ])
                              (try simp only [Act.put, List.setIfInBounds_toArray, List.set_cons_zero, List.set_cons_succ])
                              refine wpAnyH_take (i := 10) (oi := _) (v := undef) rfl (by kernel_rfl) (by kernel_rfl) (by kernel_rfl) (fun _ _ _ h => h) (Or.inr ⟨by rfl, rfl⟩) (by assumption) ?_
                              (try simp only [List.getElem_toArray, List.getElem_cons_zero, List.getElem_cons_succ])
                              (try simp only [Act.put, List.setIfInBounds_toArray, List.set_cons_zero, List.set_cons_succ])
                              refine wpAnyH_take (i := 11) (oi := _) (v := undef) rfl (by kernel_rfl) (by kernel_rfl) (by kernel_rfl) (fun _ _ _ h => h) (Or.inr ⟨by rfl, rfl⟩) (by assumption) ?_
                              (try simp only [List.getElem_toArray, List.getElem_cons_zero, List.getElem_cons_succ])
                              (try simp only [Act.put, List.setIfInBounds_toArray, List.set_cons_zero, List.set_cons_succ])
                              refine wpAnyH_take (i := 12) (oi := _) (v := undef) rfl (by kernel_rfl) (by kernel_rfl) (by kernel_rfl) (fun _ _ _ h => h) (Or.inr ⟨by rfl, rfl⟩) (by assumption) ?_
                              (try simp only [List.getElem_toArray, List.getElem_cons_zero, List.getElem_cons_succ])
                              (try simp only [Act.put, List.setIfInBounds_toArray, List.set_cons_zero, List.set_cons_succ])
                              refine wpAnyH_take (i := 13) (oi := _) (v := undef) rfl (by kernel_rfl) (by kernel_rfl) (by kernel_rfl) (fun _ _ _ h => h) (Or.inr ⟨by rfl, rfl⟩) (by assumption) ?_
                              (try simp only [List.getElem_toArray, List.getElem_cons_zero, List.getElem_cons_succ])
                              (try simp only [Act.put, List.setIfInBounds_toArray, List.set_cons_zero, List.set_cons_succ])
                              refine wpAnyH_take (i := 14) (oi := _) (v := undef) rfl (by kernel_rfl) (by kernel_rfl) (by kernel_rfl) (fun _ _ _ h => h) (Or.inr ⟨by rfl, rfl⟩) (by assumption) ?_
                              (try simp only [List.getElem_toArray, List.getElem_cons_zero, List.getElem_cons_succ])
                              (try simp only [Act.put, List.setIfInBounds_toArray, List.set_cons_zero, List.set_cons_succ])
                              refine wpAnyH_take (i := 15) (oi := _) (v := .bool true) rfl (by kernel_rfl) (by kernel_rfl) (by kernel_rfl) (fun _ _ _ h => h) (Or.inl ⟨by rfl, ?_⟩) (by assumption) ?_
                              · intro u' hSu
                                (try simp only [List.getElem_toArray, List.getElem_cons_zero, List.getElem_cons_succ])
                                go_simp
                              (try simp only [List.getElem_toArray, List.getElem_cons_zero, List.getElem_cons_succ])
                              (try simp only [Act.put, List.setIfInBounds_toArray, List.set_cons_zero, List.set_cons_succ])
                              refine wpAnyH_take (i := 16) (oi := _) (v := .bool false) rfl (by kernel_rfl) (by kernel_rfl) (by kernel_rfl) (fun _ _ _ h => h) (Or.inl ⟨by rfl, ?_⟩) (by assumption) ?_
                              · intro u' hSu
                                (try simp only [List.getElem_toArray, List.getElem_cons_zero, List.getElem_cons_succ])
                                go_simp
                              (try simp only [List.getElem_toArray, List.getElem_cons_zero, List.getElem_cons_succ])
                              (try simp only [Act.put, List.setIfInBounds_toArray, List.set_cons_zero, List.set_cons_succ])
                              refine wpAnyH_done (by kernel_rfl) ?_ _
                              clear hSd
                              have HB6 : Hid (Below W5.heap.size W5 t1) := HBq.out.trans (HBz.out.mono HBq.out.size)
                              go_wp2
                              go_roundw
                              case rel => exact ⟨i + 1, by omega, by go_num, HB6⟩
                              case measure => simp [intOf]; omega
                          · obtain ⟨rfl, rfl, rfl⟩ := hz
                            rw [hany] at HCOM
                            have hsl : ¬ ((S.length : Nat) : Int) = 0 := by omega
                            refine wpAnyH_take (i := 0) (oi := _) (v := .slice (some ⟨G, 0, none⟩) n n) rfl (by kernel_rfl) (by kernel_rfl) (by kernel_rfl) (fun _ _ _ h => h) (Or.inl ⟨by rfl, ?_⟩) (by assumption) ?_
                            · intro u' hSu
                              (try simp only [List.getElem_toArray, List.getElem_cons_zero])
                              go_simp
                            (try simp only [List.getElem_toArray, List.getElem_cons_zero])
                            (try simp only [Act.put, List.setIfInBounds_toArray, List.set_cons_zero, List.set_cons_succ])
                            refine wpAnyH_take (i := 1) (oi := _) (v := .int .i64 (i : Nat)) rfl (by kernel_rfl) (by kernel_rfl) (by kernel_rfl) (fun _ _ _ h => h) (Or.inl ⟨by rfl, ?_⟩) (by assumption) ?_
                            · intro u' hSu
                              (try simp only [List.getElem_toArray, List.getElem_cons_zero, List.getElem_cons_succ])
                              go_simp
                            (try simp only [List.getElem_toArray, List.getElem_cons_zero, List.getElem_cons_succ])
                            (try simp only [Act.put, List.setIfInBounds_toArray, List.set_cons_zero, List.set_cons_succ])
                            refine wpAnyH_take (i := 2) (oi := _) (v := .pointer (some ⟨G, i * 3, none⟩)) rfl (by kernel_rfl) (by kernel_rfl) (by kernel_rfl) (fun _ _ _ h => h) (Or.inl ⟨by rfl, ?_⟩) (by assumption) ?_
                            · intro u' hSu
                              (try simp only [List.getElem_toArray, List.getElem_cons_zero, List.getElem_cons_succ])
                              go_simp
                            (try simp only [List.getElem_toArray, List.getElem_cons_zero, List.getElem_cons_succ])
                            (try simp only [Act.put, List.setIfInBounds_toArray, List.set_cons_zero, List.set_cons_succ])
                            refine wpAnyH_take (i := 3) (oi := _) (v := .agg #[.bool hn_, .string hx_, .string hy_]) rfl (by kernel_rfl) (by kernel_rfl) (by kernel_rfl) (fun _ _ _ h => h) (Or.inl ⟨by rfl, ?_⟩) (by assumption) ?_
                            · intro u' hSu
                              (try simp only [List.getElem_toArray, List.getElem_cons_zero, List.getElem_cons_succ])
                              obtain ⟨s0, s1, s2, s3, s4, s5, s6, s7, s8⟩ := hSu
                              go_simp
                            (try simp only [List.getElem_toArray, List.getElem_cons_zero, List.getElem_cons_succ])
                            (try simp only [Act.put, List.setIfInBounds_toArray, List.set_cons_zero, List.set_cons_succ])
                            refine wpAnyH_take (i := 6) (oi := _) (v := .slice b S.length cb) rfl (by kernel_rfl) (by kernel_rfl) (by kernel_rfl) (fun _ _ _ h => h) (Or.inl ⟨by rfl, ?_⟩) (by assumption) ?_
                            · intro u' hSu
                              (try simp only [List.getElem_toArray, List.getElem_cons_zero, List.getElem_cons_succ])
                              go_simp
                            (try simp only [List.getElem_toArray, List.getElem_cons_zero, List.getElem_cons_succ])
                            (try simp only [Act.put, List.setIfInBounds_toArray, List.set_cons_zero, List.set_cons_succ])
                            refine wpAnyH_take (i := 7) (oi := _) (v := .int .i64 ((S.length : Nat) : Int)) rfl (by kernel_rfl) (by kernel_rfl) (by kernel_rfl) (fun _ _ _ h => h) (Or.inl ⟨by rfl, ?_⟩) (by assumption) ?_
                            · intro u' hSu
                              (try simp only [List.getElem_toArray, List.getElem_cons_zero, List.getElem_cons_succ])
                              go_simp
                            (try simp only [List.getElem_toArray, List.getElem_cons_zero, List.getElem_cons_succ])
                            (try simp only [Act.put, List.setIfInBounds_toArray, List.set_cons_zero, List.set_cons_succ])
                            refine wpAnyH_take (i := 8) (oi := _) (v := .bool false) rfl (by kernel_rfl) (by kernel_rfl) (by kernel_rfl) (fun _ _ _ h => h) (Or.inl ⟨by rfl, ?_⟩) (by assumption) ?_
                            · intro u' hSu
                              (try simp only [List.getElem_toArray, List.getElem_cons_zero, List.getElem_cons_succ])
                              go_simp
                            (try simp only [List.getElem_toArray, List.getElem_cons_zero, List.getElem_cons_succ])
                            (try simp only [Act.put, List.setIfInBounds_toArray, List.set_cons_zero, List.set_cons_succ])
                            refine wpAnyH_ready (rs := [4]) (by kernel_rfl) (by simp) (AllReadyH.cons rfl ?_ (AllReadyH.nil))
                            · intro K' hK'
                              (try simp only [List.getElem_toArray, List.getElem_cons_zero, List.getElem_cons_succ])
                              go_simp
                              refine (HO0.out _).mono ?_
                              rintro e t1 ⟨rfl, hb⟩
                              replace HBz := hid (HBz.out.trans (hb.mono HBz.out.size))
                              refine hK'.out _ _ (HELD.out _ HBz.out) (fun hSe => ?_)
                              clear hb
                              clear hK' K' hSd
                              have hSd := hSe
                              clear hSe
                              (try simp only [List.getElem_toArray, List.getElem_cons_zero, List.getElem_cons_succ])
                              (try simp only [Act.put, List.setIfInBounds_toArray, List.set_cons_zero, List.set_cons_succ])
                              refine wpAnyH_take (i := 5) (oi := _) (v := .bool true) rfl (by kernel_rfl) (by kernel_rfl) (by kernel_rfl) (fun _ _ _ h => h) (Or.inl ⟨by rfl, ?_⟩) (by assumption) ?_
                              · intro u' hSu
                                (try simp only [List.getElem_toArray, List.getElem_cons_zero, List.getElem_cons_succ])
                                go_simp
                              (try simp only [List.getElem_toArray, List.getElem_cons_zero, List.getElem_cons_succ])
                              (try simp only [Act.put, List.setIfInBounds_toArray, List.set_cons_zero, List.set_cons_succ])
                              refine wpAnyH_take (i := 9) (oi := _) (v := .bool false) rfl (by kernel_rfl) (by kernel_rfl) (by kernel_rfl) (fun _ _ _ h => h) (Or.inl ⟨by rfl, ?_⟩) (by assumption) ?_
                              · intro u' hSu
                                (try simp only [List.getElem_toArray, List.getElem_cons_zero, List.getElem_cons_succ])
                                go_simp
                              (try simp only [List.getElem_toArray, List.getElem_cons_zero, List.getElem_cons_succ])
                              (try simp only [Act.put, List.setIfInBounds_toArray, List.set_cons_zero, List.set_cons_succ])
                              refine wpAnyH_take (i := 10) (oi := _) (v := .slice (some ⟨g, o, none⟩) n ca) rfl (by kernel_rfl) (by kernel_rfl) (by kernel_rfl) (fun _ _ _ h => h) (Or.inl ⟨by rfl, ?_⟩) (by assumption) ?_
                              · intro u' hSu
                                (try simp only [List.getElem_toArray, List.getElem_cons_zero, List.getElem_cons_succ])
                                go_simp
                              (try simp only [List.getElem_toArray, List.getElem_cons_zero, List.getElem_cons_succ])
                              (try simp only [Act.put, List.setIfInBounds_toArray, List.set_cons_zero, List.set_cons_succ])
                              refine wpAnyH_take (i := 11) (oi := _) (v := .int .i64 (i : Nat)) rfl (by kernel_rfl) (by kernel_rfl) (by kernel_rfl) (fun _ _ _ h => h) (Or.inl ⟨by rfl, ?_⟩) (by assumption) ?_
                              · intro u' hSu
                                (try simp only [List.getElem_toArray, List.getElem_cons_zero, List.getElem_cons_succ])
                                go_simp
                              (try simp only [List.getElem_toArray, List.getElem_cons_zero, List.getElem_cons_succ])
                              (try simp only [Act.put, List.setIfInBounds_toArray, List.set_cons_zero, List.set_cons_succ])
                              refine wpAnyH_take (i := 12) (oi := _) (v := .slice b S.length cb) rfl (by kernel_rfl) (by kernel_rfl) (by kernel_rfl) (fun _ _ _ h => h) (Or.inl ⟨by rfl, ?_⟩) (by assumption) ?_
                              · intro u' hSu
                                (try simp only [List.getElem_toArray, List.getElem_cons_zero, List.getElem_cons_succ])
                                go_simp
                              (try simp only [List.getElem_toArray, List.getElem_cons_zero, List.getElem_cons_succ])
                              (try simp only [Act.put, List.setIfInBounds_toArray, List.set_cons_zero, List.set_cons_succ])
                              refine wpAnyH_ready (rs := [13]) (by kernel_rfl) (by simp) (AllReadyH.cons rfl ?_ (AllReadyH.nil))
                              · intro K' hK'
                                (try simp only [List.getElem_toArray, List.getElem_cons_zero, List.getElem_cons_succ])
                                go_simp
                                refine (HCOM.out _ HBz.out).mono ?_
                                rintro e t2 ⟨rfl, hb⟩
                                replace HBz := hid (HBz.out.trans (hb.mono HBz.out.size))
                                refine hK'.out _ _ (HELD.out _ HBz.out) (fun hSe => ?_)
                                clear hb
                                clear hK' K' hSd
                                have hSd := hSe
                                clear hSe
                                (try simp only [List.getElem_toArray, List.getElem_cons_zero, List.getElem_cons_succ])
                                (try simp only [Act.put, List.setIfInBounds_toArray, List.set_cons_zero, List.set_cons_succ])
                                refine wpAnyH_take (i := 14) (oi := _) (v := .bool true) rfl (by kernel_rfl) (by kernel_rfl) (by kernel_rfl) (fun _ _ _ h => h) (Or.inl ⟨by rfl, ?_⟩) (by assumption) ?_
                                · intro u' hSu
                                  (try simp only [List.getElem_toArray, List.getElem_cons_zero, List.getElem_cons_succ])
                                  go_simp
                                (try simp only [List.getElem_toArray, List.getElem_cons_zero, List.getElem_cons_succ])
                                (try simp only [Act.put, List.setIfInBounds_toArray, List.set_cons_zero, List.set_cons_succ])
                                refine wpAnyH_take (i := 15) (oi := _) (v := .bool true) rfl (by kernel_rfl) (by kernel_rfl) (by kernel_rfl) (fun _ _ _ h => h) (Or.inl ⟨by rfl, ?_⟩) (by assumption) ?_
                                · intro u' hSu
                                  (try simp only [List.getElem_toArray, List.getElem_cons_zero, List.getElem_cons_succ])
                                  go_simp
                                (try simp only [List.getElem_toArray, List.getElem_cons_zero, List.getElem_cons_succ])
                                (try simp only [Act.put, List.setIfInBounds_toArray, List.set_cons_zero, List.set_cons_succ])
                                refine wpAnyH_take (i := 16) (oi := _) (v := .bool false) rfl (by kernel_rfl) (by kernel_rfl) (by kernel_rfl) (fun _ _ _ h => h) (Or.inl ⟨by rfl, ?_⟩) (by assumption) ?_
                                · intro u' hSu
                                  (try simp only [List.getElem_toArray, List.getElem_cons_zero, List.getElem_cons_succ])
                                  go_simp
                                (try simp only [List.getElem_toArray, List.getElem_cons_zero, List.getElem_cons_succ])
                                (try simp only [Act.put, List.setIfInBounds_toArray, List.set_cons_zero, List.set_cons_succ])
                                refine wpAnyH_done (by kernel_rfl) ?_ _
                                clear hSd
                                have HB6 : Hid (Below W5.heap.size W5 t2) := HBq.out.trans (HBz.out.mono HBq.out.size)
                                go_wp2
                                go_roundw
                                case rel => exact ⟨i + 1, by omega, by go_num, HB6⟩
                                case measure => simp [intOf]; omega
                          · have HNE : Hid (¬ (hn_ = zn ∧ hx_ = zx ∧ hy_ = zy)) := hz
                            rw [hany] at HCOM
                            have hsl : ¬ ((S.length : Nat) : Int) = 0 := by omega
                            refine wpAnyH_take (i := 0) (oi := _) (v := .slice (some ⟨G, 0, none⟩) n n) rfl (by kernel_rfl) (by kernel_rfl) (by kernel_rfl) (fun _ _ _ h => h) (Or.inl ⟨by rfl, ?_⟩) (by assumption) ?_
                            · intro u' hSu
                              (try simp only [List.getElem_toArray, List.getElem_cons_zero])
                              go_simp
                            (try simp only [List.getElem_toArray, List.getElem_cons_zero])
                            (try simp only [Act.put, List.setIfInBounds_toArray, List.set_cons_zero, List.set_cons_succ])
                            refine wpAnyH_take (i := 1) (oi := _) (v := .int .i64 (i : Nat)) rfl (by kernel_rfl) (by kernel_rfl) (by kernel_rfl) (fun _ _ _ h => h) (Or.inl ⟨by rfl, ?_⟩) (by assumption) ?_
                            · intro u' hSu
                              (try simp only [List.getElem_toArray, List.getElem_cons_zero, List.getElem_cons_succ])
                              go_simp
                            (try simp only [List.getElem_toArray, List.getElem_cons_zero, List.getElem_cons_succ])
                            (try simp only [Act.put, List.setIfInBounds_toArray, List.set_cons_zero, List.set_cons_succ])
                            refine wpAnyH_take (i := 2) (oi := _) (v := .pointer (some ⟨G, i * 3, none⟩)) rfl (by kernel_rfl) (by kernel_rfl) (by kernel_rfl) (fun _ _ _ h => h) (Or.inl ⟨by rfl, ?_⟩) (by assumption) ?_
                            · intro u' hSu
                              (try simp only [List.getElem_toArray, List.getElem_cons_zero, List.getElem_cons_succ])
                              go_simp
                            (try simp only [List.getElem_toArray, List.getElem_cons_zero, List.getElem_cons_succ])
                            (try simp only [Act.put, List.setIfInBounds_toArray, List.set_cons_zero, List.set_cons_succ])
                            refine wpAnyH_take (i := 3) (oi := _) (v := .agg #[.bool hn_, .string hx_, .string hy_]) rfl (by kernel_rfl) (by kernel_rfl) (by kernel_rfl) (fun _ _ _ h => h) (Or.inl ⟨by rfl, ?_⟩) (by assumption) ?_
                            · intro u' hSu
                              (try simp only [List.getElem_toArray, List.getElem_cons_zero, List.getElem_cons_succ])
                              obtain ⟨s0, s1, s2, s3, s4, s5, s6, s7, s8⟩ := hSu
                              go_simp
                            (try simp only [List.getElem_toArray, List.getElem_cons_zero, List.getElem_cons_succ])
                            (try simp only [Act.put, List.setIfInBounds_toArray, List.set_cons_zero, List.set_cons_succ])
                            refine wpAnyH_take (i := 6) (oi := _) (v := .slice b S.length cb) rfl (by kernel_rfl) (by kernel_rfl) (by kernel_rfl) (fun _ _ _ h => h) (Or.inl ⟨by rfl, ?_⟩) (by assumption) ?_
                            · intro u' hSu
                              (try simp only [List.getElem_toArray, List.getElem_cons_zero, List.getElem_cons_succ])
                              go_simp
                            (try simp only [List.getElem_toArray, List.getElem_cons_zero, List.getElem_cons_succ])
                            (try simp only [Act.put, List.setIfInBounds_toArray, List.set_cons_zero, List.set_cons_succ])
                            refine wpAnyH_take (i := 7) (oi := _) (v := .int .i64 ((S.length : Nat) : Int)) rfl (by kernel_rfl) (by kernel_rfl) (by kernel_rfl) (fun _ _ _ h => h) (Or.inl ⟨by rfl, ?_⟩) (by assumption) ?_
                            · intro u' hSu
                              (try simp only [List.getElem_toArray, List.getElem_cons_zero, List.getElem_cons_succ])
                              go_simp
                            (try simp only [List.getElem_toArray, List.getElem_cons_zero, List.getElem_cons_succ])
                            (try simp only [Act.put, List.setIfInBounds_toArray, List.set_cons_zero, List.set_cons_succ])
                            refine wpAnyH_take (i := 8) (oi := _) (v := .bool false) rfl (by kernel_rfl) (by kernel_rfl) (by kernel_rfl) (fun _ _ _ h => h) (Or.inl ⟨by rfl, ?_⟩) (by assumption) ?_
                            · intro u' hSu
                              (try simp only [List.getElem_toArray, List.getElem_cons_zero, List.getElem_cons_succ])
                              go_simp
                            (try simp only [List.getElem_toArray, List.getElem_cons_zero, List.getElem_cons_succ])
                            (try simp only [Act.put, List.setIfInBounds_toArray, List.set_cons_zero, List.set_cons_succ])
                            refine wpAnyH_ready (rs := [4]) (by kernel_rfl) (by simp) (AllReadyH.cons rfl ?_ (AllReadyH.nil))
                            · intro K' hK'
                              (try simp only [List.getElem_toArray, List.getElem_cons_zero, List.getElem_cons_succ])
                              go_simp
                              refine (HO0.out _).mono ?_
                              rintro e t1 ⟨rfl, hb⟩
                              replace HBz := hid (HBz.out.trans (hb.mono HBz.out.size))
                              refine hK'.out _ _ (HELD.out _ HBz.out) (fun hSe => ?_)
                              clear hb
                              clear hK' K' hSd
                              have hSd := hSe
                              clear hSe
                              (try simp only [List.getElem_toArray, List.getElem_cons_zero, List.getElem_cons_succ])
                              (try simp only [Act.put, List.setIfInBounds_toArray, List.set_cons_zero, List.set_cons_succ])
                              refine wpAnyH_take (i := 5) (oi := _) (v := .bool false) rfl (by kernel_rfl) (by kernel_rfl) (by kernel_rfl) (fun _ _ _ h => h) (Or.inl ⟨by rfl, ?_⟩) (by assumption) ?_
                              · intro u' hSu
                                (try simp only [List.getElem_toArray, List.getElem_cons_zero, List.getElem_cons_succ])
                                go_simp
                                exact fun a b c => HNE.out ⟨a, bytes_like b, bytes_like c⟩
                              (try simp only [List.getElem_toArray, List.getElem_cons_zero, List.getElem_cons_succ])
                              (try simp only [Act.put, List.setIfInBounds_toArray, List.set_cons_zero, List.set_cons_succ])
                              refine wpAnyH_take (i := 9) (oi := _) (v := .bool false) rfl (by kernel_rfl) (by kernel_rfl) (by kernel_rfl) (fun _ _ _ h => h) (Or.inl ⟨by rfl, ?_⟩) (by assumption) ?_
                              · intro u' hSu
                                (try simp only [List.getElem_toArray, List.getElem_cons_zero, List.getElem_cons_succ])
                                go_simp
                              (try simp only [List.getElem_toArray, List.getElem_cons_zero, List.getElem_cons_succ])
                              (try simp only [Act.put, List.setIfInBounds_toArray, List.set_cons_zero, List.set_cons_succ])
                              refine wpAnyH_take (i := 10) (oi := _) (v := .slice (some ⟨g, o, none⟩) n ca) rfl (by kernel_rfl) (by kernel_rfl) (by kernel_rfl) (fun _ _ _ h => h) (Or.inl ⟨by rfl, ?_⟩) (by assumption) ?_
                              · intro u' hSu
                                (try simp only [List.getElem_toArray, List.getElem_cons_zero, List.getElem_cons_succ])
                                go_simp
                              (try simp only [List.getElem_toArray, List.getElem_cons_zero, List.getElem_cons_succ])
                              (try simp only [Act.put, List.setIfInBounds_toArray, List.set_cons_zero, List.set_cons_succ])
                              refine wpAnyH_take (i := 11) (oi := _) (v := .int .i64 (i : Nat)) rfl (by kernel_rfl) (by kernel_rfl) (by kernel_rfl) (fun _ _ _ h => h) (Or.inl ⟨by rfl, ?_⟩) (by assumption) ?_
                              · intro u' hSu
                                (try simp only [List.getElem_toArray, List.getElem_cons_zero, List.getElem_cons_succ])
                                go_simp
                              (try simp only [List.getElem_toArray, List.getElem_cons_zero, List.getElem_cons_succ])
                              (try simp only [Act.put, List.setIfInBounds_toArray, List.set_cons_zero, List.set_cons_succ])
                              refine wpAnyH_take (i := 12) (oi := _) (v := .slice b S.length cb) rfl (by kernel_rfl) (by kernel_rfl) (by kernel_rfl) (fun _ _ _ h => h) (Or.inl ⟨by rfl, ?_⟩) (by assumption) ?_
                              · intro u' hSu
                                (try simp only [List.getElem_toArray, List.getElem_cons_zero, List.getElem_cons_succ])
                                go_simp
                              (try simp only [List.getElem_toArray, List.getElem_cons_zero, List.getElem_cons_succ])
                              (try simp only [Act.put, List.setIfInBounds_toArray, List.set_cons_zero, List.set_cons_succ])
                              refine wpAnyH_ready (rs := [13]) (by kernel_rfl) (by simp) (AllReadyH.cons rfl ?_ (AllReadyH.nil))
                              · intro K' hK'
                                (try simp only [List.getElem_toArray, List.getElem_cons_zero, List.getElem_cons_succ])
                                go_simp
                                refine (HCOM.out _ HBz.out).mono ?_
                                rintro e t2 ⟨rfl, hb⟩
                                replace HBz := hid (HBz.out.trans (hb.mono HBz.out.size))
                                refine hK'.out _ _ (HELD.out _ HBz.out) (fun hSe => ?_)
                                clear hb
                                clear hK' K' hSd
                                have hSd := hSe
                                clear hSe
                                (try simp only [List.getElem_toArray, List.getElem_cons_zero, List.getElem_cons_succ])
                                (try simp only [Act.put, List.setIfInBounds_toArray, List.set_cons_zero, List.set_cons_succ])
                                refine wpAnyH_take (i := 14) (oi := _) (v := .bool false) rfl (by kernel_rfl) (by kernel_rfl) (by kernel_rfl) (fun _ _ _ h => h) (Or.inl ⟨by rfl, ?_⟩) (by assumption) ?_
                                · intro u' hSu
                                  (try simp only [List.getElem_toArray, List.getElem_cons_zero, List.getElem_cons_succ])
                                  go_simp
                                (try simp only [List.getElem_toArray, List.getElem_cons_zero, List.getElem_cons_succ])
                                (try simp only [Act.put, List.setIfInBounds_toArray, List.set_cons_zero, List.set_cons_succ])
                                refine wpAnyH_take (i := 15) (oi := _) (v := .bool false) rfl (by kernel_rfl) (by kernel_rfl) (by kernel_rfl) (fun _ _ _ h => h) (Or.inl ⟨by rfl, ?_⟩) (by assumption) ?_
                                · intro u' hSu
                                  (try simp only [List.getElem_toArray, List.getElem_cons_zero, List.getElem_cons_succ])
                                  go_simp
                                (try simp only [List.getElem_toArray, List.getElem_cons_zero, List.getElem_cons_succ])
                                (try simp only [Act.put, List.setIfInBounds_toArray, List.set_cons_zero, List.set_cons_succ])
                                refine wpAnyH_take (i := 16) (oi := _) (v := .bool false) rfl (by kernel_rfl) (by kernel_rfl) (by kernel_rfl) (fun _ _ _ h => h) (Or.inl ⟨by rfl, ?_⟩) (by assumption) ?_
                                · intro u' hSu
                                  (try simp only [List.getElem_toArray, List.getElem_cons_zero, List.getElem_cons_succ])
                                  go_simp
                                (try simp only [List.getElem_toArray, List.getElem_cons_zero, List.getElem_cons_succ])
                                (try simp only [Act.put, List.setIfInBounds_toArray, List.set_cons_zero, List.set_cons_succ])
                                refine wpAnyH_done (by kernel_rfl) ?_ _
                                clear hSd
                                have HB6 : Hid (Below W5.heap.size W5 t2) := HBq.out.trans (HBz.out.mono HBq.out.size)
                                go_wp2
                                go_roundw
                                case rel => exact ⟨i + 1, by omega, by go_num, HB6⟩
                                case measure => simp [intOf]; omega
            · obtain rfl : n = i := by omega
              go_wp2
              go_ret
              exact ⟨rfl, HBW.out.trans ((HBL.out.trans (HB5.out.mono HBL.out.size)).mono HBW.out.size)⟩
end Go.Proofs.YtbejijgelljeaaaGreatDoor

