/- ChainPowers: the law's walk. -/
import Derived.Test.YtbejijgelljeaaaGreatDoorPowCPw
import Derived.Test.YtbejijgelljeaaaGreatDoorChnMPwStlF
import Derived.Test.YtbejijgelljeaaaGreatDoorFracFPwHidP
import Derived.Deep.Strs
import Derived.HandedShaped
import Derived.ProofKit
import Derived.OpenShut
import Derived.ShutString
import Derived.SizedLaws
import Derived.Carry
import Derived.Test.YtbejijgelljeaaaGreatDoorNetDPwMadB
import Derived.Test.YtbejijgelljeaaaGreatDoorChnPPwRtC
import Derived.Test.YtbejijgelljeaaaGreatDoorCore1PwMem
import Derived.Deep.RegionHeld3
import Derived.Deep.OwnRows
import Derived.Laws.EntriesVeiled
import Derived.Test.YtbejijgelljeaaaGreatDoorProg
namespace Go.Proofs.YtbejijgelljeaaaGreatDoor
open Go.RowKit Go.Shelf
set_option maxRecDepth 100000 in
set_option maxHeartbeats 400000 in
theorem lawSame_any (a b : Option Addr) (ca cb n : Nat) (l : List Fr) (w : World) (ha : FrS w a l) (hb : FrS w b l) (hl : l.length = n) (hn : n ≤ 1000) :
    Calls Tryz.prog 25 #[.slice a n ca, .slice b n cb] w fun e w' => e = .returned (.bool true) ∧ Below w.heap.size w w' := by
  have HA := hid ha
  have HB := hid hb
  have HL := hid hl
  clear ha hb hl
  go_enter Tryz.func25, Tryz.ntmps25
  go_wp2_with fail
  go_loopw [5] (fun iv wr => ∃ i : Nat, i ≤ n ∧ iv = .int .i64 i ∧ Hid (Below w.heap.size w wr)) (fun iv _ => n - (intOf iv).toNat)
  case atStart => exact ⟨0, Nat.zero_le _, rfl, Below.refl _ _⟩
  case round =>
    obtain ⟨i, hi, rfl, HW⟩ := hrel
    by_cases hlt : i < n
    · have hil : i < l.length := by rw [HL.out]; exact hlt
      obtain ⟨g, o, rfl, hg, a0, a1, a2⟩ := (HA.out.below HW.out) i hil
      obtain ⟨g2, o2, rfl, hg2, b0, b1, b2⟩ := (HB.out.below HW.out) i hil
      generalize l[i] = f at *
      obtain ⟨fn, fx, fy⟩ := f
      simp only at a0 a1 a2 b0 b1 b2
      go_wp2_with fail
      go_quiet (fail)
      go_wp2
      go_roundw
      case rel => exact ⟨i + 1, by omega, by go_num, below_dn HW.out _⟩
      case measure => simp [intOf]; omega
    · obtain rfl : n = i := by omega
      go_wp2
      go_ret
      exact ⟨rfl, HW.out⟩
theorem pow_ok {n c : Nat} {P : Nat → Nat → Rat} (hc : Chn n P) (hn : n ≤ 6) (hcc : c ≤ 800) (hf : ∀ i j, i < n → j < n → Fits c (P i j)) : RwsOK n n (mR n P) := by
  refine ⟨mR_length n _, fun i hi => by rw [mR_get, lF_length], fun i hi => ?_, fun i hi => ?_⟩
  · have hi' : i < n := by rw [mR_length] at hi; exact hi
    rw [mR_get]
    have h9 := fw_few (c := 1600) (l := lF n (P i)) fun f hf' => by
      obtain ⟨j, hj, rfl⟩ := List.mem_map.1 hf'
      show (nu _).size + (de _).size ≤ 1600
      rw [own_size]
      have := fits_qw (hf i j hi' (List.mem_range.1 hj))
      omega
    rw [lF_length] at h9
    have h8 : (1600 + 8) * n ≤ (1600 + 8) * 6 := Nat.mul_le_mul_left _ hn
    omega
  · have hi' : i < n := by rw [mR_length] at hi; exact hi
    rw [mR_get]
    exact row_of (fun j hj => hc.low i j hi' hj) (hc.one i hi')
set_option maxRecDepth 100000 in
set_option maxHeartbeats 400000 in
theorem chStep_pow (a c : Option Addr) (ca cc n : Nat) (f : Nat → Rat) (P : Nat → Nat → Rat) (w : World) (ha : FrS w a (lF n f)) (hR : FsS w c (mR n P)) (hc : Chn n P) (h1 : 1 ≤ n) (h4 : n ≤ 4) (hp : ∀ i j, i < n → j < n → Fits 800 (P i j)) (hf : ∀ i, i < n → Fits 3413 (f i)) :
    Calls Tryz.prog 20 #[.slice a n ca, .slice c n cc] w fun e w' => ∃ G, e = .returned (.tuple #[.slice (some ⟨G, 0, none⟩) n n, .int .i64 0]) ∧ w.heap.size ≤ G ∧ RowF w' G (lF n fun j => sumR (fun i => f i * P i j) n) ∧ Below w.heap.size w w' := by
  have HC := hid (chCheck_yes c cc n (mR n P) w hR (pow_ok hc (by omega) (Nat.le_refl _) hp) h1 (by omega))
  have HM := hid (fun (U : World) (hU : Below w.heap.size w U) => chMoved_long a c ca cc n (lF n f) (mR n P) f P U (ha.below hU) (hR.below hU) (LsW.mk' fun i hi => by have := fits_qw (hf i hi); omega) (mR_length n P) (fun i hi => by rw [mR_get]; exact LsW.mk' fun j hj => by have := fits_qw (hp i j (by rw [mR_length] at hi; exact hi) hj); omega) (fun i j hi hj => by have := fits_qw (fits_tim (hf i hi) (hp i j hi hj)); omega) (fun j k hj hk => by
    have h1 := fits_qw (fits_sumR (f := fun i => f i * P i j) (c := 4213) (n := k) fun i hi => fits_tim (hf i (by omega)) (hp i j (by omega) hj))
    have h2 : k * (4213 + 1) ≤ 4 * (4213 + 1) := Nat.mul_le_mul_right _ (by omega)
    omega) (by omega))
  clear ha hR hp hf hc
  go_enter Tryz.func20, Tryz.ntmps20
  go_wp2_with fail
  refine HC.out.mono ?_
  rintro e w1 ⟨rfl, hb1⟩
  have HB1 := hid hb1
  clear hb1
  go_wp2_with fail
  refine (HM.out _ HB1.out).mono ?_
  rintro e w2 ⟨G, rfl, hG, hr, hb2⟩
  have HB2 := hid (HB1.out.trans (hb2.mono HB1.out.size))
  have HRR := hid hr
  have hGw : w.heap.size ≤ G := Nat.le_trans HB1.out.size hG
  clear hr hb2 hG
  go_wp2
  go_ret2
  exact ⟨G, rfl, hGw, HRR.out, HB2.out⟩
theorem ChK.raw {n : Nat} {P : Nat → Nat → Rat} (h : ChM n P) : RaW n 2 P (mR n P) := by
  refine ⟨mR_length n P, fun i hi => by rw [mR_get, lF_length], fun i j hi hj => ?_, fun i j hi hj => ?_⟩
  · simp only [mR, lF, List.getElem_map, List.getElem_range]
    exact frQ_qF _
  · have hi' : i < n := by rw [mR_length] at hi; exact hi
    have hj' : j < n := by simp only [mR, lF, List.getElem_map, List.getElem_range, List.length_map, List.length_range] at hj; exact hj
    simp only [mR, lF, List.getElem_map, List.getElem_range]
    show (nu _).size + (de _).size ≤ 2
    rw [own_size]
    exact fits_qw (h.fit i j hi' hj')
set_option maxRecDepth 100000 in
set_option maxHeartbeats 400000 in
theorem powers_big (a0 : Option Addr) (c0 : Nat) (X0 : List Int) (n1 n2 n3 : Int) (w : World) (h0 : X0.length ≤ 140737488355328) (h : 256 < X0.length) :
    Calls Tryz.prog 5 #[.slice a0 X0.length c0, .int .i64 n1, .int .i64 n2, .int .i64 n3] w fun e w' => e = .returned (.bool true) ∧ Below w.heap.size w w' := by
  have e1 : (256 : Int) < (X0.length : Int) := by omega
  go_enter Tryz.func5, Tryz.ntmps5
  go_wp2
  go_ret
  exact ⟨rfl, Below.refl _ _⟩
set_option maxRecDepth 100000 in
set_option maxHeartbeats 8000000 in
theorem powers_walk (a0 : Option Addr) (c0 : Nat) (X0 : List Int) (n1 n2 n3 : Int) (w : World) (h0 : IntS w a0 X0) (r0 : ∀ x ∈ X0, -9223372036854775808 ≤ x ∧ x ≤ 9223372036854775807) (hn1 : -9223372036854775808 ≤ n1 ∧ n1 ≤ 9223372036854775807) (hn2 : -9223372036854775808 ≤ n2 ∧ n2 ≤ 9223372036854775807) (hn3 : -9223372036854775808 ≤ n3 ∧ n3 ≤ 9223372036854775807) (hX : X0.length ≤ 256) :
    Calls Tryz.prog 5 #[.slice a0 X0.length c0, .int .i64 n1, .int .i64 n2, .int .i64 n3] w fun e w' => e = .returned (.bool true) ∧ Below w.heap.size w w' := by
  have HPN := hid (fun U : World => rPick_any n1 4 U hn1.1 hn1.2 (by omega) (by omega))
  have HPA := hid (fun U : World => rPick_any n2 4 U hn2.1 hn2.2 (by omega) (by omega))
  have HPB := hid (fun U : World => rPick_any n3 4 U hn3.1 hn3.2 (by omega) (by omega))
  have hp1 := pickN_lt n1 (n := 4) (by omega)
  have hpA := pickN_lt n2 (n := 4) (by omega)
  have hpB := pickN_lt n3 (n := 4) (by omega)
  clear hn1 hn2 hn3
  generalize pickN n1 4 = p1 at *
  generalize pickN n2 4 = kA at *
  generalize pickN n3 4 = kB at *
  obtain ⟨n, hnn⟩ : ∃ n, n = 1 + p1 := ⟨_, rfl⟩
  have HEN : Hid ((1 : Int) + (p1 : Int) = (n : Int)) := by show _ = _; omega
  have hn1 : 1 ≤ n := by omega
  have hn4 : n ≤ 4 := by omega
  clear hnn
  have HMO := hid (fun (U : World) (hU : IntS U a0 X0) => matrixOf_any a0 c0 n X0 U hU r0 (by omega) hn1 (by omega))
  have HX0' := hid h0
  clear h0 r0
  have e1 : ¬ (256 : Int) < (X0.length : Int) := by omega
  go_enter Tryz.func5, Tryz.ntmps5
  go_wp2_with fail
  refine (HPN.out _).mono ?_
  rintro e w1 ⟨rfl, hb1⟩
  clear e1
  have HB1 := hid hb1
  clear hb1
  go_wp2_with fail
  rw [HEN.out]
  refine (HPA.out _).mono ?_
  rintro e w1' ⟨rfl, hb1⟩
  replace HB1 := hid (HB1.out.trans (hb1.mono HB1.out.size))
  clear hb1
  go_wp2_with fail
  refine (HPB.out _).mono ?_
  rintro e w1'' ⟨rfl, hb1⟩
  replace HB1 := hid (HB1.out.trans (hb1.mono HB1.out.size))
  clear hb1
  go_wp2_with fail
  refine (HMO.out _ (HX0'.out.below HB1.out)).mono ?_
  rintro e w2 ⟨y, P1, rfl, hy, hrp, hb2⟩
  obtain ⟨P, hPe, hm⟩ := chM_of hn1 (show n ≤ 5 by omega) hrp
  obtain ⟨a, ca, ey, hfy⟩ := hy.rows
  rw [hPe] at ey hfy
  rw [mR_length] at ey
  subst ey
  have HM := hid hfy
  have HB := hid (HB1.out.trans (hb2.mono HB1.out.size))
  have hF16 : 1 + (2 * 2 + 2) * (n * n) ≤ 97 := by
    have : n * n ≤ 4 * 4 := Nat.mul_le_mul hn4 hn4
    omega
  have HPOW : Hid (∀ (k : Nat) (U : World), k ≤ 6 → Below w2.heap.size w2 U → Calls Tryz.prog 24 #[.slice a n ca, .int .i64 (k : Nat)] U fun e w' => ∃ G, e = .returned (.tuple #[.slice (some ⟨G, 0, none⟩) n n, .int .i64 0]) ∧ FsS w' (some ⟨G, 0, none⟩) (mR n (powQ n P k)) ∧ (∀ i j, i < n → j < n → Fits 800 (powQ n P k i j)) ∧ Below U.heap.size U w') := fun k U hk hU => (chPower_yes a ca n 2 k P (mR n P) U (hfy.below hU) hm.ok hm.raw hn1 (by omega) (by omega) (by omega) hm.chn).mono fun e w' ⟨G, h1, h2, h3, h4⟩ => ⟨G, h1, h2, fun i j hi hj => fits_up (h3 i j hi hj) (by
    have h5 : k * (1 + (2 * 2 + 2) * (n * n)) ≤ 6 * 97 := Nat.mul_le_mul hk hF16
    omega), h4⟩
  have HST := hid (fun (U : World) (hU : FsS U a (mR n P)) => chStill_any a ca n P U hU hm)
  have HSF : Hid (∀ k0, OneC n P k0 → ∀ i, i < n → Fits 3413 (stQ P (clN n (cmsB n P) k0) i)) := fun k0 h i _ => stQ_fits h.cls hm i
  have HCH := hid hm.chn
  clear hb2 hy hrp hPe HMO HPN HPA HPB hfy hm HB1 hF16
  have HCK : Hid (∀ k, Chn n (powQ n P k)) := fun k => pow_chn HCH.out k
  obtain ⟨W, hW⟩ : ∃ x, x = w2 := ⟨_, rfl⟩
  rw [← hW] at HM HB HPOW
  have HBW : Hid (Below W.heap.size W w2) := by rw [hW]; exact Below.refl _ _
  clear hW
  go_wp2_with fail
  refine (HPOW.out kA _ (by omega) HBW.out).mono ?_
  rintro e w3 ⟨gX, rfl, hx, hft, hb⟩
  have HPX := hid hft
  replace HBW := hid (HBW.out.trans (hb.mono HBW.out.size))
  have HXF := hid hx
  clear hx hb hft
  go_wp2_with fail
  refine (HPOW.out kB _ (by omega) HBW.out).mono ?_
  rintro e w4 ⟨gY, rfl, hy, hft, hb⟩
  have HPY := hid hft
  replace HBW := hid (HBW.out.trans (hb.mono HBW.out.size))
  replace HXF := hid (HXF.out.below hb)
  have HYF := hid hy
  clear hy hb hft
  obtain ⟨kC, hkC⟩ : ∃ x, kA + kB = x := ⟨_, rfl⟩
  have hABi : ((kA : Int) + (kB : Int)) = ((kC : Nat) : Int) := by omega
  have hkC6 : kC ≤ 6 := by omega
  have HKC := hid hkC
  clear hkC
  go_wp2_with fail
  refine (HPOW.out kC _ hkC6 HBW.out).mono ?_
  rintro e w5 ⟨gZ, rfl, hz, hft, hb⟩
  have HPZ := hid hft
  replace HBW := hid (HBW.out.trans (hb.mono HBW.out.size))
  replace HXF := hid (HXF.out.below hb)
  replace HYF := hid (HYF.out.below hb)
  have HZF := hid hz
  clear hz hb hft hABi HPOW
  have HQE : Hid (∀ i, i < n → lF n (fun j => sumR (fun t => powQ n P kA i t * powQ n P kB t j) n) = lF n (powQ n P kC i)) := fun i _ => lF_congr fun j hj => by rw [← HKC.out]; exact (pow_add n P kA kB j hj).symm
  obtain ⟨W5, hW5⟩ : ∃ x, x = w5 := ⟨_, rfl⟩
  rw [← hW5] at HBW HXF HYF HZF
  have HB5 : Hid (Below W5.heap.size W5 w5) := by rw [hW5]; exact Below.refl _ _
  clear hW5
  go_wp2_with fail
  go_loopw [16] (fun iv wr => ∃ i : Nat, i ≤ n ∧ iv = .int .i64 i ∧ Hid (Below W5.heap.size W5 wr)) (fun iv _ => n - (intOf iv).toNat)
  case atStart => exact ⟨0, Nat.zero_le _, rfl, HB5⟩
  case round =>
    obtain ⟨i, hi, rfl, HBi⟩ := hrel
    clear HB5
    by_cases hlt : i < n
    · have hiX : i < (mR n (powQ n P kA)).length := by rw [mR_length]; exact hlt
      have hiZ : i < (mR n (powQ n P kC)).length := by rw [mR_length]; exact hlt
      obtain ⟨g1, o1, b1, c1, e1, hg1, x0, hf1⟩ := HXF.out.raw hiX
      cases e1
      obtain ⟨g2, o2, b2, c2, e2, hg2, z0, hf2⟩ := HZF.out.raw hiZ
      cases e2
      rw [mR_get] at x0 hf1 z0 hf2
      rw [lF_length] at x0 z0
      have x0' := (HBi.out.cell (p := ⟨gX, _, none⟩) hg1).trans x0
      have HZC : Hid (∀ u, Below W5.heap.size W5 u → u.cell? ⟨gZ, 0 + i, none⟩ = some (.slice b2 n c2)) := fun u h => (h.cell (p := ⟨gZ, _, none⟩) hg2).trans z0
      have HSP := hid (chStep_pow b1 (some ⟨gY, 0, none⟩) c1 n n (powQ n P kA i) (powQ n P kB) wr (hf1.below HBi.out) (HYF.out.below HBi.out) (HCK.out kB) hn1 hn4 HPY.out (fun y hy => fits_up (HPX.out i y hlt hy) (by omega)))
      have HF2 := hid hf2
      rw [HQE.out i hlt] at HSP
      clear x0 z0 hf1 hf2 hg1 hg2
      rw [Nat.zero_add] at x0'
      go_wp2_with fail
      clear x0'
      refine HSP.out.mono ?_
      rintro e w6 ⟨G6, rfl, hG6, hr6, hb6⟩
      have HB6 := hid (HBi.out.trans (hb6.mono HBi.out.size))
      have z1 := HZC.out _ HB6.out
      rw [Nat.zero_add] at z1
      have HSA := hid (lawSame_any (some ⟨G6, 0, none⟩) b2 n c2 n (lF n (powQ n P kC i)) w6 hr6.fr (HF2.out.below HB6.out) (lF_length _ _) (by omega))
      clear hr6 hb6 hG6 HSP HZC
      go_wp2_with fail
      refine HSA.out.mono ?_
      rintro e w7 ⟨rfl, hb7⟩
      have HB7 := hid (HB6.out.trans (hb7.mono HB6.out.size))
      clear hb7 z1 HSA HB6
      go_wp2
      go_roundw
      case rel => exact ⟨i + 1, by omega, by go_num, HB7⟩
      case measure => simp [intOf]; omega
    · obtain rfl : n = i := by omega
      have HMi := hid (HM.out.below (HBW.out.trans (HBi.out.mono HBW.out.size)))
      have HZi := hid (HZF.out.below HBi.out)
      have HBA := hid (HB.out.trans ((HBW.out.trans (HBi.out.mono HBW.out.size)).mono HB.out.size))
      go_wp2_with fail
      refine (HST.out _ HMi.out).mono ?_
      rintro e w8 ⟨hb8, hcase⟩
      have HB8 := hid (HBA.out.trans (hb8.mono HBA.out.size))
      have HZ8 := hid (HZi.out.below hb8)
      clear hb8 HST HMi HZi HBA
      rcases hcase with ⟨k0, G, hone, rfl, hG, hr8⟩ | ⟨hmany, rfl⟩
      · have HSE : Hid (lF n (fun j => sumR (fun t => stQ P (clN n (cmsB n P) k0) t * powQ n P kC t j) n) = lF n (stQ P (clN n (cmsB n P) k0))) := lF_congr fun j hj => pow_still (fun j hj => hone.cls.stays HCH.out hj) kC j hj
        have HSP := hid (chStep_pow (some ⟨G, 0, none⟩) (some ⟨gZ, 0, none⟩) n n n (stQ P (clN n (cmsB n P) k0)) (powQ n P kC) w8 hr8.fr HZ8.out (HCK.out kC) hn1 hn4 HPZ.out (HSF.out k0 hone))
        rw [HSE.out] at HSP
        have HS8 := hid hr8.fr
        clear hone hr8 hG HSE HSF
        generalize stQ P (clN n (cmsB n P) k0) = sq at *
        go_wp2_with fail
        refine HSP.out.mono ?_
        rintro e w9 ⟨G9, rfl, hG9, hr9, hb9⟩
        have HB9 := hid (HB8.out.trans (hb9.mono HB8.out.size))
        have HSA := hid (lawSame_any (some ⟨G9, 0, none⟩) (some ⟨G, 0, none⟩) n n n (lF n sq) w9 hr9.fr (HS8.out.below hb9) (lF_length _ _) (by omega))
        clear hr9 hb9 hG9 HSP
        go_wp2_with fail
        refine HSA.out.mono ?_
        rintro e w10 ⟨rfl, hb10⟩
        have HB10 := hid (HB9.out.trans (hb10.mono HB9.out.size))
        clear hb10 HSA HB9
        go_wp2
        go_ret
        exact ⟨rfl, HB10.out⟩
      · clear hmany
        go_wp2
        go_ret
        exact ⟨rfl, HB8.out⟩
end Go.Proofs.YtbejijgelljeaaaGreatDoor

/- A lifting that hands on the world's shape beside what the row lists; fractions opened and shut. -/
namespace Go.Proofs.YtbejijgelljeaaaGreatDoor
open Go.ChangeShapes Go.WideShapes Go.ChangeAt Go.RowKit
theorem lift_shaped {H : Type} {enc : TypeId × Value → H} {a : Assume} {C : Checked} {os : Os} {f : FuncId} {fn : Func} {s : ChangeSpec} {conds : List PathCond} {apart fresh handsOn again : Bool} {X : World → Array Value → Prop}
    (hX : ∀ (w w' : World) (args : Array Value), w.heap = w'.heap → X w args → X w' args)
    (own : ownKnob C.prog.godebug = none) (started : os.Started) (noInit : C.prog.inits.idxOf? f = none) (hfn : C.prog.funcs[f]? = some fn)
    (witness : ∃ (w : World) (tape : Tape) (i : Input), w.os = os ∧ (w.forCall tape i).Shaped C.prog ∧ i.vars = [] ∧ Input.okWide C.prog (w.forCall tape i) .any w.heap.size f i ∧
      ((s.pre enc C.prog fn conds apart (w.forCall tape i).memory i.args ∧ X (w.forCall tape i).memory i.args) ∧ sizedMet enc C.prog fn (OpenSpec.ofChange s) apart (w.forCall tape i).memory i.args) ∧ a.holds C.prog (lone (Frame.enter C.prog f i.args .normal) [] (w.forCall tape i)))
    (walk : ∀ (W : World) (base : Nat) (args : Array Value) (ds gs : List (DataW H)) (before : List MemPlace),
      (∀ (j : Nat) t v, fn.params[j]? = some t → args[j]? = some v → Value.okWide C.prog W .any base t v) →
      DataW.Whole enc C.prog fn.params.toList s.vars apart W args.toList ds gs before →
      (DataW.weightsEach C.prog (fn.params.toList ++ s.plain.varTypes C.prog) (ds ++ gs)).all (· ≤ reachBytes) = true → X W args → W.ShapedOpen C.prog →
      Calls C.prog f args W fun e W' => ∃ v, e = .returned v ∧ s.post enc C.prog fn apart fresh handsOn again W args v W') :
    ReturnsInHanded a C os f .any (fun w args => (s.pre enc C.prog fn conds apart w args ∧ X w args) ∧ sizedMet enc C.prog fn (OpenSpec.ofChange s) apart w args) (s.post enc C.prog fn apart fresh handsOn again) := by
  refine returnsInHanded_of_calls own started noInit witness ?_
  intro w tape i _ hsh _ hok hpre _
  obtain ⟨_, _, _, fn', hfn', _, _, _, _, hval⟩ := hok
  obtain rfl : fn' = fn := Option.some.inj (hfn'.symm.trans hfn)
  obtain ⟨⟨⟨ds, gs, before, hw, _⟩, hx⟩, hz⟩ := hpre
  refine (walk (w.forCall tape i) w.heap.size i.args ds gs before hval (DataW.Whole.of_heap (w' := w.forCall tape i) (by rfl) hw) (hz.weights hw) (hX _ _ _ (by rfl) hx) hsh).mono fun e W' ⟨v, he, hp⟩ => ?_
  subst he
  exact ChangeSpec.post_blind hp
end Go.Proofs.YtbejijgelljeaaaGreatDoor

/- A slice of fractions that came in, opened. -/
namespace Go.Proofs.YtbejijgelljeaaaGreatDoor
open Go.ChangeShapes Go.WideShapes Go.ChangeAt Go.RowKit
theorem cell_lt {w : World} {a : Addr} {v : Value} (h : w.cell? a = some v) : a.block < w.heap.size := by
  rcases Nat.lt_or_ge a.block w.heap.size with h1 | h1
  · exact h1
  · simp [World.cell?, Array.getElem?_eq_none h1] at h
end Go.Proofs.YtbejijgelljeaaaGreatDoor

/- Lists of ints and tables that came in, opened. -/
namespace Go.Proofs.YtbejijgelljeaaaGreatDoor
open Go.ChangeShapes Go.WideShapes Go.ChangeAt Go.RowKit
/-- What an int reads as. -/
def idt {H : Type} (x : Int) : DataW H := .lit (.int .i64 x)
theorem cellsI : Tryz.prog.cellsOf 3 = 1 := by kernel_rfl
set_option maxRecDepth 100000 in
theorem trod_ints {H : Type} {enc : TypeId × Value → H} {W : World} {fuel : Nat} {cs : List Value} {x : DataW H × List MemPlace} (hf : DataW.trod enc Tryz.prog W 0 (fun _ => true) true fuel 22 cs = some x) :
    ∃ (a : Option Addr) (cap : Nat) (l : List Int), cs = [.slice a l.length cap] ∧ IntS W a l ∧ (a = none → cap = 0) ∧ ((x.1 = .nil ∧ l = []) ∨ ∃ rest, x.1 = .slice (l.map idt) rest) ∧ ∀ y ∈ l, -9223372036854775808 ≤ y ∧ y ≤ 9223372036854775807 := by
  rcases Deep.open_slice Tryz.underlying22 hf with ⟨hcs, hx⟩ | ⟨a', len, cap, m, n, D, Pl, hcs, hb, hl, hm, hmm, hx, hel⟩
  · exact ⟨none, 0, [], hcs, fun k hk => absurd hk (by simp), fun _ => rfl, .inl ⟨by rw [hx], rfl⟩, fun _ h => by cases h⟩
  · have hlm : len ≤ m := by rw [hmm]; split <;> omega
    rw [cellsI] at hel
    have each : ∀ i, i < len → ∃ z : Int, (W.cell? (a'.add (i * 1)) = some (.int .i64 z) ∧ -9223372036854775808 ≤ z ∧ z ≤ 9223372036854775807) ∧ D i = idt z := by
      intro i hi
      obtain ⟨cs', h1, h2⟩ := hel i (by omega)
      obtain ⟨_, hlen, hcell⟩ := World.cells?_some h1
      obtain ⟨z, e0, hxx, hwf⟩ := DataW.trod_int Tryz.underlying3 h2
      subst e0
      simp only [Prod.mk.injEq] at hxx
      have g0 := hcell 0 (by omega)
      rw [Deep.add_add] at g0
      exact ⟨z, ⟨by simpa using g0, bounds_i64 hwf⟩, hxx.1⟩
    obtain ⟨f, hf2⟩ := Deep.choose_lt (α := Int) each
    refine ⟨some a', cap, (List.range len).map f, by rw [hcs]; simp, ?_, fun e => by (cases e), .inr ⟨(List.range (m - len)).map fun j => D (len + j), ?_⟩, ?_⟩
    · intro k hk
      have hk' : k < len := by simpa using hk
      obtain ⟨⟨g0, _⟩, _⟩ := hf2 k hk'
      obtain ⟨⟨z0, _⟩, _⟩ := hf2 0 (by omega)
      have hsp := World.cell?_spot z0
      obtain ⟨bb, oo, sp⟩ := a'
      rw [Nat.zero_mul] at hsp
      simp [Addr.add] at hsp
      subst hsp
      rw [WideShapes.add_plain] at g0
      refine ⟨bb, oo, rfl, cell_lt g0, ?_⟩
      simpa using g0
    · rw [hx]
      show DataW.slice _ _ = DataW.slice _ _
      congr 1
      rw [List.map_map]
      exact List.map_congr_left fun i hi => (hf2 i (List.mem_range.1 hi)).2
    · intro y hy
      obtain ⟨i, hi, rfl⟩ := List.mem_map.1 hy
      exact (hf2 i (List.mem_range.1 hi)).1.2
set_option maxRecDepth 100000 in
theorem open_ints {H : Type} {enc : TypeId × Value → H} {W : World} {r : Reach} {b0 : Nat} {v : Value} {d : DataW H} {p : List MemPlace} (hval : Value.okWide Tryz.prog W r b0 22 v) (h : DataW.Trod enc Tryz.prog W 0 (fun _ => true) true 22 v d p) :
    ∃ (a : Option Addr) (cap : Nat) (l : List Int), v = .slice a l.length cap ∧ IntS W a l ∧ (a = none → cap = 0) ∧ ((d = .nil ∧ l = []) ∨ ∃ rest, d = .slice (l.map idt) rest) ∧ ∀ x ∈ l, -9223372036854775808 ≤ x ∧ x ≤ 9223372036854775807 := by
  obtain ⟨a, len, cap, rfl⟩ := okWide_slice Tryz.underlying22 hval
  obtain ⟨fuel, hf⟩ := h
  obtain ⟨a', cap', l, hcs, hi, h0, hd, hr⟩ := trod_ints hf
  simp [Value.cells] at hcs
  obtain ⟨rfl, rfl, rfl⟩ := hcs
  exact ⟨a, cap, l, rfl, hi, h0, hd, hr⟩
theorem bytesI : Tryz.prog.bytesOf 3 = 8 := by kernel_rfl
theorem sized_ints {H : Type} {ts : List TypeId} {ds : List (DataW H)} (h : (DataW.weightsEach Tryz.prog ts ds).all (· ≤ reachBytes) = true) {j : Nat} {l : List Int} {d : DataW H} (ht : ts[j]? = some 22) (hd : ds[j]? = some d) (hl : (d = .nil ∧ l = []) ∨ ∃ rest, d = .slice (l.map idt) rest) :
    l.length ≤ 140737488355328 := by
  rcases hl with ⟨_, rfl⟩ | ⟨rest, rfl⟩
  · simp
  have h1 := List.all_eq_true.1 h _ (DataW.weights_mem_each ht hd (((l.map (idt (H := H))).length + rest.length) * Tryz.prog.bytesOf 3) (by simp [DataW.weights, Tryz.underlying22]))
  have h1' : ((l.map (idt (H := H))).length + rest.length) * Tryz.prog.bytesOf 3 ≤ reachBytes := by simpa using h1
  rw [bytesI, List.length_map] at h1'
  simp only [reachBytes] at h1'
  omega
end Go.Proofs.YtbejijgelljeaaaGreatDoor

/- Arguments that a call has left alone read as before. -/
namespace Go.Proofs.YtbejijgelljeaaaGreatDoor
open Go.ChangeShapes Go.WideShapes Go.ChangeAt Go.RowKit
theorem below_all {H : Type} {enc : TypeId × Value → H} {P : Program} (hl : laidOutB P = true) {W W' : World} (hb : Below W.heap.size W W') : ∀ {ts : List TypeId} {vs : List Value} {ds : List (DataW H)} {ps : List MemPlace},
    (ts.all fun t => P.readableRec t && decide (t < P.types.size)) = true → DataW.TrodAll enc P W 0 (fun _ => true) true ts vs ds ps → DataW.TrodAll enc P W' 0 (fun b => decide (b < W.heap.size)) true ts vs ds ps
  | [], [], [], _, _, h => h
  | t :: ts, v :: vs, d :: ds, _, ht, ⟨p, q, h, hr, e⟩ => by
    rw [List.all_cons, Bool.and_eq_true, Bool.and_eq_true] at ht
    refine ⟨p, q, Below.trod hl ht.1.1 (of_decide_eq_true ht.1.2) h hb ?_, below_all hl hb ht.2 hr, e⟩
    obtain ⟨m, hm⟩ := h
    exact DataW.trod_lt m _ _ _ hm
  | [], _ :: _, _, _, _, h => by simp [DataW.TrodAll] at h
  | [], [], _ :: _, _, _, h => by simp [DataW.TrodAll] at h
  | _ :: _, [], _, _, _, h => by simp [DataW.TrodAll] at h
  | _ :: _, _ :: _, [], _, _, h => by simp [DataW.TrodAll] at h
end Go.Proofs.YtbejijgelljeaaaGreatDoor
