/- ChainCycles: the law's walk. -/
import Derived.Test.YtbejijgelljeaaaGreatDoorTrnGCy
import Derived.Test.YtbejijgelljeaaaGreatDoorFracFCyRefS
import Derived.Deep.Strs
import Derived.HandedShaped
import Derived.ProofKit
import Derived.OpenShut
import Derived.ShutString
import Derived.SizedLaws
namespace Go.Proofs.YtbejijgelljeaaaGreatDoor
open Go.RowKit Go.Shelf
theorem Box.triC {w : World} {g : Nat} {neg : Bool} {num den : ByteArray} (h : Box w g neg num den) : w.cell? ⟨g, 0, none⟩ = some (.bool neg) ∧ w.cell? ⟨g, 1, none⟩ = some (.string num) ∧ w.cell? ⟨g, 2, none⟩ = some (.string den) := ⟨h.c0, h.c1, h.c2⟩
theorem prR_fits {f : Nat → Rat} : ∀ {k : Nat}, (∀ i, i < k → Fits 14 (f i)) → Fits (k * 14 + 1) (prR f k)
  | 0, _ => fits_up (m := 1) fits_one (by omega)
  | k + 1, h => fits_up (m := k * 14 + 1 + 14) (fits_tim (prR_fits fun i hi => h i (by omega)) (h k (by omega))) (by omega)
/-- A round's states. -/
def rdN (L : List Nat) (X : List Int) (t : Nat) : Nat := L.getD (pickN (X.getD (t % X.length) 0) L.length) 0
theorem rdN_mem {L : List Nat} (h : L ≠ []) (X : List Int) (t : Nat) : rdN L X t ∈ L := getD_mem (pickN_lt _ (List.length_pos_iff.2 h))
theorem round_even {n k : Nat} {P : Nat → Nat → Rat} (h : OneC n P k) (hc : Chn n P) (ht : trB n (stQ P (clN n (cmsB n P) k)) P = true) (X : List Int) : prR (fun i => P (rdN (clN n (cmsB n P) k) X i) (rdN (clN n (cmsB n P) k) X (i + 1))) X.length = prR (fun i => P (rdN (clN n (cmsB n P) k) X (i + 1)) (rdN (clN n (cmsB n P) k) X i)) X.length := by
  have hne : clN n (cmsB n P) k ≠ [] := List.length_pos_iff.1 h.cls.ne
  have hm := fun t => rdN_mem hne X t
  have hlt := fun t => h.cls.lt _ (hm t)
  refine round_same (v := stQ P (clN n (cmsB n P) k)) (b := rdN (clN n (cmsB n P) k) X) (fun t => trB_iff.1 ht _ _ (hlt t) (hlt (t + 1))) ?_ ?_
  · show List.getD _ (pickN (X.getD (X.length % X.length) 0) _) 0 = List.getD _ (pickN (X.getD (0 % X.length) 0) _) 0
    rw [Nat.mod_self, Nat.zero_mod]
  · obtain ⟨t, ht, e⟩ := getD_of (hm 0)
    rw [← e, stQ_on h.cls ht]
    exact h.cls.pos hc t ht
theorem rdN_at {L : List Nat} {X : List Int} {i : Nat} (hi : i < X.length) : rdN L X i = L.getD (pickN X[i] L.length) 0 := by
  rw [rdN, Nat.mod_eq_of_lt hi]
  simp [hi]
set_option maxRecDepth 100000 in
set_option maxHeartbeats 400000 in
theorem cycles_big (a0 a2 : Option Addr) (c0 c2 : Nat) (X0 X2 : List Int) (n1 : Int) (ev : Bool) (w : World) (h0 : X0.length ≤ 140737488355328) (h2 : X2.length ≤ 140737488355328) (h : 256 < X0.length ∨ 12 < X2.length) :
    Calls Tryz.prog 6 #[.slice a0 X0.length c0, .int .i64 n1, .slice a2 X2.length c2, .bool ev] w fun e w' => e = .returned (.bool true) ∧ Below w.heap.size w w' := by
  by_cases h1 : 256 < X0.length
  · have e1 : (256 : Int) < (X0.length : Int) := by omega
    go_enter Tryz.func6, Tryz.ntmps6
    go_wp2
    go_ret
    exact ⟨rfl, Below.refl _ _⟩
  · have e2 : (12 : Int) < (X2.length : Int) := by omega
    have e1 : ¬ (256 : Int) < (X0.length : Int) := by omega
    go_enter Tryz.func6, Tryz.ntmps6
    go_wp2
    go_ret
    exact ⟨rfl, Below.refl _ _⟩
set_option maxRecDepth 100000 in
set_option maxHeartbeats 2000000 in
theorem cycles_walk (a0 a2 : Option Addr) (c0 c2 : Nat) (X0 X2 : List Int) (n1 : Int) (ev : Bool) (w : World) (h0 : IntS w a0 X0) (r0 : ∀ x ∈ X0, -9223372036854775808 ≤ x ∧ x ≤ 9223372036854775807) (h2 : IntS w a2 X2) (r2 : ∀ x ∈ X2, -9223372036854775808 ≤ x ∧ x ≤ 9223372036854775807) (hn1 : -9223372036854775808 ≤ n1 ∧ n1 ≤ 9223372036854775807) (hX : X0.length ≤ 256) (hX2 : X2.length ≤ 12) :
    Calls Tryz.prog 6 #[.slice a0 X0.length c0, .int .i64 n1, .slice a2 X2.length c2, .bool ev] w fun e w' => e = .returned (.bool true) ∧ Below w.heap.size w w' := by
  have HPN := hid (fun U : World => rPick_any n1 4 U hn1.1 hn1.2 (by omega) (by omega))
  have hp1 := pickN_lt n1 (n := 4) (by omega)
  clear hn1
  generalize pickN n1 4 = p1 at *
  obtain ⟨n, hnn⟩ : ∃ n, n = 1 + p1 := ⟨_, rfl⟩
  have HEN : Hid ((1 : Int) + (p1 : Int) = (n : Int)) := by show _ = _; omega
  have hn1 : 1 ≤ n := by omega
  have hn4 : n ≤ 4 := by omega
  clear hnn
  have HMO := hid (fun (U : World) (hU : IntS U a0 X0) => matrixOf_any a0 c0 n X0 U hU r0 (by omega) hn1 (by omega))
  have HX0' := hid h0
  have HX2' := hid h2
  have HR2 := hid r2
  clear h0 r0 h2 r2
  have HO1 := hid (fun V : World => rOf_one V)
  have e1 : ¬ (256 : Int) < (X0.length : Int) := by omega
  have e2 : ¬ (12 : Int) < (X2.length : Int) := by omega
  go_enter Tryz.func6, Tryz.ntmps6
  go_wp2_with fail
  refine (HPN.out _).mono ?_
  rintro e w1 ⟨rfl, hb1⟩
  clear e1 e2
  have HB1 := hid hb1
  clear hb1
  go_wp2_with fail
  rw [HEN.out]
  refine (HMO.out _ (HX0'.out.below HB1.out)).mono ?_
  rintro e w2 ⟨y, P1, rfl, hy, hrp, hb2⟩
  obtain ⟨P0, hPe, hm⟩ := chM_of hn1 (show n ≤ 5 by omega) hrp
  obtain ⟨a', ca', ey, hfy⟩ := hy.rows
  rw [hPe] at ey hfy
  rw [mR_length] at ey
  subst ey
  have HM2 := hid hfy
  have HCM0 := hid hm
  have HB2 := hid (HB1.out.trans (hb2.mono HB1.out.size))
  have HEV := hid (evened_any a' ca' n P0 w2 hfy hm hn4)
  clear hb2 hy hrp hPe HMO HPN hfy hm HB1
  go_upto_if 33 with fail
  go_cut [9] from 33 to 36 (fun s wx => ∃ (d : Option Addr) (c : Nat) (P : Nat → Nat → Rat) (F : Nat), s = .slice d n c ∧ Hid (FsS wx d (mR n P)) ∧ Hid (ChK F n P ∧ F ≤ 14) ∧ Hid (ev = true → P = evQ n P0) ∧ Hid (Below w.heap.size w wx))
  case first =>
    cases ev with
    | true =>
      go_wp2_with fail
      refine HEV.out.mono ?_
      rintro e w3 ⟨d, c, rfl, hf3, hb3⟩
      have HB3 := hid (HB2.out.trans (hb3.mono HB2.out.size))
      have HF3 := hid hf3
      clear hf3 hb3
      go_wp2_with fail
      go_meet
      exact ⟨d, c, _, 14, rfl, HF3, ⟨ev_chk HCM0.out hn4, Nat.le_refl _⟩, fun _ => rfl, HB3⟩
    | false =>
      go_wp2_with fail
      go_meet
      exact ⟨a', ca', P0, 1, rfl, HM2, ⟨HCM0.out, by omega⟩, fun h => absurd h (by decide), HB2⟩
  case rest =>
  obtain ⟨a, ca, P, F, rfl, HM3, HCM, HEP, HB3⟩ := hcut
  have hm := HCM.out.1
  have HTU := hid (chTurns_any a ca n P _ HM3.out hm)
  clear HM2 HB2 HEV
  go_wp2_with fail
  refine HTU.out.mono ?_
  rintro e w4 ⟨hb4, hcase⟩
  have HB4 := hid (HB3.out.trans (hb4.mono HB3.out.size))
  have HM4 := hid (HM3.out.below hb4)
  have HCL := hid (rClosed_any a ca n P w4 HM4.out hm)
  clear hb4 HB3 HM3 HTU hm
  rcases hcase with ⟨k, hone, rfl⟩ | ⟨hmany, rfl⟩
  · have HSO := hid hone.sole
    have HONE := hid hone
    have HTB : Hid (ev = true → trB n (stQ P (clN n (cmsB n P) k)) P = true) := fun he => by
      have hP := HEP.out he
      subst hP
      exact trB_iff.2 fun i j hi hj => ev_bal HCM0.out.chn hone.cls hi hj
    have HRE : Hid (trB n (stQ P (clN n (cmsB n P) k)) P = true → prR (fun i => P (rdN (clN n (cmsB n P) k) X2 i) (rdN (clN n (cmsB n P) k) X2 (i + 1))) X2.length = prR (fun i => P (rdN (clN n (cmsB n P) k) X2 (i + 1)) (rdN (clN n (cmsB n P) k) X2 i)) X2.length) := fun ht => round_even hone HCM.out.1.chn ht X2
    have HLN : Hid (clN n (cmsB n P) k ≠ []) := List.length_pos_iff.1 hone.cls.ne
    have HLL : Hid (∀ x ∈ clN n (cmsB n P) k, x < n) := hone.cls.lt
    have hLn := nod_most hone.cls.nd hone.cls.lt
    clear hone
    rw [HSO.out] at HCL
    have hdt : decide (([k] : List Nat).length = 1) = true := by simp
    rw [hdt] at HCL
    clear hdt
    obtain ⟨L, hL⟩ : ∃ L, clN n (cmsB n P) k = L := ⟨_, rfl⟩
    rw [hL] at HTB HRE HLN HLL hLn ⊢
    have HLQ := hid hL
    clear hL
    generalize trB n (stQ P L) P = tb at *
    go_wp2_with fail
    refine HCL.out.mono ?_
    rintro e W ⟨d, m, c, rfl, hbW, hlast⟩
    obtain ⟨hml, hil⟩ := hlast k (by simp)
    rw [HLQ.out] at hml hil
    have HBW := hid (HB4.out.trans (hbW.mono HB4.out.size))
    have HMW := hid (HM4.out.below hbW)
    have HLW := hid hil
    have HML := hid hml
    clear hlast hbW hil hml HCL HM4 HB4
    rw [HML.out]
    cases tb with
    | false =>
      cases ev with
      | true => exact absurd (HTB.out rfl) (by decide)
      | false =>
        go_wp2
        go_ret
        exact ⟨rfl, HBW.out⟩
    | true =>
      have HREQ := hid (HRE.out rfl)
      clear HRE HTB
      go_upto_region 11 with fail
      go_cut [57] from 50 to 58 (fun s wx => s = .bool false ∧ wx = W)
      case first =>
        cases ev with
        | true =>
          go_wp2_with fail
          go_meet
          exact ⟨rfl, rfl⟩
        | false =>
          go_wp2_with fail
          go_meet
          exact ⟨rfl, rfl⟩
      case rest =>
      obtain ⟨rfl, hcw⟩ := hcut
      rw [hcw]
      clear hcw
      obtain ⟨g, o, gr', or', cr', hae, hgW, -, -, -, -, -⟩ := HMW.out.at (show 0 < n by omega) (show 0 < n by omega)
      subst hae
      have HGM : Hid (g < W.heap.size) := hgW
      clear hgW
      have HMC : Hid (∀ i j, i < n → j < n → ∃ gr or_ cr, gr < W.heap.size ∧ W.cell? ⟨g, o + i, none⟩ = some (.slice (some ⟨gr, or_, none⟩) n cr) ∧ W.cell? ⟨gr, or_ + j * 3, none⟩ = some (.bool (qF (P i j)).1) ∧ W.cell? ⟨gr, or_ + j * 3 + 1, none⟩ = some (.string (qF (P i j)).2.1) ∧ W.cell? ⟨gr, or_ + j * 3 + 2, none⟩ = some (.string (qF (P i j)).2.2)) := fun i j hi hj => by
        obtain ⟨g2, o2, gr, or_, cr, hae, _, q1, q2, q3, q4, q5⟩ := HMW.out.at hi hj
        cases hae
        exact ⟨gr, or_, cr, q1, q2, q3, q4, q5⟩
      have HFT : Hid (∀ i j, i < n → j < n → Fits 14 (P i j)) := fun i j hi hj => fits_up (HCM.out.1.fit i j hi hj) HCM.out.2
      have HXW := hid (HX2'.out.below HBW.out)
      have hL0 : 0 < L.length := List.length_pos_iff.2 HLN.out
      obtain ⟨fa, hfa⟩ : ∃ f : Nat → Rat, f = fun i => P (rdN L X2 i) (rdN L X2 (i + 1)) := ⟨_, rfl⟩
      obtain ⟨fb, hfb⟩ : ∃ f : Nat → Rat, f = fun i => P (rdN L X2 (i + 1)) (rdN L X2 i) := ⟨_, rfl⟩
      have HRL : Hid (∀ t, rdN L X2 t < n) := fun t => HLL.out _ (rdN_mem HLN.out X2 t)
      have HF1 : Hid (∀ i, Fits 14 (fa i)) := fun i => by rw [hfa]; exact HFT.out _ _ (HRL.out _) (HRL.out _)
      have HF2 : Hid (∀ i, Fits 14 (fb i)) := fun i => by rw [hfb]; exact HFT.out _ _ (HRL.out _) (HRL.out _)
      have HE1 : Hid (∀ i, fa i = P (rdN L X2 i) (rdN L X2 (i + 1))) := fun i => by rw [hfa]
      have HE2 : Hid (∀ i, fb i = P (rdN L X2 (i + 1)) (rdN L X2 i)) := fun i => by rw [hfb]
      rw [← hfa, ← hfb] at HREQ
      clear hfa hfb
      obtain ⟨ll, hll⟩ : ∃ x, L.length = x := ⟨_, rfl⟩
      have HLLE := hid hll
      rw [hll] at hL0 hLn
      simp only [hll]
      clear hll
      obtain ⟨xl, hxl⟩ : ∃ x, X2.length = x := ⟨_, rfl⟩
      have HXLE := hid hxl
      rw [hxl] at hX2 HREQ
      simp only [hxl]
      clear hxl
      have hL1 : ¬ ((ll : Int) = 0) := by omega
      go_wp2_with fail
      refine (HO1.out _).mono ?_
      rintro e V0 ⟨rfl, hbv⟩
      have HBV := hid hbv
      have HP0 : Hid (Box (V0.alloc (FC (sgn 1) (nu 1) (de 1))) V0.heap.size (qF (prR fa 0)).1 (qF (prR fa 0)).2.1 (qF (prR fa 0)).2.2) := Box.new V0 (sgn 1) (nu 1) (de 1)
      have HBZ : Hid (Below V0.heap.size V0 (V0.alloc (FC (sgn 1) (nu 1) (de 1)))) := (Below.refl _ _).alloc (Nat.le_refl _) _
      clear hbv
      go_wp2_with fail
      generalize (V0.alloc (FC (sgn 1) (nu 1) (de 1))) = V1 at *
      refine (HO1.out _).mono ?_
      rintro e V2 ⟨rfl, hbv⟩
      have HP1 := hid (HP0.out.below hbv HP0.out.lt)
      have HBY := hid (HBZ.out.trans (hbv.mono HBZ.out.size))
      have HQ0 : Hid (Box (V2.alloc (FC (sgn 1) (nu 1) (de 1))) V2.heap.size (qF (prR fb 0)).1 (qF (prR fb 0)).2.1 (qF (prR fb 0)).2.2) := Box.new V2 (sgn 1) (nu 1) (de 1)
      have HP2 := hid (HP1.out.alloc (FC (sgn 1) (nu 1) (de 1)))
      have hPQ := HP1.out.lt
      have HBX : Hid (Below V0.heap.size V0 (V2.alloc (FC (sgn 1) (nu 1) (de 1)))) := HBY.out.alloc HBY.out.size _
      clear hbv HP0 HP1 HBZ HBY
      go_wp2_with fail
      generalize (V2.alloc (FC (sgn 1) (nu 1) (de 1))) = V3 at *
      obtain ⟨gP, hgP⟩ : ∃ x, V0.heap.size = x := ⟨_, rfl⟩
      obtain ⟨gQ, hgQ⟩ : ∃ x, V2.heap.size = x := ⟨_, rfl⟩
      rw [hgP] at HP2 HBX hPQ
      rw [hgQ] at HQ0 hPQ
      have HGV : Hid (gP ≤ V0.heap.size) := Nat.le_of_eq hgP.symm
      have HWG : Hid (W.heap.size ≤ gP) := by rw [← hgP]; exact HBV.out.size
      have HNEgP : Hid (gQ ≠ gP) := by show _ ≠ _; omega
      have HNEgQ : Hid (gP ≠ gQ) := by show _ ≠ _; omega
      have HLEgP : Hid (gP ≤ gP) := Nat.le_refl _
      have HLEgQ : Hid (gP ≤ gQ) := Nat.le_of_lt hPQ
      simp only [hgP, hgQ]
      clear hgP hgQ hPQ
      go_loopw [16] (fun iv wr => ∃ i : Nat, i ≤ xl ∧ iv = .int .i64 i ∧ Hid (Box wr gP (qF (prR fa i)).1 (qF (prR fa i)).2.1 (qF (prR fa i)).2.2) ∧ Hid (Box wr gQ (qF (prR fb i)).1 (qF (prR fb i)).2.1 (qF (prR fb i)).2.2) ∧ Hid (Below gP V0 wr)) (fun iv _ => xl - (intOf iv).toNat)
      case atStart => exact ⟨0, Nat.zero_le _, rfl, HP2, HQ0, HBX⟩
      case round =>
        obtain ⟨i, hi, rfl, HBP, HBQ, HB⟩ := hrel
        clear HP2 HQ0 HBX
        by_cases hlt : i < xl
        · have HWr : Hid (Below W.heap.size W wr) := HBV.out.trans (HB.out.mono HWG.out)
          have hix : i < X2.length := by rw [HXLE.out]; exact hlt
          obtain ⟨nx, hnx⟩ : ∃ x, (i + 1) % xl = x := ⟨_, rfl⟩
          have hnl : nx < xl := by rw [← hnx]; exact Nat.mod_lt _ (by omega)
          have hnX : nx < X2.length := by rw [HXLE.out]; exact hnl
          obtain ⟨gx, ox, hxe, hgx, x0⟩ := HXW.out i hix
          subst hxe
          obtain ⟨gx', ox', hxe, hgx', x1⟩ := HXW.out nx hnX
          cases hxe
          have HRA : Hid (rdN L X2 i = L.getD (pickN X2[i] ll) 0) := by have h9 := rdN_at (L := L) hix; rw [HLLE.out] at h9; exact h9
          have HRB : Hid (rdN L X2 (i + 1) = L.getD (pickN X2[nx] ll) 0) := by
            show _ = _
            rw [rdN, HXLE.out, HLLE.out, hnx]
            simp [hnX]
          have HPA := hid (fun U : World => rPick_any X2[i] ll U (HR2.out _ (List.getElem_mem hix)).1 (HR2.out _ (List.getElem_mem hix)).2 (by omega) (by omega))
          have HPB := hid (fun U : World => rPick_any X2[nx] ll U (HR2.out _ (List.getElem_mem hnX)).1 (HR2.out _ (List.getElem_mem hnX)).2 (by omega) (by omega))
          have hpa := pickN_lt X2[i] (n := ll) hL0
          have hpb := pickN_lt X2[nx] (n := ll) hL0
          generalize X2[i] = xa at *
          generalize X2[nx] = xb at *
          generalize pickN xa ll = pa at *
          generalize pickN xb ll = pb at *
          have hpaL : pa < (iL L).length := by rw [iL_length, HLLE.out]; exact hpa
          have hpbL : pb < (iL L).length := by rw [iL_length, HLLE.out]; exact hpb
          obtain ⟨gl, ol, hle, hgl, l0⟩ := HLW.out pa hpaL
          subst hle
          obtain ⟨gl', ol', hle, hgl', l1⟩ := HLW.out pb hpbL
          cases hle
          have HLA : Hid ((iL L)[pa] = ((rdN L X2 i : Nat) : Int)) := by
            show _ = _
            rw [HRA.out]
            have : pa < L.length := by rw [HLLE.out]; exact hpa
            simp [iL, this]
          have HLB : Hid ((iL L)[pb] = ((rdN L X2 (i + 1) : Nat) : Int)) := by
            show _ = _
            rw [HRB.out]
            have : pb < L.length := by rw [HLLE.out]; exact hpb
            simp [iL, this]
          rw [HLA.out] at l0
          rw [HLB.out] at l1
          have hra := HRL.out i
          have hrb := HRL.out (i + 1)
          have hq1 := fits_qw (prR_fits (f := fa) (k := i) fun t _ => HF1.out t)
          have hq2 := fits_qw (prR_fits (f := fb) (k := i) fun t _ => HF2.out t)
          have hq3 := fits_qw (HF1.out i)
          have hq4 := fits_qw (HF2.out i)
          have hMA := fun U : World => rMulQ (prR fa i) (fa i) U (by omega) (by omega)
          have hMB := fun U : World => rMulQ (prR fb i) (fb i) U (by omega) (by omega)
          have hEA := HE1.out i
          have hEB := HE2.out i
          generalize rdN L X2 i = A at *
          generalize rdN L X2 (i + 1) = Bb at *
          obtain ⟨gr, ogr, cgr, hgr, a0_, a1_, a2_, a3_⟩ := HMC.out A Bb hra hrb
          obtain ⟨gs, ogs, cgs, hgs, b0_, b1_, b2_, b3_⟩ := HMC.out Bb A hrb hra
          rw [← hEA] at a1_ a2_ a3_
          rw [← hEB] at b1_ b2_ b3_
          have HMA : Hid (∀ U : World, Calls Tryz.prog 14 #[.agg #[.bool (qF (prR fa i)).1, .string (qF (prR fa i)).2.1, .string (qF (prR fa i)).2.2], .agg #[.bool (qF (fa i)).1, .string (qF (fa i)).2.1, .string (qF (fa i)).2.2]] U fun e w' => e = .returned (.agg #[.bool (qF (prR fa (i + 1))).1, .string (qF (prR fa (i + 1))).2.1, .string (qF (prR fa (i + 1))).2.2]) ∧ Below U.heap.size U w') := hMA
          have HMB : Hid (∀ U : World, Calls Tryz.prog 14 #[.agg #[.bool (qF (prR fb i)).1, .string (qF (prR fb i)).2.1, .string (qF (prR fb i)).2.2], .agg #[.bool (qF (fb i)).1, .string (qF (fb i)).2.1, .string (qF (fb i)).2.2]] U fun e w' => e = .returned (.agg #[.bool (qF (prR fb (i + 1))).1, .string (qF (prR fb (i + 1))).2.1, .string (qF (prR fb (i + 1))).2.2]) ∧ Below U.heap.size U w') := hMB
          clear hMA hMB hEA hEB hq1 hq2 hq3 hq4 HLA HLB HRA HRB
          generalize hz1 : qF (fa i) = z1 at *
          obtain ⟨an, ax, ay⟩ := z1
          generalize hz2 : qF (fb i) = z2 at *
          obtain ⟨bn, bx, by_⟩ := z2
          simp only at a1_ a2_ a3_ b1_ b2_ b3_ HMA HMB
          clear hz1 hz2
          have hmodI : ((i : Int) + 1) % (xl : Int) = ((nx : Nat) : Int) := by
            rw [← hnx]
            exact (Int.natCast_emod (i + 1) xl).symm
          have hxl0 : ¬ ((xl : Int) = 0) := by omega
          have HCA : Hid (∀ u, Below gP V0 u → u.cell? ⟨gl, ol + pa, none⟩ = some (.int .i64 ((A : Nat) : Int)) ∧ u.cell? ⟨gl, ol + pb, none⟩ = some (.int .i64 ((Bb : Nat) : Int)) ∧ u.cell? ⟨gx, ox + i, none⟩ = some (.int .i64 xa) ∧ u.cell? ⟨gx, ox + nx, none⟩ = some (.int .i64 xb)) := fun u h => by
            have hW := HBV.out.trans (h.mono HWG.out)
            exact ⟨(hW.cell (p := ⟨gl, _, none⟩) hgl).trans l0, (hW.cell (p := ⟨gl, _, none⟩) hgl).trans l1, (hW.cell (p := ⟨gx, _, none⟩) hgx).trans x0, (hW.cell (p := ⟨gx, _, none⟩) hgx).trans x1⟩
          clear l0 l1 x0 x1 HWr
          obtain ⟨-, -, x0, -⟩ := HCA.out _ HB.out
          go_wp2_with fail
          refine (HPA.out _).mono ?_
          rintro e y1 ⟨rfl, hb⟩
          replace HBP := hid (HBP.out.below hb HBP.out.lt)
          replace HBQ := hid (HBQ.out.below hb HBQ.out.lt)
          replace HB := hid (HB.out.trans (hb.mono (Nat.le_trans HGV.out HB.out.size)))
          obtain ⟨l0, -, -, x1⟩ := HCA.out _ HB.out
          clear hb x0
          go_wp2_with fail
          refine (HPB.out _).mono ?_
          rintro e y2 ⟨rfl, hb⟩
          replace HBP := hid (HBP.out.below hb HBP.out.lt)
          replace HBQ := hid (HBQ.out.below hb HBQ.out.lt)
          replace HB := hid (HB.out.trans (hb.mono (Nat.le_trans HGV.out HB.out.size)))
          obtain ⟨-, l1, -, -⟩ := HCA.out _ HB.out
          clear hb l0 x1
          go_upto_region 22 with fail
          clear l1
          have HELD : Hid (∀ u, Below gP V0 u → u.cell? ⟨g, o + A, none⟩ = some (.slice (some ⟨gr, ogr, none⟩) n cgr) ∧ u.cell? ⟨gr, ogr + Bb * 3, none⟩ = some (.bool an) ∧ u.cell? ⟨gr, ogr + Bb * 3 + 1, none⟩ = some (.string ax) ∧ u.cell? ⟨gr, ogr + Bb * 3 + 2, none⟩ = some (.string ay)) := fun u h => by
            have hW := HBV.out.trans (h.mono HWG.out)
            exact ⟨(hW.cell (p := ⟨g, _, none⟩) HGM.out).trans a0_, (hW.cell (p := ⟨gr, _, none⟩) hgr).trans a1_, (hW.cell (p := ⟨gr, _, none⟩) hgr).trans a2_, (hW.cell (p := ⟨gr, _, none⟩) hgr).trans a3_⟩
          clear a0_ a1_ a2_ a3_
          refine wp_region_held_drew (S := fun u => u.cell? ⟨g, o + A, none⟩ = some (.slice (some ⟨gr, ogr, none⟩) n cgr) ∧ u.cell? ⟨gr, ogr + Bb * 3, none⟩ = some (.bool an) ∧ u.cell? ⟨gr, ogr + Bb * 3 + 1, none⟩ = some (.string ax) ∧ u.cell? ⟨gr, ogr + Bb * 3 + 2, none⟩ = some (.string ay)) (by kernel_rfl) (HELD.out _ HB.out.drew) (fun hSd => ?_)
          replace HBP := hid HBP.out.drew
          replace HBQ := hid HBQ.out.drew
          replace HB := hid HB.out.drew
          generalize y2.drew = u0 at *
          refine wpAnyH_take (i := 1) (oi := _) (v := .slice (some ⟨g, o, none⟩) n ca) rfl (by kernel_rfl) (by kernel_rfl) (by kernel_rfl) (fun _ _ _ h => h) (Or.inl ⟨by rfl, ?_⟩) (by assumption) ?_
          · intro u' hSu
            (try simp only [List.getElem_toArray, List.getElem_cons_zero, List.getElem_cons_succ])
            go_simp
          (try simp only [List.getElem_toArray, List.getElem_cons_zero, List.getElem_cons_succ])
          (try simp only [Act.put, List.setIfInBounds_toArray, List.set_cons_zero, List.set_cons_succ])
          refine wpAnyH_take (i := 2) (oi := _) (v := .int .i64 (A : Nat)) rfl (by kernel_rfl) (by kernel_rfl) (by kernel_rfl) (fun _ _ _ h => h) (Or.inl ⟨by rfl, ?_⟩) (by assumption) ?_
          · intro u' hSu
            (try simp only [List.getElem_toArray, List.getElem_cons_zero, List.getElem_cons_succ])
            go_simp
          (try simp only [List.getElem_toArray, List.getElem_cons_zero, List.getElem_cons_succ])
          (try simp only [Act.put, List.setIfInBounds_toArray, List.set_cons_zero, List.set_cons_succ])
          refine wpAnyH_take (i := 3) (oi := _) (v := .pointer (some ⟨g, o + A, none⟩)) rfl (by kernel_rfl) (by kernel_rfl) (by kernel_rfl) (fun _ _ _ h => h) (Or.inl ⟨by rfl, ?_⟩) (by assumption) ?_
          · intro u' hSu
            (try simp only [List.getElem_toArray, List.getElem_cons_zero, List.getElem_cons_succ])
            go_simp
          (try simp only [List.getElem_toArray, List.getElem_cons_zero, List.getElem_cons_succ])
          (try simp only [Act.put, List.setIfInBounds_toArray, List.set_cons_zero, List.set_cons_succ])
          refine wpAnyH_take (i := 4) (oi := _) (v := .slice (some ⟨gr, ogr, none⟩) n cgr) rfl (by kernel_rfl) (by kernel_rfl) (by kernel_rfl) (fun _ _ _ h => h) (Or.inl ⟨by rfl, ?_⟩) (by assumption) ?_
          · intro u' hSu
            (try simp only [List.getElem_toArray, List.getElem_cons_zero, List.getElem_cons_succ])
            obtain ⟨s0, s1, s2, s3⟩ := hSu
            go_simp
          (try simp only [List.getElem_toArray, List.getElem_cons_zero, List.getElem_cons_succ])
          (try simp only [Act.put, List.setIfInBounds_toArray, List.set_cons_zero, List.set_cons_succ])
          refine wpAnyH_take (i := 5) (oi := _) (v := .int .i64 (Bb : Nat)) rfl (by kernel_rfl) (by kernel_rfl) (by kernel_rfl) (fun _ _ _ h => h) (Or.inl ⟨by rfl, ?_⟩) (by assumption) ?_
          · intro u' hSu
            (try simp only [List.getElem_toArray, List.getElem_cons_zero, List.getElem_cons_succ])
            go_simp
          (try simp only [List.getElem_toArray, List.getElem_cons_zero, List.getElem_cons_succ])
          (try simp only [Act.put, List.setIfInBounds_toArray, List.set_cons_zero, List.set_cons_succ])
          refine wpAnyH_take (i := 6) (oi := _) (v := .pointer (some ⟨gr, ogr + Bb * 3, none⟩)) rfl (by kernel_rfl) (by kernel_rfl) (by kernel_rfl) (fun _ _ _ h => h) (Or.inl ⟨by rfl, ?_⟩) (by assumption) ?_
          · intro u' hSu
            (try simp only [List.getElem_toArray, List.getElem_cons_zero, List.getElem_cons_succ])
            go_simp
          (try simp only [List.getElem_toArray, List.getElem_cons_zero, List.getElem_cons_succ])
          (try simp only [Act.put, List.setIfInBounds_toArray, List.set_cons_zero, List.set_cons_succ])
          refine wpAnyH_take (i := 7) (oi := _) (v := .agg #[.bool an, .string ax, .string ay]) rfl (by kernel_rfl) (by kernel_rfl) (by kernel_rfl) (fun _ _ _ h => h) (Or.inl ⟨by rfl, ?_⟩) (by assumption) ?_
          · intro u' hSu
            (try simp only [List.getElem_toArray, List.getElem_cons_zero, List.getElem_cons_succ])
            obtain ⟨s0, s1, s2, s3⟩ := hSu
            go_simp
          (try simp only [List.getElem_toArray, List.getElem_cons_zero, List.getElem_cons_succ])
          (try simp only [Act.put, List.setIfInBounds_toArray, List.set_cons_zero, List.set_cons_succ])
          refine wpAnyH_ready (rs := [0]) (by kernel_rfl) (by simp) (AllReadyH.cons rfl ?_ (AllReadyH.nil))
          · intro K' hK'
            obtain ⟨k0, k1, k2⟩ := HBP.out.triC
            (try simp only [List.getElem_toArray, List.getElem_cons_zero])
            go_simp
            refine hK'.out _ _ hSd (fun hSe => ?_)
            clear k0 k1 k2
            clear hK' K' hSd
            have hSd := hSe
            clear hSe
            (try simp only [List.getElem_toArray, List.getElem_cons_zero, List.getElem_cons_succ])
            (try simp only [Act.put, List.setIfInBounds_toArray, List.set_cons_zero, List.set_cons_succ])
            refine wpAnyH_ready (rs := [8]) (by kernel_rfl) (by simp) (AllReadyH.cons rfl ?_ (AllReadyH.nil))
            · intro K' hK'
              (try simp only [List.getElem_toArray, List.getElem_cons_zero, List.getElem_cons_succ])
              go_simp
              refine (HMA.out _).mono ?_
              rintro e z1 ⟨rfl, hb⟩
              replace HBP := hid (HBP.out.below hb HBP.out.lt)
              replace HBQ := hid (HBQ.out.below hb HBQ.out.lt)
              replace HB := hid (HB.out.trans (hb.mono (Nat.le_trans HGV.out HB.out.size)))
              refine hK'.out _ _ (HELD.out _ HB.out) (fun hSe => ?_)
              clear hb
              clear hK' K' hSd
              have hSd := hSe
              clear hSe
              (try simp only [List.getElem_toArray, List.getElem_cons_zero, List.getElem_cons_succ])
              (try simp only [Act.put, List.setIfInBounds_toArray, List.set_cons_zero, List.set_cons_succ])
              obtain ⟨k0, k1, k2⟩ := HBP.out.triC
              have f0 := HBP.out.fz 0
              have f1 := HBP.out.fz 1
              have f2 := HBP.out.fz 2
              refine wpAnyH_ready (rs := [9]) (by kernel_rfl) (by simp) (AllReadyH.cons rfl ?_ (AllReadyH.nil))
              · intro K' hK'
                (try simp only [List.getElem_toArray, List.getElem_cons_zero, List.getElem_cons_succ])
                go_simp
                have HXN := hid (HBP.out.put (qF (prR fa (i + 1))).1 (qF (prR fa (i + 1))).2.1 (qF (prR fa (i + 1))).2.2)
                have HON := hid (HBQ.out.far3 (HNEgP.out) (.bool (qF (prR fa (i + 1))).1) (.string (qF (prR fa (i + 1))).2.1) (.string (qF (prR fa (i + 1))).2.2))
                have HBN := hid (below_put HB.out HLEgP.out (.bool (qF (prR fa (i + 1))).1) (.string (qF (prR fa (i + 1))).2.1) (.string (qF (prR fa (i + 1))).2.2))
                refine hK'.out _ _ (HELD.out _ HBN.out) (fun _ => wpAnyH_done (by kernel_rfl) ?_ _)
                clear hK' K' hSd k0 k1 k2 f0 f1 f2 HBP HBQ HB
                have HBP := HXN
                have HBQ := HON
                have HB := HBN
                clear HXN HON HBN
                generalize (((z1.setCell ⟨gP, 0, none⟩ (.bool (qF (prR fa (i + 1))).1)).setCell ⟨gP, 1, none⟩ (.string (qF (prR fa (i + 1))).2.1)).setCell ⟨gP, 2, none⟩ (.string (qF (prR fa (i + 1))).2.2)) = y3 at *
                clear HELD
                go_upto_region 23 with fail
                have HELD : Hid (∀ u, Below gP V0 u → u.cell? ⟨g, o + Bb, none⟩ = some (.slice (some ⟨gs, ogs, none⟩) n cgs) ∧ u.cell? ⟨gs, ogs + A * 3, none⟩ = some (.bool bn) ∧ u.cell? ⟨gs, ogs + A * 3 + 1, none⟩ = some (.string bx) ∧ u.cell? ⟨gs, ogs + A * 3 + 2, none⟩ = some (.string by_)) := fun u h => by
                  have hW := HBV.out.trans (h.mono HWG.out)
                  exact ⟨(hW.cell (p := ⟨g, _, none⟩) HGM.out).trans b0_, (hW.cell (p := ⟨gs, _, none⟩) hgs).trans b1_, (hW.cell (p := ⟨gs, _, none⟩) hgs).trans b2_, (hW.cell (p := ⟨gs, _, none⟩) hgs).trans b3_⟩
                clear b0_ b1_ b2_ b3_
                refine wp_region_held_drew (S := fun u => u.cell? ⟨g, o + Bb, none⟩ = some (.slice (some ⟨gs, ogs, none⟩) n cgs) ∧ u.cell? ⟨gs, ogs + A * 3, none⟩ = some (.bool bn) ∧ u.cell? ⟨gs, ogs + A * 3 + 1, none⟩ = some (.string bx) ∧ u.cell? ⟨gs, ogs + A * 3 + 2, none⟩ = some (.string by_)) (by kernel_rfl) (HELD.out _ HB.out.drew) (fun hSd => ?_)
                replace HBQ := hid HBQ.out.drew
                replace HBP := hid HBP.out.drew
                replace HB := hid HB.out.drew
                generalize y3.drew = u0 at *
                refine wpAnyH_take (i := 1) (oi := _) (v := .slice (some ⟨g, o, none⟩) n ca) rfl (by kernel_rfl) (by kernel_rfl) (by kernel_rfl) (fun _ _ _ h => h) (Or.inl ⟨by rfl, ?_⟩) (by assumption) ?_
                · intro u' hSu
                  (try simp only [List.getElem_toArray, List.getElem_cons_zero, List.getElem_cons_succ])
                  go_simp
                (try simp only [List.getElem_toArray, List.getElem_cons_zero, List.getElem_cons_succ])
                (try simp only [Act.put, List.setIfInBounds_toArray, List.set_cons_zero, List.set_cons_succ])
                refine wpAnyH_take (i := 2) (oi := _) (v := .int .i64 (Bb : Nat)) rfl (by kernel_rfl) (by kernel_rfl) (by kernel_rfl) (fun _ _ _ h => h) (Or.inl ⟨by rfl, ?_⟩) (by assumption) ?_
                · intro u' hSu
                  (try simp only [List.getElem_toArray, List.getElem_cons_zero, List.getElem_cons_succ])
                  go_simp
                (try simp only [List.getElem_toArray, List.getElem_cons_zero, List.getElem_cons_succ])
                (try simp only [Act.put, List.setIfInBounds_toArray, List.set_cons_zero, List.set_cons_succ])
                refine wpAnyH_take (i := 3) (oi := _) (v := .pointer (some ⟨g, o + Bb, none⟩)) rfl (by kernel_rfl) (by kernel_rfl) (by kernel_rfl) (fun _ _ _ h => h) (Or.inl ⟨by rfl, ?_⟩) (by assumption) ?_
                · intro u' hSu
                  (try simp only [List.getElem_toArray, List.getElem_cons_zero, List.getElem_cons_succ])
                  go_simp
                (try simp only [List.getElem_toArray, List.getElem_cons_zero, List.getElem_cons_succ])
                (try simp only [Act.put, List.setIfInBounds_toArray, List.set_cons_zero, List.set_cons_succ])
                refine wpAnyH_take (i := 4) (oi := _) (v := .slice (some ⟨gs, ogs, none⟩) n cgs) rfl (by kernel_rfl) (by kernel_rfl) (by kernel_rfl) (fun _ _ _ h => h) (Or.inl ⟨by rfl, ?_⟩) (by assumption) ?_
                · intro u' hSu
                  (try simp only [List.getElem_toArray, List.getElem_cons_zero, List.getElem_cons_succ])
                  obtain ⟨s0, s1, s2, s3⟩ := hSu
                  go_simp
                (try simp only [List.getElem_toArray, List.getElem_cons_zero, List.getElem_cons_succ])
                (try simp only [Act.put, List.setIfInBounds_toArray, List.set_cons_zero, List.set_cons_succ])
                refine wpAnyH_take (i := 5) (oi := _) (v := .int .i64 (A : Nat)) rfl (by kernel_rfl) (by kernel_rfl) (by kernel_rfl) (fun _ _ _ h => h) (Or.inl ⟨by rfl, ?_⟩) (by assumption) ?_
                · intro u' hSu
                  (try simp only [List.getElem_toArray, List.getElem_cons_zero, List.getElem_cons_succ])
                  go_simp
                (try simp only [List.getElem_toArray, List.getElem_cons_zero, List.getElem_cons_succ])
                (try simp only [Act.put, List.setIfInBounds_toArray, List.set_cons_zero, List.set_cons_succ])
                refine wpAnyH_take (i := 6) (oi := _) (v := .pointer (some ⟨gs, ogs + A * 3, none⟩)) rfl (by kernel_rfl) (by kernel_rfl) (by kernel_rfl) (fun _ _ _ h => h) (Or.inl ⟨by rfl, ?_⟩) (by assumption) ?_
                · intro u' hSu
                  (try simp only [List.getElem_toArray, List.getElem_cons_zero, List.getElem_cons_succ])
                  go_simp
                (try simp only [List.getElem_toArray, List.getElem_cons_zero, List.getElem_cons_succ])
                (try simp only [Act.put, List.setIfInBounds_toArray, List.set_cons_zero, List.set_cons_succ])
                refine wpAnyH_take (i := 7) (oi := _) (v := .agg #[.bool bn, .string bx, .string by_]) rfl (by kernel_rfl) (by kernel_rfl) (by kernel_rfl) (fun _ _ _ h => h) (Or.inl ⟨by rfl, ?_⟩) (by assumption) ?_
                · intro u' hSu
                  (try simp only [List.getElem_toArray, List.getElem_cons_zero, List.getElem_cons_succ])
                  obtain ⟨s0, s1, s2, s3⟩ := hSu
                  go_simp
                (try simp only [List.getElem_toArray, List.getElem_cons_zero, List.getElem_cons_succ])
                (try simp only [Act.put, List.setIfInBounds_toArray, List.set_cons_zero, List.set_cons_succ])
                refine wpAnyH_ready (rs := [0]) (by kernel_rfl) (by simp) (AllReadyH.cons rfl ?_ (AllReadyH.nil))
                · intro K' hK'
                  obtain ⟨k0, k1, k2⟩ := HBQ.out.triC
                  (try simp only [List.getElem_toArray, List.getElem_cons_zero])
                  go_simp
                  refine hK'.out _ _ hSd (fun hSe => ?_)
                  clear k0 k1 k2
                  clear hK' K' hSd
                  have hSd := hSe
                  clear hSe
                  (try simp only [List.getElem_toArray, List.getElem_cons_zero, List.getElem_cons_succ])
                  (try simp only [Act.put, List.setIfInBounds_toArray, List.set_cons_zero, List.set_cons_succ])
                  refine wpAnyH_ready (rs := [8]) (by kernel_rfl) (by simp) (AllReadyH.cons rfl ?_ (AllReadyH.nil))
                  · intro K' hK'
                    (try simp only [List.getElem_toArray, List.getElem_cons_zero, List.getElem_cons_succ])
                    go_simp
                    refine (HMB.out _).mono ?_
                    rintro e z1 ⟨rfl, hb⟩
                    replace HBQ := hid (HBQ.out.below hb HBQ.out.lt)
                    replace HBP := hid (HBP.out.below hb HBP.out.lt)
                    replace HB := hid (HB.out.trans (hb.mono (Nat.le_trans HGV.out HB.out.size)))
                    refine hK'.out _ _ (HELD.out _ HB.out) (fun hSe => ?_)
                    clear hb
                    clear hK' K' hSd
                    have hSd := hSe
                    clear hSe
                    (try simp only [List.getElem_toArray, List.getElem_cons_zero, List.getElem_cons_succ])
                    (try simp only [Act.put, List.setIfInBounds_toArray, List.set_cons_zero, List.set_cons_succ])
                    obtain ⟨k0, k1, k2⟩ := HBQ.out.triC
                    have f0 := HBQ.out.fz 0
                    have f1 := HBQ.out.fz 1
                    have f2 := HBQ.out.fz 2
                    refine wpAnyH_ready (rs := [9]) (by kernel_rfl) (by simp) (AllReadyH.cons rfl ?_ (AllReadyH.nil))
                    · intro K' hK'
                      (try simp only [List.getElem_toArray, List.getElem_cons_zero, List.getElem_cons_succ])
                      go_simp
                      have HXN := hid (HBQ.out.put (qF (prR fb (i + 1))).1 (qF (prR fb (i + 1))).2.1 (qF (prR fb (i + 1))).2.2)
                      have HON := hid (HBP.out.far3 (HNEgQ.out) (.bool (qF (prR fb (i + 1))).1) (.string (qF (prR fb (i + 1))).2.1) (.string (qF (prR fb (i + 1))).2.2))
                      have HBN := hid (below_put HB.out HLEgQ.out (.bool (qF (prR fb (i + 1))).1) (.string (qF (prR fb (i + 1))).2.1) (.string (qF (prR fb (i + 1))).2.2))
                      refine hK'.out _ _ (HELD.out _ HBN.out) (fun _ => wpAnyH_done (by kernel_rfl) ?_ _)
                      clear hK' K' hSd k0 k1 k2 f0 f1 f2 HBQ HBP HB
                      have HBQ := HXN
                      have HBP := HON
                      have HB := HBN
                      clear HXN HON HBN
                      generalize (((z1.setCell ⟨gQ, 0, none⟩ (.bool (qF (prR fb (i + 1))).1)).setCell ⟨gQ, 1, none⟩ (.string (qF (prR fb (i + 1))).2.1)).setCell ⟨gQ, 2, none⟩ (.string (qF (prR fb (i + 1))).2.2)) = y4 at *
                      go_wp2
                      go_roundw
                      case rel => exact ⟨i + 1, by omega, by go_num, HBP, HBQ, HB⟩
                      case measure => simp [intOf]; omega
        · obtain rfl : xl = i := by omega
          rw [HREQ.out] at HBP
          obtain ⟨k0, k1, k2⟩ := HBP.out.triC
          obtain ⟨j0, j1, j2⟩ := HBQ.out.triC
          go_wp2
          go_ret
          exact ⟨rfl, HBW.out.trans ((HBV.out.trans (HB.out.mono HWG.out)).mono HBW.out.size)⟩
  · have HNO := hid (clsd_many hn1 hmany)
    have hdf : decide ((clsd n P).length = 1) = false := decide_eq_false HNO.out
    rw [hdf] at HCL
    clear hdf hmany
    go_wp2_with fail
    refine HCL.out.mono ?_
    rintro e W ⟨d, m, c, rfl, hbW, -⟩
    have HBW := hid (HB4.out.trans (hbW.mono HB4.out.size))
    clear hbW HCL HM4 HB4
    cases ev with
    | true =>
      go_wp2
      go_ret
      exact ⟨rfl, HBW.out⟩
    | false =>
      go_wp2
      go_ret
      exact ⟨rfl, HBW.out⟩
end Go.Proofs.YtbejijgelljeaaaGreatDoor

/- A lifting that hands on the world's shape beside what the row lists; fractions opened and shut. -/
namespace Go.Proofs.YtbejijgelljeaaaGreatDoor
open Go.ChangeShapes Go.WideShapes Go.ChangeAt Go.RowKit
theorem lift_shaped {H : Type} {enc : TypeId × Value → H} {a : Assume} {C : Checked} {os : Os} {f : FuncId} {fn : Func} {s : ChangeSpec} {conds : List PathCond} {apart fresh handsOn again : Bool} {X : World → Array Value → Prop}
    (hX : ∀ (w w' : World) (args : Array Value), w.heap = w'.heap → X w args → X w' args)
    (own : ownKnob C.prog.godebug = none) (started : os.Started) (noInit : C.prog.inits.idxOf? f = none) (hfn : C.prog.funcs[f]? = some fn)
    (witness : ∃ (w : World) (tape : Tape) (i : Input), w.os = os ∧ (w.forCall tape i).Shaped C.prog ∧ i.vars = [] ∧ Input.okWide C.prog (w.forCall tape i) .any w.heap.size f i ∧
      ((s.pre enc C.prog fn conds apart (w.forCall tape i).memory i.args ∧ X (w.forCall tape i).memory i.args) ∧ sizedMet enc C.prog fn (OpenSpec.ofChange s) apart (w.forCall tape i).memory i.args) ∧ a.holds C.prog (lone (Frame.enter C.prog f i.args .normal) [] (w.forCall tape i)))
    (walk : ∀ (W : World) (base : Nat) (args : Array Value) (ds gs : List (DataW H)) (before : List MemPlace),
      (∀ (j : Nat) t v, fn.params[j]? = some t → args[j]? = some v → Value.okWide C.prog W .any base t v) →
      DataW.Whole enc C.prog fn.params.toList s.vars apart W args.toList ds gs before →
      (DataW.weightsEach C.prog (fn.params.toList ++ s.plain.varTypes C.prog) (ds ++ gs)).all (· ≤ reachBytes) = true → X W args → W.ShapedOpen C.prog →
      Calls C.prog f args W fun e W' => ∃ v, e = .returned v ∧ s.post enc C.prog fn apart fresh handsOn again W args v W') :
    ReturnsInHanded a C os f .any (fun w args => (s.pre enc C.prog fn conds apart w args ∧ X w args) ∧ sizedMet enc C.prog fn (OpenSpec.ofChange s) apart w args) (s.post enc C.prog fn apart fresh handsOn again) := by
  refine returnsInHanded_of_calls own started noInit witness ?_
  intro w tape i _ hsh _ hok hpre _
  obtain ⟨_, _, _, fn', hfn', _, _, _, _, hval⟩ := hok
  obtain rfl : fn' = fn := Option.some.inj (hfn'.symm.trans hfn)
  obtain ⟨⟨⟨ds, gs, before, hw, _⟩, hx⟩, hz⟩ := hpre
  refine (walk (w.forCall tape i) w.heap.size i.args ds gs before hval (DataW.Whole.of_heap (w' := w.forCall tape i) (by rfl) hw) (hz.weights hw) (hX _ _ _ (by rfl) hx) hsh).mono fun e W' ⟨v, he, hp⟩ => ?_
  subst he
  exact ChangeSpec.post_blind hp
end Go.Proofs.YtbejijgelljeaaaGreatDoor
