/- The law HiddenMeets. -/
import Derived.Test.YtnnfmfdjgdgdhaaGreatDoorHidKOwn
import Derived.Test.YtnnfmfdjgdgdhaaGreatDoorHidLOwn
namespace Go.Proofs.YtnnfmfdjgdgdhaaGreatDoor
open Go.RowKit Go.Shelf Go.Lib

theorem OwR.rows0 {W : World} {B : Nat} {z : Value} {Rs : List PR} (h : OwR W B z Rs) : ∃ a c, z = .slice a (rOf Rs).length c ∧ FsS W a (rOf Rs) ∧ (a = none → c = 0) := by
  obtain ⟨a, c, e, hf⟩ := h.rows
  obtain ⟨a', c', e', h0⟩ := owns_slice h.1
  rw [e] at e'
  injection e' with e1 _ e3
  exact ⟨a, c, e, hf, fun e => by rw [e3]; exact h0 (by rw [← e1]; exact e)⟩
/-- Forward and backward meet at each step. -/
theorem HC.meet (h : HC) {t : Nat} (ht : t < h.L) : sumR (fun i => h.alp t i * h.behind t i) h.s = h.seen := by
  rw [HC.seen, if_neg (by omega), HC.all]
  exact h.meets (h.L - 1 - t) t (by omega)
theorem HC.Ok.lik_seen {h : HC} (o : h.Ok) : (h.lik h.way h.L = 0 ↔ h.seen = 0) ∧ h.lik h.way h.L ≤ h.seen := by
  rw [HC.seen]
  rcases Nat.eq_zero_or_pos h.L with h0 | h0
  · rw [if_pos h0, h0]
    exact ⟨Iff.rfl, Rat.le_refl⟩
  · rw [if_neg (by omega), h.way_lik h0]
    exact ⟨o.top_none h0, o.top_le h0⟩
theorem HC.Ok.lik_le {h : HC} (o : h.Ok) {v : Nat → Nat} (hv : ∀ t, v t < h.s) : h.lik v h.L ≤ h.lik h.way h.L := by
  rcases Nat.eq_zero_or_pos h.L with h0 | h0
  · rw [h0]; exact Rat.le_refl
  · rw [h.way_lik h0]; exact o.any_lik h0 hv
theorem HC.Sml.seen {h : HC} (m : h.Sml) : qw h.seen ≤ 1500 := by
  rw [HC.seen]
  by_cases h0 : h.L = 0
  · rw [if_pos h0]; exact Sm.one.qw (by omega)
  · rw [if_neg h0, HC.all]
    exact (Sm.sum m.s4 fun i hi => m.alp (h.L - 1) i (by omega) hi).qw (by have := m.L8; omega)
theorem cmp_le {p q : Rat} (h : p ≤ q) : cmpQ p q ≤ 0 := by
  rw [cmpQ]
  by_cases h1 : p < q
  · rw [if_pos h1]; decide
  · rw [if_neg h1, if_pos (Rat.le_antisymm h (Rat.not_lt.1 h1))]; decide
theorem bytes_same {a b : ByteArray} (h : a.toList = b.toList) : a = b := by
  rw [Lib.toList_data, Lib.toList_data] at h
  exact ByteArray.ext (Array.toList_inj.1 h)
theorem qF_inj {p q : Rat} (h : qF p = qF q) : p = q := by
  have := congrArg frQ h
  rwa [frQ_qF, frQ_qF] at this

set_option maxRecDepth 100000 in
set_option maxHeartbeats 400000 in
theorem hiddenMeets_big (a0 a3 a4 : Option Addr) (c0 c3 c4 : Nat) (W0 W3 W4 : List Int) (n1 n2 : Int) (w : World) (h0 : W0.length ≤ 140737488355328) (h3 : W3.length ≤ 140737488355328) (h4 : W4.length ≤ 140737488355328) (h : 256 < W0.length + W3.length + W4.length) :
    Calls Tryz.prog 3 #[.slice a0 W0.length c0, .int .i64 n1, .int .i64 n2, .slice a3 W3.length c3, .slice a4 W4.length c4] w fun e w' => e = .returned (.bool true) ∧ Below w.heap.size w w' := by
  have e1 : IntKind.i64.wrap ((W0.length : Int) + (W3.length : Int)) = (W0.length : Int) + (W3.length : Int) := by rw [IntKind.wrap_i64]; omega
  have e2 : IntKind.i64.wrap ((W0.length : Int) + (W3.length : Int) + (W4.length : Int)) = (W0.length : Int) + (W3.length : Int) + (W4.length : Int) := by rw [IntKind.wrap_i64]; omega
  have hg : (256 : Int) < (W0.length : Int) + (W3.length : Int) + (W4.length : Int) := by omega
  go_enter Tryz.func3, Tryz.ntmps3
  go_wp2
  go_ret
  exact ⟨rfl, Below.refl _ _⟩

set_option maxRecDepth 100000 in
set_option maxHeartbeats 8000000 in
theorem hiddenMeets_walk (a0 a3 a4 : Option Addr) (c0 c3 c4 : Nat) (X0 X3 X4 : List Int) (n1 n2 : Int) (w : World) (h0 : IntS w a0 X0) (h3 : IntS w a3 X3) (h4 : IntS w a4 X4) (r0 : ∀ x ∈ X0, -9223372036854775808 ≤ x ∧ x ≤ 9223372036854775807) (r3 : ∀ x ∈ X3, -9223372036854775808 ≤ x ∧ x ≤ 9223372036854775807) (r4 : ∀ x ∈ X4, -9223372036854775808 ≤ x ∧ x ≤ 9223372036854775807) (hn1 : -9223372036854775808 ≤ n1 ∧ n1 ≤ 9223372036854775807) (hn2 : -9223372036854775808 ≤ n2 ∧ n2 ≤ 9223372036854775807) (hl : X0.length + X3.length + X4.length ≤ 256) :
    Calls Tryz.prog 3 #[.slice a0 X0.length c0, .int .i64 n1, .int .i64 n2, .slice a3 X3.length c3, .slice a4 X4.length c4] w fun e w' => e = .returned (.bool true) ∧ Below w.heap.size w w' := by
  have HPN := hid (fun U : World => rPick_any n1 4 U hn1.1 hn1.2 (by omega) (by omega))
  have HPM := hid (fun U : World => rPick_any n2 4 U hn2.1 hn2.2 (by omega) (by omega))
  have hp1 := pickN_lt n1 (n := 4) (by omega)
  have hp2 := pickN_lt n2 (n := 4) (by omega)
  clear hn1 hn2
  generalize pickN n1 4 = p1 at *
  generalize pickN n2 4 = p2 at *
  obtain ⟨n, hnn⟩ : ∃ n, n = 1 + p1 := ⟨_, rfl⟩
  obtain ⟨m, hmm⟩ : ∃ m, m = 1 + p2 := ⟨_, rfl⟩
  have HEN : Hid ((1 : Int) + (p1 : Int) = (n : Int)) := by show _ = _; omega
  have HEM : Hid ((1 : Int) + (p2 : Int) = (m : Int)) := by show _ = _; omega
  have hn1 : 1 ≤ n := by omega
  have hn4 : n ≤ 4 := by omega
  have hm1 : 1 ≤ m := by omega
  have hm4 : m ≤ 4 := by omega
  clear hnn hmm
  have HHO := hid (fun (U : World) (hU : IntS U a0 X0) => hiddenOf_any a0 c0 n m X0 U hU r0 (by omega) hn1 hn4 hm1 hm4)
  have HSG := hid (fun (U : World) (hU : IntS U a3 X3) => lawSigns_any a3 c3 m X3 U hU r3 hm1 hm4)
  have HPK := hid (fun (c : Int) (h : -9223372036854775808 ≤ c ∧ c ≤ 9223372036854775807) (U : World) => rPick_any c n U h.1 h.2 hn1 (by omega))
  have HPL := hid (fun (c : Int) => pickN_lt c (n := n) hn1)
  have HX0 := hid h0
  have HX3 := hid h3
  have HX4 := hid h4
  have HR4 := hid r4
  clear h0 h3 h4 r0 r3 r4
  have e1 : IntKind.i64.wrap ((X0.length : Int) + (X3.length : Int)) = (X0.length : Int) + (X3.length : Int) := by rw [IntKind.wrap_i64]; omega
  have e2 : IntKind.i64.wrap ((X0.length : Int) + (X3.length : Int) + (X4.length : Int)) = (X0.length : Int) + (X3.length : Int) + (X4.length : Int) := by rw [IntKind.wrap_i64]; omega
  have hg : ¬ (256 : Int) < (X0.length : Int) + (X3.length : Int) + (X4.length : Int) := by omega
  go_enter Tryz.func3, Tryz.ntmps3
  go_wp2_with fail
  refine (HPN.out _).mono ?_
  rintro e w1 ⟨rfl, hb1⟩
  clear e1 e2 hg
  go_wp2_with fail
  rw [HEN.out]
  refine (HPM.out _).mono ?_
  rintro e w2 ⟨rfl, hb2⟩
  have hb12 := hb1.trans (hb2.mono hb1.size)
  clear hb1 hb2
  go_wp2_with fail
  rw [HEM.out]
  refine (HHO.out _ (HX0.out.below hb12)).mono ?_
  rintro e w3 ⟨x, y, z, Ls, P1, P2, rfl, hwt, hsu, hx, hy, hz, hr1, hr2, hb3⟩
  have hb13 := hb12.trans (hb3.mono hb12.size)
  obtain ⟨a, ca, ea, hfa⟩ := hx.fr
  obtain ⟨b, cb, eb, hfb, hb0⟩ := hy.rows0
  obtain ⟨c, cc, ec, hfc, hc0⟩ := hz.rows0
  rw [rawF_length, hwt.len] at ea
  rw [show (rOf P1).length = n by simp [rOf, hr1.1]] at eb
  rw [show (rOf P2).length = n by simp [rOf, hr2.1]] at ec
  subst ea eb ec
  have HI3 : Hid (HidI w3 a b c n m (rawF Ls) (rOf P1) (rOf P2)) := ⟨hfa, hfb, hfc⟩
  have HVQ := hid (fun (Q : List Nat) (hQ : Q.length ≤ 8) (hq : ∀ x ∈ Q, x < m) => hidV_of (Q := Q) hn1 hn4 hm1 hm4 hwt hsu hr1 hr2 hQ hq)
  have HB0 := hid hb0
  have HC0 := hid hc0
  have HWB := hid hb13
  clear hb12 hb3 hb13 hx hy hz hfa hfb hfc hr1 hr2 hwt hsu hb0 hc0 HHO HPN HPM
  generalize rawF Ls = l at *
  generalize rOf P1 = R1 at *
  generalize rOf P2 = R2 at *
  have hAL := (Below.refl w3.heap.size w3).alloc (Nat.le_refl _) (HC3 (.slice a n ca) (.slice b n cb) (.slice c n cc))
  have HHB := hid (HBox.new w3 (.slice a n ca) (.slice b n cb) (.slice c n cc))
  replace HI3 := hid (HI3.out.below hAL)
  replace HWB := hid (HWB.out.trans (hAL.mono HWB.out.size))
  clear hAL
  go_wp2_with fail
  generalize (w3.alloc (HC3 (.slice a n ca) (.slice b n cb) (.slice c n cc))) = w4 at *
  generalize w3.heap.size = gH at *
  refine (HSG.out _ (HX3.out.below HWB.out)).mono ?_
  rintro e w5 ⟨vq, Q, rfl, hvq, hQ8, hqm, hb5⟩
  obtain ⟨dq, cq, eq, hqi⟩ := hvq.ints
  have hV := HVQ.out Q hQ8 hqm
  rw [iL_length] at eq
  obtain ⟨L, hLe⟩ : ∃ L, Q.length = L := ⟨_, rfl⟩
  have HLQ := hid hLe
  have hsn : (hcOf n l R1 R2 Q).s = n := rfl
  have hL : (hcOf n l R1 R2 Q).L = L := hLe
  generalize hcOf n l R1 R2 Q = h at *
  rw [hLe] at eq hQ8
  subst eq
  have HV := hid hV
  have HSN := hid hsn
  have HL := hid hL
  have HOK := hid (hV.sm.ok hV.ok.n1)
  have HI := hid (HI3.out.below hb5)
  have HQI := hid hqi
  have HH := hid (HHB.out.below hb5 HHB.out.lt)
  have HB5 := hid (HWB.out.trans (hb5.mono HWB.out.size))
  clear hvq hqm hb5 hqi hV hsn hL hLe HVQ HSG HI3 HHB HWB
  have HLI := hid (fun (U : World) (hU : Below w5.heap.size w5 U) => hiLikely_yes a b c dq ca cb cc cq n L m l R1 R2 Q h U (HI.out.below hU) HV.out HSN.out HL.out HB0.out HC0.out (HQI.out.below hU))
  have HFO := hid (fun (U : World) (hU : Below w5.heap.size w5 U) => hiForward_yes a b c dq ca cb cc cq n L m l R1 R2 Q h U (HI.out.below hU) HV.out HSN.out HL.out HB0.out HC0.out (HQI.out.below hU))
  have HBA := hid (fun (U : World) (hU : Below w5.heap.size w5 U) => hiBackward_yes a b c dq ca cb cc cq n L m l R1 R2 Q h U (HI.out.below hU) HV.out HSN.out HL.out HB0.out HC0.out (HQI.out.below hU))
  have HPA := hid (fun (U : World) (hU : Below w5.heap.size w5 U) => hiPath_yes a b c dq ca cb cc cq n L m l R1 R2 Q h U (HI.out.below hU) HV.out HSN.out HL.out HB0.out HC0.out (HQI.out.below hU))
  have HWO := hid (fun (U : World) (hU : Below w5.heap.size w5 U) (dw : Option Addr) (cw : Nat) (V : List Nat) (v : Nat → Nat) (hW : IntS U dw (iL V)) (hVl : V.length = L) (hvv : ∀ t (ht : t < V.length), v t = V[t]) (hvn : ∀ t, v t < n) => wayOf_any a b c dq dw ca cb cc cq cw n L m l R1 R2 Q V h v U (HI.out.below hU) HV.out HSN.out HL.out (HQI.out.below hU) hW hVl hvv hvn)
  obtain ⟨z0, z1, z2⟩ := HH.out.cells
  go_wp2_with fail
  refine (HLI.out _ (Below.refl _ _)).mono ?_
  rintro e w6 ⟨rfl, hb6⟩
  have HPX0 := hid (Box.new w6 (qF h.seen).1 (qF h.seen).2.1 (qF h.seen).2.2)
  have hA6 := (Below.refl w6.heap.size w6).alloc (Nat.le_refl _) (FC (qF h.seen).1 (qF h.seen).2.1 (qF h.seen).2.2)
  have HB7 := hid (hb6.trans (hA6.mono hb6.size))
  clear z0 z1 z2 hb6 hA6
  have hH7 := HH.out.below HB7.out HH.out.lt
  obtain ⟨z0, z1, z2⟩ := hH7.cells
  rw [show frV (qF h.seen) = .agg #[.bool (qF h.seen).1, .string (qF h.seen).2.1, .string (qF h.seen).2.2] from rfl]
  go_wp2_with fail
  generalize (w6.alloc (FC (qF h.seen).1 (qF h.seen).2.1 (qF h.seen).2.2)) = w7 at *
  generalize w6.heap.size = gP at *
  refine (HFO.out _ HB7.out).mono ?_
  rintro e w8 ⟨gA, rfl, hgA, hrA, hb8⟩
  have HPX := hid (HPX0.out.below hb8 HPX0.out.lt)
  have HB8 := hid (HB7.out.trans (hb8.mono HB7.out.size))
  clear z0 z1 z2 hH7 hb8 HPX0 HB7 hgA
  have hH8 := HH.out.below HB8.out HH.out.lt
  obtain ⟨z0, z1, z2⟩ := hH8.cells
  go_wp2_with fail
  refine (HBA.out _ HB8.out).mono ?_
  rintro e w9 ⟨gBk, rfl, hgB, hrB, hb9⟩
  have HRA := hid (hrA.below hb9)
  have HRB := hid hrB
  replace HPX := hid (HPX.out.below hb9 HPX.out.lt)
  have HB9 := hid (HB8.out.trans (hb9.mono HB8.out.size))
  have HHB := hid (hH8.below hb9 hH8.lt)
  clear z0 z1 z2 hH8 hb9 HB8 hrA hrB hgB HLI HFO HBA HH
  have HOF := hid (fun V : World => rOf_zero V)
  go_wp2_with fail
  go_loopw [19] (fun iv wr => ∃ t : Nat, t ≤ L ∧ iv = .int .i64 t ∧ Hid (Below w9.heap.size w9 wr)) (fun iv _ => L - (intOf iv).toNat)
  case atStart => exact ⟨0, Nat.zero_le _, rfl, Below.refl _ _⟩
  case round =>
    obtain ⟨t, ht, rfl, HBt⟩ := hrel
    by_cases hlt : t < L
    · obtain ⟨g1, o1, ba, ka, e1, hg1, xa0, xaf, -⟩ := HRA.out t (by simpa using hlt)
      cases e1
      obtain ⟨g2, o2, bb, kb, e2, hg2, xb0, xbf, -⟩ := HRB.out t (by simpa using hlt)
      cases e2
      have era : ((List.range L).map fun t => lF n (h.alp t))[t]'(by simpa using hlt) = lF n (h.alp t) := by simp
      have erb : ((List.range L).map fun t => lF n (h.behind t))[t]'(by simpa using hlt) = lF n (h.behind t) := by simp
      rw [era, lF_length, Nat.zero_add] at xa0
      rw [era] at xaf
      rw [erb, lF_length, Nat.zero_add] at xb0
      rw [erb] at xbf
      have HXA := hid xa0
      have HXB := hid xb0
      have HXAF := hid xaf
      have HXBF := hid xbf
      have HME : Hid (sumR (fun i => h.alp t i * h.behind t i) n = h.seen) := by
        have h9 := h.meet (t := t) (by rw [HL.out]; exact hlt)
        rwa [HSN.out] at h9
      have HFS : Hid (∀ i, i < n → Sm 23 (h.alp t i) ∧ Sm 21 (h.behind t i)) := fun i hi => ⟨(HV.out.sm.alp t i (by rw [HL.out]; exact hlt) (by rw [HSN.out]; exact hi)).up (by have := HV.out.sm.L8; rw [HL.out] at this; omega), HV.out.sm.behind (by rw [HL.out]; exact hlt) (by rw [HSN.out]; exact hi)⟩
      obtain ⟨F, hF⟩ : ∃ F : Nat → Rat, F = fun i => h.alp t i * h.behind t i := ⟨_, rfl⟩
      have HFE : Hid (∀ i, F i = h.alp t i * h.behind t i) := fun i => by rw [hF]
      rw [← hF] at HME
      have HFU : Hid (∀ i, i ≤ n → Sm 45 (sumR F i)) := fun i hi => (Sm.sum (k := 44) (by omega) fun j hj => by rw [HFE.out j]; exact (HFS.out j (by omega)).1.mul (HFS.out j (by omega)).2)
      clear era erb xaf xbf hF
      have ya := (HBt.out.cell (p := ⟨gA, _, none⟩) hg1).trans xa0
      have yb := (HBt.out.cell (p := ⟨gBk, _, none⟩) hg2).trans xb0
      clear xa0 xb0
      go_wp2_with fail
      refine (HOF.out _).mono ?_
      rintro e wa ⟨rfl, hba⟩
      have HSB0 : Hid (Box (wa.alloc (FC (sgn 0) (nu 0) (de 0))) wa.heap.size (sgn (sumR F 0)) (nu (sumR F 0)) (de (sumR F 0))) := Box.new wa _ _ _
      have hba2 := hba.alloc hba.size (FC (sgn 0) (nu 0) (de 0))
      have HBa := hid (HBt.out.trans (hba2.mono HBt.out.size))
      have hgs : w9.heap.size ≤ wa.heap.size := Nat.le_trans HBt.out.size hba.size
      clear ya yb hba hba2
      go_wp2_with fail
      generalize (wa.alloc (FC (sgn 0) (nu 0) (de 0))) = wb at *
      generalize wa.heap.size = gs at *
      go_loopw [21] (fun iv wr => ∃ i : Nat, i ≤ n ∧ iv = .int .i64 i ∧ Hid (Box wr gs (sgn (sumR F i)) (nu (sumR F i)) (de (sumR F i))) ∧ Hid (Below w9.heap.size w9 wr)) (fun iv _ => n - (intOf iv).toNat)
      case atStart => exact ⟨0, Nat.zero_le _, rfl, HSB0, HBa⟩
      case round =>
        obtain ⟨i, hi, rfl, HSB, HBr⟩ := hrel
        clear HSB0 HBa
        by_cases hlti : i < n
        · obtain ⟨ga, oa, rfl, hga, x0, x1, x2⟩ := HXAF.out i (by rw [lF_length]; exact hlti)
          obtain ⟨gb, ob, rfl, hgb, y0, y1, y2⟩ := HXBF.out i (by rw [lF_length]; exact hlti)
          rw [lF_get] at x0 x1 x2 y0 y1 y2
          have HM1 : Hid (∀ V : World, Calls Tryz.prog 12 #[.agg #[.bool (qF (h.alp t i)).1, .string (qF (h.alp t i)).2.1, .string (qF (h.alp t i)).2.2], .agg #[.bool (qF (h.behind t i)).1, .string (qF (h.behind t i)).2.1, .string (qF (h.behind t i)).2.2]] V fun e w' => e = .returned (.agg #[.bool (sgn (F i)), .string (nu (F i)), .string (de (F i))]) ∧ Below V.heap.size V w') := fun V => by
            have z1 := own_size (h.alp t i)
            have z2 := own_size (h.behind t i)
            have q1 := (HFS.out i hlti).1.qw (by omega)
            have q2 := (HFS.out i hlti).2.qw (by omega)
            have h9 := rMulF_any (sgn (h.alp t i)) (sgn (h.behind t i)) (nu (h.alp t i)) (de (h.alp t i)) (nu (h.behind t i)) (de (h.behind t i)) V (by omega) (by omega)
            rw [val_own, val_own, ← HFE.out i] at h9
            exact h9
          have HM2 : Hid (∀ V : World, Calls Tryz.prog 11 #[.agg #[.bool (sgn (sumR F i)), .string (nu (sumR F i)), .string (de (sumR F i))], .agg #[.bool (sgn (F i)), .string (nu (F i)), .string (de (F i))]] V fun e w' => e = .returned (.agg #[.bool (sgn (sumR F (i + 1))), .string (nu (sumR F (i + 1))), .string (de (sumR F (i + 1)))]) ∧ Below V.heap.size V w') := fun V => by
            have z1 := own_size (sumR F i)
            have z2 := own_size (F i)
            have q1 := (HFU.out i hi).qw (by omega)
            have q2 : qw (F i) ≤ 1500 := by rw [HFE.out i]; exact ((HFS.out i hlti).1.mul (HFS.out i hlti).2).qw (by omega)
            have h9 := rAddF_any (sgn (sumR F i)) (sgn (F i)) (nu (sumR F i)) (de (sumR F i)) (nu (F i)) (de (F i)) V (by omega) (by omega)
            rw [val_own, val_own] at h9
            exact h9
          generalize qF (h.alp t i) = fa at *
          generalize qF (h.behind t i) = fb at *
          have HELD : Hid (∀ u, Below w9.heap.size w9 u → u.cell? ⟨gA, t, none⟩ = some (.slice (some ⟨ga, oa, none⟩) n ka) ∧ u.cell? ⟨ga, oa + i * 3, none⟩ = some (.bool fa.1) ∧ u.cell? ⟨ga, oa + i * 3 + 1, none⟩ = some (.string fa.2.1) ∧ u.cell? ⟨ga, oa + i * 3 + 2, none⟩ = some (.string fa.2.2) ∧ u.cell? ⟨gBk, t, none⟩ = some (.slice (some ⟨gb, ob, none⟩) n kb) ∧ u.cell? ⟨gb, ob + i * 3, none⟩ = some (.bool fb.1) ∧ u.cell? ⟨gb, ob + i * 3 + 1, none⟩ = some (.string fb.2.1) ∧ u.cell? ⟨gb, ob + i * 3 + 2, none⟩ = some (.string fb.2.2)) := fun u hu => ⟨(hu.cell (p := ⟨gA, _, none⟩) hg1).trans HXA.out, (hu.cell (p := ⟨ga, _, none⟩) hga).trans x0, (hu.cell (p := ⟨ga, _, none⟩) hga).trans x1, (hu.cell (p := ⟨ga, _, none⟩) hga).trans x2, (hu.cell (p := ⟨gBk, _, none⟩) hg2).trans HXB.out, (hu.cell (p := ⟨gb, _, none⟩) hgb).trans y0, (hu.cell (p := ⟨gb, _, none⟩) hgb).trans y1, (hu.cell (p := ⟨gb, _, none⟩) hgb).trans y2⟩
          clear x0 x1 x2 y0 y1 y2
          go_upto_region 21 with fail
          refine wp_region_held_drew (S := fun u => u.cell? ⟨gA, t, none⟩ = some (.slice (some ⟨ga, oa, none⟩) n ka) ∧ u.cell? ⟨ga, oa + i * 3, none⟩ = some (.bool fa.1) ∧ u.cell? ⟨ga, oa + i * 3 + 1, none⟩ = some (.string fa.2.1) ∧ u.cell? ⟨ga, oa + i * 3 + 2, none⟩ = some (.string fa.2.2) ∧ u.cell? ⟨gBk, t, none⟩ = some (.slice (some ⟨gb, ob, none⟩) n kb) ∧ u.cell? ⟨gb, ob + i * 3, none⟩ = some (.bool fb.1) ∧ u.cell? ⟨gb, ob + i * 3 + 1, none⟩ = some (.string fb.2.1) ∧ u.cell? ⟨gb, ob + i * 3 + 2, none⟩ = some (.string fb.2.2)) (by kernel_rfl) (HELD.out _ HBr.out.drew) (fun hSd => ?_)
          replace HBr := hid HBr.out.drew
          have HSd : Hid (Box wr.drew gs (sgn (sumR F i)) (nu (sumR F i)) (de (sumR F i))) := HSB.out
          clear HSB
          have HSB := HSd
          clear HSd
          generalize wr.drew = u0 at *
          refine wpAnyH_take (i := 1) (oi := _) (v := .slice (some ⟨gA, 0, none⟩) L L) rfl (by kernel_rfl) (by kernel_rfl) (by kernel_rfl) (fun _ _ _ h => h) (Or.inl ⟨by rfl, ?_⟩) (by assumption) ?_
          · intro u' hSu
            (try simp only [List.getElem_toArray, List.getElem_cons_zero, List.getElem_cons_succ])
            go_simp
          (try simp only [List.getElem_toArray, List.getElem_cons_zero, List.getElem_cons_succ])
          (try simp only [Act.put, List.setIfInBounds_toArray, List.set_cons_zero, List.set_cons_succ])
          refine wpAnyH_take (i := 2) (oi := _) (v := .int .i64 (t : Nat)) rfl (by kernel_rfl) (by kernel_rfl) (by kernel_rfl) (fun _ _ _ h => h) (Or.inl ⟨by rfl, ?_⟩) (by assumption) ?_
          · intro u' hSu
            (try simp only [List.getElem_toArray, List.getElem_cons_zero, List.getElem_cons_succ])
            go_simp
          (try simp only [List.getElem_toArray, List.getElem_cons_zero, List.getElem_cons_succ])
          (try simp only [Act.put, List.setIfInBounds_toArray, List.set_cons_zero, List.set_cons_succ])
          refine wpAnyH_take (i := 3) (oi := _) (v := .pointer (some ⟨gA, t, none⟩)) rfl (by kernel_rfl) (by kernel_rfl) (by kernel_rfl) (fun _ _ _ h => h) (Or.inl ⟨by rfl, ?_⟩) (by assumption) ?_
          · intro u' hSu
            (try simp only [List.getElem_toArray, List.getElem_cons_zero, List.getElem_cons_succ])
            go_simp
          (try simp only [List.getElem_toArray, List.getElem_cons_zero, List.getElem_cons_succ])
          (try simp only [Act.put, List.setIfInBounds_toArray, List.set_cons_zero, List.set_cons_succ])
          refine wpAnyH_take (i := 4) (oi := _) (v := .slice (some ⟨ga, oa, none⟩) n ka) rfl (by kernel_rfl) (by kernel_rfl) (by kernel_rfl) (fun _ _ _ h => h) (Or.inl ⟨by rfl, ?_⟩) (by assumption) ?_
          · intro u' hSu
            (try simp only [List.getElem_toArray, List.getElem_cons_zero, List.getElem_cons_succ])
            obtain ⟨s0, s1, s2, s3, s4, s5, s6, s7⟩ := hSu
            go_simp
          (try simp only [List.getElem_toArray, List.getElem_cons_zero, List.getElem_cons_succ])
          (try simp only [Act.put, List.setIfInBounds_toArray, List.set_cons_zero, List.set_cons_succ])
          refine wpAnyH_take (i := 5) (oi := _) (v := .int .i64 (i : Nat)) rfl (by kernel_rfl) (by kernel_rfl) (by kernel_rfl) (fun _ _ _ h => h) (Or.inl ⟨by rfl, ?_⟩) (by assumption) ?_
          · intro u' hSu
            (try simp only [List.getElem_toArray, List.getElem_cons_zero, List.getElem_cons_succ])
            go_simp
          (try simp only [List.getElem_toArray, List.getElem_cons_zero, List.getElem_cons_succ])
          (try simp only [Act.put, List.setIfInBounds_toArray, List.set_cons_zero, List.set_cons_succ])
          refine wpAnyH_take (i := 6) (oi := _) (v := .pointer (some ⟨ga, oa + i * 3, none⟩)) rfl (by kernel_rfl) (by kernel_rfl) (by kernel_rfl) (fun _ _ _ h => h) (Or.inl ⟨by rfl, ?_⟩) (by assumption) ?_
          · intro u' hSu
            (try simp only [List.getElem_toArray, List.getElem_cons_zero, List.getElem_cons_succ])
            go_simp
          (try simp only [List.getElem_toArray, List.getElem_cons_zero, List.getElem_cons_succ])
          (try simp only [Act.put, List.setIfInBounds_toArray, List.set_cons_zero, List.set_cons_succ])
          refine wpAnyH_take (i := 7) (oi := _) (v := .agg #[.bool fa.1, .string fa.2.1, .string fa.2.2]) rfl (by kernel_rfl) (by kernel_rfl) (by kernel_rfl) (fun _ _ _ h => h) (Or.inl ⟨by rfl, ?_⟩) (by assumption) ?_
          · intro u' hSu
            (try simp only [List.getElem_toArray, List.getElem_cons_zero, List.getElem_cons_succ])
            obtain ⟨s0, s1, s2, s3, s4, s5, s6, s7⟩ := hSu
            go_simp
          (try simp only [List.getElem_toArray, List.getElem_cons_zero, List.getElem_cons_succ])
          (try simp only [Act.put, List.setIfInBounds_toArray, List.set_cons_zero, List.set_cons_succ])
          refine wpAnyH_take (i := 8) (oi := _) (v := .slice (some ⟨gBk, 0, none⟩) L L) rfl (by kernel_rfl) (by kernel_rfl) (by kernel_rfl) (fun _ _ _ h => h) (Or.inl ⟨by rfl, ?_⟩) (by assumption) ?_
          · intro u' hSu
            (try simp only [List.getElem_toArray, List.getElem_cons_zero, List.getElem_cons_succ])
            go_simp
          (try simp only [List.getElem_toArray, List.getElem_cons_zero, List.getElem_cons_succ])
          (try simp only [Act.put, List.setIfInBounds_toArray, List.set_cons_zero, List.set_cons_succ])
          refine wpAnyH_take (i := 9) (oi := _) (v := .int .i64 (t : Nat)) rfl (by kernel_rfl) (by kernel_rfl) (by kernel_rfl) (fun _ _ _ h => h) (Or.inl ⟨by rfl, ?_⟩) (by assumption) ?_
          · intro u' hSu
            (try simp only [List.getElem_toArray, List.getElem_cons_zero, List.getElem_cons_succ])
            go_simp
          (try simp only [List.getElem_toArray, List.getElem_cons_zero, List.getElem_cons_succ])
          (try simp only [Act.put, List.setIfInBounds_toArray, List.set_cons_zero, List.set_cons_succ])
          refine wpAnyH_take (i := 10) (oi := _) (v := .pointer (some ⟨gBk, t, none⟩)) rfl (by kernel_rfl) (by kernel_rfl) (by kernel_rfl) (fun _ _ _ h => h) (Or.inl ⟨by rfl, ?_⟩) (by assumption) ?_
          · intro u' hSu
            (try simp only [List.getElem_toArray, List.getElem_cons_zero, List.getElem_cons_succ])
            go_simp
          (try simp only [List.getElem_toArray, List.getElem_cons_zero, List.getElem_cons_succ])
          (try simp only [Act.put, List.setIfInBounds_toArray, List.set_cons_zero, List.set_cons_succ])
          refine wpAnyH_take (i := 11) (oi := _) (v := .slice (some ⟨gb, ob, none⟩) n kb) rfl (by kernel_rfl) (by kernel_rfl) (by kernel_rfl) (fun _ _ _ h => h) (Or.inl ⟨by rfl, ?_⟩) (by assumption) ?_
          · intro u' hSu
            (try simp only [List.getElem_toArray, List.getElem_cons_zero, List.getElem_cons_succ])
            obtain ⟨s0, s1, s2, s3, s4, s5, s6, s7⟩ := hSu
            go_simp
          (try simp only [List.getElem_toArray, List.getElem_cons_zero, List.getElem_cons_succ])
          (try simp only [Act.put, List.setIfInBounds_toArray, List.set_cons_zero, List.set_cons_succ])
          refine wpAnyH_take (i := 12) (oi := _) (v := .int .i64 (i : Nat)) rfl (by kernel_rfl) (by kernel_rfl) (by kernel_rfl) (fun _ _ _ h => h) (Or.inl ⟨by rfl, ?_⟩) (by assumption) ?_
          · intro u' hSu
            (try simp only [List.getElem_toArray, List.getElem_cons_zero, List.getElem_cons_succ])
            go_simp
          (try simp only [List.getElem_toArray, List.getElem_cons_zero, List.getElem_cons_succ])
          (try simp only [Act.put, List.setIfInBounds_toArray, List.set_cons_zero, List.set_cons_succ])
          refine wpAnyH_take (i := 13) (oi := _) (v := .pointer (some ⟨gb, ob + i * 3, none⟩)) rfl (by kernel_rfl) (by kernel_rfl) (by kernel_rfl) (fun _ _ _ h => h) (Or.inl ⟨by rfl, ?_⟩) (by assumption) ?_
          · intro u' hSu
            (try simp only [List.getElem_toArray, List.getElem_cons_zero, List.getElem_cons_succ])
            go_simp
          (try simp only [List.getElem_toArray, List.getElem_cons_zero, List.getElem_cons_succ])
          (try simp only [Act.put, List.setIfInBounds_toArray, List.set_cons_zero, List.set_cons_succ])
          refine wpAnyH_take (i := 14) (oi := _) (v := .agg #[.bool fb.1, .string fb.2.1, .string fb.2.2]) rfl (by kernel_rfl) (by kernel_rfl) (by kernel_rfl) (fun _ _ _ h => h) (Or.inl ⟨by rfl, ?_⟩) (by assumption) ?_
          · intro u' hSu
            (try simp only [List.getElem_toArray, List.getElem_cons_zero, List.getElem_cons_succ])
            obtain ⟨s0, s1, s2, s3, s4, s5, s6, s7⟩ := hSu
            go_simp
          (try simp only [List.getElem_toArray, List.getElem_cons_zero, List.getElem_cons_succ])
          (try simp only [Act.put, List.setIfInBounds_toArray, List.set_cons_zero, List.set_cons_succ])
          refine wpAnyH_ready (rs := [0, 15]) (by kernel_rfl) (by simp) (AllReadyH.cons rfl ?_ (AllReadyH.cons rfl ?_ (AllReadyH.nil)))
          · intro K' hK'
            obtain ⟨k0, k1, k2, -⟩ := HSB.out.facts
            (try simp only [List.getElem_toArray, List.getElem_cons_zero])
            go_simp
            refine hK'.out _ _ hSd (fun _ => ?_)
            clear hK' K' k0 k1 k2
            (try simp only [List.getElem_toArray, List.getElem_cons_zero, List.getElem_cons_succ])
            (try simp only [Act.put, List.setIfInBounds_toArray, List.set_cons_zero, List.set_cons_succ])
            refine wpAnyH_ready (rs := [15]) (by kernel_rfl) (by simp) (AllReadyH.cons rfl ?_ (AllReadyH.nil))
            · intro K' hK'
              (try simp only [List.getElem_toArray, List.getElem_cons_zero, List.getElem_cons_succ])
              go_simp
              refine (HM1.out _).mono ?_
              rintro e q1 ⟨rfl, hb⟩
              replace HBr := hid (HBr.out.trans (hb.mono HBr.out.size))
              replace HSB := hid (HSB.out.below hb HSB.out.lt)
              refine hK'.out _ _ (HELD.out _ HBr.out) (fun hSe => ?_)
              clear hK' K' hSd
              have hSd := hSe
              clear hSe hb
              (try simp only [List.getElem_toArray, List.getElem_cons_zero, List.getElem_cons_succ])
              (try simp only [Act.put, List.setIfInBounds_toArray, List.set_cons_zero, List.set_cons_succ])
              refine wpAnyH_ready (rs := [16]) (by kernel_rfl) (by simp) (AllReadyH.cons rfl ?_ (AllReadyH.nil))
              · intro K' hK'
                (try simp only [List.getElem_toArray, List.getElem_cons_zero, List.getElem_cons_succ])
                go_simp
                refine (HM2.out _).mono ?_
                rintro e q2 ⟨rfl, hb⟩
                replace HBr := hid (HBr.out.trans (hb.mono HBr.out.size))
                replace HSB := hid (HSB.out.below hb HSB.out.lt)
                refine hK'.out _ _ (HELD.out _ HBr.out) (fun hSe => ?_)
                clear hK' K' hSd
                have hSd := hSe
                clear hSe hb
                (try simp only [List.getElem_toArray, List.getElem_cons_zero, List.getElem_cons_succ])
                (try simp only [Act.put, List.setIfInBounds_toArray, List.set_cons_zero, List.set_cons_succ])
                obtain ⟨k0, k1, k2, f0, f1, f2⟩ := HSB.out.facts
                refine wpAnyH_ready (rs := [17]) (by kernel_rfl) (by simp) (AllReadyH.cons rfl ?_ (AllReadyH.nil))
                · intro K' hK'
                  (try simp only [List.getElem_toArray, List.getElem_cons_zero, List.getElem_cons_succ])
                  go_simp
                  have HSN := hid (HSB.out.put (sgn (sumR F (i + 1))) (nu (sumR F (i + 1))) (de (sumR F (i + 1))))
                  have HBN := hid (below_put HBr.out hgs (.bool (sgn (sumR F (i + 1)))) (.string (nu (sumR F (i + 1)))) (.string (de (sumR F (i + 1)))))
                  refine hK'.out _ _ (HELD.out _ HBN.out) (fun _ => wpAnyH_done (by kernel_rfl) ?_ _)
                  clear hK' K' hSd k0 k1 k2 f0 f1 f2 HSB HBr
                  go_wp2
                  go_roundw
                  case rel => exact ⟨i + 1, by omega, by go_num, HSN, HBN⟩
                  case measure => simp [intOf]; omega
          · intro K' hK'
            (try simp only [List.getElem_toArray, List.getElem_cons_zero, List.getElem_cons_succ])
            go_simp
            refine (HM1.out _).mono ?_
            rintro e q1 ⟨rfl, hb⟩
            replace HBr := hid (HBr.out.trans (hb.mono HBr.out.size))
            replace HSB := hid (HSB.out.below hb HSB.out.lt)
            refine hK'.out _ _ (HELD.out _ HBr.out) (fun hSe => ?_)
            clear hK' K' hSd
            have hSd := hSe
            clear hSe hb
            (try simp only [List.getElem_toArray, List.getElem_cons_zero, List.getElem_cons_succ])
            (try simp only [Act.put, List.setIfInBounds_toArray, List.set_cons_zero, List.set_cons_succ])
            refine wpAnyH_ready (rs := [0]) (by kernel_rfl) (by simp) (AllReadyH.cons rfl ?_ (AllReadyH.nil))
            · intro K' hK'
              obtain ⟨k0, k1, k2, -⟩ := HSB.out.facts
              (try simp only [List.getElem_toArray, List.getElem_cons_zero])
              go_simp
              refine hK'.out _ _ hSd (fun _ => ?_)
              clear hK' K' k0 k1 k2
              (try simp only [List.getElem_toArray, List.getElem_cons_zero, List.getElem_cons_succ])
              (try simp only [Act.put, List.setIfInBounds_toArray, List.set_cons_zero, List.set_cons_succ])
              refine wpAnyH_ready (rs := [16]) (by kernel_rfl) (by simp) (AllReadyH.cons rfl ?_ (AllReadyH.nil))
              · intro K' hK'
                (try simp only [List.getElem_toArray, List.getElem_cons_zero, List.getElem_cons_succ])
                go_simp
                refine (HM2.out _).mono ?_
                rintro e q2 ⟨rfl, hb⟩
                replace HBr := hid (HBr.out.trans (hb.mono HBr.out.size))
                replace HSB := hid (HSB.out.below hb HSB.out.lt)
                refine hK'.out _ _ (HELD.out _ HBr.out) (fun hSe => ?_)
                clear hK' K' hSd
                have hSd := hSe
                clear hSe hb
                (try simp only [List.getElem_toArray, List.getElem_cons_zero, List.getElem_cons_succ])
                (try simp only [Act.put, List.setIfInBounds_toArray, List.set_cons_zero, List.set_cons_succ])
                obtain ⟨k0, k1, k2, f0, f1, f2⟩ := HSB.out.facts
                refine wpAnyH_ready (rs := [17]) (by kernel_rfl) (by simp) (AllReadyH.cons rfl ?_ (AllReadyH.nil))
                · intro K' hK'
                  (try simp only [List.getElem_toArray, List.getElem_cons_zero, List.getElem_cons_succ])
                  go_simp
                  have HSN := hid (HSB.out.put (sgn (sumR F (i + 1))) (nu (sumR F (i + 1))) (de (sumR F (i + 1))))
                  have HBN := hid (below_put HBr.out hgs (.bool (sgn (sumR F (i + 1)))) (.string (nu (sumR F (i + 1)))) (.string (de (sumR F (i + 1)))))
                  refine hK'.out _ _ (HELD.out _ HBN.out) (fun _ => wpAnyH_done (by kernel_rfl) ?_ _)
                  clear hK' K' hSd k0 k1 k2 f0 f1 f2 HSB HBr
                  go_wp2
                  go_roundw
                  case rel => exact ⟨i + 1, by omega, by go_num, HSN, HBN⟩
                  case measure => simp [intOf]; omega
        · obtain rfl : i = n := by omega
          rw [HME.out] at HSB
          obtain ⟨k0, k1, k2, -⟩ := HSB.out.facts
          obtain ⟨y0, y1, y2, -⟩ := (HPX.out.below HBr.out HPX.out.lt).facts
          simp only [qF] at y0 y1 y2
          generalize sgn h.seen = sn at *
          generalize nu h.seen = sx at *
          generalize de h.seen = sy at *
          go_wp2
          go_roundw
          case rel => exact ⟨t + 1, by omega, by go_num, HBr⟩
          case measure => simp [intOf]; omega
    · obtain rfl : t = L := by omega
      have hH9 := HHB.out.below HBt.out HHB.out.lt
      obtain ⟨z0, z1, z2⟩ := hH9.cells
      have hbp0 := HB9.out.trans (HBt.out.mono HB9.out.size)
      have HLS := hid HOK.out.lik_seen
      rw [HL.out] at HLS
      have HLE : Hid (∀ v : Nat → Nat, (∀ t, v t < n) → h.lik v t ≤ h.lik h.way t) := fun v hv => by
        have h9 := HOK.out.lik_le (v := v) (fun t => by rw [HSN.out]; exact hv t)
        rwa [HL.out] at h9
      have HQS : Hid (qw h.seen ≤ 1500 ∧ qw (h.lik h.way t) ≤ 1500 ∧ (∀ i, h.way i < n) ∧ ∀ v : Nat → Nat, (∀ t, v t < n) → qw (h.lik v t) ≤ 1500) := by
        have hw : ∀ i, h.way i < h.s := HOK.out.way_lt
        have h8 := HV.out.sm.L8
        rw [HL.out] at h8
        refine ⟨HV.out.sm.seen, (HV.out.sm.lik hw t (by rw [HL.out]; exact Nat.le_refl _)).qw (by omega), fun i => by rw [← HSN.out]; exact hw i, fun v hv => (HV.out.sm.lik (v := v) (fun t => by rw [HSN.out]; exact hv t) t (by rw [HL.out]; exact Nat.le_refl _)).qw (by omega)⟩
      go_wp2_with fail
      refine (HPA.out _ hbp0).mono ?_
      rintro e wp ⟨hbp, hcase⟩
      have HBp := hid (HBt.out.trans (hbp.mono HBt.out.size))
      have hH10 := hH9.below hbp hH9.lt
      clear z0 z1 z2 hbp0 HBt
      rcases hcase with ⟨hz, rfl⟩ | ⟨hnz, gw, rfl, hgw, hrw⟩
      · have HSZ := hid (HLS.out.1.1 hz)
        have hA10 := (Below.refl wp.heap.size wp).alloc (Nat.le_refl _) (FC false ⟨#[]⟩ ⟨#[]⟩)
        replace HBp := hid (HBp.out.trans (hA10.mono HBp.out.size))
        have HPp := hid (HPX.out.below HBp.out HPX.out.lt)
        rw [HSZ.out] at HPp
        have HWF := hid (HB5.out.trans ((HB9.out.trans (HBp.out.mono HB9.out.size)).mono HB5.out.size))
        clear hA10 hz hbp hH9 hH10
        go_upto_region 25 with fail
        generalize (wp.alloc (FC false ⟨#[]⟩ ⟨#[]⟩)) = W10 at *
        simp only [qF] at HPp
        refine wp_region_held_drew (S := fun u => u.cell? ⟨gP, 0, none⟩ = some (.bool (sgn 0)) ∧ u.cell? ⟨gP, 1, none⟩ = some (.string (nu 0)) ∧ u.cell? ⟨gP, 2, none⟩ = some (.string (de 0))) (by kernel_rfl) HPp.out.three' (fun hSd => ?_)
        replace HPp := hid HPp.out.drew
        have HWd := hid HWF.out.drew
        generalize W10.drew = u0 at *
        refine wpAnyH_take (i := 0) (oi := _) (v := .agg #[.bool (sgn 0), .string (nu 0), .string (de 0)]) rfl (by kernel_rfl) (by kernel_rfl) (by kernel_rfl) (fun _ _ _ h => h) (Or.inl ⟨by rfl, ?_⟩) (by assumption) ?_
        · intro u' hSu
          (try simp only [List.getElem_toArray, List.getElem_cons_zero])
          obtain ⟨s0, s1, s2⟩ := hSu
          go_simp
        (try simp only [List.getElem_toArray, List.getElem_cons_zero])
        (try simp only [Act.put, List.setIfInBounds_toArray, List.set_cons_zero, List.set_cons_succ])
        refine wpAnyH_ready (rs := [1]) (by kernel_rfl) (by simp) (AllReadyH.cons rfl ?_ (AllReadyH.nil))
        · intro K' hK'
          (try simp only [List.getElem_toArray, List.getElem_cons_zero, List.getElem_cons_succ])
          go_simp
          refine (HOF.out _).mono ?_
          rintro e v1 ⟨rfl, hb⟩
          replace HPp := hid (HPp.out.below hb HPp.out.lt)
          replace HWd := hid (HWd.out.trans (hb.mono HWd.out.size))
          refine hK'.out _ _ HPp.out.three' (fun hSe => ?_)
          clear hK' K' hSd hb
          (try simp only [List.getElem_toArray, List.getElem_cons_zero, List.getElem_cons_succ])
          (try simp only [Act.put, List.setIfInBounds_toArray, List.set_cons_zero, List.set_cons_succ])
          refine wpAnyH_take (i := 2) (oi := _) (v := .bool true) rfl (by kernel_rfl) (by kernel_rfl) (by kernel_rfl) (fun _ _ _ h => h) (Or.inl ⟨by rfl, ?_⟩) (by assumption) ?_
          · intro u' hSu
            (try simp only [List.getElem_toArray, List.getElem_cons_zero, List.getElem_cons_succ])
            go_simp
          (try simp only [List.getElem_toArray, List.getElem_cons_zero, List.getElem_cons_succ])
          (try simp only [Act.put, List.setIfInBounds_toArray, List.set_cons_zero, List.set_cons_succ])
          refine wpAnyH_done (by kernel_rfl) ?_ _
          clear hSe
          go_wp2
          go_ret
          exact ⟨rfl, HWd.out⟩
      · have HSZ : Hid (h.seen ≠ 0) := fun e => hnz (HLS.out.1.2 e)
        have hA10 := (Below.refl wp.heap.size wp).alloc (Nat.le_refl _) (FC (qF (h.lik h.way t)).1 (qF (h.lik h.way t)).2.1 (qF (h.lik h.way t)).2.2)
        have HQX := hid (Box.new wp (qF (h.lik h.way t)).1 (qF (h.lik h.way t)).2.1 (qF (h.lik h.way t)).2.2)
        replace HBp := hid (HBp.out.trans (hA10.mono HBp.out.size))
        have HPp := hid (HPX.out.below HBp.out HPX.out.lt)
        have HHp := hid (hH10.below hA10 hH10.lt)
        have HRW := hid (hrw.below hA10 hrw.lt)
        have HW5 := hid (HB9.out.trans (HBp.out.mono HB9.out.size))
        have HWF := hid (HB5.out.trans (HW5.out.mono HB5.out.size))
        have HNE : Hid (¬ (sgn h.seen = sgn 0 ∧ nu h.seen = nu 0 ∧ de h.seen = de 0)) := fun e => HSZ.out (qF_inj (by rw [qF, qF, e.1, e.2.1, e.2.2]))
        have hwl : ((List.range t).map h.way).length = t := by simp
        have HWV : Hid (∀ i (hi : i < ((List.range t).map h.way).length), h.way i = ((List.range t).map h.way)[i]) := fun i hi => by simp
        have HMW := hid (fun (U : World) (hU : Below (wp.alloc (FC (qF (h.lik h.way t)).1 (qF (h.lik h.way t)).2.1 (qF (h.lik h.way t)).2.2)).heap.size (wp.alloc (FC (qF (h.lik h.way t)).1 (qF (h.lik h.way t)).2.1 (qF (h.lik h.way t)).2.2)) U) => HWO.out U (HW5.out.trans (hU.mono HW5.out.size)) (some ⟨gw, 0, none⟩) t ((List.range t).map h.way) h.way ((HRW.out.below hU HRW.out.lt).ints) hwl HWV.out HQS.out.2.2.1)
        have HC27 : Hid (∃ j : Int, ¬ 0 < j ∧ ∀ U : World, Calls Tryz.prog 15 #[.agg #[.bool (sgn (h.lik h.way t)), .string (nu (h.lik h.way t)), .string (de (h.lik h.way t))], .agg #[.bool (sgn h.seen), .string (nu h.seen), .string (de h.seen)]] U fun e w' => e = .returned (.int .i64 j) ∧ Below U.heap.size U w') := by
          refine ⟨cmpQ (h.lik h.way t) h.seen, by have := cmp_le HLS.out.2; omega, fun U => ?_⟩
          have z1 := own_size (h.lik h.way t)
          have z2 := own_size h.seen
          have h9 := rCmpF_any (sgn (h.lik h.way t)) (sgn h.seen) (nu (h.lik h.way t)) (de (h.lik h.way t)) (nu h.seen) (de h.seen) U (by have := HQS.out.2.1; omega) (by have := HQS.out.1; omega)
          rw [val_own, val_own] at h9
          exact h9
        have HC37 : Hid (∀ v : Nat → Nat, (∀ i, v i < n) → ∃ j : Int, j ≤ 0 ∧ ∀ U : World, Calls Tryz.prog 15 #[.agg #[.bool (sgn (h.lik v t)), .string (nu (h.lik v t)), .string (de (h.lik v t))], .agg #[.bool (sgn (h.lik h.way t)), .string (nu (h.lik h.way t)), .string (de (h.lik h.way t))]] U fun e w' => e = .returned (.int .i64 j) ∧ Below U.heap.size U w') := fun v hv => by
          refine ⟨cmpQ (h.lik v t) (h.lik h.way t), cmp_le (HLE.out v hv), fun U => ?_⟩
          have z1 := own_size (h.lik v t)
          have z2 := own_size (h.lik h.way t)
          have h9 := rCmpF_any (sgn (h.lik v t)) (sgn (h.lik h.way t)) (nu (h.lik v t)) (de (h.lik v t)) (nu (h.lik h.way t)) (de (h.lik h.way t)) U (by have := HQS.out.2.2.2 v hv; omega) (by have := HQS.out.2.1; omega)
          rw [val_own, val_own] at h9
          exact h9
        obtain ⟨j27, hj27, hc27⟩ := HC27.out
        have HCC := hid hc27
        rw [show frV (qF (h.lik h.way t)) = .agg #[.bool (qF (h.lik h.way t)).1, .string (qF (h.lik h.way t)).2.1, .string (qF (h.lik h.way t)).2.2] from rfl]
        clear hA10 hnz hbp hH9 hH10 hrw hgw hwl hc27 HC27
        go_upto_region 25 with fail
        generalize (wp.alloc (FC (qF (h.lik h.way t)).1 (qF (h.lik h.way t)).2.1 (qF (h.lik h.way t)).2.2)) = W10 at *
        generalize wp.heap.size = gQ at *
        simp only [qF, frV] at HPp HQX HMW ⊢
        have HN9 : Hid (sgn h.seen = sgn 0 → (nu h.seen).toList = (nu 0).toList → ¬ (de h.seen).toList = (de 0).toList) := fun q1 q2 q3 => HNE.out ⟨q1, bytes_same q2, bytes_same q3⟩
        clear HNE
        have HBz : Hid (Below W10.heap.size W10 W10.drew) := (Below.refl _ W10).drew
        generalize sgn h.seen = sn at *
        generalize nu h.seen = sx at *
        generalize de h.seen = sy at *
        generalize sgn 0 = zn at *
        generalize nu 0 = zx at *
        generalize de 0 = zy at *
        have HELD27 : Hid (∀ u, Below W10.heap.size W10 u → u.cell? ⟨gP, 0, none⟩ = some (.bool sn) ∧ u.cell? ⟨gP, 1, none⟩ = some (.string sx) ∧ u.cell? ⟨gP, 2, none⟩ = some (.string sy) ∧ u.cell? ⟨gQ, 0, none⟩ = some (.bool (sgn (h.lik h.way t))) ∧ u.cell? ⟨gQ, 1, none⟩ = some (.string (nu (h.lik h.way t))) ∧ u.cell? ⟨gQ, 2, none⟩ = some (.string (de (h.lik h.way t))) ∧ u.cell? ⟨gH, 0, none⟩ = some (.slice a n ca) ∧ u.cell? ⟨gH, 1, none⟩ = some (.slice b n cb) ∧ u.cell? ⟨gH, 2, none⟩ = some (.slice c n cc)) := fun u hu => by
          obtain ⟨y0, y1, y2⟩ := (HHp.out.below hu HHp.out.lt).cells
          have k1 := HPp.out.below hu HPp.out.lt
          have k2 := HQX.out.below hu HQX.out.lt
          exact ⟨k1.c0, k1.c1, k1.c2, k2.c0, k2.c1, k2.c2, y0, y1, y2⟩
        refine wp_region_held_drew (S := fun u => u.cell? ⟨gP, 0, none⟩ = some (.bool sn) ∧ u.cell? ⟨gP, 1, none⟩ = some (.string sx) ∧ u.cell? ⟨gP, 2, none⟩ = some (.string sy) ∧ u.cell? ⟨gQ, 0, none⟩ = some (.bool (sgn (h.lik h.way t))) ∧ u.cell? ⟨gQ, 1, none⟩ = some (.string (nu (h.lik h.way t))) ∧ u.cell? ⟨gQ, 2, none⟩ = some (.string (de (h.lik h.way t))) ∧ u.cell? ⟨gH, 0, none⟩ = some (.slice a n ca) ∧ u.cell? ⟨gH, 1, none⟩ = some (.slice b n cb) ∧ u.cell? ⟨gH, 2, none⟩ = some (.slice c n cc)) (by kernel_rfl) (HELD27.out _ HBz.out) (fun hSd => ?_)
        generalize W10.drew = u0 at *
        refine wpAnyH_take (i := 0) (oi := _) (v := .agg #[.bool sn, .string sx, .string sy]) rfl (by kernel_rfl) (by kernel_rfl) (by kernel_rfl) (fun _ _ _ h => h) (Or.inl ⟨by rfl, ?_⟩) (by assumption) ?_
        · intro u' hSu
          (try simp only [List.getElem_toArray, List.getElem_cons_zero])
          obtain ⟨s0, s1, s2, s3, s4, s5, s6, s7, s8⟩ := hSu
          go_simp
        (try simp only [List.getElem_toArray, List.getElem_cons_zero])
        (try simp only [Act.put, List.setIfInBounds_toArray, List.set_cons_zero, List.set_cons_succ])
        refine wpAnyH_ready (rs := [1]) (by kernel_rfl) (by simp) (AllReadyH.cons rfl ?_ (AllReadyH.nil))
        · intro K' hK'
          (try simp only [List.getElem_toArray, List.getElem_cons_zero, List.getElem_cons_succ])
          go_simp
          refine (HOF.out _).mono ?_
          rintro e v1 ⟨rfl, hb⟩
          replace HBz := hid (HBz.out.trans (hb.mono HBz.out.size))
          refine hK'.out _ _ (HELD27.out _ HBz.out) (fun hSe => ?_)
          clear hK' K' hSd
          have hSd := hSe
          clear hSe hb
          (try simp only [List.getElem_toArray, List.getElem_cons_zero, List.getElem_cons_succ])
          (try simp only [Act.put, List.setIfInBounds_toArray, List.set_cons_zero, List.set_cons_succ])
          refine wpAnyH_take (i := 2) (oi := _) (v := .bool false) rfl (by kernel_rfl) (by kernel_rfl) (by kernel_rfl) (fun _ _ _ h => h) (Or.inl ⟨by rfl, ?_⟩) (by assumption) ?_
          · intro u' hSu
            (try simp only [List.getElem_toArray, List.getElem_cons_zero, List.getElem_cons_succ])
            go_simp
            exact HN9.out
          (try simp only [List.getElem_toArray, List.getElem_cons_zero, List.getElem_cons_succ])
          (try simp only [Act.put, List.setIfInBounds_toArray, List.set_cons_zero, List.set_cons_succ])
          refine wpAnyH_done (by kernel_rfl) ?_ _
          clear hSd
          go_upto_region 27 with fail
          replace HBz := hid HBz.out.drew
          refine wp_region_held_drew (S := fun u => u.cell? ⟨gP, 0, none⟩ = some (.bool sn) ∧ u.cell? ⟨gP, 1, none⟩ = some (.string sx) ∧ u.cell? ⟨gP, 2, none⟩ = some (.string sy) ∧ u.cell? ⟨gQ, 0, none⟩ = some (.bool (sgn (h.lik h.way t))) ∧ u.cell? ⟨gQ, 1, none⟩ = some (.string (nu (h.lik h.way t))) ∧ u.cell? ⟨gQ, 2, none⟩ = some (.string (de (h.lik h.way t))) ∧ u.cell? ⟨gH, 0, none⟩ = some (.slice a n ca) ∧ u.cell? ⟨gH, 1, none⟩ = some (.slice b n cb) ∧ u.cell? ⟨gH, 2, none⟩ = some (.slice c n cc)) (by kernel_rfl) (HELD27.out _ HBz.out) (fun hSd => ?_)
          generalize v1.drew = v1d at *
          refine wpAnyH_take (i := 0) (oi := _) (v := .int .i64 0) rfl (by kernel_rfl) (by kernel_rfl) (by kernel_rfl) (fun _ _ _ h => h) (Or.inl ⟨by rfl, ?_⟩) (by assumption) ?_
          · intro u' hSu
            (try simp only [List.getElem_toArray, List.getElem_cons_zero])
            go_simp
          (try simp only [List.getElem_toArray, List.getElem_cons_zero])
          (try simp only [Act.put, List.setIfInBounds_toArray, List.set_cons_zero, List.set_cons_succ])
          refine wpAnyH_take (i := 1) (oi := _) (v := .bool false) rfl (by kernel_rfl) (by kernel_rfl) (by kernel_rfl) (fun _ _ _ h => h) (Or.inl ⟨by rfl, ?_⟩) (by assumption) ?_
          · intro u' hSu
            (try simp only [List.getElem_toArray, List.getElem_cons_zero, List.getElem_cons_succ])
            go_simp
          (try simp only [List.getElem_toArray, List.getElem_cons_zero, List.getElem_cons_succ])
          (try simp only [Act.put, List.setIfInBounds_toArray, List.set_cons_zero, List.set_cons_succ])
          refine wpAnyH_take (i := 2) (oi := _) (v := .bool false) rfl (by kernel_rfl) (by kernel_rfl) (by kernel_rfl) (fun _ _ _ h => h) (Or.inl ⟨by rfl, ?_⟩) (by assumption) ?_
          · intro u' hSu
            (try simp only [List.getElem_toArray, List.getElem_cons_zero, List.getElem_cons_succ])
            go_simp
          (try simp only [List.getElem_toArray, List.getElem_cons_zero, List.getElem_cons_succ])
          (try simp only [Act.put, List.setIfInBounds_toArray, List.set_cons_zero, List.set_cons_succ])
          refine wpAnyH_take (i := 3) (oi := _) (v := .slice (some ⟨gw, 0, none⟩) t t) rfl (by kernel_rfl) (by kernel_rfl) (by kernel_rfl) (fun _ _ _ h => h) (Or.inl ⟨by rfl, ?_⟩) (by assumption) ?_
          · intro u' hSu
            (try simp only [List.getElem_toArray, List.getElem_cons_zero, List.getElem_cons_succ])
            go_simp
          (try simp only [List.getElem_toArray, List.getElem_cons_zero, List.getElem_cons_succ])
          (try simp only [Act.put, List.setIfInBounds_toArray, List.set_cons_zero, List.set_cons_succ])
          refine wpAnyH_take (i := 4) (oi := _) (v := .int .i64 (t : Nat)) rfl (by kernel_rfl) (by kernel_rfl) (by kernel_rfl) (fun _ _ _ h => h) (Or.inl ⟨by rfl, ?_⟩) (by assumption) ?_
          · intro u' hSu
            (try simp only [List.getElem_toArray, List.getElem_cons_zero, List.getElem_cons_succ])
            go_simp
          (try simp only [List.getElem_toArray, List.getElem_cons_zero, List.getElem_cons_succ])
          (try simp only [Act.put, List.setIfInBounds_toArray, List.set_cons_zero, List.set_cons_succ])
          refine wpAnyH_take (i := 5) (oi := _) (v := .slice dq t cq) rfl (by kernel_rfl) (by kernel_rfl) (by kernel_rfl) (fun _ _ _ h => h) (Or.inl ⟨by rfl, ?_⟩) (by assumption) ?_
          · intro u' hSu
            (try simp only [List.getElem_toArray, List.getElem_cons_zero, List.getElem_cons_succ])
            go_simp
          (try simp only [List.getElem_toArray, List.getElem_cons_zero, List.getElem_cons_succ])
          (try simp only [Act.put, List.setIfInBounds_toArray, List.set_cons_zero, List.set_cons_succ])
          refine wpAnyH_take (i := 6) (oi := _) (v := .int .i64 (t : Nat)) rfl (by kernel_rfl) (by kernel_rfl) (by kernel_rfl) (fun _ _ _ h => h) (Or.inl ⟨by rfl, ?_⟩) (by assumption) ?_
          · intro u' hSu
            (try simp only [List.getElem_toArray, List.getElem_cons_zero, List.getElem_cons_succ])
            go_simp
          (try simp only [List.getElem_toArray, List.getElem_cons_zero, List.getElem_cons_succ])
          (try simp only [Act.put, List.setIfInBounds_toArray, List.set_cons_zero, List.set_cons_succ])
          refine wpAnyH_take (i := 7) (oi := _) (v := .bool false) rfl (by kernel_rfl) (by kernel_rfl) (by kernel_rfl) (fun _ _ _ h => h) (Or.inl ⟨by rfl, ?_⟩) (by assumption) ?_
          · intro u' hSu
            (try simp only [List.getElem_toArray, List.getElem_cons_zero, List.getElem_cons_succ])
            go_simp
          (try simp only [List.getElem_toArray, List.getElem_cons_zero, List.getElem_cons_succ])
          (try simp only [Act.put, List.setIfInBounds_toArray, List.set_cons_zero, List.set_cons_succ])
          refine wpAnyH_take (i := 8) (oi := _) (v := .bool false) rfl (by kernel_rfl) (by kernel_rfl) (by kernel_rfl) (fun _ _ _ h => h) (Or.inl ⟨by rfl, ?_⟩) (by assumption) ?_
          · intro u' hSu
            (try simp only [List.getElem_toArray, List.getElem_cons_zero, List.getElem_cons_succ])
            go_simp
          (try simp only [List.getElem_toArray, List.getElem_cons_zero, List.getElem_cons_succ])
          (try simp only [Act.put, List.setIfInBounds_toArray, List.set_cons_zero, List.set_cons_succ])
          refine wpAnyH_take (i := 9) (oi := _) (v := .bool false) rfl (by kernel_rfl) (by kernel_rfl) (by kernel_rfl) (fun _ _ _ h => h) (Or.inl ⟨by rfl, ?_⟩) (by assumption) ?_
          · intro u' hSu
            (try simp only [List.getElem_toArray, List.getElem_cons_zero, List.getElem_cons_succ])
            go_simp
          (try simp only [List.getElem_toArray, List.getElem_cons_zero, List.getElem_cons_succ])
          (try simp only [Act.put, List.setIfInBounds_toArray, List.set_cons_zero, List.set_cons_succ])
          refine wpAnyH_take (i := 10) (oi := _) (v := .agg #[.bool (sgn (h.lik h.way t)), .string (nu (h.lik h.way t)), .string (de (h.lik h.way t))]) rfl (by kernel_rfl) (by kernel_rfl) (by kernel_rfl) (fun _ _ _ h => h) (Or.inl ⟨by rfl, ?_⟩) (by assumption) ?_
          · intro u' hSu
            (try simp only [List.getElem_toArray, List.getElem_cons_zero, List.getElem_cons_succ])
            obtain ⟨s0, s1, s2, s3, s4, s5, s6, s7, s8⟩ := hSu
            go_simp
          (try simp only [List.getElem_toArray, List.getElem_cons_zero, List.getElem_cons_succ])
          (try simp only [Act.put, List.setIfInBounds_toArray, List.set_cons_zero, List.set_cons_succ])
          refine wpAnyH_take (i := 11) (oi := _) (v := .agg #[.slice a n ca, .slice b n cb, .slice c n cc]) rfl (by kernel_rfl) (by kernel_rfl) (by kernel_rfl) (fun _ _ _ h => h) (Or.inl ⟨by rfl, ?_⟩) (by assumption) ?_
          · intro u' hSu
            (try simp only [List.getElem_toArray, List.getElem_cons_zero, List.getElem_cons_succ])
            obtain ⟨s0, s1, s2, s3, s4, s5, s6, s7, s8⟩ := hSu
            go_simp
          (try simp only [List.getElem_toArray, List.getElem_cons_zero, List.getElem_cons_succ])
          (try simp only [Act.put, List.setIfInBounds_toArray, List.set_cons_zero, List.set_cons_succ])
          refine wpAnyH_take (i := 12) (oi := _) (v := .slice (some ⟨gw, 0, none⟩) t t) rfl (by kernel_rfl) (by kernel_rfl) (by kernel_rfl) (fun _ _ _ h => h) (Or.inl ⟨by rfl, ?_⟩) (by assumption) ?_
          · intro u' hSu
            (try simp only [List.getElem_toArray, List.getElem_cons_zero, List.getElem_cons_succ])
            go_simp
          (try simp only [List.getElem_toArray, List.getElem_cons_zero, List.getElem_cons_succ])
          (try simp only [Act.put, List.setIfInBounds_toArray, List.set_cons_zero, List.set_cons_succ])
          refine wpAnyH_take (i := 13) (oi := _) (v := .slice dq t cq) rfl (by kernel_rfl) (by kernel_rfl) (by kernel_rfl) (fun _ _ _ h => h) (Or.inl ⟨by rfl, ?_⟩) (by assumption) ?_
          · intro u' hSu
            (try simp only [List.getElem_toArray, List.getElem_cons_zero, List.getElem_cons_succ])
            go_simp
          (try simp only [List.getElem_toArray, List.getElem_cons_zero, List.getElem_cons_succ])
          (try simp only [Act.put, List.setIfInBounds_toArray, List.set_cons_zero, List.set_cons_succ])
          refine wpAnyH_ready (rs := [14]) (by kernel_rfl) (by simp) (AllReadyH.cons rfl ?_ (AllReadyH.nil))
          · intro K' hK'
            (try simp only [List.getElem_toArray, List.getElem_cons_zero, List.getElem_cons_succ])
            go_simp
            refine (HMW.out _ HBz.out).mono ?_
            rintro e v2 ⟨rfl, hb⟩
            replace HBz := hid (HBz.out.trans (hb.mono HBz.out.size))
            refine hK'.out _ _ (HELD27.out _ HBz.out) (fun hSe => ?_)
            clear hK' K' hSd
            have hSd := hSe
            clear hSe hb
            (try simp only [List.getElem_toArray, List.getElem_cons_zero, List.getElem_cons_succ])
            (try simp only [Act.put, List.setIfInBounds_toArray, List.set_cons_zero, List.set_cons_succ])
            refine wpAnyH_take (i := 15) (oi := _) (v := .bool false) rfl (by kernel_rfl) (by kernel_rfl) (by kernel_rfl) (fun _ _ _ h => h) (Or.inl ⟨by rfl, ?_⟩) (by assumption) ?_
            · intro u' hSu
              (try simp only [List.getElem_toArray, List.getElem_cons_zero, List.getElem_cons_succ])
              go_simp
            (try simp only [List.getElem_toArray, List.getElem_cons_zero, List.getElem_cons_succ])
            (try simp only [Act.put, List.setIfInBounds_toArray, List.set_cons_zero, List.set_cons_succ])
            refine wpAnyH_take (i := 16) (oi := _) (v := .bool false) rfl (by kernel_rfl) (by kernel_rfl) (by kernel_rfl) (fun _ _ _ h => h) (Or.inl ⟨by rfl, ?_⟩) (by assumption) ?_
            · intro u' hSu
              (try simp only [List.getElem_toArray, List.getElem_cons_zero, List.getElem_cons_succ])
              go_simp
            (try simp only [List.getElem_toArray, List.getElem_cons_zero, List.getElem_cons_succ])
            (try simp only [Act.put, List.setIfInBounds_toArray, List.set_cons_zero, List.set_cons_succ])
            refine wpAnyH_take (i := 17) (oi := _) (v := .bool false) rfl (by kernel_rfl) (by kernel_rfl) (by kernel_rfl) (fun _ _ _ h => h) (Or.inl ⟨by rfl, ?_⟩) (by assumption) ?_
            · intro u' hSu
              (try simp only [List.getElem_toArray, List.getElem_cons_zero, List.getElem_cons_succ])
              go_simp
            (try simp only [List.getElem_toArray, List.getElem_cons_zero, List.getElem_cons_succ])
            (try simp only [Act.put, List.setIfInBounds_toArray, List.set_cons_zero, List.set_cons_succ])
            refine wpAnyH_take (i := 18) (oi := _) (v := .agg #[.bool (sgn (h.lik h.way t)), .string (nu (h.lik h.way t)), .string (de (h.lik h.way t))]) rfl (by kernel_rfl) (by kernel_rfl) (by kernel_rfl) (fun _ _ _ h => h) (Or.inl ⟨by rfl, ?_⟩) (by assumption) ?_
            · intro u' hSu
              (try simp only [List.getElem_toArray, List.getElem_cons_zero, List.getElem_cons_succ])
              obtain ⟨s0, s1, s2, s3, s4, s5, s6, s7, s8⟩ := hSu
              go_simp
            (try simp only [List.getElem_toArray, List.getElem_cons_zero, List.getElem_cons_succ])
            (try simp only [Act.put, List.setIfInBounds_toArray, List.set_cons_zero, List.set_cons_succ])
            refine wpAnyH_take (i := 19) (oi := _) (v := .agg #[.bool sn, .string sx, .string sy]) rfl (by kernel_rfl) (by kernel_rfl) (by kernel_rfl) (fun _ _ _ h => h) (Or.inl ⟨by rfl, ?_⟩) (by assumption) ?_
            · intro u' hSu
              (try simp only [List.getElem_toArray, List.getElem_cons_zero, List.getElem_cons_succ])
              obtain ⟨s0, s1, s2, s3, s4, s5, s6, s7, s8⟩ := hSu
              go_simp
            (try simp only [List.getElem_toArray, List.getElem_cons_zero, List.getElem_cons_succ])
            (try simp only [Act.put, List.setIfInBounds_toArray, List.set_cons_zero, List.set_cons_succ])
            refine wpAnyH_ready (rs := [20]) (by kernel_rfl) (by simp) (AllReadyH.cons rfl ?_ (AllReadyH.nil))
            · intro K' hK'
              (try simp only [List.getElem_toArray, List.getElem_cons_zero, List.getElem_cons_succ])
              go_simp
              refine (HCC.out _).mono ?_
              rintro e v3 ⟨rfl, hb⟩
              replace HBz := hid (HBz.out.trans (hb.mono HBz.out.size))
              refine hK'.out _ _ (HELD27.out _ HBz.out) (fun hSe => ?_)
              clear hK' K' hSd
              have hSd := hSe
              clear hSe hb
              (try simp only [List.getElem_toArray, List.getElem_cons_zero, List.getElem_cons_succ])
              (try simp only [Act.put, List.setIfInBounds_toArray, List.set_cons_zero, List.set_cons_succ])
              refine wpAnyH_take (i := 21) (oi := _) (v := .bool false) rfl (by kernel_rfl) (by kernel_rfl) (by kernel_rfl) (fun _ _ _ h => h) (Or.inl ⟨by rfl, ?_⟩) (by assumption) ?_
              · intro u' hSu
                (try simp only [List.getElem_toArray, List.getElem_cons_zero, List.getElem_cons_succ])
                go_simp
              (try simp only [List.getElem_toArray, List.getElem_cons_zero, List.getElem_cons_succ])
              (try simp only [Act.put, List.setIfInBounds_toArray, List.set_cons_zero, List.set_cons_succ])
              refine wpAnyH_take (i := 22) (oi := _) (v := .bool false) rfl (by kernel_rfl) (by kernel_rfl) (by kernel_rfl) (fun _ _ _ h => h) (Or.inl ⟨by rfl, ?_⟩) (by assumption) ?_
              · intro u' hSu
                (try simp only [List.getElem_toArray, List.getElem_cons_zero, List.getElem_cons_succ])
                go_simp
              (try simp only [List.getElem_toArray, List.getElem_cons_zero, List.getElem_cons_succ])
              (try simp only [Act.put, List.setIfInBounds_toArray, List.set_cons_zero, List.set_cons_succ])
              refine wpAnyH_done (by kernel_rfl) ?_ _
              clear hSd
              go_wp2_with fail
              generalize v3 = Wl at *
              go_loopw [24, 25] (fun ov iv wr => ∃ (i : Nat) (V : List Nat), i ≤ t ∧ iv = .int .i64 i ∧ Hid (V.length = i ∧ ∀ x ∈ V, x < n) ∧ Hid (RwI wr W10.heap.size ov (iL V)) ∧ Hid (Below W10.heap.size W10 wr)) (fun _ iv _ => t - (intOf iv).toNat)
              case atStart => exact ⟨0, [], Nat.zero_le _, rfl, ⟨rfl, fun x hx => by cases hx⟩, RwI.emptyB _ _, HBz⟩
              case round =>
                obtain ⟨i, V, hi, rfl, HVI, HXV, HBv⟩ := hrel
                clear HBz
                by_cases hlt : i < t
                · have hnI : (0 : Int) < (n : Int) := by omega
                  have hnz : ¬ (n : Int) = 0 := by omega
                  by_cases hw0 : 0 < X4.length
                  · obtain ⟨k, hk⟩ : ∃ k, k = i % X4.length := ⟨_, rfl⟩
                    have hkl : k < X4.length := by rw [hk]; exact Nat.mod_lt _ hw0
                    have hrem : (i : Int) % (X4.length : Int) = (k : Int) := by rw [hk, Int.natCast_emod]
                    have hrem2 : IntKind.i64.wrap ((i : Int) % (X4.length : Int)) = (k : Int) := by rw [hrem, IntKind.wrap_i64]; omega
                    have hwg : (0 : Int) < (X4.length : Int) := by omega
                    have hwne : ¬ (X4.length : Int) = 0 := by omega
                    obtain ⟨g4, o4, rfl, hg4, c4'⟩ := (HX4.out.below (HWF.out.trans (HBv.out.mono HWF.out.size))) k hkl
                    have HPT := hid (fun U => HPK.out X4[k] (HR4.out X4[k] (List.getElem_mem hkl)) U)
                    have hpl := HPL.out X4[k]
                    generalize X4[k] = xk at *
                    generalize pickN xk n = p at *
                    have hpm : (p : Int) % (n : Int) = (p : Int) := Int.emod_eq_of_lt (by omega) (by omega)
                    have hpm2 : IntKind.i64.wrap (p : Int) = (p : Int) := by rw [IntKind.wrap_i64]; omega
                    clear hk
                    go_wp2_with fail
                    refine (HPT.out _).mono ?_
                    rintro e wx ⟨rfl, hbx⟩
                    have HX1 := hid (HXV.out.below hbx)
                    have HB1 := hid (HBv.out.trans (hbx.mono HBv.out.size))
                    have HXA := hid (HX1.out.below ((Below.refl _ wx).alloc (Nat.le_refl _) (.cells #[.int .i64 (p : Int)] 3)))
                    have HBA := hid (HB1.out.alloc HB1.out.size (.cells #[.int .i64 (p : Int)] 3))
                    have HIA := hid (one_int wx (p : Int))
                    have hbs : W10.heap.size ≤ (wx.alloc (.cells #[.int .i64 (p : Int)] 3)).heap.size := HBA.out.size
                    have hil : (iL V).length = i := by rw [iL_length]; exact HVI.out.1
                    have HSU := hid (iL_sum_snoc V p)
                    have HWT : Hid ((V ++ [p]).length = i + 1 ∧ ∀ x ∈ V ++ [p], x < n) := ⟨by simp [HVI.out.1], fun a ha => by rcases List.mem_append.1 ha with ha | ha; exact HVI.out.2 a ha; rw [List.mem_singleton.1 ha]; exact hpl⟩
                    clear hbx HXV HBv HX1 HB1
                    go_wp2_with (at_builtin; refine wpList_append_ints rfl _ _ rfl W10.heap.size _ (iL V) [(p : Int)] rfl HXA.out (some ⟨wx.heap.size, 0, none⟩) 1 rfl HIA.out (fun e => by cases e) (by simp; omega) hbs ?_; intro v' w9' hr3 hg3; have HB3 := hid (HBA.out.grown hg3 hbs (fun k e => HXA.out.own k e)))
                    go_roundw
                    case rel => exact ⟨i + 1, V ++ [p], by omega, by go_num, HWT, by rw [HSU.out]; exact hr3, HB3⟩
                    case measure => simp [intOf]; omega
                  · have hwg : ¬ (0 : Int) < (X4.length : Int) := by omega
                    obtain ⟨p, hp⟩ : ∃ p, p = i % n := ⟨_, rfl⟩
                    have hpl : p < n := by rw [hp]; exact Nat.mod_lt _ (by omega)
                    have hpm : (i : Int) % (n : Int) = (p : Int) := by rw [hp, Int.natCast_emod]
                    have hpm2 : IntKind.i64.wrap (p : Int) = (p : Int) := by rw [IntKind.wrap_i64]; omega
                    have hbx := Below.refl wr.heap.size wr
                    obtain ⟨wx, hwx⟩ : ∃ wx, wx = wr := ⟨_, rfl⟩
                    rw [← hwx] at hbx ⊢
                    clear hp
                    have hbx2 : Below wr.heap.size wr wx := by rw [hwx]; exact Below.refl _ _
                    clear hbx hwx
                    have hbx := hbx2
                    clear hbx2
                    have HX1 := hid (HXV.out.below hbx)
                    have HB1 := hid (HBv.out.trans (hbx.mono HBv.out.size))
                    have HXA := hid (HX1.out.below ((Below.refl _ wx).alloc (Nat.le_refl _) (.cells #[.int .i64 (p : Int)] 3)))
                    have HBA := hid (HB1.out.alloc HB1.out.size (.cells #[.int .i64 (p : Int)] 3))
                    have HIA := hid (one_int wx (p : Int))
                    have hbs : W10.heap.size ≤ (wx.alloc (.cells #[.int .i64 (p : Int)] 3)).heap.size := HBA.out.size
                    have hil : (iL V).length = i := by rw [iL_length]; exact HVI.out.1
                    have HSU := hid (iL_sum_snoc V p)
                    have HWT : Hid ((V ++ [p]).length = i + 1 ∧ ∀ x ∈ V ++ [p], x < n) := ⟨by simp [HVI.out.1], fun a ha => by rcases List.mem_append.1 ha with ha | ha; exact HVI.out.2 a ha; rw [List.mem_singleton.1 ha]; exact hpl⟩
                    clear hbx HXV HBv HX1 HB1
                    go_wp2_with (at_builtin; refine wpList_append_ints rfl _ _ rfl W10.heap.size _ (iL V) [(p : Int)] rfl HXA.out (some ⟨wx.heap.size, 0, none⟩) 1 rfl HIA.out (fun e => by cases e) (by simp; omega) hbs ?_; intro v' w9' hr3 hg3; have HB3 := hid (HBA.out.grown hg3 hbs (fun k e => HXA.out.own k e)))
                    go_roundw
                    case rel => exact ⟨i + 1, V ++ [p], by omega, by go_num, HWT, by rw [HSU.out]; exact hr3, HB3⟩
                    case measure => simp [intOf]; omega
                · obtain rfl : i = t := by omega
                  obtain ⟨dv, cv, ev, hvi⟩ := HXV.out.ints
                  rw [iL_length, HVI.out.1] at ev
                  subst ev
                  have hvv : ∀ k (hk : k < V.length), (fun j : Nat => V[j]?.getD 0) k = V[k] := fun k hk => by simp [hk]
                  have hvn : ∀ k, (fun j : Nat => V[j]?.getD 0) k < n := fun k => by
                    by_cases hk : k < V.length
                    · rw [hvv k hk]; exact HVI.out.2 _ (List.getElem_mem hk)
                    · simp [List.getElem?_eq_none (Nat.le_of_not_lt hk)]; omega
                  obtain ⟨j37, hj37, hc37⟩ := HC37.out _ hvn
                  have HC := hid hc37
                  have HWW := hid hvi
                  have hbw5 := HW5.out
                  have HW37 := hid (fun (U : World) (hU : Below wr.heap.size wr U) => HWO.out U (hbw5.trans ((HBv.out.trans (hU.mono HBv.out.size)).mono hbw5.size)) dv cv V (fun j : Nat => V[j]?.getD 0) (HWW.out.below hU) HVI.out.1 hvv hvn)
                  simp only [qF, frV] at HW37
                  generalize (fun j : Nat => V[j]?.getD 0) = v at *
                  clear hvv hvn hc37 hvi hbw5
                  have HELD37 : Hid (∀ u, Below wr.heap.size wr u → u.cell? ⟨gP, 0, none⟩ = some (.bool sn) ∧ u.cell? ⟨gP, 1, none⟩ = some (.string sx) ∧ u.cell? ⟨gP, 2, none⟩ = some (.string sy) ∧ u.cell? ⟨gQ, 0, none⟩ = some (.bool (sgn (h.lik h.way i))) ∧ u.cell? ⟨gQ, 1, none⟩ = some (.string (nu (h.lik h.way i))) ∧ u.cell? ⟨gQ, 2, none⟩ = some (.string (de (h.lik h.way i))) ∧ u.cell? ⟨gH, 0, none⟩ = some (.slice a n ca) ∧ u.cell? ⟨gH, 1, none⟩ = some (.slice b n cb) ∧ u.cell? ⟨gH, 2, none⟩ = some (.slice c n cc)) := fun u hu => HELD27.out u (HBv.out.trans (hu.mono HBv.out.size))
                  have HWF2 := hid (HWF.out.trans (HBv.out.mono HWF.out.size))
                  clear HELD27 HWF
                  have HELD27 := HELD37
                  have HWF := HWF2
                  clear HELD37 HWF2
                  go_upto_region 37 with fail
                  have HBz : Hid (Below wr.heap.size wr wr.drew) := (Below.refl _ wr).drew
                  refine wp_region_held_drew (S := fun u => u.cell? ⟨gP, 0, none⟩ = some (.bool sn) ∧ u.cell? ⟨gP, 1, none⟩ = some (.string sx) ∧ u.cell? ⟨gP, 2, none⟩ = some (.string sy) ∧ u.cell? ⟨gQ, 0, none⟩ = some (.bool (sgn (h.lik h.way i))) ∧ u.cell? ⟨gQ, 1, none⟩ = some (.string (nu (h.lik h.way i))) ∧ u.cell? ⟨gQ, 2, none⟩ = some (.string (de (h.lik h.way i))) ∧ u.cell? ⟨gH, 0, none⟩ = some (.slice a n ca) ∧ u.cell? ⟨gH, 1, none⟩ = some (.slice b n cb) ∧ u.cell? ⟨gH, 2, none⟩ = some (.slice c n cc)) (by kernel_rfl) (HELD27.out _ HBz.out) (fun hSd => ?_)
                  generalize wr.drew = x0 at *
                  refine wpAnyH_take (i := 0) (oi := _) (v := .agg #[.slice a n ca, .slice b n cb, .slice c n cc]) rfl (by kernel_rfl) (by kernel_rfl) (by kernel_rfl) (fun _ _ _ h => h) (Or.inl ⟨by rfl, ?_⟩) (by assumption) ?_
                  · intro u' hSu
                    (try simp only [List.getElem_toArray, List.getElem_cons_zero])
                    obtain ⟨s0, s1, s2, s3, s4, s5, s6, s7, s8⟩ := hSu
                    go_simp
                  (try simp only [List.getElem_toArray, List.getElem_cons_zero])
                  (try simp only [Act.put, List.setIfInBounds_toArray, List.set_cons_zero, List.set_cons_succ])
                  refine wpAnyH_take (i := 1) (oi := _) (v := .slice dv i cv) rfl (by kernel_rfl) (by kernel_rfl) (by kernel_rfl) (fun _ _ _ h => h) (Or.inl ⟨by rfl, ?_⟩) (by assumption) ?_
                  · intro u' hSu
                    (try simp only [List.getElem_toArray, List.getElem_cons_zero, List.getElem_cons_succ])
                    go_simp
                  (try simp only [List.getElem_toArray, List.getElem_cons_zero, List.getElem_cons_succ])
                  (try simp only [Act.put, List.setIfInBounds_toArray, List.set_cons_zero, List.set_cons_succ])
                  refine wpAnyH_take (i := 2) (oi := _) (v := .slice dq i cq) rfl (by kernel_rfl) (by kernel_rfl) (by kernel_rfl) (fun _ _ _ h => h) (Or.inl ⟨by rfl, ?_⟩) (by assumption) ?_
                  · intro u' hSu
                    (try simp only [List.getElem_toArray, List.getElem_cons_zero, List.getElem_cons_succ])
                    go_simp
                  (try simp only [List.getElem_toArray, List.getElem_cons_zero, List.getElem_cons_succ])
                  (try simp only [Act.put, List.setIfInBounds_toArray, List.set_cons_zero, List.set_cons_succ])
                  refine wpAnyH_take (i := 4) (oi := _) (v := .agg #[.bool (sgn (h.lik h.way i)), .string (nu (h.lik h.way i)), .string (de (h.lik h.way i))]) rfl (by kernel_rfl) (by kernel_rfl) (by kernel_rfl) (fun _ _ _ h => h) (Or.inl ⟨by rfl, ?_⟩) (by assumption) ?_
                  · intro u' hSu
                    (try simp only [List.getElem_toArray, List.getElem_cons_zero, List.getElem_cons_succ])
                    obtain ⟨s0, s1, s2, s3, s4, s5, s6, s7, s8⟩ := hSu
                    go_simp
                  (try simp only [List.getElem_toArray, List.getElem_cons_zero, List.getElem_cons_succ])
                  (try simp only [Act.put, List.setIfInBounds_toArray, List.set_cons_zero, List.set_cons_succ])
                  refine wpAnyH_ready (rs := [3]) (by kernel_rfl) (by simp) (AllReadyH.cons rfl ?_ (AllReadyH.nil))
                  · intro K' hK'
                    (try simp only [List.getElem_toArray, List.getElem_cons_zero, List.getElem_cons_succ])
                    go_simp
                    refine (HW37.out _ HBz.out).mono ?_
                    rintro e x1 ⟨rfl, hb⟩
                    replace HBz := hid (HBz.out.trans (hb.mono HBz.out.size))
                    refine hK'.out _ _ (HELD27.out _ HBz.out) (fun hSe => ?_)
                    clear hK' K' hSd
                    have hSd := hSe
                    clear hSe hb
                    (try simp only [List.getElem_toArray, List.getElem_cons_zero, List.getElem_cons_succ])
                    (try simp only [Act.put, List.setIfInBounds_toArray, List.set_cons_zero, List.set_cons_succ])
                    refine wpAnyH_ready (rs := [5]) (by kernel_rfl) (by simp) (AllReadyH.cons rfl ?_ (AllReadyH.nil))
                    · intro K' hK'
                      (try simp only [List.getElem_toArray, List.getElem_cons_zero, List.getElem_cons_succ])
                      go_simp
                      refine (HC.out _).mono ?_
                      rintro e x2 ⟨rfl, hb⟩
                      replace HBz := hid (HBz.out.trans (hb.mono HBz.out.size))
                      refine hK'.out _ _ (HELD27.out _ HBz.out) (fun hSe => ?_)
                      clear hK' K' hSd
                      have hSd := hSe
                      clear hSe hb
                      (try simp only [List.getElem_toArray, List.getElem_cons_zero, List.getElem_cons_succ])
                      (try simp only [Act.put, List.setIfInBounds_toArray, List.set_cons_zero, List.set_cons_succ])
                      refine wpAnyH_take (i := 6) (oi := _) (v := .bool true) rfl (by kernel_rfl) (by kernel_rfl) (by kernel_rfl) (fun _ _ _ h => h) (Or.inl ⟨by rfl, ?_⟩) (by assumption) ?_
                      · intro u' hSu
                        (try simp only [List.getElem_toArray, List.getElem_cons_zero, List.getElem_cons_succ])
                        go_simp
                      (try simp only [List.getElem_toArray, List.getElem_cons_zero, List.getElem_cons_succ])
                      (try simp only [Act.put, List.setIfInBounds_toArray, List.set_cons_zero, List.set_cons_succ])
                      refine wpAnyH_take (i := 7) (oi := _) (v := .bool true) rfl (by kernel_rfl) (by kernel_rfl) (by kernel_rfl) (fun _ _ _ h => h) (Or.inl ⟨by rfl, ?_⟩) (by assumption) ?_
                      · intro u' hSu
                        (try simp only [List.getElem_toArray, List.getElem_cons_zero, List.getElem_cons_succ])
                        go_simp
                      (try simp only [List.getElem_toArray, List.getElem_cons_zero, List.getElem_cons_succ])
                      (try simp only [Act.put, List.setIfInBounds_toArray, List.set_cons_zero, List.set_cons_succ])
                      refine wpAnyH_done (by kernel_rfl) ?_ _
                      clear hSd
                      go_wp2
                      go_ret
                      exact ⟨rfl, HWF.out.trans (HBz.out.mono HWF.out.size)⟩
end Go.Proofs.YtnnfmfdjgdgdhaaGreatDoor

