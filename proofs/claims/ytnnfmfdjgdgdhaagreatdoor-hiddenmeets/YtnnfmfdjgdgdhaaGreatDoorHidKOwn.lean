/- The law HiddenMeets: its signs, and how likely a way is. -/
import Derived.Test.YtnnfmfdjgdgdhaaGreatDoorMadDToHidJ
import Derived.Test.YtnnfmfdjgdgdhaaGreatDoorHidHOwn
namespace Go.Proofs.YtnnfmfdjgdgdhaaGreatDoor
open Go.RowKit Go.Shelf Go.Lib

set_option maxRecDepth 100000 in
set_option maxHeartbeats 1000000 in
theorem lawSigns_any (d : Option Addr) (cd m : Nat) (W : List Int) (w : World) (hW : IntS w d W) (hr : ∀ x ∈ W, -9223372036854775808 ≤ x ∧ x ≤ 9223372036854775807) (hm1 : 1 ≤ m) (hm : m ≤ 4) :
    Calls Tryz.prog 6 #[.slice d W.length cd, .int .i64 (m : Nat), .int .i64 8] w fun e w' => ∃ (v : Value) (Q : List Nat), e = .returned v ∧ RwI w' w.heap.size v (iL Q) ∧ Q.length ≤ 8 ∧ (∀ x ∈ Q, x < m) ∧ Below w.heap.size w w' := by
  have HW := hid hW
  have HPK := hid (fun (c : Int) (h : -9223372036854775808 ≤ c ∧ c ≤ 9223372036854775807) (U : World) => rPick_any c m U h.1 h.2 hm1 (by omega))
  have HPL := hid (fun (c : Int) => pickN_lt c (n := m) hm1)
  have HR := hid hr
  clear hW hr
  go_enter Tryz.func6, Tryz.ntmps6
  go_wp2_with fail
  go_loopw [7, 8] (fun sv iv wr => ∃ (i : Nat) (Q : List Nat), i ≤ W.length ∧ i ≤ 8 ∧ iv = .int .i64 i ∧ Hid (Q.length = i ∧ ∀ x ∈ Q, x < m) ∧ Hid (RwI wr w.heap.size sv (iL Q)) ∧ Hid (Below w.heap.size w wr)) (fun _ iv _ => W.length - (intOf iv).toNat)
  case atStart => exact ⟨0, [], Nat.zero_le _, Nat.zero_le _, rfl, ⟨rfl, fun x hx => by cases hx⟩, RwI.emptyB _ _, Below.refl _ _⟩
  case round =>
    obtain ⟨i, Q, hi, hi8, rfl, HQ, HX, HB⟩ := hrel
    by_cases hlt : i < W.length ∧ i < 8
    · obtain ⟨hl1, hl2⟩ := hlt
      obtain ⟨g', o', rfl, hg', cW⟩ := (HW.out.below HB.out) i hl1
      have HPT := hid (fun U => HPK.out W[i] (HR.out W[i] (List.getElem_mem hl1)) U)
      have hpl := HPL.out W[i]
      generalize W[i] = wt at *
      generalize pickN wt m = p at *
      have hl1i : (i : Int) < (W.length : Int) := by omega
      have hl2i : (i : Int) < 8 := by omega
      go_wp2_with fail
      refine (HPT.out _).mono ?_
      rintro e w1 ⟨rfl, hb1⟩
      have HX1 := hid (HX.out.below hb1)
      have HB1 := hid (HB.out.trans (hb1.mono HB.out.size))
      have HXA := hid (HX1.out.below ((Below.refl _ w1).alloc (Nat.le_refl _) (.cells #[.int .i64 (p : Int)] 3)))
      have HBA := hid (HB1.out.alloc HB1.out.size (.cells #[.int .i64 (p : Int)] 3))
      have HIA := hid (one_int w1 (p : Int))
      have hbs : w.heap.size ≤ (w1.alloc (.cells #[.int .i64 (p : Int)] 3)).heap.size := HBA.out.size
      have hil : (iL Q).length = i := by rw [iL_length]; exact HQ.out.1
      have HSU := hid (iL_sum_snoc Q p)
      have HWT : Hid ((Q ++ [p]).length = i + 1 ∧ ∀ x ∈ Q ++ [p], x < m) := ⟨by simp [HQ.out.1], fun a ha => by rcases List.mem_append.1 ha with ha | ha; exact HQ.out.2 a ha; rw [List.mem_singleton.1 ha]; exact hpl⟩
      clear cW hb1 HX HB HX1 HB1
      go_wp2_with (at_builtin; refine wpList_append_ints rfl _ _ rfl w.heap.size _ (iL Q) [(p : Int)] rfl HXA.out (some ⟨w1.heap.size, 0, none⟩) 1 rfl HIA.out (fun e => by cases e) (by simp; omega) hbs ?_; intro v' w3 hr3 hg3; have HB3 := hid (HBA.out.grown hg3 hbs (fun k e => HXA.out.own k e)))
      go_roundw
      case rel => exact ⟨i + 1, Q ++ [p], by omega, by omega, by go_num, HWT, by rw [HSU.out]; exact hr3, HB3⟩
      case measure => simp [intOf]; omega
    · by_cases hl1 : i < W.length
      · have hl1i : (i : Int) < (W.length : Int) := by omega
        have hl2i : ¬ (i : Int) < 8 := by omega
        clear hlt
        go_wp2
        go_ret
        exact ⟨_, rfl, Q, HX.out, by rw [HQ.out.1]; exact hi8, HQ.out.2, HB.out⟩
      · have hl1i : ¬ (i : Int) < (W.length : Int) := by omega
        clear hlt
        go_wp2
        go_ret
        exact ⟨_, rfl, Q, HX.out, by rw [HQ.out.1]; exact hi8, HQ.out.2, HB.out⟩
/-- What wayOf holds: how likely the way is up to there; all else lies below. -/
structure WoS (W : World) (gp : Nat) (q : Rat) (U : World) : Prop where
  px : Box U gp (sgn q) (nu q) (de q)
  bel : Below W.heap.size W U
theorem WoS.step {W U U' : World} {gp : Nat} {q : Rat} (h : WoS W gp q U) (hb : Below U.heap.size U U') : WoS W gp q U' := ⟨h.px.below hb h.px.lt, h.bel.trans (hb.mono h.bel.size)⟩
theorem WoS.far {W U : World} {gp g : Nat} {q : Rat} (h : WoS W gp q U) (hne : gp ≠ g) (hg : W.heap.size ≤ g) (x y z : Value) : WoS W gp q (((U.setCell ⟨g, 0, none⟩ x).setCell ⟨g, 1, none⟩ y).setCell ⟨g, 2, none⟩ z) := ⟨h.px.far3 hne x y z, below_put h.bel hg x y z⟩

set_option maxRecDepth 100000 in
set_option maxHeartbeats 4000000 in
theorem wayOf_any (a b c d dw : Option Addr) (ca cb cc cd cw n L m : Nat) (l : List Fr) (R1 R2 : List (List Fr)) (Q V : List Nat) (h : HC) (v : Nat → Nat) (w : World) (hI : HidI w a b c n m l R1 R2) (hV : HidV h m l R1 R2 Q) (hsn : h.s = n) (hL : h.L = L) (hQ : IntS w d (iL Q)) (hW : IntS w dw (iL V)) (hVl : V.length = L) (hvv : ∀ t (ht : t < V.length), v t = V[t]) (hvn : ∀ t, v t < n) :
    Calls Tryz.prog 14 #[.agg #[.slice a n ca, .slice b n cb, .slice c n cc], .slice dw L cw, .slice d L cd] w fun e w' => e = .returned (frV (qF (h.lik v L))) ∧ Below w.heap.size w w' := by
  have hqL := hV.L
  rw [hL] at hqL
  have hn4 := hV.sm.s4
  have hL8 := hV.sm.L8
  have hm4 := hV.ok.m4
  have hok := hV.okn hsn
  have HLS : Hid (∀ t, t ≤ L → Sm (2 * t) (h.lik v t)) := fun t ht => hV.sm.lik (v := v) (fun t => by rw [hsn]; exact hvn t) t (by omega)
  have HRS : Hid (∀ t i, i < n → Sm 1 (h.row v t i)) := fun t i hi => hV.sm.row (v := v) (fun t => by rw [hsn]; exact hvn t) t i (by omega)
  obtain ⟨-, -, hq2, hst2, hmv, hsh, -⟩ := hV
  rw [hsn] at hn4 hst2 hmv
  rw [hL] at hL8
  have HOK := hid hok
  have HQL := hid hqL
  have HQM := hid hq2
  have HMV := hid hmv
  have HST := hid hst2
  have HSHV := hid hsh
  have HI := hid hI
  have HQ := hid hQ
  have HWY := hid hW
  have HVL := hid hVl
  have HVV := hid hvv
  have HVN : Hid (∀ x ∈ V, x < n) := fun x hx => by
    obtain ⟨i, hi, rfl⟩ := List.getElem_of_mem hx
    rw [← hvv i hi]
    exact hvn i
  have HO1 : Hid (∀ V : World, Calls Tryz.prog 10 #[.int .i64 1] V fun e w' => e = .returned (.agg #[.bool (sgn 1), .string (nu 1), .string (de 1)]) ∧ Below V.heap.size V w') := fun V => rOf_one V
  have hA0 := (Below.refl w.heap.size w).alloc (Nat.le_refl _) (HC3 (.slice a n ca) (.slice b n cb) (.slice c n cc))
  have hHB0 := HBox.new w (.slice a n ca) (.slice b n cb) (.slice c n cc)
  have hA := hA0.alloc hA0.size (FC false ⟨#[]⟩ ⟨#[]⟩)
  have hst := (Below.refl (w.alloc (HC3 (.slice a n ca) (.slice b n cb) (.slice c n cc))).heap.size (w.alloc (HC3 (.slice a n ca) (.slice b n cb) (.slice c n cc)))).alloc (Nat.le_refl _) (FC false ⟨#[]⟩ ⟨#[]⟩)
  have hHB := hHB0.below hst hHB0.lt
  have hX : Box ((w.alloc (HC3 (.slice a n ca) (.slice b n cb) (.slice c n cc))).alloc (FC false ⟨#[]⟩ ⟨#[]⟩)) (w.heap.size + 1) false ⟨#[]⟩ ⟨#[]⟩ := by
    have h9 := Box.new (w.alloc (HC3 (.slice a n ca) (.slice b n cb) (.slice c n cc))) false ⟨#[]⟩ ⟨#[]⟩
    rwa [World.size_alloc] at h9
  clear hI hsn hL hQ hW hVl hvv hvn hqL hok hq2 hst2 hmv hsh hA0 hHB0 hst
  go_enter Tryz.func14, Tryz.ntmps14
  go_wp2_with fail
  generalize ((w.alloc (HC3 (.slice a n ca) (.slice b n cb) (.slice c n cc))).alloc (FC false ⟨#[]⟩ ⟨#[]⟩)) = W at *
  refine (HO1.out _).mono ?_
  rintro e W0 ⟨rfl, hb0⟩
  have HW0 := hid (hA.trans (hb0.mono hA.size))
  have HHB := hid (hHB.below hb0 hHB.lt)
  have HRB := hid (hX.below hb0 hX.lt)
  have hW0s : w.heap.size + 1 < W0.heap.size := HRB.out.lt
  have HP0 : Hid (WoS W0 W0.heap.size (h.lik v 0) (W0.alloc (FC (sgn 1) (nu 1) (de 1)))) := ⟨Box.new W0 _ _ _, (Below.refl _ W0).alloc (Nat.le_refl _) _⟩
  clear hA hHB hX hb0
  go_wp2_with fail
  generalize (W0.alloc (FC (sgn 1) (nu 1) (de 1))) = w2 at *
  generalize hgpe : W0.heap.size = gp at HP0 ⊢
  have hgp : W0.heap.size ≤ gp := Nat.le_of_eq hgpe
  clear hgpe
  go_loopw [8] (fun iv wr => ∃ t : Nat, t ≤ L ∧ iv = .int .i64 t ∧ Hid (WoS W0 gp (h.lik v t) wr)) (fun iv _ => L - (intOf iv).toNat)
  case atStart => exact ⟨0, Nat.zero_le _, rfl, HP0⟩
  case round =>
    obtain ⟨t, ht, rfl, HP⟩ := hrel
    clear HP0
    by_cases hlt : t < L
    · have htQ : t < Q.length := by rw [HQL.out]; exact hlt
      have htV : t < V.length := by rw [HVL.out]; exact hlt
      obtain ⟨gq, oq, rfl, hgq, q00⟩ := HQ.out t (by rw [iL_length]; exact htQ)
      have eq : (iL Q)[t]'(by rw [iL_length]; exact htQ) = ((Q[t] : Nat) : Int) := by simp [iL]
      rw [eq] at q00
      obtain ⟨gy, oy, rfl, hgy, y00⟩ := HWY.out t (by rw [iL_length]; exact htV)
      have ev : (iL V)[t]'(by rw [iL_length]; exact htV) = ((V[t] : Nat) : Int) := by simp [iL]
      rw [ev] at y00
      have hvtn : V[t] < n := HVN.out _ (List.getElem_mem htV)
      have hq4 : Q[t] < m := HQM.out _ (List.getElem_mem htQ)
      have hvl : V[t] < l.length := by rw [HST.out.len]; exact hvtn
      obtain ⟨ga, oa, rfl, hga, s00, s01, s02⟩ := HI.out.st V[t] hvl
      have hvR : V[t] < R2.length := by rw [HOK.out.sh.len]; exact hvtn
      obtain ⟨gs, os, bs, ck, rfl, hgs, k00, hkf, -⟩ := HI.out.sh V[t] hvR
      obtain ⟨hqx, hqe, hqs⟩ := HSHV.out t htQ V[t] hvR
      obtain ⟨gk, ok_, rfl, hgk, k10, k11, k12⟩ := hkf Q[t] hqx
      rw [HOK.out.sh.each V[t] hvR] at k00
      have HSQ : Hid (frQ l[V[t]] = h.st V[t] ∧ l[V[t]].2.1.size + l[V[t]].2.2.size ≤ 1500) := ⟨HST.out.is _ hvl, HST.out.size _ hvl⟩
      have hl1 := (HLS.out t ht).qw (by omega)
      have HLQ : Hid (qw (h.lik v t) ≤ 1500) := hl1
      have HM2 : Hid (∀ U : World, Calls Tryz.prog 12 #[.agg #[.bool (sgn (h.lik v t * h.row v t V[t])), .string (nu (h.lik v t * h.row v t V[t])), .string (de (h.lik v t * h.row v t V[t]))], .agg #[.bool R2[V[t]][Q[t]].1, .string R2[V[t]][Q[t]].2.1, .string R2[V[t]][Q[t]].2.2]] U fun e w' => e = .returned (.agg #[.bool (sgn (h.lik v (t + 1))), .string (nu (h.lik v (t + 1))), .string (de (h.lik v (t + 1)))]) ∧ Below U.heap.size U w') := fun U => by
        have z1 := own_size (h.lik v t * h.row v t V[t])
        have z2 := ((HLS.out t ht).mul (HRS.out t V[t] hvtn)).qw (by omega)
        have h9 := rMulF_any (sgn (h.lik v t * h.row v t V[t])) R2[V[t]][Q[t]].1 (nu (h.lik v t * h.row v t V[t])) (de (h.lik v t * h.row v t V[t])) R2[V[t]][Q[t]].2.1 R2[V[t]][Q[t]].2.2 U (by omega) (by omega)
        rw [val_own, show val R2[V[t]][Q[t]].1 R2[V[t]][Q[t]].2.1 R2[V[t]][Q[t]].2.2 = h.sh t V[t] from hqe, Rat.mul_assoc] at h9
        have e9 : h.lik v (t + 1) = h.lik v t * (h.row v t V[t] * h.sh t V[t]) := by rw [HC.lik, HVV.out t htV]
        rw [e9]
        exact h9
      have HS1 : Hid True := trivial
      have HQ0 := hid q00
      have HY0 := hid y00
      have HK0 := hid k00
      have HK1 := hid k10
      have HK2 := hid k11
      have HK3 := hid k12
      have HS00 := hid s00
      have HS01 := hid s01
      have HS02 := hid s02
      clear q00 y00 k00 k10 k11 k12 s00 s01 s02 hkf eq ev hqe hqs hl1
      generalize R2[V[t]][Q[t]] = hf at *
      generalize l[V[t]] = sf at *
      generalize Q[t] = qt at *
      generalize hvte : V[t] = vt at *
      clear hvte
      go_upto_region 5 with fail
      have HELD5 : Hid (∀ u, Below W0.heap.size W0 u → u.cell? ⟨w.heap.size, 0, none⟩ = some (.slice (some ⟨ga, oa, none⟩) n ca) ∧ u.cell? ⟨gy, oy + t, none⟩ = some (.int .i64 (vt : Nat)) ∧ u.cell? ⟨ga, oa + vt * 3, none⟩ = some (.bool sf.1) ∧ u.cell? ⟨ga, oa + vt * 3 + 1, none⟩ = some (.string sf.2.1) ∧ u.cell? ⟨ga, oa + vt * 3 + 2, none⟩ = some (.string sf.2.2)) := fun u hu => by
        have hwu := HW0.out.trans (hu.mono HW0.out.size)
        exact ⟨(HHB.out.below hu HHB.out.lt).cells.1, (hwu.cell (p := ⟨gy, _, none⟩) hgy).trans HY0.out, (hwu.cell (p := ⟨ga, _, none⟩) hga).trans HS00.out, (hwu.cell (p := ⟨ga, _, none⟩) hga).trans HS01.out, (hwu.cell (p := ⟨ga, _, none⟩) hga).trans HS02.out⟩
      refine wp_region_held_drew (S := fun u => u.cell? ⟨w.heap.size, 0, none⟩ = some (.slice (some ⟨ga, oa, none⟩) n ca) ∧ u.cell? ⟨gy, oy + t, none⟩ = some (.int .i64 (vt : Nat)) ∧ u.cell? ⟨ga, oa + vt * 3, none⟩ = some (.bool sf.1) ∧ u.cell? ⟨ga, oa + vt * 3 + 1, none⟩ = some (.string sf.2.1) ∧ u.cell? ⟨ga, oa + vt * 3 + 2, none⟩ = some (.string sf.2.2)) (by kernel_rfl) (HELD5.out _ HP.out.bel.drew) (fun hSd => ?_)
      replace HP := hid (HP.out.step (Below.refl _ _).drew)
      generalize wr.drew = u0 at *
      refine wpAnyH_take (i := 0) (oi := _) (v := .pointer (some ⟨w.heap.size, 0, none⟩)) rfl (by kernel_rfl) (by kernel_rfl) (by kernel_rfl) (fun _ _ _ h => h) (Or.inl ⟨by rfl, ?_⟩) (by assumption) ?_
      · intro u' hSu
        (try simp only [List.getElem_toArray, List.getElem_cons_zero])
        go_simp
      (try simp only [List.getElem_toArray, List.getElem_cons_zero])
      (try simp only [Act.put, List.setIfInBounds_toArray, List.set_cons_zero, List.set_cons_succ])
      refine wpAnyH_take (i := 1) (oi := _) (v := .slice (some ⟨ga, oa, none⟩) n ca) rfl (by kernel_rfl) (by kernel_rfl) (by kernel_rfl) (fun _ _ _ h => h) (Or.inl ⟨by rfl, ?_⟩) (by assumption) ?_
      · intro u' hSu
        (try simp only [List.getElem_toArray, List.getElem_cons_zero, List.getElem_cons_succ])
        obtain ⟨s0, s1, s2, s3, s4⟩ := hSu
        go_simp
      (try simp only [List.getElem_toArray, List.getElem_cons_zero, List.getElem_cons_succ])
      (try simp only [Act.put, List.setIfInBounds_toArray, List.set_cons_zero, List.set_cons_succ])
      refine wpAnyH_take (i := 2) (oi := _) (v := .slice (some ⟨gy, oy, none⟩) L cw) rfl (by kernel_rfl) (by kernel_rfl) (by kernel_rfl) (fun _ _ _ h => h) (Or.inl ⟨by rfl, ?_⟩) (by assumption) ?_
      · intro u' hSu
        (try simp only [List.getElem_toArray, List.getElem_cons_zero, List.getElem_cons_succ])
        go_simp
      (try simp only [List.getElem_toArray, List.getElem_cons_zero, List.getElem_cons_succ])
      (try simp only [Act.put, List.setIfInBounds_toArray, List.set_cons_zero, List.set_cons_succ])
      refine wpAnyH_take (i := 3) (oi := _) (v := .int .i64 (t : Nat)) rfl (by kernel_rfl) (by kernel_rfl) (by kernel_rfl) (fun _ _ _ h => h) (Or.inl ⟨by rfl, ?_⟩) (by assumption) ?_
      · intro u' hSu
        (try simp only [List.getElem_toArray, List.getElem_cons_zero, List.getElem_cons_succ])
        go_simp
      (try simp only [List.getElem_toArray, List.getElem_cons_zero, List.getElem_cons_succ])
      (try simp only [Act.put, List.setIfInBounds_toArray, List.set_cons_zero, List.set_cons_succ])
      refine wpAnyH_take (i := 4) (oi := _) (v := .pointer (some ⟨gy, oy + t, none⟩)) rfl (by kernel_rfl) (by kernel_rfl) (by kernel_rfl) (fun _ _ _ h => h) (Or.inl ⟨by rfl, ?_⟩) (by assumption) ?_
      · intro u' hSu
        (try simp only [List.getElem_toArray, List.getElem_cons_zero, List.getElem_cons_succ])
        go_simp
      (try simp only [List.getElem_toArray, List.getElem_cons_zero, List.getElem_cons_succ])
      (try simp only [Act.put, List.setIfInBounds_toArray, List.set_cons_zero, List.set_cons_succ])
      refine wpAnyH_take (i := 5) (oi := _) (v := .int .i64 (vt : Nat)) rfl (by kernel_rfl) (by kernel_rfl) (by kernel_rfl) (fun _ _ _ h => h) (Or.inl ⟨by rfl, ?_⟩) (by assumption) ?_
      · intro u' hSu
        (try simp only [List.getElem_toArray, List.getElem_cons_zero, List.getElem_cons_succ])
        obtain ⟨s0, s1, s2, s3, s4⟩ := hSu
        go_simp
      (try simp only [List.getElem_toArray, List.getElem_cons_zero, List.getElem_cons_succ])
      (try simp only [Act.put, List.setIfInBounds_toArray, List.set_cons_zero, List.set_cons_succ])
      refine wpAnyH_take (i := 6) (oi := _) (v := .pointer (some ⟨ga, oa + vt * 3, none⟩)) rfl (by kernel_rfl) (by kernel_rfl) (by kernel_rfl) (fun _ _ _ h => h) (Or.inl ⟨by rfl, ?_⟩) (by assumption) ?_
      · intro u' hSu
        (try simp only [List.getElem_toArray, List.getElem_cons_zero, List.getElem_cons_succ])
        go_simp
      (try simp only [List.getElem_toArray, List.getElem_cons_zero, List.getElem_cons_succ])
      (try simp only [Act.put, List.setIfInBounds_toArray, List.set_cons_zero, List.set_cons_succ])
      refine wpAnyH_take (i := 7) (oi := _) (v := .agg #[.bool sf.1, .string sf.2.1, .string sf.2.2]) rfl (by kernel_rfl) (by kernel_rfl) (by kernel_rfl) (fun _ _ _ h => h) (Or.inl ⟨by rfl, ?_⟩) (by assumption) ?_
      · intro u' hSu
        (try simp only [List.getElem_toArray, List.getElem_cons_zero, List.getElem_cons_succ])
        obtain ⟨s0, s1, s2, s3, s4⟩ := hSu
        go_simp
      (try simp only [List.getElem_toArray, List.getElem_cons_zero, List.getElem_cons_succ])
      (try simp only [Act.put, List.setIfInBounds_toArray, List.set_cons_zero, List.set_cons_succ])
      refine wpAnyH_ready (rs := [8]) (by kernel_rfl) (by simp) (AllReadyH.cons rfl ?_ (AllReadyH.nil))
      · intro K' hK'
        (try simp only [List.getElem_toArray, List.getElem_cons_zero, List.getElem_cons_succ])
        go_simp
        have hbn := (Below.refl u0.heap.size u0).alloc (Nat.le_refl _) (FC false ⟨#[]⟩ ⟨#[]⟩)
        have HFX := hid (Box.new u0 false ⟨#[]⟩ ⟨#[]⟩)
        have hgf : W0.heap.size ≤ u0.heap.size := HP.out.bel.size
        have hgpf : gp ≠ u0.heap.size := Nat.ne_of_lt HP.out.px.lt
        replace HP := hid (HP.out.step hbn)
        refine hK'.out _ _ (HELD5.out _ HP.out.bel) (fun hSe => ?_)
        clear hK' K' hSd hbn
        obtain ⟨gf, hgfe⟩ : ∃ x, u0.heap.size = x := ⟨_, rfl⟩
        obtain ⟨u1, hV⟩ : ∃ x, u0.alloc (FC false ⟨#[]⟩ ⟨#[]⟩) = x := ⟨_, rfl⟩
        rw [hV] at HFX HP
        rw [hgfe] at HFX hgf hgpf
        simp only [hV] at hSe ⊢
        simp only [hgfe]
        clear hgfe hV
        (try simp only [List.getElem_toArray, List.getElem_cons_zero, List.getElem_cons_succ])
        (try simp only [Act.put, List.setIfInBounds_toArray, List.set_cons_zero, List.set_cons_succ])
        obtain ⟨k0, k1, k2, f0, f1, f2⟩ := HFX.out.facts
        refine wpAnyH_ready (rs := [9]) (by kernel_rfl) (by simp) (AllReadyH.cons rfl ?_ (AllReadyH.nil))
        · intro K' hK'
          (try simp only [List.getElem_toArray, List.getElem_cons_zero, List.getElem_cons_succ])
          go_simp
          have HFN := hid (HFX.out.put sf.1 sf.2.1 sf.2.2)
          have HPN := hid (HP.out.far hgpf hgf (.bool sf.1) (.string sf.2.1) (.string sf.2.2))
          refine hK'.out _ _ (HELD5.out _ HPN.out.bel) (fun _ => wpAnyH_done (by kernel_rfl) ?_ _)
          clear hK' K' hSe k0 k1 k2 f0 f1 f2 HP HFX
          generalize (((u1.setCell ⟨gf, 0, none⟩ (.bool sf.1)).setCell ⟨gf, 1, none⟩ (.string sf.2.1)).setCell ⟨gf, 2, none⟩ (.string sf.2.2)) = Wb at *
          have hsm1 := HS1.out
          by_cases ht0 : t = 0
          · have hti : ¬ (0 : Int) < (t : Int) := by omega
            have HM1 : Hid (∀ V : World, Calls Tryz.prog 12 #[.agg #[.bool (sgn (h.lik v t)), .string (nu (h.lik v t)), .string (de (h.lik v t))], .agg #[.bool sf.1, .string sf.2.1, .string sf.2.2]] V fun e w' => e = .returned (.agg #[.bool (sgn (h.lik v t * h.row v t vt)), .string (nu (h.lik v t * h.row v t vt)), .string (de (h.lik v t * h.row v t vt))]) ∧ Below V.heap.size V w') := fun V => by
              have z1 := own_size (h.lik v t)
              have h9 := rMulF_any (sgn (h.lik v t)) sf.1 (nu (h.lik v t)) (de (h.lik v t)) sf.2.1 sf.2.2 V (by have := HLQ.out; omega) (by have := HSQ.out.2; omega)
              rw [val_own, show val sf.1 sf.2.1 sf.2.2 = h.row v t vt by subst ht0; exact HSQ.out.1] at h9
              exact h9
            clear ht0
            go_upto_region 8 with fail
            have HELD8 : Hid (∀ u, Below W0.heap.size W0 u → Box u gf sf.1 sf.2.1 sf.2.2 → u.cell? ⟨gf, 0, none⟩ = some (.bool sf.1) ∧ u.cell? ⟨gf, 1, none⟩ = some (.string sf.2.1) ∧ u.cell? ⟨gf, 2, none⟩ = some (.string sf.2.2) ∧ u.cell? ⟨w.heap.size, 2, none⟩ = some (.slice (some ⟨gs, os, none⟩) n cc) ∧ u.cell? ⟨gy, oy + t, none⟩ = some (.int .i64 (vt : Nat)) ∧ u.cell? ⟨gs, os + vt, none⟩ = some (.slice (some ⟨gk, ok_, none⟩) m ck) ∧ u.cell? ⟨gq, oq + t, none⟩ = some (.int .i64 (qt : Nat)) ∧ u.cell? ⟨gk, ok_ + qt * 3, none⟩ = some (.bool hf.1) ∧ u.cell? ⟨gk, ok_ + qt * 3 + 1, none⟩ = some (.string hf.2.1) ∧ u.cell? ⟨gk, ok_ + qt * 3 + 2, none⟩ = some (.string hf.2.2)) := fun u hu hx => by
              have hwu := HW0.out.trans (hu.mono HW0.out.size)
              exact ⟨hx.c0, hx.c1, hx.c2, (HHB.out.below hu HHB.out.lt).cells.2.2, (hwu.cell (p := ⟨gy, _, none⟩) hgy).trans HY0.out, (hwu.cell (p := ⟨gs, _, none⟩) hgs).trans HK0.out, (hwu.cell (p := ⟨gq, _, none⟩) hgq).trans HQ0.out, (hwu.cell (p := ⟨gk, _, none⟩) hgk).trans HK1.out, (hwu.cell (p := ⟨gk, _, none⟩) hgk).trans HK2.out, (hwu.cell (p := ⟨gk, _, none⟩) hgk).trans HK3.out⟩
            refine wp_region_held_drew (S := fun u => u.cell? ⟨gf, 0, none⟩ = some (.bool sf.1) ∧ u.cell? ⟨gf, 1, none⟩ = some (.string sf.2.1) ∧ u.cell? ⟨gf, 2, none⟩ = some (.string sf.2.2) ∧ u.cell? ⟨w.heap.size, 2, none⟩ = some (.slice (some ⟨gs, os, none⟩) n cc) ∧ u.cell? ⟨gy, oy + t, none⟩ = some (.int .i64 (vt : Nat)) ∧ u.cell? ⟨gs, os + vt, none⟩ = some (.slice (some ⟨gk, ok_, none⟩) m ck) ∧ u.cell? ⟨gq, oq + t, none⟩ = some (.int .i64 (qt : Nat)) ∧ u.cell? ⟨gk, ok_ + qt * 3, none⟩ = some (.bool hf.1) ∧ u.cell? ⟨gk, ok_ + qt * 3 + 1, none⟩ = some (.string hf.2.1) ∧ u.cell? ⟨gk, ok_ + qt * 3 + 2, none⟩ = some (.string hf.2.2)) (by kernel_rfl) (HELD8.out _ HPN.out.bel.drew HFN.out.drew) (fun hSd => ?_)
            replace HPN := hid (HPN.out.step (Below.refl _ _).drew)
            have HFd : Hid (Box Wb.drew gf sf.1 sf.2.1 sf.2.2) := HFN.out
            clear HFN
            have HFN := HFd
            clear HFd
            generalize Wb.drew = q0 at *
            refine wpAnyH_take (i := 1) (oi := _) (v := .agg #[.bool sf.1, .string sf.2.1, .string sf.2.2]) rfl (by kernel_rfl) (by kernel_rfl) (by kernel_rfl) (fun _ _ _ h => h) (Or.inl ⟨by rfl, ?_⟩) (by assumption) ?_
            · intro u' hSu
              (try simp only [List.getElem_toArray, List.getElem_cons_zero, List.getElem_cons_succ])
              obtain ⟨s0, s1, s2, s3, s4, s5, s6, s7, s8, s9⟩ := hSu
              go_simp
            (try simp only [List.getElem_toArray, List.getElem_cons_zero, List.getElem_cons_succ])
            (try simp only [Act.put, List.setIfInBounds_toArray, List.set_cons_zero, List.set_cons_succ])
            refine wpAnyH_take (i := 3) (oi := _) (v := .pointer (some ⟨w.heap.size, 2, none⟩)) rfl (by kernel_rfl) (by kernel_rfl) (by kernel_rfl) (fun _ _ _ h => h) (Or.inl ⟨by rfl, ?_⟩) (by assumption) ?_
            · intro u' hSu
              (try simp only [List.getElem_toArray, List.getElem_cons_zero, List.getElem_cons_succ])
              go_simp
            (try simp only [List.getElem_toArray, List.getElem_cons_zero, List.getElem_cons_succ])
            (try simp only [Act.put, List.setIfInBounds_toArray, List.set_cons_zero, List.set_cons_succ])
            refine wpAnyH_take (i := 4) (oi := _) (v := .slice (some ⟨gs, os, none⟩) n cc) rfl (by kernel_rfl) (by kernel_rfl) (by kernel_rfl) (fun _ _ _ h => h) (Or.inl ⟨by rfl, ?_⟩) (by assumption) ?_
            · intro u' hSu
              (try simp only [List.getElem_toArray, List.getElem_cons_zero, List.getElem_cons_succ])
              obtain ⟨s0, s1, s2, s3, s4, s5, s6, s7, s8, s9⟩ := hSu
              go_simp
            (try simp only [List.getElem_toArray, List.getElem_cons_zero, List.getElem_cons_succ])
            (try simp only [Act.put, List.setIfInBounds_toArray, List.set_cons_zero, List.set_cons_succ])
            refine wpAnyH_take (i := 5) (oi := _) (v := .slice (some ⟨gy, oy, none⟩) L cw) rfl (by kernel_rfl) (by kernel_rfl) (by kernel_rfl) (fun _ _ _ h => h) (Or.inl ⟨by rfl, ?_⟩) (by assumption) ?_
            · intro u' hSu
              (try simp only [List.getElem_toArray, List.getElem_cons_zero, List.getElem_cons_succ])
              go_simp
            (try simp only [List.getElem_toArray, List.getElem_cons_zero, List.getElem_cons_succ])
            (try simp only [Act.put, List.setIfInBounds_toArray, List.set_cons_zero, List.set_cons_succ])
            refine wpAnyH_take (i := 6) (oi := _) (v := .int .i64 (t : Nat)) rfl (by kernel_rfl) (by kernel_rfl) (by kernel_rfl) (fun _ _ _ h => h) (Or.inl ⟨by rfl, ?_⟩) (by assumption) ?_
            · intro u' hSu
              (try simp only [List.getElem_toArray, List.getElem_cons_zero, List.getElem_cons_succ])
              go_simp
            (try simp only [List.getElem_toArray, List.getElem_cons_zero, List.getElem_cons_succ])
            (try simp only [Act.put, List.setIfInBounds_toArray, List.set_cons_zero, List.set_cons_succ])
            refine wpAnyH_take (i := 7) (oi := _) (v := .pointer (some ⟨gy, oy + t, none⟩)) rfl (by kernel_rfl) (by kernel_rfl) (by kernel_rfl) (fun _ _ _ h => h) (Or.inl ⟨by rfl, ?_⟩) (by assumption) ?_
            · intro u' hSu
              (try simp only [List.getElem_toArray, List.getElem_cons_zero, List.getElem_cons_succ])
              go_simp
            (try simp only [List.getElem_toArray, List.getElem_cons_zero, List.getElem_cons_succ])
            (try simp only [Act.put, List.setIfInBounds_toArray, List.set_cons_zero, List.set_cons_succ])
            refine wpAnyH_take (i := 8) (oi := _) (v := .int .i64 (vt : Nat)) rfl (by kernel_rfl) (by kernel_rfl) (by kernel_rfl) (fun _ _ _ h => h) (Or.inl ⟨by rfl, ?_⟩) (by assumption) ?_
            · intro u' hSu
              (try simp only [List.getElem_toArray, List.getElem_cons_zero, List.getElem_cons_succ])
              obtain ⟨s0, s1, s2, s3, s4, s5, s6, s7, s8, s9⟩ := hSu
              go_simp
            (try simp only [List.getElem_toArray, List.getElem_cons_zero, List.getElem_cons_succ])
            (try simp only [Act.put, List.setIfInBounds_toArray, List.set_cons_zero, List.set_cons_succ])
            refine wpAnyH_take (i := 9) (oi := _) (v := .pointer (some ⟨gs, os + vt, none⟩)) rfl (by kernel_rfl) (by kernel_rfl) (by kernel_rfl) (fun _ _ _ h => h) (Or.inl ⟨by rfl, ?_⟩) (by assumption) ?_
            · intro u' hSu
              (try simp only [List.getElem_toArray, List.getElem_cons_zero, List.getElem_cons_succ])
              go_simp
            (try simp only [List.getElem_toArray, List.getElem_cons_zero, List.getElem_cons_succ])
            (try simp only [Act.put, List.setIfInBounds_toArray, List.set_cons_zero, List.set_cons_succ])
            refine wpAnyH_take (i := 10) (oi := _) (v := .slice (some ⟨gk, ok_, none⟩) m ck) rfl (by kernel_rfl) (by kernel_rfl) (by kernel_rfl) (fun _ _ _ h => h) (Or.inl ⟨by rfl, ?_⟩) (by assumption) ?_
            · intro u' hSu
              (try simp only [List.getElem_toArray, List.getElem_cons_zero, List.getElem_cons_succ])
              obtain ⟨s0, s1, s2, s3, s4, s5, s6, s7, s8, s9⟩ := hSu
              go_simp
            (try simp only [List.getElem_toArray, List.getElem_cons_zero, List.getElem_cons_succ])
            (try simp only [Act.put, List.setIfInBounds_toArray, List.set_cons_zero, List.set_cons_succ])
            refine wpAnyH_take (i := 11) (oi := _) (v := .slice (some ⟨gq, oq, none⟩) L cd) rfl (by kernel_rfl) (by kernel_rfl) (by kernel_rfl) (fun _ _ _ h => h) (Or.inl ⟨by rfl, ?_⟩) (by assumption) ?_
            · intro u' hSu
              (try simp only [List.getElem_toArray, List.getElem_cons_zero, List.getElem_cons_succ])
              go_simp
            (try simp only [List.getElem_toArray, List.getElem_cons_zero, List.getElem_cons_succ])
            (try simp only [Act.put, List.setIfInBounds_toArray, List.set_cons_zero, List.set_cons_succ])
            refine wpAnyH_take (i := 12) (oi := _) (v := .int .i64 (t : Nat)) rfl (by kernel_rfl) (by kernel_rfl) (by kernel_rfl) (fun _ _ _ h => h) (Or.inl ⟨by rfl, ?_⟩) (by assumption) ?_
            · intro u' hSu
              (try simp only [List.getElem_toArray, List.getElem_cons_zero, List.getElem_cons_succ])
              go_simp
            (try simp only [List.getElem_toArray, List.getElem_cons_zero, List.getElem_cons_succ])
            (try simp only [Act.put, List.setIfInBounds_toArray, List.set_cons_zero, List.set_cons_succ])
            refine wpAnyH_take (i := 13) (oi := _) (v := .pointer (some ⟨gq, oq + t, none⟩)) rfl (by kernel_rfl) (by kernel_rfl) (by kernel_rfl) (fun _ _ _ h => h) (Or.inl ⟨by rfl, ?_⟩) (by assumption) ?_
            · intro u' hSu
              (try simp only [List.getElem_toArray, List.getElem_cons_zero, List.getElem_cons_succ])
              go_simp
            (try simp only [List.getElem_toArray, List.getElem_cons_zero, List.getElem_cons_succ])
            (try simp only [Act.put, List.setIfInBounds_toArray, List.set_cons_zero, List.set_cons_succ])
            refine wpAnyH_take (i := 14) (oi := _) (v := .int .i64 (qt : Nat)) rfl (by kernel_rfl) (by kernel_rfl) (by kernel_rfl) (fun _ _ _ h => h) (Or.inl ⟨by rfl, ?_⟩) (by assumption) ?_
            · intro u' hSu
              (try simp only [List.getElem_toArray, List.getElem_cons_zero, List.getElem_cons_succ])
              obtain ⟨s0, s1, s2, s3, s4, s5, s6, s7, s8, s9⟩ := hSu
              go_simp
            (try simp only [List.getElem_toArray, List.getElem_cons_zero, List.getElem_cons_succ])
            (try simp only [Act.put, List.setIfInBounds_toArray, List.set_cons_zero, List.set_cons_succ])
            refine wpAnyH_take (i := 15) (oi := _) (v := .pointer (some ⟨gk, ok_ + qt * 3, none⟩)) rfl (by kernel_rfl) (by kernel_rfl) (by kernel_rfl) (fun _ _ _ h => h) (Or.inl ⟨by rfl, ?_⟩) (by assumption) ?_
            · intro u' hSu
              (try simp only [List.getElem_toArray, List.getElem_cons_zero, List.getElem_cons_succ])
              go_simp
            (try simp only [List.getElem_toArray, List.getElem_cons_zero, List.getElem_cons_succ])
            (try simp only [Act.put, List.setIfInBounds_toArray, List.set_cons_zero, List.set_cons_succ])
            refine wpAnyH_take (i := 16) (oi := _) (v := .agg #[.bool hf.1, .string hf.2.1, .string hf.2.2]) rfl (by kernel_rfl) (by kernel_rfl) (by kernel_rfl) (fun _ _ _ h => h) (Or.inl ⟨by rfl, ?_⟩) (by assumption) ?_
            · intro u' hSu
              (try simp only [List.getElem_toArray, List.getElem_cons_zero, List.getElem_cons_succ])
              obtain ⟨s0, s1, s2, s3, s4, s5, s6, s7, s8, s9⟩ := hSu
              go_simp
            (try simp only [List.getElem_toArray, List.getElem_cons_zero, List.getElem_cons_succ])
            (try simp only [Act.put, List.setIfInBounds_toArray, List.set_cons_zero, List.set_cons_succ])
            refine wpAnyH_ready (rs := [0]) (by kernel_rfl) (by simp) (AllReadyH.cons rfl ?_ (AllReadyH.nil))
            · intro K' hK'
              obtain ⟨k0, k1, k2, -⟩ := HPN.out.px.facts
              (try simp only [List.getElem_toArray, List.getElem_cons_zero])
              go_simp
              refine hK'.out _ _ hSd (fun _ => ?_)
              clear hK' K' k0 k1 k2
              (try simp only [List.getElem_toArray, List.getElem_cons_zero, List.getElem_cons_succ])
              (try simp only [Act.put, List.setIfInBounds_toArray, List.set_cons_zero, List.set_cons_succ])
              refine wpAnyH_ready (rs := [2]) (by kernel_rfl) (by simp) (AllReadyH.cons rfl ?_ (AllReadyH.nil))
              · intro K' hK'
                (try simp only [List.getElem_toArray, List.getElem_cons_zero, List.getElem_cons_succ])
                go_simp
                refine (HM1.out _).mono ?_
                rintro e q1 ⟨rfl, hb⟩
                replace HPN := hid (HPN.out.step hb)
                replace HFN := hid (HFN.out.below hb HFN.out.lt)
                refine hK'.out _ _ (HELD8.out _ HPN.out.bel HFN.out) (fun hSe => ?_)
                clear hK' K' hSd hb
                (try simp only [List.getElem_toArray, List.getElem_cons_zero, List.getElem_cons_succ])
                (try simp only [Act.put, List.setIfInBounds_toArray, List.set_cons_zero, List.set_cons_succ])
                refine wpAnyH_ready (rs := [17]) (by kernel_rfl) (by simp) (AllReadyH.cons rfl ?_ (AllReadyH.nil))
                · intro K' hK'
                  (try simp only [List.getElem_toArray, List.getElem_cons_zero, List.getElem_cons_succ])
                  go_simp
                  refine (HM2.out _).mono ?_
                  rintro e q2 ⟨rfl, hb⟩
                  replace HPN := hid (HPN.out.step hb)
                  replace HFN := hid (HFN.out.below hb HFN.out.lt)
                  refine hK'.out _ _ (HELD8.out _ HPN.out.bel HFN.out) (fun hSf => ?_)
                  clear hK' K' hSe hb
                  (try simp only [List.getElem_toArray, List.getElem_cons_zero, List.getElem_cons_succ])
                  (try simp only [Act.put, List.setIfInBounds_toArray, List.set_cons_zero, List.set_cons_succ])
                  obtain ⟨k0, k1, k2, f0, f1, f2⟩ := HPN.out.px.facts
                  refine wpAnyH_ready (rs := [18]) (by kernel_rfl) (by simp) (AllReadyH.cons rfl ?_ (AllReadyH.nil))
                  · intro K' hK'
                    (try simp only [List.getElem_toArray, List.getElem_cons_zero, List.getElem_cons_succ])
                    go_simp
                    have HPZ : Hid (WoS W0 gp (h.lik v (t + 1)) (((q2.setCell ⟨gp, 0, none⟩ (.bool (sgn (h.lik v (t + 1))))).setCell ⟨gp, 1, none⟩ (.string (nu (h.lik v (t + 1))))).setCell ⟨gp, 2, none⟩ (.string (de (h.lik v (t + 1)))))) := ⟨HPN.out.px.put _ _ _, below_put HPN.out.bel hgp _ _ _⟩
                    have HFZ := hid (HFN.out.far3 (Ne.symm hgpf) (.bool (sgn (h.lik v (t + 1)))) (.string (nu (h.lik v (t + 1)))) (.string (de (h.lik v (t + 1)))))
                    refine hK'.out _ _ (HELD8.out _ HPZ.out.bel HFZ.out) (fun _ => wpAnyH_done (by kernel_rfl) ?_ _)
                    clear hK' K' hSf k0 k1 k2 f0 f1 f2 HPN HFN HFZ
                    go_wp2
                    go_roundw
                    case rel => exact ⟨t + 1, by omega, by go_num, HPZ⟩
                    case measure => simp [intOf]; omega
          · obtain ⟨tp, htp⟩ : ∃ tp, tp + 1 = t := ⟨t - 1, by omega⟩
            have hti : (0 : Int) < (t : Int) := by omega
            have htm : (t : Int) - 1 = (tp : Int) := by omega
            have htw : IntKind.i64.wrap (tp : Int) = (tp : Int) := by rw [IntKind.wrap_i64]; omega
            have htpL : tp < L := by omega
            have hpV : tp < V.length := by rw [HVL.out]; exact htpL
            obtain ⟨gy2, oy2, ey2, hgy2, y2⟩ := HWY.out tp (by rw [iL_length]; exact hpV)
            cases ey2
            have ev2 : (iL V)[tp]'(by rw [iL_length]; exact hpV) = ((V[tp] : Nat) : Int) := by simp [iL]
            rw [ev2] at y2
            have hvpn : V[tp] < n := HVN.out _ (List.getElem_mem hpV)
            have hpR : V[tp] < R1.length := by rw [HOK.out.mv.len]; exact hvpn
            obtain ⟨gm, om, bm, cm, rfl, hgm, m0, hmf, -⟩ := HI.out.mv V[tp] hpR
            rw [HOK.out.mv.each V[tp] hpR] at m0
            have hmr : vt < R1[V[tp]].length := by rw [HOK.out.mv.each V[tp] hpR]; exact hvtn
            obtain ⟨gr, or_, rfl, hgr, g0, g1, g2⟩ := hmf vt hmr
            have HMQ : Hid (frQ R1[V[tp]][vt] = h.row v t vt ∧ R1[V[tp]][vt].2.1.size + R1[V[tp]][vt].2.2.size ≤ 1500) := by
              refine ⟨?_, (HMV.out V[tp] hpR).size vt hmr⟩
              rw [(HMV.out V[tp] hpR).is vt hmr, ← htp, HC.row, ← HVV.out tp hpV]
            have HM0 := hid m0
            have HY2 := hid y2
            have HG0 := hid g0
            have HG1 := hid g1
            have HG2 := hid g2
            generalize R1[V[tp]][vt] = mf at *
            generalize V[tp] = vp at *
            have HM1 : Hid (∀ V : World, Calls Tryz.prog 12 #[.agg #[.bool (sgn (h.lik v t)), .string (nu (h.lik v t)), .string (de (h.lik v t))], .agg #[.bool mf.1, .string mf.2.1, .string mf.2.2]] V fun e w' => e = .returned (.agg #[.bool (sgn (h.lik v t * h.row v t vt)), .string (nu (h.lik v t * h.row v t vt)), .string (de (h.lik v t * h.row v t vt))]) ∧ Below V.heap.size V w') := fun V => by
              have z1 := own_size (h.lik v t)
              have h9 := rMulF_any (sgn (h.lik v t)) mf.1 (nu (h.lik v t)) (de (h.lik v t)) mf.2.1 mf.2.2 V (by have := HLQ.out; omega) (by have := HMQ.out.2; omega)
              rw [val_own, show val mf.1 mf.2.1 mf.2.2 = h.row v t vt from HMQ.out.1] at h9
              exact h9
            clear ev2 y2 m0 hmf g0 g1 g2 htp ht0 hmr
            go_upto_region 7 with fail
            have HELD7 : Hid (∀ u, Below W0.heap.size W0 u → u.cell? ⟨w.heap.size, 1, none⟩ = some (.slice (some ⟨gm, om, none⟩) n cb) ∧ u.cell? ⟨gy, oy + tp, none⟩ = some (.int .i64 (vp : Nat)) ∧ u.cell? ⟨gm, om + vp, none⟩ = some (.slice (some ⟨gr, or_, none⟩) n cm) ∧ u.cell? ⟨gy, oy + t, none⟩ = some (.int .i64 (vt : Nat)) ∧ u.cell? ⟨gr, or_ + vt * 3, none⟩ = some (.bool mf.1) ∧ u.cell? ⟨gr, or_ + vt * 3 + 1, none⟩ = some (.string mf.2.1) ∧ u.cell? ⟨gr, or_ + vt * 3 + 2, none⟩ = some (.string mf.2.2)) := fun u hu => by
              have hwu := HW0.out.trans (hu.mono HW0.out.size)
              exact ⟨(HHB.out.below hu HHB.out.lt).cells.2.1, (hwu.cell (p := ⟨gy, _, none⟩) hgy).trans HY2.out, (hwu.cell (p := ⟨gm, _, none⟩) hgm).trans HM0.out, (hwu.cell (p := ⟨gy, _, none⟩) hgy).trans HY0.out, (hwu.cell (p := ⟨gr, _, none⟩) hgr).trans HG0.out, (hwu.cell (p := ⟨gr, _, none⟩) hgr).trans HG1.out, (hwu.cell (p := ⟨gr, _, none⟩) hgr).trans HG2.out⟩
            refine wp_region_held_drew (S := fun u => u.cell? ⟨w.heap.size, 1, none⟩ = some (.slice (some ⟨gm, om, none⟩) n cb) ∧ u.cell? ⟨gy, oy + tp, none⟩ = some (.int .i64 (vp : Nat)) ∧ u.cell? ⟨gm, om + vp, none⟩ = some (.slice (some ⟨gr, or_, none⟩) n cm) ∧ u.cell? ⟨gy, oy + t, none⟩ = some (.int .i64 (vt : Nat)) ∧ u.cell? ⟨gr, or_ + vt * 3, none⟩ = some (.bool mf.1) ∧ u.cell? ⟨gr, or_ + vt * 3 + 1, none⟩ = some (.string mf.2.1) ∧ u.cell? ⟨gr, or_ + vt * 3 + 2, none⟩ = some (.string mf.2.2)) (by kernel_rfl) (HELD7.out _ HPN.out.bel.drew) (fun hSd => ?_)
            replace HPN := hid (HPN.out.step (Below.refl _ _).drew)
            have HFd : Hid (Box Wb.drew gf sf.1 sf.2.1 sf.2.2) := HFN.out
            clear HFN
            have HFN := HFd
            clear HFd
            generalize Wb.drew = z0 at *
            refine wpAnyH_take (i := 0) (oi := _) (v := .pointer (some ⟨w.heap.size, 1, none⟩)) rfl (by kernel_rfl) (by kernel_rfl) (by kernel_rfl) (fun _ _ _ h => h) (Or.inl ⟨by rfl, ?_⟩) (by assumption) ?_
            · intro u' hSu
              (try simp only [List.getElem_toArray, List.getElem_cons_zero])
              go_simp
            (try simp only [List.getElem_toArray, List.getElem_cons_zero])
            (try simp only [Act.put, List.setIfInBounds_toArray, List.set_cons_zero, List.set_cons_succ])
            refine wpAnyH_take (i := 1) (oi := _) (v := .slice (some ⟨gm, om, none⟩) n cb) rfl (by kernel_rfl) (by kernel_rfl) (by kernel_rfl) (fun _ _ _ h => h) (Or.inl ⟨by rfl, ?_⟩) (by assumption) ?_
            · intro u' hSu
              (try simp only [List.getElem_toArray, List.getElem_cons_zero, List.getElem_cons_succ])
              obtain ⟨s0, s1, s2, s3, s4, s5, s6⟩ := hSu
              go_simp
            (try simp only [List.getElem_toArray, List.getElem_cons_zero, List.getElem_cons_succ])
            (try simp only [Act.put, List.setIfInBounds_toArray, List.set_cons_zero, List.set_cons_succ])
            refine wpAnyH_take (i := 2) (oi := _) (v := .slice (some ⟨gy, oy, none⟩) L cw) rfl (by kernel_rfl) (by kernel_rfl) (by kernel_rfl) (fun _ _ _ h => h) (Or.inl ⟨by rfl, ?_⟩) (by assumption) ?_
            · intro u' hSu
              (try simp only [List.getElem_toArray, List.getElem_cons_zero, List.getElem_cons_succ])
              go_simp
            (try simp only [List.getElem_toArray, List.getElem_cons_zero, List.getElem_cons_succ])
            (try simp only [Act.put, List.setIfInBounds_toArray, List.set_cons_zero, List.set_cons_succ])
            refine wpAnyH_take (i := 3) (oi := _) (v := .int .i64 (t : Nat)) rfl (by kernel_rfl) (by kernel_rfl) (by kernel_rfl) (fun _ _ _ h => h) (Or.inl ⟨by rfl, ?_⟩) (by assumption) ?_
            · intro u' hSu
              (try simp only [List.getElem_toArray, List.getElem_cons_zero, List.getElem_cons_succ])
              go_simp
            (try simp only [List.getElem_toArray, List.getElem_cons_zero, List.getElem_cons_succ])
            (try simp only [Act.put, List.setIfInBounds_toArray, List.set_cons_zero, List.set_cons_succ])
            refine wpAnyH_take (i := 4) (oi := _) (v := .int .i64 (tp : Nat)) rfl (by kernel_rfl) (by kernel_rfl) (by kernel_rfl) (fun _ _ _ h => h) (Or.inl ⟨by rfl, ?_⟩) (by assumption) ?_
            · intro u' hSu
              (try simp only [List.getElem_toArray, List.getElem_cons_zero, List.getElem_cons_succ])
              go_simp
            (try simp only [List.getElem_toArray, List.getElem_cons_zero, List.getElem_cons_succ])
            (try simp only [Act.put, List.setIfInBounds_toArray, List.set_cons_zero, List.set_cons_succ])
            refine wpAnyH_take (i := 5) (oi := _) (v := .pointer (some ⟨gy, oy + tp, none⟩)) rfl (by kernel_rfl) (by kernel_rfl) (by kernel_rfl) (fun _ _ _ h => h) (Or.inl ⟨by rfl, ?_⟩) (by assumption) ?_
            · intro u' hSu
              (try simp only [List.getElem_toArray, List.getElem_cons_zero, List.getElem_cons_succ])
              go_simp
            (try simp only [List.getElem_toArray, List.getElem_cons_zero, List.getElem_cons_succ])
            (try simp only [Act.put, List.setIfInBounds_toArray, List.set_cons_zero, List.set_cons_succ])
            refine wpAnyH_take (i := 6) (oi := _) (v := .int .i64 (vp : Nat)) rfl (by kernel_rfl) (by kernel_rfl) (by kernel_rfl) (fun _ _ _ h => h) (Or.inl ⟨by rfl, ?_⟩) (by assumption) ?_
            · intro u' hSu
              (try simp only [List.getElem_toArray, List.getElem_cons_zero, List.getElem_cons_succ])
              obtain ⟨s0, s1, s2, s3, s4, s5, s6⟩ := hSu
              go_simp
            (try simp only [List.getElem_toArray, List.getElem_cons_zero, List.getElem_cons_succ])
            (try simp only [Act.put, List.setIfInBounds_toArray, List.set_cons_zero, List.set_cons_succ])
            refine wpAnyH_take (i := 7) (oi := _) (v := .pointer (some ⟨gm, om + vp, none⟩)) rfl (by kernel_rfl) (by kernel_rfl) (by kernel_rfl) (fun _ _ _ h => h) (Or.inl ⟨by rfl, ?_⟩) (by assumption) ?_
            · intro u' hSu
              (try simp only [List.getElem_toArray, List.getElem_cons_zero, List.getElem_cons_succ])
              go_simp
            (try simp only [List.getElem_toArray, List.getElem_cons_zero, List.getElem_cons_succ])
            (try simp only [Act.put, List.setIfInBounds_toArray, List.set_cons_zero, List.set_cons_succ])
            refine wpAnyH_take (i := 8) (oi := _) (v := .slice (some ⟨gr, or_, none⟩) n cm) rfl (by kernel_rfl) (by kernel_rfl) (by kernel_rfl) (fun _ _ _ h => h) (Or.inl ⟨by rfl, ?_⟩) (by assumption) ?_
            · intro u' hSu
              (try simp only [List.getElem_toArray, List.getElem_cons_zero, List.getElem_cons_succ])
              obtain ⟨s0, s1, s2, s3, s4, s5, s6⟩ := hSu
              go_simp
            (try simp only [List.getElem_toArray, List.getElem_cons_zero, List.getElem_cons_succ])
            (try simp only [Act.put, List.setIfInBounds_toArray, List.set_cons_zero, List.set_cons_succ])
            refine wpAnyH_take (i := 9) (oi := _) (v := .slice (some ⟨gy, oy, none⟩) L cw) rfl (by kernel_rfl) (by kernel_rfl) (by kernel_rfl) (fun _ _ _ h => h) (Or.inl ⟨by rfl, ?_⟩) (by assumption) ?_
            · intro u' hSu
              (try simp only [List.getElem_toArray, List.getElem_cons_zero, List.getElem_cons_succ])
              go_simp
            (try simp only [List.getElem_toArray, List.getElem_cons_zero, List.getElem_cons_succ])
            (try simp only [Act.put, List.setIfInBounds_toArray, List.set_cons_zero, List.set_cons_succ])
            refine wpAnyH_take (i := 10) (oi := _) (v := .int .i64 (t : Nat)) rfl (by kernel_rfl) (by kernel_rfl) (by kernel_rfl) (fun _ _ _ h => h) (Or.inl ⟨by rfl, ?_⟩) (by assumption) ?_
            · intro u' hSu
              (try simp only [List.getElem_toArray, List.getElem_cons_zero, List.getElem_cons_succ])
              go_simp
            (try simp only [List.getElem_toArray, List.getElem_cons_zero, List.getElem_cons_succ])
            (try simp only [Act.put, List.setIfInBounds_toArray, List.set_cons_zero, List.set_cons_succ])
            refine wpAnyH_take (i := 11) (oi := _) (v := .pointer (some ⟨gy, oy + t, none⟩)) rfl (by kernel_rfl) (by kernel_rfl) (by kernel_rfl) (fun _ _ _ h => h) (Or.inl ⟨by rfl, ?_⟩) (by assumption) ?_
            · intro u' hSu
              (try simp only [List.getElem_toArray, List.getElem_cons_zero, List.getElem_cons_succ])
              go_simp
            (try simp only [List.getElem_toArray, List.getElem_cons_zero, List.getElem_cons_succ])
            (try simp only [Act.put, List.setIfInBounds_toArray, List.set_cons_zero, List.set_cons_succ])
            refine wpAnyH_take (i := 12) (oi := _) (v := .int .i64 (vt : Nat)) rfl (by kernel_rfl) (by kernel_rfl) (by kernel_rfl) (fun _ _ _ h => h) (Or.inl ⟨by rfl, ?_⟩) (by assumption) ?_
            · intro u' hSu
              (try simp only [List.getElem_toArray, List.getElem_cons_zero, List.getElem_cons_succ])
              obtain ⟨s0, s1, s2, s3, s4, s5, s6⟩ := hSu
              go_simp
            (try simp only [List.getElem_toArray, List.getElem_cons_zero, List.getElem_cons_succ])
            (try simp only [Act.put, List.setIfInBounds_toArray, List.set_cons_zero, List.set_cons_succ])
            refine wpAnyH_take (i := 13) (oi := _) (v := .pointer (some ⟨gr, or_ + vt * 3, none⟩)) rfl (by kernel_rfl) (by kernel_rfl) (by kernel_rfl) (fun _ _ _ h => h) (Or.inl ⟨by rfl, ?_⟩) (by assumption) ?_
            · intro u' hSu
              (try simp only [List.getElem_toArray, List.getElem_cons_zero, List.getElem_cons_succ])
              go_simp
            (try simp only [List.getElem_toArray, List.getElem_cons_zero, List.getElem_cons_succ])
            (try simp only [Act.put, List.setIfInBounds_toArray, List.set_cons_zero, List.set_cons_succ])
            refine wpAnyH_take (i := 14) (oi := _) (v := .agg #[.bool mf.1, .string mf.2.1, .string mf.2.2]) rfl (by kernel_rfl) (by kernel_rfl) (by kernel_rfl) (fun _ _ _ h => h) (Or.inl ⟨by rfl, ?_⟩) (by assumption) ?_
            · intro u' hSu
              (try simp only [List.getElem_toArray, List.getElem_cons_zero, List.getElem_cons_succ])
              obtain ⟨s0, s1, s2, s3, s4, s5, s6⟩ := hSu
              go_simp
            (try simp only [List.getElem_toArray, List.getElem_cons_zero, List.getElem_cons_succ])
            (try simp only [Act.put, List.setIfInBounds_toArray, List.set_cons_zero, List.set_cons_succ])
            obtain ⟨k0, k1, k2, f0, f1, f2⟩ := HFN.out.facts
            refine wpAnyH_ready (rs := [15]) (by kernel_rfl) (by simp) (AllReadyH.cons rfl ?_ (AllReadyH.nil))
            · intro K' hK'
              (try simp only [List.getElem_toArray, List.getElem_cons_zero, List.getElem_cons_succ])
              go_simp
              have HFM := hid (HFN.out.put mf.1 mf.2.1 mf.2.2)
              have HPM := hid (HPN.out.far hgpf hgf (.bool mf.1) (.string mf.2.1) (.string mf.2.2))
              refine hK'.out _ _ (HELD7.out _ HPM.out.bel) (fun _ => wpAnyH_done (by kernel_rfl) ?_ _)
              clear hK' K' hSd k0 k1 k2 f0 f1 f2 HPN HFN
              generalize (((z0.setCell ⟨gf, 0, none⟩ (.bool mf.1)).setCell ⟨gf, 1, none⟩ (.string mf.2.1)).setCell ⟨gf, 2, none⟩ (.string mf.2.2)) = Wc at *
              have HPN := HPM
              have HFN := HFM
              clear HPM HFM HELD7
              go_upto_region 8 with fail
              have HELD8 : Hid (∀ u, Below W0.heap.size W0 u → Box u gf mf.1 mf.2.1 mf.2.2 → u.cell? ⟨gf, 0, none⟩ = some (.bool mf.1) ∧ u.cell? ⟨gf, 1, none⟩ = some (.string mf.2.1) ∧ u.cell? ⟨gf, 2, none⟩ = some (.string mf.2.2) ∧ u.cell? ⟨w.heap.size, 2, none⟩ = some (.slice (some ⟨gs, os, none⟩) n cc) ∧ u.cell? ⟨gy, oy + t, none⟩ = some (.int .i64 (vt : Nat)) ∧ u.cell? ⟨gs, os + vt, none⟩ = some (.slice (some ⟨gk, ok_, none⟩) m ck) ∧ u.cell? ⟨gq, oq + t, none⟩ = some (.int .i64 (qt : Nat)) ∧ u.cell? ⟨gk, ok_ + qt * 3, none⟩ = some (.bool hf.1) ∧ u.cell? ⟨gk, ok_ + qt * 3 + 1, none⟩ = some (.string hf.2.1) ∧ u.cell? ⟨gk, ok_ + qt * 3 + 2, none⟩ = some (.string hf.2.2)) := fun u hu hx => by
                have hwu := HW0.out.trans (hu.mono HW0.out.size)
                exact ⟨hx.c0, hx.c1, hx.c2, (HHB.out.below hu HHB.out.lt).cells.2.2, (hwu.cell (p := ⟨gy, _, none⟩) hgy).trans HY0.out, (hwu.cell (p := ⟨gs, _, none⟩) hgs).trans HK0.out, (hwu.cell (p := ⟨gq, _, none⟩) hgq).trans HQ0.out, (hwu.cell (p := ⟨gk, _, none⟩) hgk).trans HK1.out, (hwu.cell (p := ⟨gk, _, none⟩) hgk).trans HK2.out, (hwu.cell (p := ⟨gk, _, none⟩) hgk).trans HK3.out⟩
              refine wp_region_held_drew (S := fun u => u.cell? ⟨gf, 0, none⟩ = some (.bool mf.1) ∧ u.cell? ⟨gf, 1, none⟩ = some (.string mf.2.1) ∧ u.cell? ⟨gf, 2, none⟩ = some (.string mf.2.2) ∧ u.cell? ⟨w.heap.size, 2, none⟩ = some (.slice (some ⟨gs, os, none⟩) n cc) ∧ u.cell? ⟨gy, oy + t, none⟩ = some (.int .i64 (vt : Nat)) ∧ u.cell? ⟨gs, os + vt, none⟩ = some (.slice (some ⟨gk, ok_, none⟩) m ck) ∧ u.cell? ⟨gq, oq + t, none⟩ = some (.int .i64 (qt : Nat)) ∧ u.cell? ⟨gk, ok_ + qt * 3, none⟩ = some (.bool hf.1) ∧ u.cell? ⟨gk, ok_ + qt * 3 + 1, none⟩ = some (.string hf.2.1) ∧ u.cell? ⟨gk, ok_ + qt * 3 + 2, none⟩ = some (.string hf.2.2)) (by kernel_rfl) (HELD8.out _ HPN.out.bel.drew HFN.out.drew) (fun hSd => ?_)
              replace HPN := hid (HPN.out.step (Below.refl _ _).drew)
              have HFd : Hid (Box Wc.drew gf mf.1 mf.2.1 mf.2.2) := HFN.out
              clear HFN
              have HFN := HFd
              clear HFd
              generalize Wc.drew = q0 at *
              refine wpAnyH_take (i := 1) (oi := _) (v := .agg #[.bool mf.1, .string mf.2.1, .string mf.2.2]) rfl (by kernel_rfl) (by kernel_rfl) (by kernel_rfl) (fun _ _ _ h => h) (Or.inl ⟨by rfl, ?_⟩) (by assumption) ?_
              · intro u' hSu
                (try simp only [List.getElem_toArray, List.getElem_cons_zero, List.getElem_cons_succ])
                obtain ⟨s0, s1, s2, s3, s4, s5, s6, s7, s8, s9⟩ := hSu
                go_simp
              (try simp only [List.getElem_toArray, List.getElem_cons_zero, List.getElem_cons_succ])
              (try simp only [Act.put, List.setIfInBounds_toArray, List.set_cons_zero, List.set_cons_succ])
              refine wpAnyH_take (i := 3) (oi := _) (v := .pointer (some ⟨w.heap.size, 2, none⟩)) rfl (by kernel_rfl) (by kernel_rfl) (by kernel_rfl) (fun _ _ _ h => h) (Or.inl ⟨by rfl, ?_⟩) (by assumption) ?_
              · intro u' hSu
                (try simp only [List.getElem_toArray, List.getElem_cons_zero, List.getElem_cons_succ])
                go_simp
              (try simp only [List.getElem_toArray, List.getElem_cons_zero, List.getElem_cons_succ])
              (try simp only [Act.put, List.setIfInBounds_toArray, List.set_cons_zero, List.set_cons_succ])
              refine wpAnyH_take (i := 4) (oi := _) (v := .slice (some ⟨gs, os, none⟩) n cc) rfl (by kernel_rfl) (by kernel_rfl) (by kernel_rfl) (fun _ _ _ h => h) (Or.inl ⟨by rfl, ?_⟩) (by assumption) ?_
              · intro u' hSu
                (try simp only [List.getElem_toArray, List.getElem_cons_zero, List.getElem_cons_succ])
                obtain ⟨s0, s1, s2, s3, s4, s5, s6, s7, s8, s9⟩ := hSu
                go_simp
              (try simp only [List.getElem_toArray, List.getElem_cons_zero, List.getElem_cons_succ])
              (try simp only [Act.put, List.setIfInBounds_toArray, List.set_cons_zero, List.set_cons_succ])
              refine wpAnyH_take (i := 5) (oi := _) (v := .slice (some ⟨gy, oy, none⟩) L cw) rfl (by kernel_rfl) (by kernel_rfl) (by kernel_rfl) (fun _ _ _ h => h) (Or.inl ⟨by rfl, ?_⟩) (by assumption) ?_
              · intro u' hSu
                (try simp only [List.getElem_toArray, List.getElem_cons_zero, List.getElem_cons_succ])
                go_simp
              (try simp only [List.getElem_toArray, List.getElem_cons_zero, List.getElem_cons_succ])
              (try simp only [Act.put, List.setIfInBounds_toArray, List.set_cons_zero, List.set_cons_succ])
              refine wpAnyH_take (i := 6) (oi := _) (v := .int .i64 (t : Nat)) rfl (by kernel_rfl) (by kernel_rfl) (by kernel_rfl) (fun _ _ _ h => h) (Or.inl ⟨by rfl, ?_⟩) (by assumption) ?_
              · intro u' hSu
                (try simp only [List.getElem_toArray, List.getElem_cons_zero, List.getElem_cons_succ])
                go_simp
              (try simp only [List.getElem_toArray, List.getElem_cons_zero, List.getElem_cons_succ])
              (try simp only [Act.put, List.setIfInBounds_toArray, List.set_cons_zero, List.set_cons_succ])
              refine wpAnyH_take (i := 7) (oi := _) (v := .pointer (some ⟨gy, oy + t, none⟩)) rfl (by kernel_rfl) (by kernel_rfl) (by kernel_rfl) (fun _ _ _ h => h) (Or.inl ⟨by rfl, ?_⟩) (by assumption) ?_
              · intro u' hSu
                (try simp only [List.getElem_toArray, List.getElem_cons_zero, List.getElem_cons_succ])
                go_simp
              (try simp only [List.getElem_toArray, List.getElem_cons_zero, List.getElem_cons_succ])
              (try simp only [Act.put, List.setIfInBounds_toArray, List.set_cons_zero, List.set_cons_succ])
              refine wpAnyH_take (i := 8) (oi := _) (v := .int .i64 (vt : Nat)) rfl (by kernel_rfl) (by kernel_rfl) (by kernel_rfl) (fun _ _ _ h => h) (Or.inl ⟨by rfl, ?_⟩) (by assumption) ?_
              · intro u' hSu
                (try simp only [List.getElem_toArray, List.getElem_cons_zero, List.getElem_cons_succ])
                obtain ⟨s0, s1, s2, s3, s4, s5, s6, s7, s8, s9⟩ := hSu
                go_simp
              (try simp only [List.getElem_toArray, List.getElem_cons_zero, List.getElem_cons_succ])
              (try simp only [Act.put, List.setIfInBounds_toArray, List.set_cons_zero, List.set_cons_succ])
              refine wpAnyH_take (i := 9) (oi := _) (v := .pointer (some ⟨gs, os + vt, none⟩)) rfl (by kernel_rfl) (by kernel_rfl) (by kernel_rfl) (fun _ _ _ h => h) (Or.inl ⟨by rfl, ?_⟩) (by assumption) ?_
              · intro u' hSu
                (try simp only [List.getElem_toArray, List.getElem_cons_zero, List.getElem_cons_succ])
                go_simp
              (try simp only [List.getElem_toArray, List.getElem_cons_zero, List.getElem_cons_succ])
              (try simp only [Act.put, List.setIfInBounds_toArray, List.set_cons_zero, List.set_cons_succ])
              refine wpAnyH_take (i := 10) (oi := _) (v := .slice (some ⟨gk, ok_, none⟩) m ck) rfl (by kernel_rfl) (by kernel_rfl) (by kernel_rfl) (fun _ _ _ h => h) (Or.inl ⟨by rfl, ?_⟩) (by assumption) ?_
              · intro u' hSu
                (try simp only [List.getElem_toArray, List.getElem_cons_zero, List.getElem_cons_succ])
                obtain ⟨s0, s1, s2, s3, s4, s5, s6, s7, s8, s9⟩ := hSu
                go_simp
              (try simp only [List.getElem_toArray, List.getElem_cons_zero, List.getElem_cons_succ])
              (try simp only [Act.put, List.setIfInBounds_toArray, List.set_cons_zero, List.set_cons_succ])
              refine wpAnyH_take (i := 11) (oi := _) (v := .slice (some ⟨gq, oq, none⟩) L cd) rfl (by kernel_rfl) (by kernel_rfl) (by kernel_rfl) (fun _ _ _ h => h) (Or.inl ⟨by rfl, ?_⟩) (by assumption) ?_
              · intro u' hSu
                (try simp only [List.getElem_toArray, List.getElem_cons_zero, List.getElem_cons_succ])
                go_simp
              (try simp only [List.getElem_toArray, List.getElem_cons_zero, List.getElem_cons_succ])
              (try simp only [Act.put, List.setIfInBounds_toArray, List.set_cons_zero, List.set_cons_succ])
              refine wpAnyH_take (i := 12) (oi := _) (v := .int .i64 (t : Nat)) rfl (by kernel_rfl) (by kernel_rfl) (by kernel_rfl) (fun _ _ _ h => h) (Or.inl ⟨by rfl, ?_⟩) (by assumption) ?_
              · intro u' hSu
                (try simp only [List.getElem_toArray, List.getElem_cons_zero, List.getElem_cons_succ])
                go_simp
              (try simp only [List.getElem_toArray, List.getElem_cons_zero, List.getElem_cons_succ])
              (try simp only [Act.put, List.setIfInBounds_toArray, List.set_cons_zero, List.set_cons_succ])
              refine wpAnyH_take (i := 13) (oi := _) (v := .pointer (some ⟨gq, oq + t, none⟩)) rfl (by kernel_rfl) (by kernel_rfl) (by kernel_rfl) (fun _ _ _ h => h) (Or.inl ⟨by rfl, ?_⟩) (by assumption) ?_
              · intro u' hSu
                (try simp only [List.getElem_toArray, List.getElem_cons_zero, List.getElem_cons_succ])
                go_simp
              (try simp only [List.getElem_toArray, List.getElem_cons_zero, List.getElem_cons_succ])
              (try simp only [Act.put, List.setIfInBounds_toArray, List.set_cons_zero, List.set_cons_succ])
              refine wpAnyH_take (i := 14) (oi := _) (v := .int .i64 (qt : Nat)) rfl (by kernel_rfl) (by kernel_rfl) (by kernel_rfl) (fun _ _ _ h => h) (Or.inl ⟨by rfl, ?_⟩) (by assumption) ?_
              · intro u' hSu
                (try simp only [List.getElem_toArray, List.getElem_cons_zero, List.getElem_cons_succ])
                obtain ⟨s0, s1, s2, s3, s4, s5, s6, s7, s8, s9⟩ := hSu
                go_simp
              (try simp only [List.getElem_toArray, List.getElem_cons_zero, List.getElem_cons_succ])
              (try simp only [Act.put, List.setIfInBounds_toArray, List.set_cons_zero, List.set_cons_succ])
              refine wpAnyH_take (i := 15) (oi := _) (v := .pointer (some ⟨gk, ok_ + qt * 3, none⟩)) rfl (by kernel_rfl) (by kernel_rfl) (by kernel_rfl) (fun _ _ _ h => h) (Or.inl ⟨by rfl, ?_⟩) (by assumption) ?_
              · intro u' hSu
                (try simp only [List.getElem_toArray, List.getElem_cons_zero, List.getElem_cons_succ])
                go_simp
              (try simp only [List.getElem_toArray, List.getElem_cons_zero, List.getElem_cons_succ])
              (try simp only [Act.put, List.setIfInBounds_toArray, List.set_cons_zero, List.set_cons_succ])
              refine wpAnyH_take (i := 16) (oi := _) (v := .agg #[.bool hf.1, .string hf.2.1, .string hf.2.2]) rfl (by kernel_rfl) (by kernel_rfl) (by kernel_rfl) (fun _ _ _ h => h) (Or.inl ⟨by rfl, ?_⟩) (by assumption) ?_
              · intro u' hSu
                (try simp only [List.getElem_toArray, List.getElem_cons_zero, List.getElem_cons_succ])
                obtain ⟨s0, s1, s2, s3, s4, s5, s6, s7, s8, s9⟩ := hSu
                go_simp
              (try simp only [List.getElem_toArray, List.getElem_cons_zero, List.getElem_cons_succ])
              (try simp only [Act.put, List.setIfInBounds_toArray, List.set_cons_zero, List.set_cons_succ])
              refine wpAnyH_ready (rs := [0]) (by kernel_rfl) (by simp) (AllReadyH.cons rfl ?_ (AllReadyH.nil))
              · intro K' hK'
                obtain ⟨k0, k1, k2, -⟩ := HPN.out.px.facts
                (try simp only [List.getElem_toArray, List.getElem_cons_zero])
                go_simp
                refine hK'.out _ _ hSd (fun _ => ?_)
                clear hK' K' k0 k1 k2
                (try simp only [List.getElem_toArray, List.getElem_cons_zero, List.getElem_cons_succ])
                (try simp only [Act.put, List.setIfInBounds_toArray, List.set_cons_zero, List.set_cons_succ])
                refine wpAnyH_ready (rs := [2]) (by kernel_rfl) (by simp) (AllReadyH.cons rfl ?_ (AllReadyH.nil))
                · intro K' hK'
                  (try simp only [List.getElem_toArray, List.getElem_cons_zero, List.getElem_cons_succ])
                  go_simp
                  refine (HM1.out _).mono ?_
                  rintro e q1 ⟨rfl, hb⟩
                  replace HPN := hid (HPN.out.step hb)
                  replace HFN := hid (HFN.out.below hb HFN.out.lt)
                  refine hK'.out _ _ (HELD8.out _ HPN.out.bel HFN.out) (fun hSe => ?_)
                  clear hK' K' hSd hb
                  (try simp only [List.getElem_toArray, List.getElem_cons_zero, List.getElem_cons_succ])
                  (try simp only [Act.put, List.setIfInBounds_toArray, List.set_cons_zero, List.set_cons_succ])
                  refine wpAnyH_ready (rs := [17]) (by kernel_rfl) (by simp) (AllReadyH.cons rfl ?_ (AllReadyH.nil))
                  · intro K' hK'
                    (try simp only [List.getElem_toArray, List.getElem_cons_zero, List.getElem_cons_succ])
                    go_simp
                    refine (HM2.out _).mono ?_
                    rintro e q2 ⟨rfl, hb⟩
                    replace HPN := hid (HPN.out.step hb)
                    replace HFN := hid (HFN.out.below hb HFN.out.lt)
                    refine hK'.out _ _ (HELD8.out _ HPN.out.bel HFN.out) (fun hSf => ?_)
                    clear hK' K' hSe hb
                    (try simp only [List.getElem_toArray, List.getElem_cons_zero, List.getElem_cons_succ])
                    (try simp only [Act.put, List.setIfInBounds_toArray, List.set_cons_zero, List.set_cons_succ])
                    obtain ⟨k0, k1, k2, f0, f1, f2⟩ := HPN.out.px.facts
                    refine wpAnyH_ready (rs := [18]) (by kernel_rfl) (by simp) (AllReadyH.cons rfl ?_ (AllReadyH.nil))
                    · intro K' hK'
                      (try simp only [List.getElem_toArray, List.getElem_cons_zero, List.getElem_cons_succ])
                      go_simp
                      have HPZ : Hid (WoS W0 gp (h.lik v (t + 1)) (((q2.setCell ⟨gp, 0, none⟩ (.bool (sgn (h.lik v (t + 1))))).setCell ⟨gp, 1, none⟩ (.string (nu (h.lik v (t + 1))))).setCell ⟨gp, 2, none⟩ (.string (de (h.lik v (t + 1)))))) := ⟨HPN.out.px.put _ _ _, below_put HPN.out.bel hgp _ _ _⟩
                      have HFZ := hid (HFN.out.far3 (Ne.symm hgpf) (.bool (sgn (h.lik v (t + 1)))) (.string (nu (h.lik v (t + 1)))) (.string (de (h.lik v (t + 1)))))
                      refine hK'.out _ _ (HELD8.out _ HPZ.out.bel HFZ.out) (fun _ => wpAnyH_done (by kernel_rfl) ?_ _)
                      clear hK' K' hSf k0 k1 k2 f0 f1 f2 HPN HFN HFZ
                      go_wp2
                      go_roundw
                      case rel => exact ⟨t + 1, by omega, by go_num, HPZ⟩
                      case measure => simp [intOf]; omega
    · obtain rfl : t = L := by omega
      obtain ⟨p0, p1, p2, -⟩ := HP.out.px.facts
      have hrb := HRB.out.below HP.out.bel HRB.out.lt
      obtain ⟨k0, k1, k2, f0, f1, f2⟩ := hrb.facts
      go_wp2
      refine bodyPost_ret ((hrb.put _ _ _).result rfl _ rfl) rfl ?_
      exact ⟨rfl, below_put (HW0.out.trans (HP.out.bel.mono HW0.out.size)) (by omega) _ _ _⟩
end Go.Proofs.YtnnfmfdjgdgdhaaGreatDoor

