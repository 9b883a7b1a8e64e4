/- The law NetChecks answers true: package net checks, tells what is given and how likely all is, as the document's answer does. -/
import Derived.Test.YtncccbdledcibaaGreatDoorHvyAToLawB
import Derived.Laws.EntriesVeiled
import Derived.Test.YtncccbdledcibaaGreatDoorFracGToRefR
import Derived.Deep.Strs
import Derived.HandedShaped
import Derived.ProofKit
import Derived.OpenShut
import Derived.ShutString
import Derived.SizedLaws
namespace Go.Proofs.YtncccbdledcibaaGreatDoor
open Go.RowKit Go.Shelf

/-- What the law holds at its end: the net's box, two tables, two fractions. -/
structure NX (w z : World) (x y t : Value) (B7 B9 B11 B13 : Nat) (p1 q1 p2 q2 : Option Addr) (cp1 cq1 cp2 cq2 : Nat) (T : List Int) (F : List Fr) (jn : Bool) (jx jy : ByteArray) : Prop where
  net : NK w z x y t
  t7 : TBox z B7 (.slice p1 T.length cp1) (.slice q1 F.length cq1)
  t9 : TBox z B9 (.slice p2 T.length cp2) (.slice q2 F.length cq2)
  i1 : IntS z p1 T
  f1 : FrS z q1 F
  i2 : IntS z p2 T
  f2 : FrS z q2 F
  b11 : Box z B11 jn jx jy
  b13 : Box z B13 jn jx jy
theorem NX.step {w z z' : World} {x y t : Value} {B7 B9 B11 B13 : Nat} {p1 q1 p2 q2 : Option Addr} {cp1 cq1 cp2 cq2 : Nat} {T : List Int} {F : List Fr} {jn : Bool} {jx jy : ByteArray} (h : NX w z x y t B7 B9 B11 B13 p1 q1 p2 q2 cp1 cq1 cp2 cq2 T F jn jx jy) (hb : Below z.heap.size z z') : NX w z' x y t B7 B9 B11 B13 p1 q1 p2 q2 cp1 cq1 cp2 cq2 T F jn jx jy :=
  ⟨h.net.step hb, h.t7.below hb h.t7.lt, h.t9.below hb h.t9.lt, h.i1.below hb, h.f1.below hb, h.i2.below hb, h.f2.below hb, h.b11.below hb h.b11.lt, h.b13.below hb h.b13.lt⟩
theorem NX.drew {w z : World} {x y t : Value} {B7 B9 B11 B13 : Nat} {p1 q1 p2 q2 : Option Addr} {cp1 cq1 cp2 cq2 : Nat} {T : List Int} {F : List Fr} {jn : Bool} {jx jy : ByteArray} (h : NX w z x y t B7 B9 B11 B13 p1 q1 p2 q2 cp1 cq1 cp2 cq2 T F jn jx jy) : NX w z.drew x y t B7 B9 B11 B13 p1 q1 p2 q2 cp1 cq1 cp2 cq2 T F jn jx jy := h.step (Below.refl _ _).drew
theorem NX.cells {w z : World} {x y t : Value} {B7 B9 B11 B13 : Nat} {p1 q1 p2 q2 : Option Addr} {cp1 cq1 cp2 cq2 : Nat} {T : List Int} {F : List Fr} {jn : Bool} {jx jy : ByteArray} (h : NX w z x y t B7 B9 B11 B13 p1 q1 p2 q2 cp1 cq1 cp2 cq2 T F jn jx jy) :
    (z.cell? ⟨w.heap.size, 0, none⟩ = some x ∧ z.cell? ⟨w.heap.size, 1, none⟩ = some y ∧ z.cell? ⟨w.heap.size, 2, none⟩ = some t) ∧ (z.cell? ⟨B7, 0, none⟩ = some (.slice p1 T.length cp1) ∧ z.cell? ⟨B7, 1, none⟩ = some (.slice q1 F.length cq1)) ∧ (z.cell? ⟨B9, 0, none⟩ = some (.slice p2 T.length cp2) ∧ z.cell? ⟨B9, 1, none⟩ = some (.slice q2 F.length cq2)) ∧ (z.cell? ⟨B11, 0, none⟩ = some (.bool jn) ∧ z.cell? ⟨B11, 1, none⟩ = some (.string jx) ∧ z.cell? ⟨B11, 2, none⟩ = some (.string jy)) ∧ (z.cell? ⟨B13, 0, none⟩ = some (.bool jn) ∧ z.cell? ⟨B13, 1, none⟩ = some (.string jx) ∧ z.cell? ⟨B13, 2, none⟩ = some (.string jy)) :=
  ⟨h.net.1.cells, ⟨h.t7.c0, h.t7.c1⟩, ⟨h.t9.c0, h.t9.c1⟩, ⟨h.b11.c0, h.b11.c1, h.b11.c2⟩, ⟨h.b13.c0, h.b13.c1, h.b13.c2⟩⟩

set_option maxRecDepth 100000 in
set_option maxHeartbeats 8000000 in
theorem netChecks_walk (a b c d : Option Addr) (ca cb cc cd : Nat) (V : List Vr) (L : List (List Int)) (R : List (List Fr)) (v : Int) (at_ : List Int) (w : World) (h : NetI w a b c V L R) (hN : LsN w b L) (hA : IntS w d at_) (hu : NHu V L R) (hna : at_.length ≤ 140737488355328) :
    Calls Tryz.prog 3 #[.agg #[.slice a V.length ca, .slice b L.length cb, .slice c R.length cc], .int .i64 v, .slice d at_.length cd] w fun e w' => e = .returned (.bool true) ∧ Below w.heap.size w w' := by
  have HI := hid h
  have HN := hid hN
  have HA := hid hA
  have HU := hid hu
  clear h hN hA hu
  have hD := NK.new w (.slice a V.length ca) (.slice b L.length cb) (.slice c R.length cc)
  obtain ⟨c0, c1, c2⟩ := hD.1.cells
  go_enter Tryz.func3, Tryz.ntmps3
  go_wp2_with fail
  generalize (w.alloc (NC (.slice a V.length ca) (.slice b L.length cb) (.slice c R.length cc))) = z0 at *
  refine (heavyNet_any a b c ca cb cc V L R _ (HI.out.below hD.2) HU.out).mono ?_
  rintro e z1 ⟨⟨r, rfl, hr⟩, hb⟩
  replace hD := hD.step hb
  clear c0 c1 c2 hb
  cases r
  case true =>
    clear hr
    go_wp2
    go_ret
    exact ⟨rfl, hD.2⟩
  case false =>
    have hli := hr rfl
    clear hr
    by_cases h64 : 64 < at_.length
    · have h64' : (64 : Int) < (at_.length : Int) := by omega
      clear h64
      go_wp2
      go_ret
      exact ⟨rfl, hD.2⟩
    · have h64' : (at_.length : Int) ≤ 64 := by omega
      have hat : at_.length ≤ 5000 := by omega
      obtain ⟨hsm, hfw⟩ := nsm_of hli
      have hV5 := hsm.vars.1
      obtain ⟨T, F, ge, hT, hF, hg1, hg2⟩ := both_Given a b c ca cb cc v V L R w HI.out HN.out hsm hfw
      have HG1 := hid hg1
      have HG2 := hid hg2
      have HC1 := hid (fun (U : World) (hB : Below w.heap.size w U) => check_any a b c ca cb cc V L R U (HI.out.below hB) hsm)
      have HC2 := hid (fun (U : World) (hB : Below w.heap.size w U) => rNetCheck_any a b c ca cb cc V L R U (HI.out.below hB) hsm)
      have HZ1 := hid (fun (U : World) (hB : Below w.heap.size w U) => nSizes_any a b c ca cb cc L.length R.length V U (HI.out.below hB).vars hV5)
      have HZ2 := hid (fun (U : World) (hB : Below w.heap.size w U) => rSizes_any a b c ca cb cc L.length R.length V U (HI.out.below hB).vars hV5)
      have HJ1 := hid (fun (U : World) (hB : Below w.heap.size w U) => nJoint_any a b c d ca cb cc cd V L R at_ U (HI.out.below hB) hsm hfw (HA.out.below hB) hat fun U' hU' => check_any a b c ca cb cc V L R U' hU' hsm)
      have HJ2 := hid (fun (U : World) (hB : Below w.heap.size w U) => rJoint_any a b c d ca cb cc cd V L R at_ U (HI.out.below hB) hsm hfw (HA.out.below hB) hat)
      have HO : Hid (∀ U : World, Calls Tryz.prog 16 #[frV (jF V L R at_), .int .i64 (jE V L R at_), frV (jF V L R at_), .int .i64 (jE V L R at_)] U fun e w' => e = .returned (.bool true) ∧ Below U.heap.size U w') := fun U => by
        by_cases hj : jE V L R at_ = 0
        · rw [hj]
          exact oneFrac_ok _ _ _ U
        · have e : jF V L R at_ = (false, ⟨#[]⟩, ⟨#[]⟩) := if_neg hj
          rw [e]
          exact oneFrac_err _ hj U
      have HSL : Hid ((iL (sizesN V)).length = V.length) := by show _ = _; rw [iL_length, sizesN_length]
      have HSI : Hid (∀ (U : World) (G : Nat) (d9 : Option Addr) (cd9 : Nat), RowI U G (sizesN V) → IntS U d9 (iL (sizesN V)) → Calls Tryz.prog 12 #[.slice (some ⟨G, 0, none⟩) V.length V.length, .slice d9 V.length cd9] U fun e w' => e = .returned (.bool true) ∧ Below U.heap.size U w') := fun U G d9 cd9 h1 h2 => by
        have h3 := sameInts_any (some ⟨G, 0, none⟩) d9 V.length cd9 (iL (sizesN V)) U h1.ints h2 (by rw [HSL.out]; omega)
        rwa [HSL.out] at h3
      clear hg1 hg2 hsm hfw h64 hli
      generalize netE V L R = ne at *
      generalize jE V L R at_ = je at *
      generalize jF V L R at_ = jf at *
      obtain ⟨jn, jx, jy⟩ := jf
      (try simp only at HJ1 HJ2 HO)
      obtain ⟨c0, c1, c2⟩ := hD.1.cells
      go_wp2_with fail
      refine (HG1.out _ hD.2).mono ?_
      rintro e z2 ⟨⟨p1, q1, cp1, cq1, rfl, hi1, hf1⟩, hb⟩
      replace hD := hD.step hb
      clear c0 c1 c2 hb
      have h7 := TBox.at (w := z2) rfl (.slice p1 T.length cp1) (.slice q1 F.length cq1)
      have hb : Below z2.heap.size z2 (z2.alloc (TC (.slice p1 T.length cp1) (.slice q1 F.length cq1))) := (Below.refl _ z2).alloc (Nat.le_refl _) _
      replace hD := hD.step hb
      replace hi1 := hi1.below hb
      replace hf1 := hf1.below hb
      clear hb
      obtain ⟨c0, c1, c2⟩ := hD.1.cells
      go_wp2_with fail
      clear c0 c1 c2
      generalize (z2.alloc (TC (.slice p1 T.length cp1) (.slice q1 F.length cq1))) = z3 at *
      generalize z2.heap.size = B7 at *
      refine (HG2.out _ hD.2).mono ?_
      rintro e z4 ⟨⟨p2, q2, cp2, cq2, rfl, hi2, hf2⟩, hb⟩
      replace hD := hD.step hb
      replace hi1 := hi1.below hb
      replace hf1 := hf1.below hb
      replace h7 := h7.below hb h7.lt
      clear hb
      have h9 := TBox.at (w := z4) rfl (.slice p2 T.length cp2) (.slice q2 F.length cq2)
      have hb : Below z4.heap.size z4 (z4.alloc (TC (.slice p2 T.length cp2) (.slice q2 F.length cq2))) := (Below.refl _ z4).alloc (Nat.le_refl _) _
      replace hD := hD.step hb
      replace hi1 := hi1.below hb
      replace hf1 := hf1.below hb
      replace hi2 := hi2.below hb
      replace hf2 := hf2.below hb
      replace h7 := h7.below hb h7.lt
      clear hb
      obtain ⟨c0, c1, c2⟩ := hD.1.cells
      go_wp2_with fail
      clear c0 c1 c2
      generalize (z4.alloc (TC (.slice p2 T.length cp2) (.slice q2 F.length cq2))) = z5 at *
      generalize z4.heap.size = B9 at *
      refine (HJ1.out _ hD.2).mono ?_
      rintro e z6 ⟨rfl, hb⟩
      have hb2 := hb.alloc hb.size (FC jn jx jy)
      have h11 := Box.new z6 jn jx jy
      replace hD := hD.step hb2
      replace hi1 := hi1.below hb2
      replace hf1 := hf1.below hb2
      replace hi2 := hi2.below hb2
      replace hf2 := hf2.below hb2
      replace h7 := h7.below hb2 h7.lt
      replace h9 := h9.below hb2 h9.lt
      clear hb hb2
      obtain ⟨c0, c1, c2⟩ := hD.1.cells
      go_wp2_with fail
      clear c0 c1 c2
      generalize (z6.alloc (FC jn jx jy)) = z7 at *
      generalize z6.heap.size = B11 at *
      refine (HJ2.out _ hD.2).mono ?_
      rintro e z8 ⟨rfl, hb⟩
      have hb2 := hb.alloc hb.size (FC jn jx jy)
      have h13 := Box.new z8 jn jx jy
      have hX : NX w (z8.alloc (FC jn jx jy)) (.slice a V.length ca) (.slice b L.length cb) (.slice c R.length cc) B7 B9 B11 z8.heap.size p1 q1 p2 q2 cp1 cq1 cp2 cq2 T F jn jx jy := ⟨hD.step hb2, h7.below hb2 h7.lt, h9.below hb2 h9.lt, hi1.below hb2, hf1.below hb2, hi2.below hb2, hf2.below hb2, h11.below hb2 h11.lt, h13⟩
      clear hD hi1 hf1 hi2 hf2 h7 h9 h11 h13 hb hb2
      go_upto_region 7 with fail
      replace hX := hX.drew
      generalize (z8.alloc (FC jn jx jy)) = z9 at *
      generalize z8.heap.size = B13 at *
      refine wp_region_held_drew (S := fun u => (u.cell? ⟨w.heap.size, 0, none⟩ = some (.slice a V.length ca) ∧ u.cell? ⟨w.heap.size, 1, none⟩ = some (.slice b L.length cb) ∧ u.cell? ⟨w.heap.size, 2, none⟩ = some (.slice c R.length cc)) ∧ (u.cell? ⟨B7, 0, none⟩ = some (.slice p1 T.length cp1) ∧ u.cell? ⟨B7, 1, none⟩ = some (.slice q1 F.length cq1)) ∧ (u.cell? ⟨B9, 0, none⟩ = some (.slice p2 T.length cp2) ∧ u.cell? ⟨B9, 1, none⟩ = some (.slice q2 F.length cq2)) ∧ (u.cell? ⟨B11, 0, none⟩ = some (.bool jn) ∧ u.cell? ⟨B11, 1, none⟩ = some (.string jx) ∧ u.cell? ⟨B11, 2, none⟩ = some (.string jy)) ∧ (u.cell? ⟨B13, 0, none⟩ = some (.bool jn) ∧ u.cell? ⟨B13, 1, none⟩ = some (.string jx) ∧ u.cell? ⟨B13, 2, none⟩ = some (.string jy))) (by kernel_rfl) hX.cells (fun hSd => ?_)
      generalize z9.drew = u0 at *
      refine wpAnyH_take (i := 0) (oi := _) (v := .agg #[.slice a V.length ca, .slice b L.length cb, .slice c R.length cc]) rfl (by kernel_rfl) (by kernel_rfl) (by kernel_rfl) (fun _ _ _ h => h) (Or.inl ⟨by rfl, ?_⟩) (by assumption) ?_
      · intro u' hSu
        (try simp only [List.getElem_toArray, List.getElem_cons_zero])
        obtain ⟨⟨s1, s2, s3⟩, ⟨s4, s5⟩, ⟨s6, s7⟩, ⟨s8, s9, s10⟩, ⟨s11, s12, s13⟩⟩ := hSu
        go_simp
      (try simp only [List.getElem_toArray, List.getElem_cons_zero])
      (try simp only [Act.put, List.setIfInBounds_toArray, List.set_cons_zero, List.set_cons_succ])
      refine wpAnyH_take (i := 2) (oi := _) (v := .agg #[.slice a V.length ca, .slice b L.length cb, .slice c R.length cc]) rfl (by kernel_rfl) (by kernel_rfl) (by kernel_rfl) (fun _ _ _ h => h) (Or.inl ⟨by rfl, ?_⟩) (by assumption) ?_
      · intro u' hSu
        (try simp only [List.getElem_toArray, List.getElem_cons_zero, List.getElem_cons_succ])
        obtain ⟨⟨s1, s2, s3⟩, ⟨s4, s5⟩, ⟨s6, s7⟩, ⟨s8, s9, s10⟩, ⟨s11, s12, s13⟩⟩ := hSu
        go_simp
      (try simp only [List.getElem_toArray, List.getElem_cons_zero, List.getElem_cons_succ])
      (try simp only [Act.put, List.setIfInBounds_toArray, List.set_cons_zero, List.set_cons_succ])
      refine wpAnyH_ready (rs := [1]) (by kernel_rfl) (by simp) (AllReadyH.cons rfl ?_ (AllReadyH.nil))
      · intro K' hK'
        (try simp only [List.getElem_toArray, List.getElem_cons_zero, List.getElem_cons_succ])
        go_simp
        refine (HC1.out _ hX.net.2).mono ?_
        rintro e uu1 ⟨rfl, hb⟩
        replace hX := hX.step hb
        refine hK'.out _ _ hX.cells (fun hSe => ?_)
        clear hK' K' hSd
        have hSd := hSe
        clear hSe hb
        (try simp only [List.getElem_toArray, List.getElem_cons_zero, List.getElem_cons_succ])
        (try simp only [Act.put, List.setIfInBounds_toArray, List.set_cons_zero, List.set_cons_succ])
        refine wpAnyH_ready (rs := [3]) (by kernel_rfl) (by simp) (AllReadyH.cons rfl ?_ (AllReadyH.nil))
        · intro K' hK'
          (try simp only [List.getElem_toArray, List.getElem_cons_zero, List.getElem_cons_succ])
          go_simp
          refine (HC2.out _ hX.net.2).mono ?_
          rintro e uu3 ⟨rfl, hb⟩
          replace hX := hX.step hb
          refine hK'.out _ _ hX.cells (fun hSe => ?_)
          clear hK' K' hSd
          have hSd := hSe
          clear hSe hb
          (try simp only [List.getElem_toArray, List.getElem_cons_zero, List.getElem_cons_succ])
          (try simp only [Act.put, List.setIfInBounds_toArray, List.set_cons_zero, List.set_cons_succ])
          refine wpAnyH_take (i := 4) (oi := _) (v := .bool true) rfl (by kernel_rfl) (by kernel_rfl) (by kernel_rfl) (fun _ _ _ h => h) (Or.inl ⟨by rfl, ?_⟩) (by assumption) ?_
          · intro u' hSu
            (try simp only [List.getElem_toArray, List.getElem_cons_zero, List.getElem_cons_succ])
            go_simp
          (try simp only [List.getElem_toArray, List.getElem_cons_zero, List.getElem_cons_succ])
          (try simp only [Act.put, List.setIfInBounds_toArray, List.set_cons_zero, List.set_cons_succ])
          refine wpAnyH_take (i := 5) (oi := _) (v := .bool true) rfl (by kernel_rfl) (by kernel_rfl) (by kernel_rfl) (fun _ _ _ h => h) (Or.inl ⟨by rfl, ?_⟩) (by assumption) ?_
          · intro u' hSu
            (try simp only [List.getElem_toArray, List.getElem_cons_zero, List.getElem_cons_succ])
            go_simp
          (try simp only [List.getElem_toArray, List.getElem_cons_zero, List.getElem_cons_succ])
          (try simp only [Act.put, List.setIfInBounds_toArray, List.set_cons_zero, List.set_cons_succ])
          refine wpAnyH_take (i := 6) (oi := _) (v := .agg #[.slice a V.length ca, .slice b L.length cb, .slice c R.length cc]) rfl (by kernel_rfl) (by kernel_rfl) (by kernel_rfl) (fun _ _ _ h => h) (Or.inl ⟨by rfl, ?_⟩) (by assumption) ?_
          · intro u' hSu
            (try simp only [List.getElem_toArray, List.getElem_cons_zero, List.getElem_cons_succ])
            obtain ⟨⟨s1, s2, s3⟩, ⟨s4, s5⟩, ⟨s6, s7⟩, ⟨s8, s9, s10⟩, ⟨s11, s12, s13⟩⟩ := hSu
            go_simp
          (try simp only [List.getElem_toArray, List.getElem_cons_zero, List.getElem_cons_succ])
          (try simp only [Act.put, List.setIfInBounds_toArray, List.set_cons_zero, List.set_cons_succ])
          refine wpAnyH_take (i := 8) (oi := _) (v := .agg #[.slice a V.length ca, .slice b L.length cb, .slice c R.length cc]) rfl (by kernel_rfl) (by kernel_rfl) (by kernel_rfl) (fun _ _ _ h => h) (Or.inl ⟨by rfl, ?_⟩) (by assumption) ?_
          · intro u' hSu
            (try simp only [List.getElem_toArray, List.getElem_cons_zero, List.getElem_cons_succ])
            obtain ⟨⟨s1, s2, s3⟩, ⟨s4, s5⟩, ⟨s6, s7⟩, ⟨s8, s9, s10⟩, ⟨s11, s12, s13⟩⟩ := hSu
            go_simp
          (try simp only [List.getElem_toArray, List.getElem_cons_zero, List.getElem_cons_succ])
          (try simp only [Act.put, List.setIfInBounds_toArray, List.set_cons_zero, List.set_cons_succ])
          refine wpAnyH_ready (rs := [7]) (by kernel_rfl) (by simp) (AllReadyH.cons rfl ?_ (AllReadyH.nil))
          · intro K' hK'
            (try simp only [List.getElem_toArray, List.getElem_cons_zero, List.getElem_cons_succ])
            go_simp
            refine (HZ1.out _ hX.net.2).mono ?_
            rintro e uu7 ⟨G, rfl, -, hrG, hb⟩
            replace hX := hX.step hb
            refine hK'.out _ _ hX.cells (fun hSe => ?_)
            clear hK' K' hSd
            have hSd := hSe
            clear hSe hb
            (try simp only [List.getElem_toArray, List.getElem_cons_zero, List.getElem_cons_succ])
            (try simp only [Act.put, List.setIfInBounds_toArray, List.set_cons_zero, List.set_cons_succ])
            refine wpAnyH_ready (rs := [9]) (by kernel_rfl) (by simp) (AllReadyH.cons rfl ?_ (AllReadyH.nil))
            · intro K' hK'
              (try simp only [List.getElem_toArray, List.getElem_cons_zero, List.getElem_cons_succ])
              go_simp
              refine (HZ2.out _ hX.net.2).mono ?_
              rintro e uu9 ⟨x9, rfl, hrw9, hb⟩
              replace hrG := hrG.below hb hrG.lt
              replace hX := hX.step hb
              refine hK'.out _ _ hX.cells (fun hSe => ?_)
              clear hK' K' hSd
              have hSd := hSe
              clear hSe hb
              (try simp only [List.getElem_toArray, List.getElem_cons_zero, List.getElem_cons_succ])
              (try simp only [Act.put, List.setIfInBounds_toArray, List.set_cons_zero, List.set_cons_succ])
              obtain ⟨d9, cd9, rfl, hi9⟩ := hrw9.ints
              rw [HSL.out]
              refine wpAnyH_ready (rs := [10]) (by kernel_rfl) (by simp) (AllReadyH.cons rfl ?_ (AllReadyH.nil))
              · intro K' hK'
                (try simp only [List.getElem_toArray, List.getElem_cons_zero, List.getElem_cons_succ])
                go_simp
                refine (HSI.out _ G d9 cd9 hrG hi9).mono ?_
                rintro e uu10 ⟨rfl, hb⟩
                replace hX := hX.step hb
                refine hK'.out _ _ hX.cells (fun hSe => ?_)
                clear hK' K' hSd
                have hSd := hSe
                clear hSe hb
                (try simp only [List.getElem_toArray, List.getElem_cons_zero, List.getElem_cons_succ])
                (try simp only [Act.put, List.setIfInBounds_toArray, List.set_cons_zero, List.set_cons_succ])
                refine wpAnyH_take (i := 11) (oi := _) (v := .bool true) rfl (by kernel_rfl) (by kernel_rfl) (by kernel_rfl) (fun _ _ _ h => h) (Or.inl ⟨by rfl, ?_⟩) (by assumption) ?_
                · intro u' hSu
                  (try simp only [List.getElem_toArray, List.getElem_cons_zero, List.getElem_cons_succ])
                  go_simp
                (try simp only [List.getElem_toArray, List.getElem_cons_zero, List.getElem_cons_succ])
                (try simp only [Act.put, List.setIfInBounds_toArray, List.set_cons_zero, List.set_cons_succ])
                refine wpAnyH_take (i := 12) (oi := _) (v := .bool true) rfl (by kernel_rfl) (by kernel_rfl) (by kernel_rfl) (fun _ _ _ h => h) (Or.inl ⟨by rfl, ?_⟩) (by assumption) ?_
                · intro u' hSu
                  (try simp only [List.getElem_toArray, List.getElem_cons_zero, List.getElem_cons_succ])
                  go_simp
                (try simp only [List.getElem_toArray, List.getElem_cons_zero, List.getElem_cons_succ])
                (try simp only [Act.put, List.setIfInBounds_toArray, List.set_cons_zero, List.set_cons_succ])
                refine wpAnyH_take (i := 13) (oi := _) (v := .int .i64 ge) rfl (by kernel_rfl) (by kernel_rfl) (by kernel_rfl) (fun _ _ _ h => h) (Or.inl ⟨by rfl, ?_⟩) (by assumption) ?_
                · intro u' hSu
                  (try simp only [List.getElem_toArray, List.getElem_cons_zero, List.getElem_cons_succ])
                  go_simp
                (try simp only [List.getElem_toArray, List.getElem_cons_zero, List.getElem_cons_succ])
                (try simp only [Act.put, List.setIfInBounds_toArray, List.set_cons_zero, List.set_cons_succ])
                refine wpAnyH_take (i := 14) (oi := _) (v := .int .i64 ge) rfl (by kernel_rfl) (by kernel_rfl) (by kernel_rfl) (fun _ _ _ h => h) (Or.inl ⟨by rfl, ?_⟩) (by assumption) ?_
                · intro u' hSu
                  (try simp only [List.getElem_toArray, List.getElem_cons_zero, List.getElem_cons_succ])
                  go_simp
                (try simp only [List.getElem_toArray, List.getElem_cons_zero, List.getElem_cons_succ])
                (try simp only [Act.put, List.setIfInBounds_toArray, List.set_cons_zero, List.set_cons_succ])
                refine wpAnyH_take (i := 15) (oi := _) (v := .bool true) rfl (by kernel_rfl) (by kernel_rfl) (by kernel_rfl) (fun _ _ _ h => h) (Or.inl ⟨by rfl, ?_⟩) (by assumption) ?_
                · intro u' hSu
                  (try simp only [List.getElem_toArray, List.getElem_cons_zero, List.getElem_cons_succ])
                  go_simp
                (try simp only [List.getElem_toArray, List.getElem_cons_zero, List.getElem_cons_succ])
                (try simp only [Act.put, List.setIfInBounds_toArray, List.set_cons_zero, List.set_cons_succ])
                refine wpAnyH_take (i := 16) (oi := _) (v := .bool true) rfl (by kernel_rfl) (by kernel_rfl) (by kernel_rfl) (fun _ _ _ h => h) (Or.inl ⟨by rfl, ?_⟩) (by assumption) ?_
                · intro u' hSu
                  (try simp only [List.getElem_toArray, List.getElem_cons_zero, List.getElem_cons_succ])
                  go_simp
                (try simp only [List.getElem_toArray, List.getElem_cons_zero, List.getElem_cons_succ])
                (try simp only [Act.put, List.setIfInBounds_toArray, List.set_cons_zero, List.set_cons_succ])
                refine wpAnyH_take (i := 17) (oi := _) (v := .bool true) rfl (by kernel_rfl) (by kernel_rfl) (by kernel_rfl) (fun _ _ _ h => h) (Or.inl ⟨by rfl, ?_⟩) (by assumption) ?_
                · intro u' hSu
                  (try simp only [List.getElem_toArray, List.getElem_cons_zero, List.getElem_cons_succ])
                  go_simp
                (try simp only [List.getElem_toArray, List.getElem_cons_zero, List.getElem_cons_succ])
                (try simp only [Act.put, List.setIfInBounds_toArray, List.set_cons_zero, List.set_cons_succ])
                refine wpAnyH_take (i := 18) (oi := _) (v := .agg #[.slice p1 T.length cp1, .slice q1 F.length cq1]) rfl (by kernel_rfl) (by kernel_rfl) (by kernel_rfl) (fun _ _ _ h => h) (Or.inl ⟨by rfl, ?_⟩) (by assumption) ?_
                · intro u' hSu
                  (try simp only [List.getElem_toArray, List.getElem_cons_zero, List.getElem_cons_succ])
                  obtain ⟨⟨s1, s2, s3⟩, ⟨s4, s5⟩, ⟨s6, s7⟩, ⟨s8, s9, s10⟩, ⟨s11, s12, s13⟩⟩ := hSu
                  go_simp
                (try simp only [List.getElem_toArray, List.getElem_cons_zero, List.getElem_cons_succ])
                (try simp only [Act.put, List.setIfInBounds_toArray, List.set_cons_zero, List.set_cons_succ])
                refine wpAnyH_take (i := 19) (oi := _) (v := .agg #[.slice p2 T.length cp2, .slice q2 F.length cq2]) rfl (by kernel_rfl) (by kernel_rfl) (by kernel_rfl) (fun _ _ _ h => h) (Or.inl ⟨by rfl, ?_⟩) (by assumption) ?_
                · intro u' hSu
                  (try simp only [List.getElem_toArray, List.getElem_cons_zero, List.getElem_cons_succ])
                  obtain ⟨⟨s1, s2, s3⟩, ⟨s4, s5⟩, ⟨s6, s7⟩, ⟨s8, s9, s10⟩, ⟨s11, s12, s13⟩⟩ := hSu
                  go_simp
                (try simp only [List.getElem_toArray, List.getElem_cons_zero, List.getElem_cons_succ])
                (try simp only [Act.put, List.setIfInBounds_toArray, List.set_cons_zero, List.set_cons_succ])
                refine wpAnyH_ready (rs := [20]) (by kernel_rfl) (by simp) (AllReadyH.cons rfl ?_ (AllReadyH.nil))
                · intro K' hK'
                  (try simp only [List.getElem_toArray, List.getElem_cons_zero, List.getElem_cons_succ])
                  go_simp
                  refine (sameTable_any p1 q1 p2 q2 cp1 cq1 cp2 cq2 T F _ hX.i1 hX.f1 hX.i2 hX.f2 hT hF).mono ?_
                  rintro e uu20 ⟨rfl, hb⟩
                  replace hX := hX.step hb
                  refine hK'.out _ _ hX.cells (fun hSe => ?_)
                  clear hK' K' hSd
                  have hSd := hSe
                  clear hSe hb
                  (try simp only [List.getElem_toArray, List.getElem_cons_zero, List.getElem_cons_succ])
                  (try simp only [Act.put, List.setIfInBounds_toArray, List.set_cons_zero, List.set_cons_succ])
                  refine wpAnyH_take (i := 21) (oi := _) (v := .bool true) rfl (by kernel_rfl) (by kernel_rfl) (by kernel_rfl) (fun _ _ _ h => h) (Or.inl ⟨by rfl, ?_⟩) (by assumption) ?_
                  · intro u' hSu
                    (try simp only [List.getElem_toArray, List.getElem_cons_zero, List.getElem_cons_succ])
                    go_simp
                  (try simp only [List.getElem_toArray, List.getElem_cons_zero, List.getElem_cons_succ])
                  (try simp only [Act.put, List.setIfInBounds_toArray, List.set_cons_zero, List.set_cons_succ])
                  refine wpAnyH_take (i := 22) (oi := _) (v := .bool true) rfl (by kernel_rfl) (by kernel_rfl) (by kernel_rfl) (fun _ _ _ h => h) (Or.inl ⟨by rfl, ?_⟩) (by assumption) ?_
                  · intro u' hSu
                    (try simp only [List.getElem_toArray, List.getElem_cons_zero, List.getElem_cons_succ])
                    go_simp
                  (try simp only [List.getElem_toArray, List.getElem_cons_zero, List.getElem_cons_succ])
                  (try simp only [Act.put, List.setIfInBounds_toArray, List.set_cons_zero, List.set_cons_succ])
                  refine wpAnyH_take (i := 23) (oi := _) (v := .agg #[.bool jn, .string jx, .string jy]) rfl (by kernel_rfl) (by kernel_rfl) (by kernel_rfl) (fun _ _ _ h => h) (Or.inl ⟨by rfl, ?_⟩) (by assumption) ?_
                  · intro u' hSu
                    (try simp only [List.getElem_toArray, List.getElem_cons_zero, List.getElem_cons_succ])
                    obtain ⟨⟨s1, s2, s3⟩, ⟨s4, s5⟩, ⟨s6, s7⟩, ⟨s8, s9, s10⟩, ⟨s11, s12, s13⟩⟩ := hSu
                    go_simp
                  (try simp only [List.getElem_toArray, List.getElem_cons_zero, List.getElem_cons_succ])
                  (try simp only [Act.put, List.setIfInBounds_toArray, List.set_cons_zero, List.set_cons_succ])
                  refine wpAnyH_take (i := 24) (oi := _) (v := .int .i64 je) rfl (by kernel_rfl) (by kernel_rfl) (by kernel_rfl) (fun _ _ _ h => h) (Or.inl ⟨by rfl, ?_⟩) (by assumption) ?_
                  · intro u' hSu
                    (try simp only [List.getElem_toArray, List.getElem_cons_zero, List.getElem_cons_succ])
                    go_simp
                  (try simp only [List.getElem_toArray, List.getElem_cons_zero, List.getElem_cons_succ])
                  (try simp only [Act.put, List.setIfInBounds_toArray, List.set_cons_zero, List.set_cons_succ])
                  refine wpAnyH_take (i := 25) (oi := _) (v := .agg #[.bool jn, .string jx, .string jy]) rfl (by kernel_rfl) (by kernel_rfl) (by kernel_rfl) (fun _ _ _ h => h) (Or.inl ⟨by rfl, ?_⟩) (by assumption) ?_
                  · intro u' hSu
                    (try simp only [List.getElem_toArray, List.getElem_cons_zero, List.getElem_cons_succ])
                    obtain ⟨⟨s1, s2, s3⟩, ⟨s4, s5⟩, ⟨s6, s7⟩, ⟨s8, s9, s10⟩, ⟨s11, s12, s13⟩⟩ := hSu
                    go_simp
                  (try simp only [List.getElem_toArray, List.getElem_cons_zero, List.getElem_cons_succ])
                  (try simp only [Act.put, List.setIfInBounds_toArray, List.set_cons_zero, List.set_cons_succ])
                  refine wpAnyH_take (i := 26) (oi := _) (v := .int .i64 je) rfl (by kernel_rfl) (by kernel_rfl) (by kernel_rfl) (fun _ _ _ h => h) (Or.inl ⟨by rfl, ?_⟩) (by assumption) ?_
                  · intro u' hSu
                    (try simp only [List.getElem_toArray, List.getElem_cons_zero, List.getElem_cons_succ])
                    go_simp
                  (try simp only [List.getElem_toArray, List.getElem_cons_zero, List.getElem_cons_succ])
                  (try simp only [Act.put, List.setIfInBounds_toArray, List.set_cons_zero, List.set_cons_succ])
                  refine wpAnyH_ready (rs := [27]) (by kernel_rfl) (by simp) (AllReadyH.cons rfl ?_ (AllReadyH.nil))
                  · intro K' hK'
                    (try simp only [List.getElem_toArray, List.getElem_cons_zero, List.getElem_cons_succ])
                    go_simp
                    refine (HO.out _).mono ?_
                    rintro e uu27 ⟨rfl, hb⟩
                    replace hX := hX.step hb
                    refine hK'.out _ _ hX.cells (fun hSe => ?_)
                    clear hK' K' hSd
                    have hSd := hSe
                    clear hSe hb
                    (try simp only [List.getElem_toArray, List.getElem_cons_zero, List.getElem_cons_succ])
                    (try simp only [Act.put, List.setIfInBounds_toArray, List.set_cons_zero, List.set_cons_succ])
                    refine wpAnyH_take (i := 28) (oi := _) (v := .bool true) rfl (by kernel_rfl) (by kernel_rfl) (by kernel_rfl) (fun _ _ _ h => h) (Or.inl ⟨by rfl, ?_⟩) (by assumption) ?_
                    · intro u' hSu
                      (try simp only [List.getElem_toArray, List.getElem_cons_zero, List.getElem_cons_succ])
                      go_simp
                    (try simp only [List.getElem_toArray, List.getElem_cons_zero, List.getElem_cons_succ])
                    (try simp only [Act.put, List.setIfInBounds_toArray, List.set_cons_zero, List.set_cons_succ])
                    refine wpAnyH_take (i := 29) (oi := _) (v := .bool true) rfl (by kernel_rfl) (by kernel_rfl) (by kernel_rfl) (fun _ _ _ h => h) (Or.inl ⟨by rfl, ?_⟩) (by assumption) ?_
                    · intro u' hSu
                      (try simp only [List.getElem_toArray, List.getElem_cons_zero, List.getElem_cons_succ])
                      go_simp
                    (try simp only [List.getElem_toArray, List.getElem_cons_zero, List.getElem_cons_succ])
                    (try simp only [Act.put, List.setIfInBounds_toArray, List.set_cons_zero, List.set_cons_succ])
                    refine wpAnyH_done (by kernel_rfl) ?_ _
                    clear hSd
                    go_wp2
                    go_ret
                    exact ⟨rfl, hX.net.2⟩

end Go.Proofs.YtncccbdledcibaaGreatDoor


/- A lifting that hands on the world's shape beside what the row lists; fractions opened and shut. -/
namespace Go.Proofs.YtncccbdledcibaaGreatDoor
open Go.ChangeShapes Go.WideShapes Go.ChangeAt Go.RowKit

theorem lift_shaped {H : Type} {enc : TypeId × Value → H} {a : Assume} {C : Checked} {os : Os} {f : FuncId} {fn : Func} {s : ChangeSpec} {conds : List PathCond} {apart fresh handsOn again : Bool} {X : World → Array Value → Prop}
    (hX : ∀ (w w' : World) (args : Array Value), w.heap = w'.heap → X w args → X w' args)
    (own : ownKnob C.prog.godebug = none) (started : os.Started) (noInit : C.prog.inits.idxOf? f = none) (hfn : C.prog.funcs[f]? = some fn)
    (witness : ∃ (w : World) (tape : Tape) (i : Input), w.os = os ∧ (w.forCall tape i).Shaped C.prog ∧ i.vars = [] ∧ Input.okWide C.prog (w.forCall tape i) .any w.heap.size f i ∧
      ((s.pre enc C.prog fn conds apart (w.forCall tape i).memory i.args ∧ X (w.forCall tape i).memory i.args) ∧ sizedMet enc C.prog fn (OpenSpec.ofChange s) apart (w.forCall tape i).memory i.args) ∧ a.holds C.prog (lone (Frame.enter C.prog f i.args .normal) [] (w.forCall tape i)))
    (walk : ∀ (W : World) (base : Nat) (args : Array Value) (ds gs : List (DataW H)) (before : List MemPlace),
      (∀ (j : Nat) t v, fn.params[j]? = some t → args[j]? = some v → Value.okWide C.prog W .any base t v) →
      DataW.Whole enc C.prog fn.params.toList s.vars apart W args.toList ds gs before →
      (DataW.weightsEach C.prog (fn.params.toList ++ s.plain.varTypes C.prog) (ds ++ gs)).all (· ≤ reachBytes) = true → X W args → W.ShapedOpen C.prog →
      Calls C.prog f args W fun e W' => ∃ v, e = .returned v ∧ s.post enc C.prog fn apart fresh handsOn again W args v W') :
    ReturnsInHanded a C os f .any (fun w args => (s.pre enc C.prog fn conds apart w args ∧ X w args) ∧ sizedMet enc C.prog fn (OpenSpec.ofChange s) apart w args) (s.post enc C.prog fn apart fresh handsOn again) := by
  refine returnsInHanded_of_calls own started noInit witness ?_
  intro w tape i _ hsh _ hok hpre _
  obtain ⟨_, _, _, fn', hfn', _, _, _, _, hval⟩ := hok
  obtain rfl : fn' = fn := Option.some.inj (hfn'.symm.trans hfn)
  obtain ⟨⟨⟨ds, gs, before, hw, _⟩, hx⟩, hz⟩ := hpre
  refine (walk (w.forCall tape i) w.heap.size i.args ds gs before hval (DataW.Whole.of_heap (w' := w.forCall tape i) (by rfl) hw) (hz.weights hw) (hX _ _ _ (by rfl) hx) hsh).mono fun e W' ⟨v, he, hp⟩ => ?_
  subst he
  exact ChangeSpec.post_blind hp

theorem cellsF : Tryz.prog.cellsOf 37 = 3 := by kernel_rfl
theorem cellsB : Tryz.prog.cellsOf 4 = 1 := by kernel_rfl
theorem cellsN : Tryz.prog.cellsOf 35 = 1 := by kernel_rfl
set_option maxRecDepth 100000 in
theorem open_frac {H : Type} {enc : TypeId × Value → H} {W : World} {r : Reach} {b0 base : Nat} {sp : Nat → Bool} {held : Bool} {v : Value} {d : DataW H} {p : List MemPlace} (hval : Value.okWide Tryz.prog W r b0 37 v) (h : DataW.Trod enc Tryz.prog W base sp held 37 v d p) :
    ∃ (n : Bool) (x y : ByteArray), v = .agg #[.bool n, .string x, .string y] ∧ d = .agg [.lit (.bool n), .lit (.string x.data.toList), .lit (.string y.data.toList)] ∧ p = [] ∧ x.size ≤ maxLen ∧ y.size ≤ maxLen := by
  obtain ⟨cs, rfl, hsz⟩ := okWide_struct Tryz.underlying37 hval
  rw [cellsF] at hsz
  obtain ⟨l⟩ := cs
  match l, hsz with
  | [c0, c1, c2], _ =>
    obtain ⟨fuel, hf⟩ := h
    obtain ⟨y0, y1, y2, m, hx, _, hy0, hy1, hy2⟩ := Deep.trod_struct3 Tryz.underlying37 hf
    obtain ⟨n, e0, rfl⟩ := DataW.trod_bool Tryz.underlying4 hy0
    obtain ⟨x, e1, rfl, hx1⟩ := DataW.trod_string Tryz.underlying35 hy1
    obtain ⟨y, e2, rfl, hx2⟩ := DataW.trod_string Tryz.underlying35 hy2
    simp [Value.cells, cellsB, cellsN] at e0 e1 e2
    subst e0 e1 e2
    simp only [Prod.mk.injEq] at hx
    exact ⟨n, x, y, rfl, hx.1, by simpa using hx.2, hx1, hx2⟩
set_option maxRecDepth 100000 in
theorem shut_frac {H : Type} {enc : TypeId × Value → H} {W : World} {base : Nat} {sp : Nat → Bool} {held : Bool} {n : Bool} {x y : ByteArray} (hx : x.size ≤ maxLen) (hy : y.size ≤ maxLen) :
    DataW.Trod enc Tryz.prog W base sp held 37 (.agg #[.bool n, .string x, .string y]) (.agg [.lit (.bool n), .lit (.string x.data.toList), .lit (.string y.data.toList)]) [] := ⟨2, by
  have f0 : DataW.trod enc Tryz.prog W base sp held 1 4 [.bool n] = some (.lit (.bool n), []) := by simp [DataW.trod, Tryz.underlying4]
  have f1 : DataW.trod enc Tryz.prog W base sp held 1 35 [.string x] = some (.lit (.string x.data.toList), []) := by simp [DataW.trod, Tryz.underlying35, hx]
  have f2 : DataW.trod enc Tryz.prog W base sp held 1 35 [.string y] = some (.lit (.string y.data.toList), []) := by simp [DataW.trod, Tryz.underlying35, hy]
  have := Deep.trod_struct3_mk (enc := enc) (w := W) (base := base) (spare := sp) (held := held) (n := 1) (cs := [.bool n, .string x, .string y]) Tryz.underlying37 (by simp [cellsF]) (by simpa [cellsB] using f0) (by simpa [cellsN] using f1) (by simpa [cellsN] using f2)
  simpa [Value.cells] using this⟩
theorem sized_frac {H : Type} {ts : List TypeId} {ds : List (DataW H)} (h : (DataW.weightsEach Tryz.prog ts ds).all (· ≤ reachBytes) = true) {j : Nat} {n : Bool} {x y : ByteArray} (ht : ts[j]? = some 37) (hd : ds[j]? = some (.agg [.lit (.bool n), .lit (.string x.data.toList), .lit (.string y.data.toList)])) : x.size ≤ 140737488355328 ∧ y.size ≤ 140737488355328 := by
  have h1 := List.all_eq_true.1 h _ (DataW.weights_mem_each ht hd x.data.toList.length (by simp [DataW.weights, Tryz.underlying37, DataW.weightsEach]))
  have h2 := List.all_eq_true.1 h _ (DataW.weights_mem_each ht hd y.data.toList.length (by simp [DataW.weights, Tryz.underlying37, DataW.weightsEach]))
  have h1' : x.data.toList.length ≤ reachBytes := by simpa using h1
  have h2' : y.data.toList.length ≤ reachBytes := by simpa using h2
  rw [bytes_len] at h1' h2'
  simp only [reachBytes] at h1' h2'
  constructor <;> omega
end Go.Proofs.YtncccbdledcibaaGreatDoor
