/- Nets: Given of package net (of a contract of Check). -/
import Derived.Test.YtncccbdledcibaaGreatDoorMadFToGivD
import Derived.Test.YtncccbdledcibaaGreatDoorJntCOwn
import Derived.Laws.EntriesVeiled
import Derived.Test.YtncccbdledcibaaGreatDoorJntAToSumN
import Derived.Test.YtncccbdledcibaaGreatDoorNetEOwn
import Derived.Test.YtncccbdledcibaaGreatDoorTabR5ToStandA
import Derived.Test.YtncccbdledcibaaGreatDoorRowBToRefL
namespace Go.Proofs.YtncccbdledcibaaGreatDoor
open Go.RowKit Go.Shelf

theorem GK.grown {w V V' : World} {x y z : Value} {g : Nat} (h : GK w V x y z) (hg : V.grownBy V' (some g)) (hb : w.heap.size + 2 ≤ g) : GK w V' x y z :=
  have hB : Below (w.heap.size + 2) V V' := (Below.refl _ V).grown hg (by have := h.2.lt; omega) (fun k e => by cases e; exact hb)
  ⟨h.1.grow (hB.mono (by omega)), h.2.below hB (by omega)⟩

set_option maxRecDepth 100000 in
set_option maxHeartbeats 4000000 in
theorem nGiven_yes (a b c : Option Addr) (ca cb cc v : Nat) (V : List Vr) (L : List (List Int)) (R : List (List Fr)) (w : World) (h : NetI w a b c V L R) (hN : LsN w b L) (hs : NSm V L R) (hw : ∀ l ∈ R, fw l ≤ 4200) (h0 : netE V L R = 0) (hv : v < V.length) (hCK : ∀ U : World, NetI U a b c V L R → Calls Tryz.prog 10 #[.agg #[.slice a V.length ca, .slice b L.length cb, .slice c R.length cc]] U fun e w' => e = .returned (.int .i64 (netE V L R)) ∧ Below U.heap.size U w') :
    Calls Tryz.prog 6 #[.agg #[.slice a V.length ca, .slice b L.length cb, .slice c R.length cc], .int .i64 (v : Nat)] w fun e w' => TabA (gU L v) (gL V L R v) 0 e w' ∧ Below w.heap.size w w' := by
  have hok := netE_ok h0
  have hV5 := hs.vars.1
  have hn8 := hok.n8
  have hvL : v < L.length := by rw [hok.len]; exact hv
  have hvR : v < R.length := by rw [hok.lenR]; exact hv
  have hua := hok.up v hvL
  have hno := noSelf_of h0 hvL
  have HNC := hid hCK
  rw [h0] at HNC
  have HSRT : Hid ((([(v : Int)] ++ L[v]).mergeSort fun x y => decide (x ≤ y)) = gU L v) := sort_gU hvL hua hno
  have HGL : Hid (([(v : Int)] ++ L[v]).length = (gU L v).length) := by show _ = _; rw [← HSRT.out, List.length_mergeSort]
  have hUe : gU L v = togL L[v] [(v : Int)] := by rw [gU, List.getD_eq_getElem?_getD, List.getElem?_eq_getElem hvL]; rfl
  have HUU : Hid (Up (gU L v) V.length) := by rw [hUe]; exact togL_up hua (up_one hv)
  have HUP0 : Hid (0 < (gU L v).length) := by show _ < _; rw [← HGL.out]; simp
  have hfi := hok.fine
  have hs4 : ∀ u, sz (sizesN V) u ≤ 4 := fun u => by have := hfi.sz_le u; rwa [toN_iL] at this
  have hps : Pos (sizesN V) := by have := hfi.pos; rwa [toN_iL] at this
  have hsm : cnt (sizesN V) (toN (gU L v)) ≤ 65536 := cnt_small hs4 (by rw [toN_length]; have := HUU.out.length; omega)
  have HFL : Hid ((gL V L R v).length = cnt (sizesN V) (toN (gU L v))) := by show _ = _; simp [gL]
  have hRL : R[v].length = (gL V L R v).length := by rw [HFL.out, cnt_gU _ hvL hua hno]; exact hok.rows v hvL hvR
  have HFG : Hid (∀ k (h : k < (gL V L R v).length), (gL V L R v)[k] = qF (frQ (likF V L R (asg (sizesN V) (toN (gU L v)) k) v))) := fun k h => by simp [gL]
  have HLS : Hid (∀ K, K < cnt (sizesN V) (toN (gU L v)) → (likF V L R (asg (sizesN V) (toN (gU L v)) K) v).2.1.size + (likF V L R (asg (sizesN V) (toN (gU L v)) K) v).2.2.size ≤ 4200) := fun K hK => likF_size hok (fun u => asg_lt hps _ K u hK) hw hv
  have HRA : Hid (∀ (K : Nat) (U : World) (G : Nat), K < cnt (sizesN V) (toN (gU L v)) → NetI U a b c V L R → RowI U G (spr V.length (asg (sizesN V) (toN (gU L v)) K)) → Calls Tryz.prog 29 #[.agg #[.slice a V.length ca, .slice b L.length cb, .slice c R.length cc], .int .i64 (v : Nat), .slice (some ⟨G, 0, none⟩) V.length V.length] U fun e w' => e = .returned (frV (likF V L R (asg (sizesN V) (toN (gU L v)) K) v)) ∧ Below U.heap.size U w') := fun K U G hK h1 h2 => by
    rw [likF_eq hvL hvR]
    have := likely_any a b c (some ⟨G, 0, none⟩) ca cb cc V.length v V L R (spr V.length (asg (sizesN V) (toN (gU L v)) K)) U h1 h2.ints (spr_length _ _) hn8 hv hvL hvR hfi hua (hok.rows v hvL hvR) (asg (sizesN V) (toN (gU L v)) K) (fun u => asg_lt hps _ K u hK) (fun u hu => spr_get? hu)
    rwa [spr_length] at this
  have hsl : (iL (sizesN V)).length = V.length := by rw [iL_length, sizesN_length]
  have HWH : Hid (∀ (U : World) (G D cd K : Nat), K < cnt (sizesN V) (toN (gU L v)) → RowI U G (sizesN V) → IntS U (some ⟨D, 0, none⟩) (gU L v) → Calls Tryz.prog 27 #[.slice (some ⟨G, 0, none⟩) V.length V.length, .slice (some ⟨D, 0, none⟩) (gU L v).length cd, .int .i64 (K : Nat)] U fun e w' => ∃ (g : Nat) (cc : Nat), e = .returned (.tuple #[.slice (some ⟨g, 0, none⟩) (gU L v).length cc, .int .i64 0]) ∧ U.heap.size ≤ g ∧ RowI w' g (digs (sizesN V) (toN (gU L v)) K) ∧ Below U.heap.size U w') := fun U G D cd K hK h1 h2 => by
    have := tWhere_own (some ⟨G, 0, none⟩) (some ⟨D, 0, none⟩) V.length cd K (iL (sizesN V)) (gU L v) U h1.ints h2 hfi (by rw [hsl]; exact HUU.out) (by rw [toN_iL]; exact hK)
    rwa [hsl, toN_iL] at this
  have HDG : Hid (∀ K i (hi : i < (toN (gU L v)).length), (digs (sizesN V) (toN (gU L v)) K)[i]? = some (asg (sizesN V) (toN (gU L v)) K (toN (gU L v))[i])) := fun K i hi => asg_digs HUU.out.nodup hi
  have HAO : Hid (∀ K u, ¬ u ∈ toN (gU L v) → asg (sizesN V) (toN (gU L v)) K u = 0) := fun K u hu => asg_out hu
  have HSZ := hid (fun (U : World) (hU : VsS U a V) => nSizes_any a b c ca cb cc L.length R.length V U hU hV5)
  have HIP := hid (h.pars v hvL)
  have hpl := hs.pars.2 L[v] (List.getElem_mem hvL)
  replace hpl : L[v].length ≤ 50000 := by omega
  have HNV := hid (hN v hvL)
  obtain ⟨gr, or_, br, cr, rfl, hgr, r1, -, -⟩ := h.rows v hvR
  rw [hRL] at r1
  have HR1 := hid r1
  have HI := hid h
  generalize gL V L R v = FL at *
  generalize gU L v = U at *
  obtain ⟨gp, op_, bl, cl, rfl, hgp, p1, hpi⟩ := HIP.out
  have HNL := hid (HNV.out gp op_ bl _ cl rfl p1)
  have HP1 := hid p1
  have HPI := hid hpi
  generalize hplv : L[v] = pl at *
  clear h hs hw h0 hok hua hUe hfi hs4 hps hsl HIP p1 hpi hplv hno hN HNV hRL r1 hCK
  have HK0 := hid (GK.new w (.slice a V.length ca) (.slice (some ⟨gp, op_, none⟩) L.length cb) (.slice (some ⟨gr, or_, none⟩) R.length cc))
  obtain ⟨c0, c1, c2⟩ := HK0.out.1.1.cells
  go_enter Tryz.func6, Tryz.ntmps6
  go_wp2_with fail
  generalize ((w.alloc (NC (.slice a V.length ca) (.slice (some ⟨gp, op_, none⟩) L.length cb) (.slice (some ⟨gr, or_, none⟩) R.length cc))).alloc (TC (.slice none 0 0) (.slice none 0 0))) = w1 at *
  refine (HNC.out _ (HI.out.below HK0.out.1.2)).mono ?_
  rintro e W ⟨rfl, hb⟩
  have hG := HK0.out.step hb
  clear hb HK0 c0 c1 c2 HNC
  obtain ⟨c0, c1, c2⟩ := hG.1.1.cells
  have hv0 : (0 : Int) ≤ (v : Int) := by omega
  have hv1 : (v : Int) < (V.length : Int) := by omega
  have HGK := hid hG
  clear hG
  go_upto_region 6 with fail
  clear c0 c1 c2
  have hd1 : decide (V.length ≤ v) = false := by simp; exact hv
  have hd2 : decide ((v : Int) < 0) = false := by simp
  simp only [hd1, hd2, Bool.or_false]
  go_cut [7, 8] from 32 to 42 (fun s t wx => ∃ G D cd, s = .slice (some ⟨G, 0, none⟩) V.length V.length ∧ t = .slice (some ⟨D, 0, none⟩) U.length cd ∧ w.heap.size + 2 ≤ G ∧ w.heap.size + 2 ≤ D ∧ RowI wx G (sizesN V) ∧ IntS wx (some ⟨D, 0, none⟩) U ∧ GK w wx (.slice a V.length ca) (.slice (some ⟨gp, op_, none⟩) L.length cb) (.slice (some ⟨gr, or_, none⟩) R.length cc))
  case first =>
    have hG := HGK.out
    clear HGK
    replace hG : GK w W.drew (.slice a V.length ca) (.slice (some ⟨gp, op_, none⟩) L.length cb) (.slice (some ⟨gr, or_, none⟩) R.length cc) := ⟨⟨hG.1.1, hG.1.2.drew⟩, hG.2⟩
    refine wp_region_held_drew (S := fun u => u.cell? ⟨w.heap.size, 0, none⟩ = some (.slice a V.length ca) ∧ u.cell? ⟨w.heap.size, 1, none⟩ = some (.slice (some ⟨gp, op_, none⟩) L.length cb) ∧ u.cell? ⟨w.heap.size, 2, none⟩ = some (.slice (some ⟨gr, or_, none⟩) R.length cc) ∧ u.cell? ⟨gp, op_ + v, none⟩ = some (.slice bl pl.length cl)) (by kernel_rfl) ⟨hG.1.1.cells.1, hG.1.1.cells.2.1, hG.1.1.cells.2.2, (hG.1.2.cell (p := ⟨gp, op_ + v, none⟩) hgp).trans HP1.out⟩ (fun hSd => ?_)
    generalize W.drew = u0 at *
    refine wpAnyH_take (i := 0) (oi := _) (v := .agg #[.slice a V.length ca, .slice (some ⟨gp, op_, none⟩) L.length cb, .slice (some ⟨gr, or_, none⟩) R.length cc]) rfl (by kernel_rfl) (by kernel_rfl) (by kernel_rfl) (fun _ _ _ h => h) (Or.inl ⟨by rfl, ?_⟩) (by assumption) ?_
    · intro u' hSu
      (try simp only [List.getElem_toArray, List.getElem_cons_zero])
      obtain ⟨s1, s2, s3, s4⟩ := hSu
      go_simp
    (try simp only [List.getElem_toArray, List.getElem_cons_zero])
    (try simp only [Act.put, List.setIfInBounds_toArray, List.set_cons_zero, List.set_cons_succ])
    refine wpAnyH_take (i := 2) (oi := _) (v := .int .i64 (v : Nat)) rfl (by kernel_rfl) (by kernel_rfl) (by kernel_rfl) (fun _ _ _ h => h) (Or.inl ⟨by rfl, ?_⟩) (by assumption) ?_
    · intro u' hSu
      (try simp only [List.getElem_toArray, List.getElem_cons_zero, List.getElem_cons_succ])
      go_simp
    (try simp only [List.getElem_toArray, List.getElem_cons_zero, List.getElem_cons_succ])
    (try simp only [Act.put, List.setIfInBounds_toArray, List.set_cons_zero, List.set_cons_succ])
    refine wpAnyH_take (i := 4) (oi := _) (v := .pointer (some ⟨w.heap.size, 1, none⟩)) rfl (by kernel_rfl) (by kernel_rfl) (by kernel_rfl) (fun _ _ _ h => h) (Or.inl ⟨by rfl, ?_⟩) (by assumption) ?_
    · intro u' hSu
      (try simp only [List.getElem_toArray, List.getElem_cons_zero, List.getElem_cons_succ])
      go_simp
    (try simp only [List.getElem_toArray, List.getElem_cons_zero, List.getElem_cons_succ])
    (try simp only [Act.put, List.setIfInBounds_toArray, List.set_cons_zero, List.set_cons_succ])
    refine wpAnyH_take (i := 5) (oi := _) (v := .slice (some ⟨gp, op_, none⟩) L.length cb) rfl (by kernel_rfl) (by kernel_rfl) (by kernel_rfl) (fun _ _ _ h => h) (Or.inl ⟨by rfl, ?_⟩) (by assumption) ?_
    · intro u' hSu
      (try simp only [List.getElem_toArray, List.getElem_cons_zero, List.getElem_cons_succ])
      obtain ⟨s1, s2, s3, s4⟩ := hSu
      go_simp
    (try simp only [List.getElem_toArray, List.getElem_cons_zero, List.getElem_cons_succ])
    (try simp only [Act.put, List.setIfInBounds_toArray, List.set_cons_zero, List.set_cons_succ])
    refine wpAnyH_take (i := 6) (oi := _) (v := .int .i64 (v : Nat)) rfl (by kernel_rfl) (by kernel_rfl) (by kernel_rfl) (fun _ _ _ h => h) (Or.inl ⟨by rfl, ?_⟩) (by assumption) ?_
    · intro u' hSu
      (try simp only [List.getElem_toArray, List.getElem_cons_zero, List.getElem_cons_succ])
      go_simp
    (try simp only [List.getElem_toArray, List.getElem_cons_zero, List.getElem_cons_succ])
    (try simp only [Act.put, List.setIfInBounds_toArray, List.set_cons_zero, List.set_cons_succ])
    refine wpAnyH_take (i := 7) (oi := _) (v := .pointer (some ⟨gp, op_ + v, none⟩)) rfl (by kernel_rfl) (by kernel_rfl) (by kernel_rfl) (fun _ _ _ h => h) (Or.inl ⟨by rfl, ?_⟩) (by assumption) ?_
    · intro u' hSu
      (try simp only [List.getElem_toArray, List.getElem_cons_zero, List.getElem_cons_succ])
      go_simp
    (try simp only [List.getElem_toArray, List.getElem_cons_zero, List.getElem_cons_succ])
    (try simp only [Act.put, List.setIfInBounds_toArray, List.set_cons_zero, List.set_cons_succ])
    refine wpAnyH_take (i := 8) (oi := _) (v := .slice bl pl.length cl) rfl (by kernel_rfl) (by kernel_rfl) (by kernel_rfl) (fun _ _ _ h => h) (Or.inl ⟨by rfl, ?_⟩) (by assumption) ?_
    · intro u' hSu
      (try simp only [List.getElem_toArray, List.getElem_cons_zero, List.getElem_cons_succ])
      obtain ⟨s1, s2, s3, s4⟩ := hSu
      go_simp
    (try simp only [List.getElem_toArray, List.getElem_cons_zero, List.getElem_cons_succ])
    (try simp only [Act.put, List.setIfInBounds_toArray, List.set_cons_zero, List.set_cons_succ])
    refine wpAnyH_ready (rs := [1, 3]) (by kernel_rfl) (by simp) (AllReadyH.cons rfl ?_ (AllReadyH.cons rfl ?_ (AllReadyH.nil)))
    · intro K' hK'
      (try simp only [List.getElem_toArray, List.getElem_cons_zero, List.getElem_cons_succ])
      go_simp
      refine (HSZ.out _ (HI.out.below hG.1.2).vars).mono ?_
      rintro e uS ⟨G, rfl, hGe, hrow, hb⟩
      have hG2 : w.heap.size + 2 ≤ G := by have := hG.2.lt; omega
      replace hG := hG.step hb
      refine hK'.out _ _ ⟨hG.1.1.cells.1, hG.1.1.cells.2.1, hG.1.1.cells.2.2, (hG.1.2.cell (p := ⟨gp, op_ + v, none⟩) hgp).trans HP1.out⟩ (fun hSe => ?_)
      clear hb hGe
      clear hK' K' hSd
      have hSd := hSe
      clear hSe
      (try simp only [List.getElem_toArray, List.getElem_cons_zero, List.getElem_cons_succ])
      (try simp only [Act.put, List.setIfInBounds_toArray, List.set_cons_zero, List.set_cons_succ])
      refine wpAnyH_ready (rs := [3]) (by kernel_rfl) (by simp) (AllReadyH.cons rfl ?_ (AllReadyH.nil))
      · intro K' hK'
        (try simp only [List.getElem_toArray, List.getElem_cons_zero, List.getElem_cons_succ])
        go_simp
        have hown : (uS.alloc (.cells #[.int .i64 (v : Int)] 3)).heap[uS.heap.size]? = some (.cells #[.int .i64 (v : Int)] 3 (0, 0)) := heap_alloc_new uS _
        have hGgb : G < uS.heap.size := hrow.lt
        replace hrow := hrow.alloc (.cells #[.int .i64 (v : Int)] 3)
        have hgb2 : w.heap.size + 2 ≤ uS.heap.size := by have := hG.2.lt; omega
        replace hG := hG.step ((Below.refl _ uS).alloc (Nat.le_refl _) (.cells #[.int .i64 (v : Int)] 3))
        refine hK'.out _ _ ⟨hG.1.1.cells.1, hG.1.1.cells.2.1, hG.1.1.cells.2.2, (hG.1.2.cell (p := ⟨gp, op_ + v, none⟩) hgp).trans HP1.out⟩ (fun hSe => ?_)
        generalize (uS.alloc (.cells #[.int .i64 (v : Int)] 3)) = u2 at *
        generalize uS.heap.size = gb at *
        clear hK' K' hSd
        have hSd := hSe
        clear hSe
        (try simp only [List.getElem_toArray, List.getElem_cons_zero, List.getElem_cons_succ])
        (try simp only [Act.put, List.setIfInBounds_toArray, List.set_cons_zero, List.set_cons_succ])
        refine wpAnyH_ready (rs := [9]) (by kernel_rfl) (by simp) (AllReadyH.cons rfl ?_ (AllReadyH.nil))
        · intro K' hK'
          rw [if_pos (by rfl)]
          refine wp_append_one _ _ rfl gb (v : Int) pl rfl hown bl cl rfl (HPI.out.below hG.1.2) HNL.out (by omega) ?_
          intro D cap u3 hD hDl hHo hgr
          have hGb : GK w u3 (.slice a V.length ca) (.slice (some ⟨gp, op_, none⟩) L.length cb) (.slice (some ⟨gr, or_, none⟩) R.length cc) := hG.grown hgr (by omega)
          have hrw3 : RowI u3 G (sizesN V) := (hgr.block G hrow.lt (fun e => by cases e; omega)).trans hrow
          have hD2 : w.heap.size + 2 ≤ D := by have := hG.2.lt; omega
          have hDG : D ≠ G := by have := hrow.lt; omega
          clear hG hrow hown hgr hD
          have hG := hGb
          clear hGb
          refine hK'.out _ _ ⟨hG.1.1.cells.1, hG.1.1.cells.2.1, hG.1.1.cells.2.2, (hG.1.2.cell (p := ⟨gp, op_ + v, none⟩) hgp).trans HP1.out⟩ (fun hSe => ?_)
          clear hK' K' hSd
          have hSd := hSe
          clear hSe
          (try simp only [List.getElem_toArray, List.getElem_cons_zero, List.getElem_cons_succ])
          (try simp only [Act.put, List.setIfInBounds_toArray, List.set_cons_zero, List.set_cons_succ])
          refine wpAnyH_ready (rs := [10]) (by kernel_rfl) (by simp) (AllReadyH.cons rfl ?_ (AllReadyH.nil))
          · intro K' hK'
            (try simp only [List.getElem_toArray, List.getElem_cons_zero, List.getElem_cons_succ])
            go_simp
            refine (rising_any D cap ([(v : Int)] ++ pl) u3 hHo hDl (by simp; omega)).mono ?_
            rintro e u4 ⟨rfl, hint, hgr⟩
            rw [HSRT.out] at hint
            have hGb : GK w u4 (.slice a V.length ca) (.slice (some ⟨gp, op_, none⟩) L.length cb) (.slice (some ⟨gr, or_, none⟩) R.length cc) := hG.grown hgr (by omega)
            have hrw4 : RowI u4 G (sizesN V) := (hgr.block G hrw3.lt (fun e => hDG (Option.some.inj e).symm)).trans hrw3
            clear hG hrw3 hgr hHo
            have hG := hGb
            clear hGb
            refine hK'.out _ _ ⟨hG.1.1.cells.1, hG.1.1.cells.2.1, hG.1.1.cells.2.2, (hG.1.2.cell (p := ⟨gp, op_ + v, none⟩) hgp).trans HP1.out⟩ (fun hSe => ?_)
            clear hK' K' hSd
            have hSd := hSe
            clear hSe
            (try simp only [List.getElem_toArray, List.getElem_cons_zero, List.getElem_cons_succ])
            (try simp only [Act.put, List.setIfInBounds_toArray, List.set_cons_zero, List.set_cons_succ])
            refine wpAnyH_take (i := 11) (oi := _) (v := .slice (some ⟨G, 0, none⟩) V.length V.length) rfl (by kernel_rfl) (by kernel_rfl) (by kernel_rfl) (fun _ _ _ h => h) (Or.inl ⟨by rfl, ?_⟩) (by assumption) ?_
            · intro u' hSu
              (try simp only [List.getElem_toArray, List.getElem_cons_zero, List.getElem_cons_succ])
              go_simp
            (try simp only [List.getElem_toArray, List.getElem_cons_zero, List.getElem_cons_succ])
            (try simp only [Act.put, List.setIfInBounds_toArray, List.set_cons_zero, List.set_cons_succ])
            refine wpAnyH_take (i := 12) (oi := _) (v := .slice (some ⟨D, 0, none⟩) ([(v : Int)] ++ pl).length cap) rfl (by kernel_rfl) (by kernel_rfl) (by kernel_rfl) (fun _ _ _ h => h) (Or.inl ⟨by rfl, ?_⟩) (by assumption) ?_
            · intro u' hSu
              (try simp only [List.getElem_toArray, List.getElem_cons_zero, List.getElem_cons_succ])
              go_simp
            (try simp only [List.getElem_toArray, List.getElem_cons_zero, List.getElem_cons_succ])
            (try simp only [Act.put, List.setIfInBounds_toArray, List.set_cons_zero, List.set_cons_succ])
            refine wpAnyH_done (by kernel_rfl) ?_ _
            clear hSd
            go_wp2_with fail
            go_meet
            rw [HGL.out]
            exact ⟨G, D, cap, rfl, rfl, hG2, hD2, hrw4, hint, hG⟩
    · intro K' hK'
      (try simp only [List.getElem_toArray, List.getElem_cons_zero, List.getElem_cons_succ])
      go_simp
      have hown : (u0.alloc (.cells #[.int .i64 (v : Int)] 3)).heap[u0.heap.size]? = some (.cells #[.int .i64 (v : Int)] 3 (0, 0)) := heap_alloc_new u0 _
      have hgb2 : w.heap.size + 2 ≤ u0.heap.size := by have := hG.2.lt; omega
      have hgbl : u0.heap.size < (u0.alloc (.cells #[.int .i64 (v : Int)] 3)).heap.size := by simp
      replace hG := hG.step ((Below.refl _ u0).alloc (Nat.le_refl _) (.cells #[.int .i64 (v : Int)] 3))
      refine hK'.out _ _ ⟨hG.1.1.cells.1, hG.1.1.cells.2.1, hG.1.1.cells.2.2, (hG.1.2.cell (p := ⟨gp, op_ + v, none⟩) hgp).trans HP1.out⟩ (fun hSe => ?_)
      generalize (u0.alloc (.cells #[.int .i64 (v : Int)] 3)) = u2 at *
      generalize u0.heap.size = gb at *
      clear hK' K' hSd
      have hSd := hSe
      clear hSe
      (try simp only [List.getElem_toArray, List.getElem_cons_zero, List.getElem_cons_succ])
      (try simp only [Act.put, List.setIfInBounds_toArray, List.set_cons_zero, List.set_cons_succ])
      refine wpAnyH_ready (rs := [1]) (by kernel_rfl) (by simp) (AllReadyH.cons rfl ?_ (AllReadyH.nil))
      · intro K' hK'
        (try simp only [List.getElem_toArray, List.getElem_cons_zero, List.getElem_cons_succ])
        go_simp
        refine (HSZ.out _ (HI.out.below hG.1.2).vars).mono ?_
        rintro e uS ⟨G, rfl, hGe, hrow, hb⟩
        have hG2 : w.heap.size + 2 ≤ G := by have := hG.2.lt; omega
        have hGgb : gb < G := by omega
        replace hG := hG.step hb
        replace hown := (hb.block gb hgbl).trans hown
        refine hK'.out _ _ ⟨hG.1.1.cells.1, hG.1.1.cells.2.1, hG.1.1.cells.2.2, (hG.1.2.cell (p := ⟨gp, op_ + v, none⟩) hgp).trans HP1.out⟩ (fun hSe => ?_)
        clear hb hGe
        clear hK' K' hSd
        have hSd := hSe
        clear hSe
        (try simp only [List.getElem_toArray, List.getElem_cons_zero, List.getElem_cons_succ])
        (try simp only [Act.put, List.setIfInBounds_toArray, List.set_cons_zero, List.set_cons_succ])
        refine wpAnyH_ready (rs := [9]) (by kernel_rfl) (by simp) (AllReadyH.cons rfl ?_ (AllReadyH.nil))
        · intro K' hK'
          rw [if_pos (by rfl)]
          refine wp_append_one _ _ rfl gb (v : Int) pl rfl hown bl cl rfl (HPI.out.below hG.1.2) HNL.out (by omega) ?_
          intro D cap u3 hD hDl hHo hgr
          have hGb : GK w u3 (.slice a V.length ca) (.slice (some ⟨gp, op_, none⟩) L.length cb) (.slice (some ⟨gr, or_, none⟩) R.length cc) := hG.grown hgr (by omega)
          have hrw3 : RowI u3 G (sizesN V) := (hgr.block G hrow.lt (fun e => by cases e; omega)).trans hrow
          have hD2 : w.heap.size + 2 ≤ D := by have := hG.2.lt; omega
          have hDG : D ≠ G := by have := hrow.lt; omega
          clear hG hrow hown hgr hD
          have hG := hGb
          clear hGb
          refine hK'.out _ _ ⟨hG.1.1.cells.1, hG.1.1.cells.2.1, hG.1.1.cells.2.2, (hG.1.2.cell (p := ⟨gp, op_ + v, none⟩) hgp).trans HP1.out⟩ (fun hSe => ?_)
          clear hK' K' hSd
          have hSd := hSe
          clear hSe
          (try simp only [List.getElem_toArray, List.getElem_cons_zero, List.getElem_cons_succ])
          (try simp only [Act.put, List.setIfInBounds_toArray, List.set_cons_zero, List.set_cons_succ])
          refine wpAnyH_ready (rs := [10]) (by kernel_rfl) (by simp) (AllReadyH.cons rfl ?_ (AllReadyH.nil))
          · intro K' hK'
            (try simp only [List.getElem_toArray, List.getElem_cons_zero, List.getElem_cons_succ])
            go_simp
            refine (rising_any D cap ([(v : Int)] ++ pl) u3 hHo hDl (by simp; omega)).mono ?_
            rintro e u4 ⟨rfl, hint, hgr⟩
            rw [HSRT.out] at hint
            have hGb : GK w u4 (.slice a V.length ca) (.slice (some ⟨gp, op_, none⟩) L.length cb) (.slice (some ⟨gr, or_, none⟩) R.length cc) := hG.grown hgr (by omega)
            have hrw4 : RowI u4 G (sizesN V) := (hgr.block G hrw3.lt (fun e => hDG (Option.some.inj e).symm)).trans hrw3
            clear hG hrw3 hgr hHo
            have hG := hGb
            clear hGb
            refine hK'.out _ _ ⟨hG.1.1.cells.1, hG.1.1.cells.2.1, hG.1.1.cells.2.2, (hG.1.2.cell (p := ⟨gp, op_ + v, none⟩) hgp).trans HP1.out⟩ (fun hSe => ?_)
            clear hK' K' hSd
            have hSd := hSe
            clear hSe
            (try simp only [List.getElem_toArray, List.getElem_cons_zero, List.getElem_cons_succ])
            (try simp only [Act.put, List.setIfInBounds_toArray, List.set_cons_zero, List.set_cons_succ])
            refine wpAnyH_take (i := 11) (oi := _) (v := .slice (some ⟨G, 0, none⟩) V.length V.length) rfl (by kernel_rfl) (by kernel_rfl) (by kernel_rfl) (fun _ _ _ h => h) (Or.inl ⟨by rfl, ?_⟩) (by assumption) ?_
            · intro u' hSu
              (try simp only [List.getElem_toArray, List.getElem_cons_zero, List.getElem_cons_succ])
              go_simp
            (try simp only [List.getElem_toArray, List.getElem_cons_zero, List.getElem_cons_succ])
            (try simp only [Act.put, List.setIfInBounds_toArray, List.set_cons_zero, List.set_cons_succ])
            refine wpAnyH_take (i := 12) (oi := _) (v := .slice (some ⟨D, 0, none⟩) ([(v : Int)] ++ pl).length cap) rfl (by kernel_rfl) (by kernel_rfl) (by kernel_rfl) (fun _ _ _ h => h) (Or.inl ⟨by rfl, ?_⟩) (by assumption) ?_
            · intro u' hSu
              (try simp only [List.getElem_toArray, List.getElem_cons_zero, List.getElem_cons_succ])
              go_simp
            (try simp only [List.getElem_toArray, List.getElem_cons_zero, List.getElem_cons_succ])
            (try simp only [Act.put, List.setIfInBounds_toArray, List.set_cons_zero, List.set_cons_succ])
            refine wpAnyH_done (by kernel_rfl) ?_ _
            clear hSd
            go_wp2_with fail
            go_meet
            rw [HGL.out]
            exact ⟨G, D, cap, rfl, rfl, hG2, hD2, hrw4, hint, hG⟩

  case rest =>
  obtain ⟨G, D, cd, rfl, rfl, oG, oD, hsG, hsD, hG⟩ := hcut
  clear hd1 hd2 HSRT HGL HPI HP1 HNL HSZ HGK
  have hwc := hG.2.lt
  obtain ⟨c0, c1, c2⟩ := hG.1.1.cells
  have r2 := (hG.1.2.cell (p := ⟨gr, or_ + v, none⟩) hgr).trans HR1.out
  have hvR' : (v : Int) < (R.length : Int) := by omega
  obtain ⟨i1, hi1, hy0, hy1, hy2⟩ := info_parts Tryz.infoFrac
  obtain ⟨i0, hi0, hz0, hz1, hz2⟩ := info_parts Tryz.infoInt
  have hFs : FL.length ≤ 65536 := by rw [HFL.out]; exact hsm
  have HG := hid hG
  clear hG
  go_wp2_with (first
    | (at_make; refine wpList_make_full _ rfl _ _ 29 rfl wc.heap.size 37 i1 (.agg #[.bool false, .string ⟨#[]⟩, .string ⟨#[]⟩]) 3 Tryz.underlying29 hi1 hy0 hy1 .i64 .i64 _ _ FL.length rfl rfl (by go_num) (by go_num) (by rw [hy2]; omega) (by unfold maxLen; omega) (Nat.le_refl _) ?_; intro w3 hown3 hgrow3; have hB3 : Below wc.heap.size wc w3 := (Below.refl _ wc).grown hgrow3 (Nat.le_refl _) (fun k e => by cases e); have hG3 := HG.out.step hB3; clear c0 c1 c2 r2; obtain ⟨c0, c1, c2⟩ := hG3.1.1.cells)
    | (at_make; refine wpList_make_full _ rfl _ _ 27 rfl w3.heap.size 3 i0 (.int .i64 0) 1 Tryz.underlying27 hi0 hz0 hz1 .i64 .i64 _ _ V.length rfl rfl (by go_num) (by go_num) (by rw [hz2]; omega) (by unfold maxLen; omega) (Nat.le_refl _) ?_; intro w4 hown4 hgrow4))
  have hr3 := block_of_own3 hown3
  rw [made_frs] at hr3
  have hr4 := block_of_own hown4
  rw [made_ints] at hr4
  have hB4 : Below w3.heap.size w3 w4 := (Below.refl _ w3).grown hgrow4 (Nat.le_refl _) (fun k e => by cases e)
  have hR3 : RowF w3 wc.heap.size (List.replicate FL.length frZ) := hr3
  have hR4 : RowI w4 w3.heap.size (List.replicate V.length 0) := hr4
  have hlt3 := hR3.lt
  have hB34 := hB3.trans (hB4.mono hB3.size)
  have e0 : List.replicate V.length 0 = spr V.length (fun _ => 0) := by
    apply List.ext_getElem <;> simp [spr]
  rw [e0] at hR4
  have hGltc := hsG.lt
  have hDlt : D < wc.heap.size := by
    obtain ⟨g', o', e, h2, _⟩ := hsD 0 (by have := HUP0.out; omega)
    cases e
    exact h2
  have HV0 : Hid (GV w (.slice a V.length ca) (.slice (some ⟨gp, op_, none⟩) L.length cb) (.slice (some ⟨gr, or_, none⟩) R.length cc) G D wc.heap.size w3.heap.size (sizesN V) U w4 (List.replicate FL.length frZ) (spr V.length (fun _ => 0))) := ⟨hG3.step hB4, hsG.below hB34 hsG.lt, hsD.below hB34, hR3.below hB4 hR3.lt, hR4, oG, oD, hGltc, hDlt, hlt3⟩
  clear hown3 hgrow3 hown4 hgrow4 hr3 hr4 hB3 hB4 hR3 hR4 hlt3 hB34 e0 hGltc hDlt hsG hsD hG3 HG c0 c1 c2 oG oD hwc
  generalize wc.heap.size = C at *
  generalize w3.heap.size = Ab at *
  go_wp2_with fail
  go_loopw [56] (fun iv wr => ∃ (i : Nat) (A : Nat → Nat), i ≤ FL.length ∧ iv = .int .i64 i ∧ Hid (∀ u, ¬ u ∈ toN U → A u = 0) ∧ Hid (GV w (.slice a V.length ca) (.slice (some ⟨gp, op_, none⟩) L.length cb) (.slice (some ⟨gr, or_, none⟩) R.length cc) G D C Ab (sizesN V) U wr (partF FL i) (spr V.length A))) (fun iv _ => FL.length - (intOf iv).toNat)
  case atStart => exact ⟨0, fun _ => 0, Nat.zero_le _, rfl, fun _ _ => rfl, by rw [partF_zero]; exact HV0⟩
  case round =>
    obtain ⟨i, A, hi, rfl, HA0, HX⟩ := hrel
    clear HV0
    by_cases hlt : i < FL.length
    · have hiK : i < cnt (sizesN V) (toN U) := by rw [← HFL.out]; exact hlt
      go_wp2_with fail
      refine (HWH.out _ G D cd i hiK HX.out.szs HX.out.us).mono ?_
      rintro e u1 ⟨g5, cd5, rfl, hge5, hi5, hb5⟩
      have hAlt := HX.out.vs.lt
      have h5A : g5 ≠ Ab := by omega
      have HX1 := hid (HX.out.step hb5)
      have HI5 := hid hi5
      clear hi5 hb5 HX hge5 hAlt
      go_wp2_with fail
      go_loopw [68] (fun jv wr => ∃ j : Nat, j ≤ U.length ∧ jv = .int .i64 j ∧ Hid (GV w (.slice a V.length ca) (.slice (some ⟨gp, op_, none⟩) L.length cb) (.slice (some ⟨gr, or_, none⟩) R.length cc) G D C Ab (sizesN V) U wr (partF FL i) (spr V.length (mixF A (asg (sizesN V) (toN U) i) (toN U) j))) ∧ Hid (RowI wr g5 (digs (sizesN V) (toN U) i))) (fun jv _ => U.length - (intOf jv).toNat)
      case atStart => exact ⟨0, Nat.zero_le _, rfl, by rw [mixF_zero]; exact HX1, HI5⟩
      case round =>
        obtain ⟨j, hj, rfl, HX, HD5⟩ := hrel
        clear HX1 HI5
        have hUl := HUU.out.length
        by_cases hjl : j < U.length
        · obtain ⟨hvi, hvn⟩ := HUU.out.nat hjl
          have hjN : j < (toN U).length := by rw [toN_length]; exact hjl
          have HMS := hid (mixF_succ A (asg (sizesN V) (toN U) i) V.length hjN)
          have hdj := HDG.out i j hjN
          rw [toN_get hjl] at HMS hdj
          obtain ⟨g', o', e, -, cu⟩ := HX.out.us j hjl
          cases e
          rw [Nat.zero_add] at cu
          generalize U[j].toNat = u at *
          rw [← hvi] at cu
          clear hvi
          obtain ⟨hdl, hde⟩ := List.getElem?_eq_some_iff.1 hdj
          have cv := HD5.out.cell j hdl
          rw [hde] at cv
          have ca_ := HX.out.vs.cell u (by rw [spr_length]; exact hvn)
          have fa_ := HX.out.vs.fz u
          generalize asg (sizesN V) (toN U) i u = z at *
          have HXs := hid (HX.out.setA u z)
          rw [HMS.out] at HXs
          have HD5s := hid (HD5.out.off Ab u (.int .i64 (z : Nat)) h5A)
          clear hdj hde HX HD5
          go_wp2
          go_roundw
          case rel => exact ⟨j + 1, by omega, by go_num, HXs, HD5s⟩
          case measure => simp [intOf]; omega
        · obtain rfl : j = U.length := by omega
          have hX := HX.out
          rw [show mixF A (asg (sizesN V) (toN U) i) (toN U) U.length = asg (sizesN V) (toN U) i by rw [← toN_length U]; exact mixF_all HA0.out (HAO.out i)] at hX
          obtain ⟨c0, c1, c2⟩ := hX.gk.1.1.cells
          have HXX := hid hX
          clear hX HX HD5
          go_wp2_with fail
          refine (HRA.out i _ Ab hiK (HI.out.below HXX.out.gk.1.2) HXX.out.vs).mono ?_
          rintro e u3 ⟨rfl, hb7⟩
          have HX3 := hid (HXX.out.step hb7)
          clear c0 c1 c2 hb7 HXX
          have hfg := HFG.out i hlt
          have hcs := HLS.out i hiK
          generalize likF V L R (asg (sizesN V) (toN U) i) v = fr at *
          obtain ⟨fn, fx, fy⟩ := fr
          replace hcs : fx.size + fy.size ≤ 4200 := hcs
          have hq : FL[i] = qF (val fn fx fy) := hfg
          have HQ := hid hq
          clear hfg hq
          go_wp2_with fail
          refine (Canon_q (n := fn) (x := fx) (y := fy) (w := u3) (val fn fx fy) rfl (by omega)).mono ?_
          rintro e u5 ⟨rfl, hb8⟩
          have HX5 := hid (HX3.out.step hb8)
          clear hb8 HX3
          have HST := hid (partF_set FL hlt)
          rw [HQ.out] at HST
          obtain ⟨k0, k1, k2⟩ := HX5.out.cs.cells i (by rw [partF_length _ hi]; exact hlt)
          have f0 := HX5.out.cs.fz (i * 3)
          have f1 := HX5.out.cs.fz (i * 3 + 1)
          have f2 := HX5.out.cs.fz (i * 3 + 2)
          generalize (partF FL i)[i]'(by rw [partF_length _ hi]; exact hlt) = zf at *
          obtain ⟨zn, zx, zy⟩ := zf
          simp only at k0 k1 k2
          have HP := hid (HX5.out.setC i (qF (val fn fx fy)))
          rw [HST.out] at HP
          generalize val fn fx fy = qq at *
          go_wp2
          go_roundw
          case rel => exact ⟨i + 1, _, by omega, by go_num, HAO.out i, HP⟩
          case measure => simp [intOf]; omega
    · obtain rfl : i = FL.length := by omega
      have hX := HX.out
      rw [partF_all] at hX
      obtain ⟨k0, k1, f0, f1⟩ := hX.gk.2.facts
      have h1 := hX.oD
      have h2 := hX.oDC
      clear HX
      go_wp2
      refine bodyPost_ret ((hX.gk.2.put _ _).result2 rfl _ rfl) rfl ?_
      exact ⟨⟨some ⟨D, 0, none⟩, some ⟨C, 0, none⟩, cd, FL.length, rfl, (hX.us.far _ _ _ (by omega)).far _ _ _ (by omega), ((hX.cs.off _ _ _ (by omega)).off _ _ _ (by omega)).fr⟩, below_put2 hX.gk.1.2 (by omega) _ _⟩
end Go.Proofs.YtncccbdledcibaaGreatDoor


/- Nets: Given of the document's answer: what is refused. -/
namespace Go.Proofs.YtncccbdledcibaaGreatDoor
open Go.RowKit Go.Shelf

set_option maxRecDepth 100000 in
set_option maxHeartbeats 1000000 in
theorem rGiven_no (a b c : Option Addr) (ca cb cc : Nat) (v : Int) (V : List Vr) (L : List (List Int)) (R : List (List Fr)) (w : World) (h : NetI w a b c V L R) (hs : NSm V L R) (h0 : netE V L R ≠ 0) :
    Calls Tryz.prog 7 #[.agg #[.slice a V.length ca, .slice b L.length cb, .slice c R.length cc], .int .i64 v] w fun e w' => TabA [] [] (netE V L R) e w' ∧ Below w.heap.size w w' := by
  have HNC := hid (fun (U : World) (hU : NetI U a b c V L R) => rNetCheck_any a b c ca cb cc V L R U hU hs)
  have HI := hid h
  generalize netE V L R = ne at *
  clear h hs
  have HK0 := hid (GK.new w (.slice a V.length ca) (.slice b L.length cb) (.slice c R.length cc))
  obtain ⟨c0, c1, c2⟩ := HK0.out.1.1.cells
  go_enter Tryz.func7, Tryz.ntmps7
  go_wp2_with fail
  generalize ((w.alloc (NC (.slice a V.length ca) (.slice b L.length cb) (.slice c R.length cc))).alloc (TC (.slice none 0 0) (.slice none 0 0))) = w1 at *
  refine (HNC.out _ (HI.out.below HK0.out.1.2)).mono ?_
  rintro e w2 ⟨rfl, hb⟩
  have hK := HK0.out.step hb
  clear hb HK0 c0 c1 c2 HNC
  have hnb : (ne == 0) = false := by simpa using h0
  obtain ⟨k0, k1, f0, f1⟩ := hK.2.facts
  clear h0
  go_wp2
  refine bodyPost_ret ((hK.2.put _ _).result2 rfl _ rfl) rfl ?_
  exact ⟨TabA.empty _ _, below_put2 hK.1.2 (by omega) _ _⟩
set_option maxRecDepth 100000 in
set_option maxHeartbeats 1000000 in
theorem rGiven_var (a b c : Option Addr) (ca cb cc : Nat) (v : Int) (V : List Vr) (L : List (List Int)) (R : List (List Fr)) (w : World) (h : NetI w a b c V L R) (hs : NSm V L R) (h0 : netE V L R = 0) (hv : ¬ (0 ≤ v ∧ v < (V.length : Int))) :
    Calls Tryz.prog 7 #[.agg #[.slice a V.length ca, .slice b L.length cb, .slice c R.length cc], .int .i64 v] w fun e w' => TabA [] [] 11 e w' ∧ Below w.heap.size w w' := by
  have HNC := hid (fun (U : World) (hU : NetI U a b c V L R) => rNetCheck_any a b c ca cb cc V L R U hU hs)
  rw [h0] at HNC
  have HI := hid h
  clear h hs h0
  have HK0 := hid (GK.new w (.slice a V.length ca) (.slice b L.length cb) (.slice c R.length cc))
  obtain ⟨c0, c1, c2⟩ := HK0.out.1.1.cells
  go_enter Tryz.func7, Tryz.ntmps7
  go_wp2_with fail
  generalize ((w.alloc (NC (.slice a V.length ca) (.slice b L.length cb) (.slice c R.length cc))).alloc (TC (.slice none 0 0) (.slice none 0 0))) = w1 at *
  refine (HNC.out _ (HI.out.below HK0.out.1.2)).mono ?_
  rintro e w2 ⟨rfl, hb⟩
  have hK := HK0.out.step hb
  clear hb HK0 c0 c1 c2 HNC
  obtain ⟨c0, c1, c2⟩ := hK.1.1.cells
  obtain ⟨k0, k1, f0, f1⟩ := hK.2.facts
  by_cases h1 : v < 0
  · clear hv
    go_wp2
    refine bodyPost_ret ((hK.2.put _ _).result2 rfl _ rfl) rfl ?_
    exact ⟨TabA.empty _ _, below_put2 hK.1.2 (by omega) _ _⟩
  · have h2 : (0 : Int) ≤ v := by omega
    have h3 : (V.length : Int) ≤ v := by omega
    clear hv h1
    go_wp2
    refine bodyPost_ret ((hK.2.put _ _).result2 rfl _ rfl) rfl ?_
    exact ⟨TabA.empty _ _, below_put2 hK.1.2 (by omega) _ _⟩
end Go.Proofs.YtncccbdledcibaaGreatDoor

/- Nets: Check of package net (of a contract of checkRows). -/
namespace Go.Proofs.YtncccbdledcibaaGreatDoor
open Go.RowKit Go.Shelf

set_option maxRecDepth 100000 in
set_option maxHeartbeats 1000000 in
theorem nCheck_any (a b c : Option Addr) (ca cb cc : Nat) (V : List Vr) (L : List (List Int)) (R : List (List Fr)) (w : World) (h : NetI w a b c V L R) (hs : NSm V L R)
    (hCR : L.length = V.length → R.length = V.length → gcE L = 0 → varsE V = 0 → ∀ U : World, NetI U a b c V L R → Calls Tryz.prog 42 #[.agg #[.slice a V.length ca, .slice b L.length cb, .slice c R.length cc]] U fun e w' => e = .returned (.int .i64 (firstE (rowE (sizesN V) L R) V.length)) ∧ Below U.heap.size U w') :
    Calls Tryz.prog 10 #[.agg #[.slice a V.length ca, .slice b L.length cb, .slice c R.length cc]] w fun e w' => e = .returned (.int .i64 (netE V L R)) ∧ Below w.heap.size w w' := by
  have HI := hid h
  have hV5 := hs.vars.1
  have hL5 := hs.pars.1
  have hR5 := hs.rows.1
  have HN8 : Hid (¬ (L.length = V.length ∧ R.length = V.length) → netE V L R = 8) := fun h => if_neg h
  have HNG : Hid (L.length = V.length → R.length = V.length → gcE L ≠ 0 → netE V L R = gcE L) := fun h1 h2 h3 => by rw [netE, if_pos ⟨h1, h2⟩, if_neg h3]
  have HNV : Hid (L.length = V.length → R.length = V.length → gcE L = 0 → varsE V ≠ 0 → netE V L R = varsE V) := fun h1 h2 h3 h4 => by rw [netE, if_pos ⟨h1, h2⟩, if_pos h3, if_neg h4]
  have HNR : Hid (L.length = V.length → R.length = V.length → gcE L = 0 → varsE V = 0 → netE V L R = firstE (rowE (sizesN V) L R) V.length) := fun h1 h2 h3 h4 => by rw [netE, if_pos ⟨h1, h2⟩, if_pos h3, if_pos h4]
  have HGC := hid (fun (U : World) (hU : LsS U b L) => gCheck_any b cb L U hU (fun l hl => by have := hs.pars.2 l hl; omega))
  have HVC := hid (fun (U : World) (hU : VsS U a V) => checkVars_any a ca V U hU hs.vars)
  have HCR := hid hCR
  generalize netE V L R = ne at *
  clear h hs hCR
  have HK0 := hid (NK.new w (.slice a V.length ca) (.slice b L.length cb) (.slice c R.length cc))
  obtain ⟨c0, c1, c2⟩ := HK0.out.1.cells
  by_cases hLV : L.length = V.length
  · by_cases hRV : R.length = V.length
    · have hlv : ((L.length : Int) != (V.length : Int)) = false := by rw [hLV]; simp
      have hrv : ((R.length : Int) != (V.length : Int)) = false := by rw [hRV]; simp
      have HNG' := hid (HNG.out hLV hRV)
      have HNV' := hid (HNV.out hLV hRV)
      have HNR' := hid (HNR.out hLV hRV)
      have HCR' := hid (HCR.out hLV hRV)
      clear hLV hRV HN8 HNG HNV HNR HCR
      generalize firstE (rowE (sizesN V) L R) V.length = fe at *
      generalize gcE L = ge at *
      generalize varsE V = ve at *
      go_enter Tryz.func10, Tryz.ntmps10
      go_wp2_with fail
      generalize (w.alloc (NC (.slice a V.length ca) (.slice b L.length cb) (.slice c R.length cc))) = w1 at *
      refine (HGC.out _ (HI.out.below HK0.out.2).pars).mono ?_
      rintro e w2 ⟨rfl, hb⟩
      have hK := HK0.out.step hb
      clear hb HK0 c0 c1 c2 hlv hrv HGC
      obtain ⟨c0, c1, c2⟩ := hK.1.cells
      by_cases hg : ge = 0
      · subst hg
        have HNV2 := hid (HNV'.out rfl)
        have HNR2 := hid (HNR'.out rfl)
        have HCR2 := hid (HCR'.out rfl)
        have HK := hid hK
        clear HNG' HNV' HNR' HCR' hK
        go_wp2_with fail
        refine (HVC.out _ (HI.out.below HK.out.2).vars).mono ?_
        rintro e w3 ⟨rfl, hb⟩
        have hK := HK.out.step hb
        clear hb HK c0 c1 c2 HVC
        obtain ⟨c0, c1, c2⟩ := hK.1.cells
        by_cases hv : ve = 0
        · subst hv
          have HQ := hid (HNR2.out rfl)
          have HCR3 := hid (HCR2.out rfl)
          have HK := hid hK
          clear HNV2 HNR2 HCR2 hK
          go_wp2_with fail
          refine (HCR3.out _ (HI.out.below HK.out.2)).mono ?_
          rintro e w4 ⟨rfl, hb⟩
          have hK := HK.out.step hb
          clear c0 c1 c2 hb
          go_wp2
          go_ret
          exact ⟨by rw [HQ.out]; rfl, hK.2⟩
        · have HQ := hid (HNV2.out hv)
          have hvb : (ve == 0) = false := by simpa using hv
          clear hv HNV2 HNR2 HCR2 c0 c1 c2
          go_wp2
          go_ret
          exact ⟨by rw [HQ.out]; rfl, hK.2⟩
      · have HQ := hid (HNG'.out hg)
        have hgb : (ge == 0) = false := by simpa using hg
        clear hg HNG' HNV' HNR' HCR' c0 c1 c2
        go_wp2
        go_ret
        exact ⟨by rw [HQ.out]; rfl, hK.2⟩
    · have HQ := hid (HN8.out fun h => hRV h.2)
      have hlv : ((L.length : Int) != (V.length : Int)) = false := by rw [hLV]; simp
      have hrv : ((R.length : Int) != (V.length : Int)) = true := by
        have : ¬ (R.length : Int) = (V.length : Int) := by omega
        simpa using this
      clear hLV hRV HN8 HCR
      go_enter Tryz.func10, Tryz.ntmps10
      go_wp2
      go_ret
      exact ⟨by rw [HQ.out]; rfl, HK0.out.2⟩
  · have HQ := hid (HN8.out fun h => hLV h.1)
    have hlv : ((L.length : Int) != (V.length : Int)) = true := by
      have : ¬ (L.length : Int) = (V.length : Int) := by omega
      simpa using this
    clear hLV HN8 HCR
    go_enter Tryz.func10, Tryz.ntmps10
    go_wp2
    go_ret
    exact ⟨by rw [HQ.out]; rfl, HK0.out.2⟩
end Go.Proofs.YtncccbdledcibaaGreatDoor

/- slices.Chunk over a slice of fractions: what a loop over it may lean on. -/
namespace Go.Proofs.YtncccbdledcibaaGreatDoor
open Go.RowKit Go.Shelf

attribute [local go_sem] Oper.semAt_some

/-- What a round must keep: the iterator's two boxes, and all that lay below B. -/
def KeepsC (Bs Bk B : Nat) (V V' : World) : Prop := KeepsBox Bs V V' ∧ KeepsBox Bk V V' ∧ Below B V V'
theorem KeepsC.t {Bs Bk B : Nat} {X Y Z : World} (h : KeepsC Bs Bk B X Y) (k : KeepsC Bs Bk B Y Z) : KeepsC Bs Bk B X Z := ⟨h.1.t k.1, h.2.1.t k.2.1, h.2.2.trans k.2.2⟩
theorem KeepsC.b {Bs Bk B : Nat} {w : World} (hs : Bs < w.heap.size) (hk : Bk < w.heap.size) (hB : B ≤ w.heap.size) (V : World) (l : Nat) (o o' : Obj) (hl : w.heap.size ≤ l) (h1 : V.heap[l]? = some o) (h2 : o.isCells = false) (h3 : o.isWalk = false) : KeepsC Bs Bk B V (V.putObj l o') :=
  ⟨KeepsBox.b hs V l o o' hl h1 h2 h3, KeepsBox.b hk V l o o' hl h1 h2 h3, belowK_b hB V l o o' hl h1 h2 h3⟩
theorem grown_drew (w : World) : w.grownBy w.drew none := ⟨rfl, rfl, rfl, Nat.le_refl _, fun _ _ _ => rfl⟩
abbrev CAt (N : Nat) : Type := { i : Nat // i < N }
abbrev chV (gf of_ k N : Nat) (x : CAt N) : Array Value := #[.slice (some ⟨gf, of_ + x.1 * k * 3, none⟩) k k]

set_option maxRecDepth 100000 in
set_option maxHeartbeats 1000000 in
theorem chunk1_in (n : Nat) (hn : 1 ≤ n) (l Bs Bk B gf of_ cap k N T : Nat) (hT : T = N * k) (hk : 1 ≤ k) (hk4 : k ≤ 4) (hN : N ≤ 65536) (hcap : T ≤ cap) (J Jx : List (CAt N) → World → Prop) (hD : ∀ pre V, J pre V → J pre V.drew)
    (hY : ∀ pre x V, J pre V → pre.length < N → YieldAt Fence.wide (n - 1) Tryz.prog l (chV gf of_ k N x) V fun e V' =>
      (e = .returned (.bool true) ∧ J (pre ++ [x]) V' ∧ KeepsC Bs Bk B V V') ∨ (e = .returned (.bool false) ∧ Jx (pre ++ [x]) V'))
    (V : World) (hBs : V.cell? ⟨Bs, 0, none⟩ = some (.slice (some ⟨gf, of_, none⟩) T cap)) (hBk : V.cell? ⟨Bk, 0, none⟩ = some (.int .i64 (k : Nat))) (h0 : J [] V) :
    CallsIn Fence.wide n Tryz.prog 109 #[.func (.yield l) #[] #[], .pointer (some ⟨Bs, 0, none⟩), .pointer (some ⟨Bk, 0, none⟩)] V fun e V' => (∃ v, e = .returned v) ∧
      ((∃ ys : List (CAt N), ys.map (·.1) = List.range N ∧ J ys V') ∨ (∃ pre : List (CAt N), (∃ j, j ≤ N ∧ pre.map (·.1) = List.range j) ∧ Jx pre V')) := by
  refine callsIn_of_wp Tryz.func109 rfl trivial ?_ rfl
  simp only [Tryz.ntmps109, List.size_toArray, List.length_cons, List.length_nil, Nat.reduceAdd, Nat.reduceSub, Array.replicate_succ, Array.replicate_zero, List.push_toArray, List.append_toArray, List.nil_append, List.cons_append]
  have HTT := hid hT
  have hT4 : T ≤ 262144 := by rw [hT]; exact Nat.le_trans (Nat.mul_le_mul hN hk4) (by decide)
  clear hT
  gi_wp2
  gi_loopw [4] (fun i wr => ∃ (j : Nat) (pre : List (CAt N)), j ≤ N ∧ i = .int .i64 (j * k : Nat) ∧ Hid (pre.map (·.1) = List.range j) ∧ J pre wr ∧ wr.cell? ⟨Bs, 0, none⟩ = some (.slice (some ⟨gf, of_, none⟩) T cap) ∧ wr.cell? ⟨Bk, 0, none⟩ = some (.int .i64 (k : Nat)))
    (fun i _ => T - (intOf i).toNat)
  case atStart => exact ⟨0, [], Nat.zero_le _, by rw [Nat.zero_mul]; rfl, rfl, h0, hBs, hBk⟩
  case round =>
    obtain ⟨j, pre, hj, rfl, HP, hJs, hbs, hbk⟩ := hrel
    by_cases hlt : j < N
    · have hpl : pre.length = j := by have := congrArg List.length HP.out; rwa [List.length_map, List.length_range] at this
      have HS : Hid ((pre ++ [(⟨j, hlt⟩ : CAt N)]).map (·.1) = List.range (j + 1)) := by show _ = _; rw [List.map_append, HP.out, List.range_succ]; rfl
      have hj1 : (j + 1) * k ≤ T := by rw [HTT.out]; exact Nat.mul_le_mul_right k hlt
      have e2 : (j + 1) * k = j * k + k := by rw [Nat.add_mul, Nat.one_mul]
      have HEQ : Hid ((j + 1) * k = j * k + k) := e2
      have hlo : j * k + k ≤ T := by omega
      have HLO : Hid (j * k = j * k) := rfl
      clear e2 hj1
      have hYj := fun W hW => hY pre ⟨j, hlt⟩ W hW (by omega)
      simp only [chV] at hYj
      generalize hEm : j * k = lo at *
      have HYJ := hid hYj
      clear hYj HLO
      have HEM := hid hEm
      clear hEm
      have hc1 : ¬ cap = lo := by omega
      have hl1 : lo ≤ T := by omega
      have hmin : min (k : Int) ((T - lo : Nat) : Int) = (k : Int) := by omega
      gi_wp2
      gi_region
      have hJd := hD pre wr hJs
      have hbs' : wr.drew.cell? ⟨Bs, 0, none⟩ = some (.slice (some ⟨gf, of_, none⟩) T cap) := hbs
      have hbk' : wr.drew.cell? ⟨Bk, 0, none⟩ = some (.int .i64 (k : Nat)) := hbk
      clear hbs hbk hJs hmin
      generalize wr.drew = w2 at *
      obtain ⟨fn, tmps, assign, body, hy, hR⟩ := HYJ.out w2 hJd
      have HR := hid hR
      clear hR
      have hw1 : IntKind.i64.wrap ((lo : Int) + (k : Int)) = ((lo + k : Nat) : Int) := by rw [IntKind.wrap_i64]; omega
      have hd1 : (lo + k : Nat) - lo = k := by omega
      have hx1 : ((lo + k : Nat) : Int) ≤ (cap : Int) := by omega
      generalize hhi : lo + k = hi_ at *
      have hx2 : lo ≤ hi_ := by omega
      have HHI := hid hhi
      clear hhi
      gi_wp2
      refine HR.out.mono ?_
      rintro e W3 (⟨rfl, hJ3, hk3⟩ | ⟨rfl, hJx3⟩)
      · have hbs3 := Eq.trans hk3.1 hbs'
        have hbk3 := Eq.trans hk3.2.1 hbk'
        have HE : Hid ((j + 1) * k = hi_) := HEQ.out
        have hlt3 : lo < hi_ := by have := HHI.out; omega
        have hle3 : hi_ ≤ T := by have := HHI.out; omega
        clear hbs' hbk' hk3
        gi_wp2
        go_roundw
        case rel => exact ⟨j + 1, _, by omega, by rw [HE.out], HS, hJ3, hbs3, hbk3⟩
        case measure => simp [intOf]; omega
      · gi_wp2
        refine bodyPost_ret (results_none rfl _ _ _) rfl ?_
        exact ⟨⟨_, rfl⟩, .inr ⟨_, ⟨j + 1, by omega, HS.out⟩, hJx3⟩⟩
    · obtain rfl : j = N := by omega
      rw [← HTT.out]
      gi_wp2
      go_end0
      exact ⟨⟨_, rfl⟩, .inl ⟨_, HP.out, hJs⟩⟩
set_option maxRecDepth 100000 in
set_option maxHeartbeats 400000 in
theorem chunk_in (n : Nat) (a : Option Addr) (T cap k : Nat) (hk : 1 ≤ k) (w : World) :
    CallsIn Fence.wide n Tryz.prog 76 #[.slice a T cap, .int .i64 (k : Nat)] w fun e w' => e = .returned (.func (.func 109) #[] #[.pointer (some ⟨w.heap.size, 0, none⟩), .pointer (some ⟨w.heap.size + 1, 0, none⟩)]) ∧ w' = (w.alloc (.cells #[.slice a T cap] 29)).alloc (.cells #[.int .i64 (k : Nat)] 3) := by
  refine callsIn_of_wp Tryz.func76 rfl trivial ?_ rfl
  simp only [Tryz.ntmps76, List.size_toArray, List.length_cons, List.length_nil, Nat.reduceAdd, Nat.reduceSub, Array.replicate_succ, Array.replicate_zero, List.push_toArray, List.append_toArray, List.nil_append, List.cons_append]
  have e1 : (1 : Int) ≤ (k : Int) := by omega
  gi_wp2
  go_ret
  exact ⟨rfl, rfl⟩
theorem chunk_stops (n : Nat) (hn : 1 ≤ n) (Bs Bk B gf of_ cap k N T : Nat) (hT : T = N * k) (hk : 1 ≤ k) (hk4 : k ≤ 4) (hN : N ≤ 65536) (hcap : T ≤ cap) (w : World) (hBs : Bs < w.heap.size) (hBk : Bk < w.heap.size) (h1 : w.cell? ⟨Bs, 0, none⟩ = some (.slice (some ⟨gf, of_, none⟩) T cap)) (h2 : w.cell? ⟨Bk, 0, none⟩ = some (.int .i64 (k : Nat))) :
    SeqStopsK Fence.wide n Tryz.prog 109 #[.pointer (some ⟨Bs, 0, none⟩), .pointer (some ⟨Bk, 0, none⟩)] (chV gf of_ k N) (KeepsC Bs Bk B) (fun ys => ys.map (·.1) = List.range N) (fun pre => ∃ j, j ≤ N ∧ pre.map (·.1) = List.range j) N w := fun l J Jx V hV hJ _ hY h0 =>
  chunk1_in n hn l Bs Bk B gf of_ cap k N T hT hk hk4 hN hcap J Jx (fun pre U hU => hJ pre U U.drew none hU (grown_drew U) (fun r e => by cases e)) hY V ((hV.cell (p := ⟨Bs, 0, none⟩) hBs).trans h1) ((hV.cell (p := ⟨Bk, 0, none⟩) hBk).trans h2) h0
end Go.Proofs.YtncccbdledcibaaGreatDoor

/- Marks of finished ranges over functions: a function that held many leaves. -/
namespace Go.Proofs.YtncccbdledcibaaGreatDoor
open Go.RowKit Go.Shelf

/-- Marks of finished ranges over functions, the youngest first: their blocks lie from lo on and below B, fall, and hold no call. -/
def Shut (lo : Nat) : Nat → List Deferred → World → Prop
  | _, [], _ => True
  | B, d :: ds, W => ∃ r, lo ≤ r ∧ r < B ∧ d = { target := .collected r, args := #[] } ∧ W.heap[r]? = some (.deferred (some [])) ∧ Shut lo r ds W
theorem Shut.mono {lo : Nat} {B B' : Nat} {ds : List Deferred} {W : World} (h : Shut lo B ds W) (hb : B ≤ B') : Shut lo B' ds W := by
  cases ds with
  | nil => trivial
  | cons d ds =>
    obtain ⟨r, h1, h2, h3⟩ := h
    exact ⟨r, h1, by omega, h3⟩
theorem Shut.keep {lo : Nat} : ∀ {ds : List Deferred} {B : Nat} {W W' : World}, Shut lo B ds W → (∀ r, r < B → W'.heap[r]? = W.heap[r]?) → Shut lo B ds W'
  | [], _, _, _, _, _ => trivial
  | d :: ds, B, W, W', h, hk => by
    obtain ⟨r, h1, h2, h3, h4, h5⟩ := h
    exact ⟨r, h1, h2, h3, (hk r h2).trans h4, h5.keep fun k hlt => hk k (by omega)⟩
theorem Shut.below {lo B : Nat} {ds : List Deferred} {W W' : World} (h : Shut lo B ds W) (hb : Below B W W') : Shut lo B ds W' := h.keep fun r hr => hb.block r hr
theorem leaves_shut {F : Fence} {n : Nat} {P : Program} {fn : Func} {tmps : Array Value} {R : Ending → World → Prop} {lo : Nat} {K : World → Prop}
    (hK : ∀ W r, K W → lo ≤ r → W.heap[r]? = some (.deferred (some [])) → K (W.putObj r (.deferred none))) (hend : ∀ W, K W → LeavesInM F n P fn tmps R [] .returning W) :
    ∀ (ds : List Deferred) (B : Nat) (W : World), Shut lo B ds W → K W → LeavesInM F n P fn tmps R ds .returning W
  | [], _, W, _, hW => hend W hW
  | d :: ds, B, W, h, hW => by
    obtain ⟨r, h1, h2, rfl, h4, h5⟩ := h
    refine ⟨by simp, .inl ⟨r, _, rfl, run_takeDeferred h4, leaves_shut hK hend ds r _ ?_ (hK W r hW h1 h4)⟩⟩
    exact h5.keep fun k hk => World.putObj_heap_other (by omega)
end Go.Proofs.YtncccbdledcibaaGreatDoor
