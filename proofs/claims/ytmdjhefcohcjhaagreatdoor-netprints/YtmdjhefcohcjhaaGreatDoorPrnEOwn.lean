/- NetPrint of the document's answer. -/
import Derived.Test.YtmdjhefcohcjhaaGreatDoorPrnCToHvyA
namespace Go.Proofs.YtmdjhefcohcjhaaGreatDoor
open Go.RowKit Go.Shelf

set_option maxRecDepth 100000 in
set_option maxHeartbeats 8000000 in
theorem rNetPrint_any (a b c : Option Addr) (ca cb cc : Nat) (V : List Vr) (L : List (List Int)) (R : List (List Fr)) (w : World) (h : NetI w a b c V L R) (hs : NSm V L R) :
    Calls Tryz.prog 6 #[.agg #[.slice a V.length ca, .slice b L.length cb, .slice c R.length cc]] w fun e w' => e = .returned (.tuple #[.string (prT V L R), .int .i64 (prE V L R)]) ∧ Below w.heap.size w w' := by
  have HI := hid h
  have HNC := hid (fun (U : World) (hU : NetI U a b c V L R) => rNetCheck_any a b c ca cb cc V L R U hU hs)
  have HK0 := hid (NK.new w (.slice a V.length ca) (.slice b L.length cb) (.slice c R.length cc))
  obtain ⟨c0, c1, c2⟩ := HK0.out.1.cells
  have hV5 := hs.vars.1
  have HSM := hid hs
  clear h hs
  go_enter Tryz.func6, Tryz.ntmps6
  go_wp2_with fail
  generalize (w.alloc (NC (.slice a V.length ca) (.slice b L.length cb) (.slice c R.length cc))) = w1 at *
  refine (HNC.out _ (HI.out.below HK0.out.2)).mono ?_
  rintro e w2 ⟨rfl, hb⟩
  have HK := hid (HK0.out.step hb)
  clear hb HK0 c0 c1 c2 HNC
  obtain ⟨c0, c1, c2⟩ := HK.out.1.cells
  by_cases h0 : netE V L R = 0
  case neg =>
    have HE := hid (prE_bad h0)
    generalize netE V L R = ne at *
    have hnb : (ne == 0) = false := by simpa using h0
    clear h0
    go_wp2
    go_ret2
    exact ⟨by rw [HE.out.1, HE.out.2]; rfl, HK.out.2⟩
  case pos =>
    have hok := netE_ok h0
    have HPS := hid (prS_of HSM.out hok)
    have HRES := hid (prE_of h0)
    rw [h0]
    have HOK := hid hok
    have hn8 := hok.n8
    have HNM := hid (fun v => nm_size HSM.out.vars v)
    have HVL := hid (fun v k => vl_size HSM.out.vars v k)
    have HSL : Hid ((iL (sizesN V)).length = V.length) := by show _ = _; rw [iL_length, sizesN_length]
    clear hok h0
    have z1 : (⟨#[118, 97, 114, 32]⟩ : ByteArray).size = 4 := rfl
    have z2 : (⟨#[32, 123]⟩ : ByteArray).size = 2 := rfl
    have z3 : (⟨#[32]⟩ : ByteArray).size = 1 := rfl
    have z4 : (⟨#[32, 125, 10]⟩ : ByteArray).size = 3 := rfl
    have z5 : (⟨#[10]⟩ : ByteArray).size = 1 := rfl
    have z6 : (⟨#[32, 124]⟩ : ByteArray).size = 2 := rfl
    have z7 : (⟨#[32, 123, 10]⟩ : ByteArray).size = 3 := rfl
    have z8 : (⟨#[125, 10]⟩ : ByteArray).size = 2 := rfl
    go_wp2_with fail
    go_loopw [5, 6] (fun sv iv wr => ∃ v : Nat, v ≤ V.length ∧ sv = .string (tx (lnS V v)) ∧ iv = .int .i64 v ∧ Hid (NK w wr (.slice a V.length ca) (.slice b L.length cb) (.slice c R.length cc))) (fun _ iv _ => V.length - (intOf iv).toNat)
    case atStart => exact ⟨0, Nat.zero_le _, rfl, rfl, HK⟩
    case round =>
      obtain ⟨v, hv, rfl, rfl, HKr⟩ := hrel
      clear HK c0 c1 c2
      obtain ⟨c0, c1, c2⟩ := HKr.out.1.cells
      by_cases hlt : v < V.length
      · obtain ⟨g, o, b', c', rfl, hg, d0, d1, hSt, hcap⟩ := HI.out.vars v hlt
        have hsz : (tx (lnS V v)).size ≤ 208000 := by rw [tx_size]; exact HPS.out.ln v (by omega)
        have HZ : Hid (tx (lnS V v) ++ ⟨#[118, 97, 114, 32]⟩ ++ V[v].1 ++ ⟨#[32, 123]⟩ = tx (lnI V v 0)) := by
          show _ = _
          rw [← nmV_at hlt]
          exact lnI_zero V v
        have HSU : Hid (∀ i (h : i < V[v].2.length), tx (lnI V v i) ++ ⟨#[32]⟩ ++ V[v].2[i] = tx (lnI V v (i + 1)) ∧ V[v].2[i].size ≤ 5000) := fun i h => by
          have e := vsV_at hlt
          have := lnI_succ (V := V) (v := v) (i := i) (by rw [e]; exact h)
          simp only [e] at this
          exact ⟨this, (HSM.out.vars.2 _ (List.getElem_mem hlt)).2.2 _ (List.getElem_mem h)⟩
        have HLA : Hid (tx (lnI V v V[v].2.length) ++ ⟨#[32, 125, 10]⟩ = tx (lnS V (v + 1))) := by
          show _ = _
          have := lnI_last hlt
          rwa [vsV_at hlt] at this
        obtain ⟨hns, hvl, -⟩ := HSM.out.vars.2 _ (List.getElem_mem hlt)
        have HLS : Hid (∀ i, (tx (lnI V v i)).size ≤ 300000) := fun i => by rw [tx_size]; exact HPS.out.lnI v i hlt
        have e0 := (HKr.out.2.cell (p := ⟨g, o + v * 2, none⟩) hg).trans d0
        have HD1 := hid d1
        have HST := hid hSt
        generalize tx (lnS V v) = S at *
        generalize V[v] = x at *
        obtain ⟨nm, vs⟩ := x
        simp only at e0 HZ HSU HLA hns hvl HD1 HST
        clear d0 d1 hSt hcap
        go_wp2_with fail
        rw [HZ.out]
        clear e0 c0 c1 c2
        go_loopw [5, 7] (fun sv iv wr => ∃ i : Nat, i ≤ vs.length ∧ sv = .string (tx (lnI V v i)) ∧ iv = .int .i64 i ∧ Hid (NK w wr (.slice (some ⟨g, o, none⟩) V.length ca) (.slice b L.length cb) (.slice c R.length cc))) (fun _ iv _ => vs.length - (intOf iv).toNat)
        case atStart => exact ⟨0, Nat.zero_le _, rfl, rfl, HKr⟩
        case round =>
          obtain ⟨i, hi, rfl, rfl, HK2⟩ := hrel
          clear HKr
          obtain ⟨c0, c1, c2⟩ := HK2.out.1.cells
          have e1 := (HK2.out.2.cell (p := ⟨g, o + v * 2 + 1, none⟩) hg).trans HD1.out
          by_cases hl2 : i < vs.length
          · obtain ⟨g2, o2, rfl, hg2, f0⟩ := HST.out i hl2
            have f1 := (HK2.out.2.cell (p := ⟨g2, o2 + i, none⟩) hg2).trans f0
            obtain ⟨hX, hys⟩ := HSU.out i hl2
            have HX := hid hX
            have hls := HLS.out i
            generalize vs[i] = y at *
            generalize tx (lnI V v i) = S2 at *
            clear hX f0
            go_wp2
            go_roundw
            case rel => exact ⟨i + 1, by omega, by rw [← HX.out], by go_num, HK2⟩
            case measure => simp [intOf]; omega
          · obtain rfl : i = vs.length := by omega
            have hls := HLS.out vs.length
            have HX := hid HLA.out
            generalize tx (lnI V v vs.length) = S2 at *
            go_wp2
            go_roundw
            case rel => exact ⟨v + 1, by omega, by rw [← HX.out], by go_num, HK2⟩
            case measure => simp [intOf]; omega
      · obtain rfl : v = V.length := by omega
        clear hv hlt
        go_wp2_with fail
        refine (rSizes_any a b c ca cb cc L.length R.length V _ (HI.out.below HKr.out.2).vars hV5).mono ?_
        rintro e w3 ⟨xv, rfl, hrw, hb⟩
        obtain ⟨d6, cd6, rfl, hi6⟩ := hrw.ints
        rw [HSL.out, ← S2_zero V L R]
        have HK3 := hid (HKr.out.step hb)
        have HI6 := hid hi6
        clear hb hrw hi6 c0 c1 c2 HKr
        go_wp2_with fail
        go_loopw [5, 9] (fun sv iv wr => ∃ (v : Nat) (l : List UInt8), v ≤ V.length ∧ sv = .string (tx l) ∧ iv = .int .i64 v ∧ Hid (l = S2 V L R v ∨ (20000 < l.length ∧ 20000 < (netL V L R).length)) ∧ Hid (l.length ≤ 500000000000) ∧ Hid (Below w3.heap.size w3 wr)) (fun _ iv _ => V.length - (intOf iv).toNat)
        case atStart => exact ⟨0, _, Nat.zero_le _, rfl, rfl, .inl rfl, Nat.le_trans (HPS.out.two 0 (Nat.zero_le _)) (by decide), Below.refl _ _⟩
        case round =>
          obtain ⟨v, l, hv, rfl, rfl, HL, HLL, HB⟩ := hrel
          have hK := HK3.out.step HB.out
          obtain ⟨c0, c1, c2⟩ := hK.1.cells
          have hls : (tx l).size = l.length := tx_size l
          have HBW := hid hK.2
          clear hK
          by_cases hlt : v < V.length
          · by_cases h20 : l.length ≤ 20000
            · obtain rfl : l = S2 V L R v := HL.out.resolve_right (fun h => by omega)
              have hvL : v < L.length := by rw [HOK.out.len]; exact hlt
              have hvR : v < R.length := by rw [HOK.out.lenR]; exact hlt
              obtain ⟨g, o, b', c', rfl, hg, d0, -, -, -⟩ := HI.out.vars v hlt
              obtain ⟨gp, op_, bp, cp, rfl, hgp, p0, hpi⟩ := HI.out.pars v hvL
              obtain ⟨gr, or_, br, cr, rfl, hgr, r0, hrf, hrc⟩ := HI.out.rows v hvR
              have e0 := (HBW.out.cell (p := ⟨g, o + v * 2, none⟩) hg).trans d0
              have p1 := (HBW.out.cell (p := ⟨gp, op_ + v, none⟩) hgp).trans p0
              have hns := (HSM.out.vars.2 _ (List.getElem_mem hlt)).1
              have eL := getDI hvL
              have eR := getDF hvR
              have hup := HOK.out.up v hvL
              have hp8 : L[v].length ≤ 8 := by have := hup.length; omega
              have hsl : (tx (S2 V L R v)).size ≤ 20000 := by rw [tx_size]; exact h20
              have hsi : ((tx (S2 V L R v)).size : Int) ≤ 20000 := by omega
              have hrs := HSM.out.rows.2 _ (List.getElem_mem hvR)
              have HP0 := hid p0
              have HR0 := hid r0
              clear d0 p0 r0 hls h20
              by_cases hp : L[v].length = 0
              · have hpb : ((L[v].length : Int) == 0) = true := by rw [hp]; rfl
                have r1 := (HBW.out.cell (p := ⟨gr, or_ + v, none⟩) hgr).trans HR0.out
                have HX : Hid (tx (S2 V L R v) ++ V[v].1 ++ tx (rowL R[v]) ++ ⟨#[10]⟩ = tx (S2 V L R (v + 1))) := by
                  show _ = _
                  rw [← nmV_at hlt, ← eR]
                  exact S2_one V L R (by rw [eL]; exact hp)
                have hrl : (tx (rowL R[v])).size ≤ 600000000 := by
                  rw [tx_size]
                  have := row_le (l := R[v]) (by omega)
                  omega
                have HNT := hid (rNumbersText_any br cr R[v] wr (hrf.below HBW.out) (by omega) (by omega))
                have HTW := hid (HPS.out.two (v + 1) (by omega))
                generalize tx (S2 V L R v) = S at *
                generalize tx (rowL R[v]) = T at *
                generalize V[v].1 = nm at *
                clear hrf
                go_wp2_with fail
                refine HNT.out.mono ?_
                rintro e u1 ⟨rfl, hb⟩
                have HB1 := hid (HB.out.trans (hb.mono HB.out.size))
                clear hb c0 c1 c2 e0 p1 r1
                go_wp2
                go_roundw
                case rel => exact ⟨v + 1, _, by omega, by rw [← HX.out], by go_num, .inl rfl, Nat.le_trans HTW.out (by decide), HB1⟩
                case measure => simp [intOf]; omega
              · have hpb : ((L[v].length : Int) == 0) = false := beq_eq_false_iff_ne.2 (by omega)
                have HZ2 : Hid (tx (S2 V L R v) ++ V[v].1 ++ ⟨#[32, 124]⟩ = tx (nmI V L R v 0)) := by
                  show _ = _
                  rw [← nmV_at hlt]
                  exact nmI_zero V L R v
                have HPI := hid hpi
                have HFR := hid hrf
                have hfi := HOK.out.fine
                have hps : Pos (sizesN V) := by have := hfi.pos; rwa [toN_iL] at this
                have hs4 : ∀ u, sz (sizesN V) u ≤ 4 := fun u => by have := hfi.sz_le u; rwa [toN_iL] at this
                have HUE : Hid (∀ j (h : j < L[v].length), ∃ u : Nat, L[v][j] = (u : Int) ∧ u < V.length ∧ (toN L[v])[j]? = some u ∧ tx (nmI V L R v j) ++ ⟨#[32]⟩ ++ nmV V u = tx (nmI V L R v (j + 1))) := fun j h => by
                  have h1 := hup.each j h
                  refine ⟨L[v][j].toNat, by omega, by omega, by simp [toN, h], ?_⟩
                  have h2 := nmI_succ V L R (v := v) (j := j) (by rw [eL, toN_length]; exact h)
                  simp only [eL] at h2
                  rwa [toN_get h] at h2
                have HCT : Hid (∀ U : World, IntS U d6 (iL (sizesN V)) → IntS U bp L[v] → Calls Tryz.prog 13 #[.slice d6 V.length cd6, .slice bp L[v].length cp] U fun e w' => e = .returned (.tuple #[.int .i64 (cnt (sizesN V) (toN L[v]) : Nat), .int .i64 0]) ∧ Below U.heap.size U w') := fun U h1 h2 => by
                  have := rCount_in d6 bp cd6 cp (iL (sizesN V)) L[v] U h1 h2 hfi (by rw [HSL.out]; exact hup)
                  rwa [HSL.out, toN_iL] at this
                have HWH : Hid (∀ (U : World) (K : Nat), K < cnt (sizesN V) (toN L[v]) → IntS U d6 (iL (sizesN V)) → IntS U bp L[v] → Calls Tryz.prog 14 #[.slice d6 V.length cd6, .slice bp L[v].length cp, .int .i64 (K : Nat)] U fun e w' => ∃ (c : Option Addr) (cc : Nat), e = .returned (.tuple #[.slice c L[v].length cc, .int .i64 0]) ∧ IntS w' c (iL (digs (sizesN V) (toN L[v]) K)) ∧ Below U.heap.size U w') := fun U K hK h1 h2 => by
                  have := rWhere_in d6 bp cd6 cp K (iL (sizesN V)) L[v] U h1 h2 hfi (by rw [HSL.out]; exact hup) (by rw [toN_iL]; exact hK)
                  rwa [HSL.out, toN_iL] at this
                have hN : cnt (sizesN V) (toN L[v]) ≤ 65536 := cnt_small hs4 (by rw [toN_length]; exact hp8)
                have hsz := sizesN_get hlt
                have hk : sz (sizesN V) v = V[v].2.length := by rw [sz, hsz]; rfl
                have hk4 := hs4 v
                have hk1 := sz_pos hps v
                have HLN : Hid (R[v].length = cnt (sizesN V) (toN L[v]) * sz (sizesN V) v) := HOK.out.rows v hvL hvR
                have HDG : Hid (∀ K j (hK : K < cnt (sizesN V) (toN L[v])) (h : j < L[v].length) (u : Nat), (toN L[v])[j]? = some u → ∃ x : Nat, (iL (digs (sizesN V) (toN L[v]) K))[j]? = some (x : Int) ∧ x < sz (sizesN V) u ∧ tx (vlI V L R v K j) ++ ⟨#[32]⟩ ++ vlV V u x = tx (vlI V L R v K (j + 1))) := fun K j hK h u hu => by
                  have hj : j < (toN L[v]).length := by rw [toN_length]; exact h
                  have hd := digs_lt hps (toN L[v]) K j hK hj
                  have hjd : j < (digs (sizesN V) (toN L[v]) K).length := by rw [digs_length]; exact hj
                  rw [List.getElem?_eq_getElem hj] at hu
                  have hu' := Option.some.inj hu
                  rw [hu'] at hd
                  refine ⟨(digs (sizesN V) (toN L[v]) K)[j], by simp [iL, hjd], hd, ?_⟩
                  have h3 := vlI_succ V L R v K j
                  rw [eL, List.getD_eq_getElem?_getD, List.getElem?_eq_getElem hj, List.getD_eq_getElem?_getD, List.getElem?_eq_getElem hjd] at h3
                  simp only [Option.getD_some] at h3
                  rwa [hu'] at h3
                have HRZ : Hid (tx (nmI V L R v L[v].length) ++ ⟨#[32, 123, 10]⟩ = tx (rwI V L R v 0)) := by
                  show _ = _
                  have := rwI_zero V L R v
                  rwa [eL] at this
                have HRS : Hid (∀ i, tx (vlI V L R v i L[v].length) ++ tx (rowL (chunkF R[v] (sz (sizesN V) v) i)) ++ ⟨#[10]⟩ = tx (rwI V L R v (i + 1))) := fun i => by
                  have := rwI_succ V L R v i
                  rwa [eL, eR] at this
                have HSF : Hid (tx (rwI V L R v (cnt (sizesN V) (toN L[v]))) ++ ⟨#[125, 10]⟩ = tx (S2 V L R (v + 1))) := by
                  show _ = _
                  have := S2_fam V L R (v := v) (by rw [eL]; exact hp)
                  rwa [eL] at this
                have HRM : Hid (∀ i, i ≤ cnt (sizesN V) (toN L[v]) → (rwI V L R v i).length ≤ (netL V L R).length ∧ (rwI V L R v i).length ≤ 450000000000) := fun i hi => ⟨rwI_more V L R hlt (by rw [eL]; exact hp) (by rw [eL]; exact hi), HPS.out.rw v i hlt (by rw [eL]; exact hi)⟩
                have HVM : Hid (∀ i j, i ≤ cnt (sizesN V) (toN L[v]) → j ≤ L[v].length → (vlI V L R v i j).length ≤ 460000000000) := fun i j hi hj => HPS.out.vl v i j hlt (by rw [eL]; exact hi) (by rw [eL]; exact hj)
                have HTW := hid (HPS.out.two (v + 1) (by omega))
                have HS6 := hid (List.getElem?_eq_some_iff.1 hsz)
                generalize tx (S2 V L R v) = S at *
                generalize V[v].1 = nm at *
                clear hpi hrf eL eR hup hfi hps hs4 hsz hk
                generalize L[v] = pl at *
                generalize R[v] = rl at *
                generalize hNN : cnt (sizesN V) (toN pl) = N at *
                clear hNN
                go_wp2_with fail
                rw [HZ2.out]
                clear c0 c1 c2 e0 p1
                go_loopw [5, 11] (fun sv iv wr => ∃ j : Nat, j ≤ pl.length ∧ sv = .string (tx (nmI V L R v j)) ∧ iv = .int .i64 j ∧ Hid (Below w3.heap.size w3 wr)) (fun _ iv _ => pl.length - (intOf iv).toNat)
                case atStart => exact ⟨0, Nat.zero_le _, rfl, rfl, HB⟩
                case round =>
                  obtain ⟨j, hj, rfl, rfl, HB4⟩ := hrel
                  clear HB HBW
                  have hK := HK3.out.step HB4.out
                  obtain ⟨c0, c1, c2⟩ := hK.1.cells
                  have HBW := hid hK.2
                  clear hK
                  have p1 := (HBW.out.cell (p := ⟨gp, op_ + v, none⟩) hgp).trans HP0.out
                  have hls : (tx (nmI V L R v j)).size ≤ 400000200000 := by rw [tx_size]; exact HPS.out.nm v j hlt
                  by_cases hl4 : j < pl.length
                  · obtain ⟨u, hu1, hu2, -, hX⟩ := HUE.out j hl4
                    obtain ⟨gi, oi, rfl, hgi, q0⟩ := HPI.out j hl4
                    have q1 := (HBW.out.cell (p := ⟨gi, oi + j, none⟩) hgi).trans q0
                    rw [hu1] at q1
                    obtain ⟨g', o', b'', c'', e, hg', n0, -, -, -⟩ := HI.out.vars u hu2
                    cases e
                    have n1 := (HBW.out.cell (p := ⟨g, o + u * 2, none⟩) hg').trans n0
                    have hns2 := (HSM.out.vars.2 _ (List.getElem_mem hu2)).1
                    rw [nmV_at hu2] at hX
                    have HX := hid hX
                    generalize V[u].1 = nm2 at *
                    generalize tx (nmI V L R v j) = S4 at *
                    clear q0 n0 hX
                    go_upto_region 26 with fail
                    go_quiet (fail)
                    have HB5 := hid (below_drewN HB4.out nq)
                    clear c0 c1 c2 p1 q1 n1
                    generalize wr.drewN nq = w5 at *
                    go_wp2
                    go_roundw
                    case rel => exact ⟨j + 1, by omega, by rw [← HX.out], by go_num, HB5⟩
                    case measure => simp [intOf]; omega
                  · obtain rfl : j = pl.length := by omega
                    generalize tx (nmI V L R v pl.length) = S4 at *
                    go_wp2_with fail
                    refine (HCT.out _ (HI6.out.below HB4.out) (HPI.out.below HBW.out)).mono ?_
                    rintro e u1 ⟨rfl, hb⟩
                    have HB5 := hid (HB4.out.trans (hb.mono HB4.out.size))
                    rw [HRZ.out]
                    clear hb c0 c1 c2 p1 HB4 HBW HCT
                    go_wp2_with fail
                    go_loopw [5, 14] (fun sv iv wr => ∃ i : Nat, i ≤ N ∧ sv = .string (tx (rwI V L R v i)) ∧ iv = .int .i64 i ∧ Hid (Below w3.heap.size w3 wr)) (fun _ iv _ => N - (intOf iv).toNat)
                    case atStart => exact ⟨0, Nat.zero_le _, rfl, rfl, HB5⟩
                    case round =>
                      obtain ⟨i, hi, rfl, rfl, HB6⟩ := hrel
                      clear HB5
                      obtain ⟨hrm, hrb⟩ := HRM.out i hi
                      have hK := HK3.out.step HB6.out
                      obtain ⟨c0, c1, c2⟩ := hK.1.cells
                      have HBW := hid hK.2
                      clear hK
                      have p1 := (HBW.out.cell (p := ⟨gp, op_ + v, none⟩) hgp).trans HP0.out
                      have hls := tx_size (rwI V L R v i)
                      by_cases hl5 : i < N
                      · by_cases h20 : (rwI V L R v i).length ≤ 20000
                        · have hsi : ((tx (rwI V L R v i)).size : Int) ≤ 20000 := by omega
                          have HVZ := hid (vlI_zero V L R v i)
                          go_wp2_with fail
                          refine (HWH.out _ i hl5 (HI6.out.below HB6.out) (HPI.out.below HBW.out)).mono ?_
                          rintro e u1 ⟨dw, cdw, rfl, hiw, hb⟩
                          have HB7 := hid (HB6.out.trans (hb.mono HB6.out.size))
                          have HIW := hid hiw
                          rw [← HVZ.out]
                          clear hb c0 c1 c2 p1 HB6 HBW hiw hrm hrb hls h20 hsi HVZ
                          go_wp2_with fail
                          go_loopw [5, 17] (fun sv iv wr => ∃ j : Nat, j ≤ pl.length ∧ sv = .string (tx (vlI V L R v i j)) ∧ iv = .int .i64 j ∧ Hid (Below u1.heap.size u1 wr)) (fun _ iv _ => pl.length - (intOf iv).toNat)
                          case atStart => exact ⟨0, Nat.zero_le _, rfl, rfl, Below.refl _ _⟩
                          case round =>
                            obtain ⟨j, hj, rfl, rfl, HB8⟩ := hrel
                            have HB9 := hid (HB7.out.trans (HB8.out.mono HB7.out.size))
                            have hK := HK3.out.step HB9.out
                            obtain ⟨c0, c1, c2⟩ := hK.1.cells
                            have hlk := hK.1.lt
                            have HBW := hid hK.2
                            clear hK
                            have p1 := (HBW.out.cell (p := ⟨gp, op_ + v, none⟩) hgp).trans HP0.out
                            have hls : (tx (vlI V L R v i j)).size ≤ 460000000000 := by rw [tx_size]; exact HVM.out i j hi hj
                            by_cases hl4 : j < pl.length
                            · obtain ⟨u, hu1, hu2, hu3, -⟩ := HUE.out j hl4
                              obtain ⟨gi, oi, rfl, hgi, q0⟩ := HPI.out j hl4
                              have q1 := (HBW.out.cell (p := ⟨gi, oi + j, none⟩) hgi).trans q0
                              rw [hu1] at q1
                              obtain ⟨x, hx1, hx2, hX⟩ := HDG.out i j hl5 hl4 u hu3
                              obtain ⟨hx3, hx4⟩ := List.getElem?_eq_some_iff.1 hx1
                              obtain ⟨gw, ow, rfl, hgw, a0⟩ := HIW.out j hx3
                              have a1 := (HB8.out.cell (p := ⟨gw, ow + j, none⟩) hgw).trans a0
                              rw [hx4] at a1
                              obtain ⟨g', o', b'', c'', e, hg', -, n0, hst, -⟩ := HI.out.vars u hu2
                              cases e
                              have n1 := (HBW.out.cell (p := ⟨g, o + u * 2 + 1, none⟩) hg').trans n0
                              have hx5 : x < V[u].2.length := by
                                have e1 : sz (sizesN V) u = V[u].2.length := by rw [sz, sizesN_get hu2]; rfl
                                omega
                              obtain ⟨gs, os, rfl, hgs, s0⟩ := hst x hx5
                              have s1 := (HBW.out.cell (p := ⟨gs, os + x, none⟩) hgs).trans s0
                              have e2 : vlV V u x = V[u].2[x] := by rw [vlV, getV hu2, List.getD_eq_getElem?_getD, List.getElem?_eq_getElem hx5]; rfl
                              have hys := HVL.out u x
                              rw [e2] at hX hys
                              have HX := hid hX
                              generalize V[u].2[x] = y at *
                              generalize V[u].2.length = nu2 at *
                              generalize tx (vlI V L R v i j) = S4 at *
                              clear q0 n0 hX a0 s0 hst hx1 hx2 hx3 hx4 hu3 e2
                              go_upto_region 36 with fail
                              go_quiet (fail)
                              have HBa := hid (below_drewN HB8.out nq)
                              clear c0 c1 c2 p1 q1 n1 a1 s1
                              generalize wr.drewN nq = w5 at *
                              go_wp2
                              go_roundw
                              case rel => exact ⟨j + 1, by omega, by rw [← HX.out], by go_num, HBa⟩
                              case measure => simp [intOf]; omega
                            · obtain rfl : j = pl.length := by omega
                              have HX := hid (HRS.out i)
                              obtain ⟨hvs, hvx⟩ := HS6.out
                              obtain ⟨gd, od, rfl, hgd, z0⟩ := HI6.out v (by rw [HSL.out]; exact hlt)
                              have hze : (iL (sizesN V))[v]'(by rw [HSL.out]; exact hlt) = (sz (sizesN V) v : Int) := by simp [iL, sz, hvs]
                              rw [hze] at z0
                              have zc := (HB9.out.cell (p := ⟨gd, od + v, none⟩) hgd).trans z0
                              have r1 := (HBW.out.cell (p := ⟨gr, or_ + v, none⟩) hgr).trans HR0.out
                              generalize sz (sizesN V) v = k at *
                              have hik : (i + 1) * k ≤ rl.length := by rw [HLN.out]; exact Nat.mul_le_mul_right k hl5
                              have eik : (i + 1) * k = i * k + k := by rw [Nat.add_mul, Nat.one_mul]
                              have hpos : 0 < rl.length := by omega
                              obtain ⟨gf, of_, rfl, hgf, -⟩ := HFR.out 0 hpos
                              obtain ⟨hck, hcl⟩ := (HFR.out.below HBW.out).chunk (i := i) (m := k) hik rfl
                              have hfw := fw_chunk rl k i
                              have HNT0 : Hid (∀ U : World, Below w3.heap.size w3 U → Calls Tryz.prog 12 #[.slice (some ⟨gf, of_ + i * k * 3, none⟩) k (cr - i * k)] U fun e w' => e = .returned (.string (tx (rowL (chunkF rl k i)))) ∧ Below U.heap.size U w') := fun U hU => by
                                have h1 := HFR.out.below (HK3.out.step hU).2
                                obtain ⟨h2, h3⟩ := h1.chunk (i := i) (m := k) hik rfl
                                have h4 := rNumbersText_any (some ⟨gf, of_ + i * k * 3, none⟩) (cr - i * k) (chunkF rl k i) U h2 (by omega) (by omega)
                                rwa [h3] at h4
                              have hrw : (tx (rowL (chunkF rl k i))).size ≤ 500000 := by
                                rw [tx_size]
                                have := row_le (l := chunkF rl k i) (by omega)
                                omega
                              clear hck hcl hfw hze z0
                              generalize hlo : i * k = lo at *
                              generalize hhi : (i + 1) * k = hi_ at *
                              have hwm : IntKind.i64.wrap ((i : Int) * (k : Int)) = ((lo : Nat) : Int) := by rw [IntKind.wrap_i64, ← Int.natCast_mul, hlo]; omega
                              obtain ⟨i1, hi1⟩ : ∃ i1 : Nat, i1 = i + 1 := ⟨_, rfl⟩
                              have hwa : IntKind.i64.wrap ((i : Int) + 1) = ((i1 : Nat) : Int) := by rw [IntKind.wrap_i64]; omega
                              have hwn : IntKind.i64.wrap (((i1 : Nat) : Int) * (k : Int)) = ((hi_ : Nat) : Int) := by rw [IntKind.wrap_i64, ← Int.natCast_mul, hi1, hhi]; omega
                              have HI1 := hid hi1
                              clear hi1
                              have hc1 : ¬ cr = lo := by omega
                              have hl1 : lo ≤ hi_ := by omega
                              have hl2 : hi_ ≤ cr := by omega
                              have hl3 : hi_ - lo = k := by omega
                              have hl6 : ((hi_ : Nat) : Int) ≤ (cr : Int) := by omega
                              have HNT : Hid (∀ U : World, Below w3.heap.size w3 U → Calls Tryz.prog 12 #[.slice (some ⟨gf, of_ + lo * 3, none⟩) k (cr - lo)] U fun e w' => e = .returned (.string (tx (rowL (chunkF rl k i)))) ∧ Below U.heap.size U w') := HNT0.out
                              clear hlo hhi HNT0 eik hik
                              go_upto_region 37 with fail
                              refine wp_region_held_drew (S := fun u => u.cell? ⟨w.heap.size, 2, none⟩ = some (.slice (some ⟨gr, or_, none⟩) R.length cc) ∧ u.cell? ⟨gr, or_ + v, none⟩ = some (.slice (some ⟨gf, of_, none⟩) rl.length cr) ∧ u.cell? ⟨gd, od + v, none⟩ = some (.int .i64 (k : Nat))) (by kernel_rfl) ⟨c2, r1, zc⟩ (fun hSd => ?_)
                              have HBd := hid HB9.out.drew
                              have hS0 : w.heap.size < wr.drew.heap.size := hlk
                              have hS1 : gr < wr.drew.heap.size := Nat.lt_of_lt_of_le hgr HBW.out.size
                              have hS2 : gd < wr.drew.heap.size := Nat.lt_of_lt_of_le hgd HB9.out.size
                              clear c0 c1 c2 p1 r1 zc HB9 HBW HB8
                              generalize wr.drew = u0 at *
                              (try simp only [List.getElem_toArray, List.getElem_cons_zero, List.getElem_cons_succ])
                              (try simp only [Act.put, List.setIfInBounds_toArray, List.set_cons_zero, List.set_cons_succ])
                              refine wpAnyH_take (i := 0) (oi := _) (v := .pointer (some ⟨w.heap.size, 2, none⟩)) rfl (by kernel_rfl) (by kernel_rfl) (by kernel_rfl) (fun _ _ _ h => h) (Or.inl ⟨by rfl, ?_⟩) (by assumption) ?_
                              · intro u' hSu
                                (try simp only [List.getElem_toArray, List.getElem_cons_zero])
                                go_simp
                              (try simp only [List.getElem_toArray, List.getElem_cons_zero])
                              (try simp only [Act.put, List.setIfInBounds_toArray, List.set_cons_zero, List.set_cons_succ])
                              refine wpAnyH_take (i := 1) (oi := _) (v := .slice (some ⟨gr, or_, none⟩) R.length cc) rfl (by kernel_rfl) (by kernel_rfl) (by kernel_rfl) (fun _ _ _ h => h) (Or.inl ⟨by rfl, ?_⟩) (by assumption) ?_
                              · intro u' hSu
                                (try simp only [List.getElem_toArray, List.getElem_cons_zero, List.getElem_cons_succ])
                                obtain ⟨s0, s1, s2⟩ := hSu
                                go_simp
                              (try simp only [List.getElem_toArray, List.getElem_cons_zero, List.getElem_cons_succ])
                              (try simp only [Act.put, List.setIfInBounds_toArray, List.set_cons_zero, List.set_cons_succ])
                              refine wpAnyH_take (i := 2) (oi := _) (v := .int .i64 (v : Nat)) rfl (by kernel_rfl) (by kernel_rfl) (by kernel_rfl) (fun _ _ _ h => h) (Or.inl ⟨by rfl, ?_⟩) (by assumption) ?_
                              · intro u' hSu
                                (try simp only [List.getElem_toArray, List.getElem_cons_zero, List.getElem_cons_succ])
                                go_simp
                              (try simp only [List.getElem_toArray, List.getElem_cons_zero, List.getElem_cons_succ])
                              (try simp only [Act.put, List.setIfInBounds_toArray, List.set_cons_zero, List.set_cons_succ])
                              refine wpAnyH_take (i := 3) (oi := _) (v := .pointer (some ⟨gr, or_ + v, none⟩)) rfl (by kernel_rfl) (by kernel_rfl) (by kernel_rfl) (fun _ _ _ h => h) (Or.inl ⟨by rfl, ?_⟩) (by assumption) ?_
                              · intro u' hSu
                                (try simp only [List.getElem_toArray, List.getElem_cons_zero, List.getElem_cons_succ])
                                go_simp
                              (try simp only [List.getElem_toArray, List.getElem_cons_zero, List.getElem_cons_succ])
                              (try simp only [Act.put, List.setIfInBounds_toArray, List.set_cons_zero, List.set_cons_succ])
                              refine wpAnyH_take (i := 4) (oi := _) (v := .slice (some ⟨gf, of_, none⟩) rl.length cr) rfl (by kernel_rfl) (by kernel_rfl) (by kernel_rfl) (fun _ _ _ h => h) (Or.inl ⟨by rfl, ?_⟩) (by assumption) ?_
                              · intro u' hSu
                                (try simp only [List.getElem_toArray, List.getElem_cons_zero, List.getElem_cons_succ])
                                obtain ⟨s0, s1, s2⟩ := hSu
                                go_simp
                              (try simp only [List.getElem_toArray, List.getElem_cons_zero, List.getElem_cons_succ])
                              (try simp only [Act.put, List.setIfInBounds_toArray, List.set_cons_zero, List.set_cons_succ])
                              refine wpAnyH_take (i := 5) (oi := _) (v := .int .i64 (i : Nat)) rfl (by kernel_rfl) (by kernel_rfl) (by kernel_rfl) (fun _ _ _ h => h) (Or.inl ⟨by rfl, ?_⟩) (by assumption) ?_
                              · intro u' hSu
                                (try simp only [List.getElem_toArray, List.getElem_cons_zero, List.getElem_cons_succ])
                                go_simp
                              (try simp only [List.getElem_toArray, List.getElem_cons_zero, List.getElem_cons_succ])
                              (try simp only [Act.put, List.setIfInBounds_toArray, List.set_cons_zero, List.set_cons_succ])
                              refine wpAnyH_take (i := 6) (oi := _) (v := .slice (some ⟨gd, od, none⟩) V.length cd6) rfl (by kernel_rfl) (by kernel_rfl) (by kernel_rfl) (fun _ _ _ h => h) (Or.inl ⟨by rfl, ?_⟩) (by assumption) ?_
                              · intro u' hSu
                                (try simp only [List.getElem_toArray, List.getElem_cons_zero, List.getElem_cons_succ])
                                go_simp
                              (try simp only [List.getElem_toArray, List.getElem_cons_zero, List.getElem_cons_succ])
                              (try simp only [Act.put, List.setIfInBounds_toArray, List.set_cons_zero, List.set_cons_succ])
                              refine wpAnyH_take (i := 7) (oi := _) (v := .int .i64 (v : Nat)) rfl (by kernel_rfl) (by kernel_rfl) (by kernel_rfl) (fun _ _ _ h => h) (Or.inl ⟨by rfl, ?_⟩) (by assumption) ?_
                              · intro u' hSu
                                (try simp only [List.getElem_toArray, List.getElem_cons_zero, List.getElem_cons_succ])
                                go_simp
                              (try simp only [List.getElem_toArray, List.getElem_cons_zero, List.getElem_cons_succ])
                              (try simp only [Act.put, List.setIfInBounds_toArray, List.set_cons_zero, List.set_cons_succ])
                              refine wpAnyH_take (i := 8) (oi := _) (v := .pointer (some ⟨gd, od + v, none⟩)) rfl (by kernel_rfl) (by kernel_rfl) (by kernel_rfl) (fun _ _ _ h => h) (Or.inl ⟨by rfl, ?_⟩) (by assumption) ?_
                              · intro u' hSu
                                (try simp only [List.getElem_toArray, List.getElem_cons_zero, List.getElem_cons_succ])
                                go_simp
                              (try simp only [List.getElem_toArray, List.getElem_cons_zero, List.getElem_cons_succ])
                              (try simp only [Act.put, List.setIfInBounds_toArray, List.set_cons_zero, List.set_cons_succ])
                              refine wpAnyH_take (i := 9) (oi := _) (v := .int .i64 (k : Nat)) rfl (by kernel_rfl) (by kernel_rfl) (by kernel_rfl) (fun _ _ _ h => h) (Or.inl ⟨by rfl, ?_⟩) (by assumption) ?_
                              · intro u' hSu
                                (try simp only [List.getElem_toArray, List.getElem_cons_zero, List.getElem_cons_succ])
                                obtain ⟨s0, s1, s2⟩ := hSu
                                go_simp
                              (try simp only [List.getElem_toArray, List.getElem_cons_zero, List.getElem_cons_succ])
                              (try simp only [Act.put, List.setIfInBounds_toArray, List.set_cons_zero, List.set_cons_succ])
                              refine wpAnyH_take (i := 10) (oi := _) (v := .int .i64 (lo : Nat)) rfl (by kernel_rfl) (by kernel_rfl) (by kernel_rfl) (fun _ _ _ h => h) (Or.inl ⟨by rfl, ?_⟩) (by assumption) ?_
                              · intro u' hSu
                                (try simp only [List.getElem_toArray, List.getElem_cons_zero, List.getElem_cons_succ])
                                go_simp
                              (try simp only [List.getElem_toArray, List.getElem_cons_zero, List.getElem_cons_succ])
                              (try simp only [Act.put, List.setIfInBounds_toArray, List.set_cons_zero, List.set_cons_succ])
                              refine wpAnyH_take (i := 11) (oi := _) (v := .int .i64 (i : Nat)) rfl (by kernel_rfl) (by kernel_rfl) (by kernel_rfl) (fun _ _ _ h => h) (Or.inl ⟨by rfl, ?_⟩) (by assumption) ?_
                              · intro u' hSu
                                (try simp only [List.getElem_toArray, List.getElem_cons_zero, List.getElem_cons_succ])
                                go_simp
                              (try simp only [List.getElem_toArray, List.getElem_cons_zero, List.getElem_cons_succ])
                              (try simp only [Act.put, List.setIfInBounds_toArray, List.set_cons_zero, List.set_cons_succ])
                              refine wpAnyH_take (i := 12) (oi := _) (v := .int .i64 (i1 : Nat)) rfl (by kernel_rfl) (by kernel_rfl) (by kernel_rfl) (fun _ _ _ h => h) (Or.inl ⟨by rfl, ?_⟩) (by assumption) ?_
                              · intro u' hSu
                                (try simp only [List.getElem_toArray, List.getElem_cons_zero, List.getElem_cons_succ])
                                go_simp
                              (try simp only [List.getElem_toArray, List.getElem_cons_zero, List.getElem_cons_succ])
                              (try simp only [Act.put, List.setIfInBounds_toArray, List.set_cons_zero, List.set_cons_succ])
                              refine wpAnyH_take (i := 13) (oi := _) (v := .slice (some ⟨gd, od, none⟩) V.length cd6) rfl (by kernel_rfl) (by kernel_rfl) (by kernel_rfl) (fun _ _ _ h => h) (Or.inl ⟨by rfl, ?_⟩) (by assumption) ?_
                              · intro u' hSu
                                (try simp only [List.getElem_toArray, List.getElem_cons_zero, List.getElem_cons_succ])
                                go_simp
                              (try simp only [List.getElem_toArray, List.getElem_cons_zero, List.getElem_cons_succ])
                              (try simp only [Act.put, List.setIfInBounds_toArray, List.set_cons_zero, List.set_cons_succ])
                              refine wpAnyH_take (i := 14) (oi := _) (v := .int .i64 (v : Nat)) rfl (by kernel_rfl) (by kernel_rfl) (by kernel_rfl) (fun _ _ _ h => h) (Or.inl ⟨by rfl, ?_⟩) (by assumption) ?_
                              · intro u' hSu
                                (try simp only [List.getElem_toArray, List.getElem_cons_zero, List.getElem_cons_succ])
                                go_simp
                              (try simp only [List.getElem_toArray, List.getElem_cons_zero, List.getElem_cons_succ])
                              (try simp only [Act.put, List.setIfInBounds_toArray, List.set_cons_zero, List.set_cons_succ])
                              refine wpAnyH_take (i := 15) (oi := _) (v := .pointer (some ⟨gd, od + v, none⟩)) rfl (by kernel_rfl) (by kernel_rfl) (by kernel_rfl) (fun _ _ _ h => h) (Or.inl ⟨by rfl, ?_⟩) (by assumption) ?_
                              · intro u' hSu
                                (try simp only [List.getElem_toArray, List.getElem_cons_zero, List.getElem_cons_succ])
                                go_simp
                              (try simp only [List.getElem_toArray, List.getElem_cons_zero, List.getElem_cons_succ])
                              (try simp only [Act.put, List.setIfInBounds_toArray, List.set_cons_zero, List.set_cons_succ])
                              refine wpAnyH_take (i := 16) (oi := _) (v := .int .i64 (k : Nat)) rfl (by kernel_rfl) (by kernel_rfl) (by kernel_rfl) (fun _ _ _ h => h) (Or.inl ⟨by rfl, ?_⟩) (by assumption) ?_
                              · intro u' hSu
                                (try simp only [List.getElem_toArray, List.getElem_cons_zero, List.getElem_cons_succ])
                                obtain ⟨s0, s1, s2⟩ := hSu
                                go_simp
                              (try simp only [List.getElem_toArray, List.getElem_cons_zero, List.getElem_cons_succ])
                              (try simp only [Act.put, List.setIfInBounds_toArray, List.set_cons_zero, List.set_cons_succ])
                              refine wpAnyH_take (i := 17) (oi := _) (v := .int .i64 (hi_ : Nat)) rfl (by kernel_rfl) (by kernel_rfl) (by kernel_rfl) (fun _ _ _ h => h) (Or.inl ⟨by rfl, ?_⟩) (by assumption) ?_
                              · intro u' hSu
                                (try simp only [List.getElem_toArray, List.getElem_cons_zero, List.getElem_cons_succ])
                                go_simp
                              (try simp only [List.getElem_toArray, List.getElem_cons_zero, List.getElem_cons_succ])
                              (try simp only [Act.put, List.setIfInBounds_toArray, List.set_cons_zero, List.set_cons_succ])
                              refine wpAnyH_take (i := 18) (oi := _) (v := .slice (some ⟨gf, of_ + lo * 3, none⟩) k (cr - lo)) rfl (by kernel_rfl) (by kernel_rfl) (by kernel_rfl) (fun _ _ _ h => h) (Or.inl ⟨by rfl, ?_⟩) (by assumption) ?_
                              · intro u' hSu
                                (try simp only [List.getElem_toArray, List.getElem_cons_zero, List.getElem_cons_succ])
                                go_simp
                              (try simp only [List.getElem_toArray, List.getElem_cons_zero, List.getElem_cons_succ])
                              (try simp only [Act.put, List.setIfInBounds_toArray, List.set_cons_zero, List.set_cons_succ])
                              refine wpAnyH_ready (rs := [19]) (by kernel_rfl) (by simp) (AllReadyH.cons rfl ?_ (AllReadyH.nil))
                              · intro K' hK'
                                (try simp only [List.getElem_toArray, List.getElem_cons_zero, List.getElem_cons_succ])
                                go_simp
                                refine (HNT.out u0 HBd.out).mono ?_
                                rintro e u1 ⟨rfl, hb⟩
                                refine hK'.out _ _ ⟨(hb.cell (p := ⟨w.heap.size, 2, none⟩) hS0).trans hSd.1, (hb.cell (p := ⟨gr, or_ + v, none⟩) hS1).trans hSd.2.1, (hb.cell (p := ⟨gd, od + v, none⟩) hS2).trans hSd.2.2⟩ (fun hSe => ?_)
                                clear hK' K' hSd
                                have hSd := hSe
                                clear hSe
                                have HB1 := hid (HBd.out.trans (hb.mono HBd.out.size))
                                clear hb HBd hS0 hS1 hS2
                                (try simp only [List.getElem_toArray, List.getElem_cons_zero, List.getElem_cons_succ])
                                (try simp only [Act.put, List.setIfInBounds_toArray, List.set_cons_zero, List.set_cons_succ])
                                refine wpAnyH_take (i := 20) (oi := _) (v := .string (tx (rowL (chunkF rl k i)))) rfl (by kernel_rfl) (by kernel_rfl) (by kernel_rfl) (fun _ _ _ h => h) (Or.inl ⟨by rfl, ?_⟩) (by assumption) ?_
                                · intro u' hSu
                                  (try simp only [List.getElem_toArray, List.getElem_cons_zero, List.getElem_cons_succ])
                                  go_simp
                                (try simp only [List.getElem_toArray, List.getElem_cons_zero, List.getElem_cons_succ])
                                (try simp only [Act.put, List.setIfInBounds_toArray, List.set_cons_zero, List.set_cons_succ])
                                refine wpAnyH_done (by kernel_rfl) ?_ _
                                clear hSd
                                generalize tx (rowL (chunkF rl k i)) = T at *
                                generalize tx (vlI V L R v i pl.length) = S4 at *
                                go_wp2
                                go_roundw
                                case rel => exact ⟨i + 1, by omega, by rw [← HX.out], by rw [HI1.out], HB1⟩
                                case measure => have := HI1.out; simp [intOf]; omega
                        · have hsi : (20000 : Int) < ((tx (rwI V L R v i)).size : Int) := by omega
                          have hrz : (tx (rwI V L R v i)).size ≤ 450000000000 := by omega
                          have HX := hid (tx_app (rwI V L R v i) ⟨#[125, 10]⟩)
                          have HLX : Hid (20000 < (rwI V L R v i ++ bl ⟨#[125, 10]⟩).length ∧ (rwI V L R v i ++ bl ⟨#[125, 10]⟩).length ≤ 500000000000) := by
                            have e : (bl ⟨#[125, 10]⟩).length = 2 := rfl
                            refine ⟨?_, ?_⟩ <;> (rw [List.length_append, e]; omega)
                          have HNL : Hid (20000 < (netL V L R).length) := by show _ < _; omega
                          generalize rwI V L R v i ++ bl ⟨#[125, 10]⟩ = lx at *
                          clear hls hrm hrb h20
                          generalize tx (rwI V L R v i) = S4 at *
                          go_wp2
                          go_roundw
                          case rel => exact ⟨v + 1, lx, by omega, by rw [← HX.out], by go_num, .inr ⟨HLX.out.1, HNL.out⟩, HLX.out.2, HB6⟩
                          case measure => simp [intOf]; omega
                      · obtain rfl : i = N := by omega
                        have hrz : (tx (rwI V L R v i)).size ≤ 450000000000 := by omega
                        have HX := hid HSF.out
                        clear hls hrm hrb
                        generalize tx (rwI V L R v i) = S4 at *
                        go_wp2
                        go_roundw
                        case rel => exact ⟨v + 1, _, by omega, by rw [← HX.out], by go_num, .inl rfl, Nat.le_trans HTW.out (by decide), HB6⟩
                        case measure => simp [intOf]; omega
            · have hsi : (20000 : Int) < ((tx l).size : Int) := by omega
              obtain ⟨h1, h2⟩ := HRES.out.2 ((pr_end hv HL.out (.inr (by omega))).2 (by omega))
              have HR2 := hid (And.intro h1 h2)
              clear h1 h2 hls h20
              generalize tx l = S at *
              go_wp2
              go_ret2
              exact ⟨by rw [HR2.out.1, HR2.out.2]; rfl, HBW.out⟩
          · obtain rfl : v = V.length := by omega
            have HPE := hid (pr_end hv HL.out (.inl rfl))
            by_cases h20 : l.length ≤ 20000
            · have e := HPE.out.1 h20
              have HR2 := hid (HRES.out.1 (by rw [← e]; exact h20))
              rw [← e] at HR2
              have hsi : ((tx l).size : Int) ≤ 20000 := by omega
              clear hls h20 e
              generalize tx l = S at *
              go_wp2
              go_ret2
              exact ⟨by rw [HR2.out.1, HR2.out.2]; rfl, HBW.out⟩
            · have HR2 := hid (HRES.out.2 (HPE.out.2 (by omega)))
              have hsi : (20000 : Int) < ((tx l).size : Int) := by omega
              clear hls h20
              generalize tx l = S at *
              go_wp2
              go_ret2
              exact ⟨by rw [HR2.out.1, HR2.out.2]; rfl, HBW.out⟩
end Go.Proofs.YtmdjhefcohcjhaaGreatDoor

