/- Nets: Given of the document's answer. -/
import Derived.Test.YtncccbdledcibaaGreatDoorRtFToJntB
import Derived.Test.YtncccbdledcibaaGreatDoorJntAToProdB
import Derived.Test.YtncccbdledcibaaGreatDoorTabP3ToBytesA
namespace Go.Proofs.YtncccbdledcibaaGreatDoor
open Go.RowKit Go.Shelf

/-- A variable and what it hangs on. -/
def gU (L : List (List Int)) (v : Nat) : List Int := togL (L.getD v []) [(v : Int)]
/-- Given's cells. -/
def gL (V : List Vr) (L : List (List Int)) (R : List (List Fr)) (v : Nat) : List Fr := (List.range (cnt (sizesN V) (toN (gU L v)))).map fun K => qF (frQ (likF V L R (asg (sizesN V) (toN (gU L v)) K) v))
theorem up_one {v n : Nat} (h : v < n) : Up [(v : Int)] n := up_iff.2 ⟨fun x hx => by have := List.mem_singleton.1 hx; omega, List.pairwise_singleton _ _⟩
theorem inB_one (i v : Nat) : inB (i : Int) [(v : Int)] = ((i : Int) == (v : Int)) := by
  rw [Bool.eq_iff_iff, inB_mem, beq_iff_eq]
  simp
/-- What a call holds: the net's box, and its result's table. -/
def GK (w V : World) (x y z : Value) : Prop := NK w V x y z ∧ TBox V (w.heap.size + 1) (.slice none 0 0) (.slice none 0 0)
theorem GK.new (w : World) (x y z : Value) : GK w ((w.alloc (NC x y z)).alloc (TC (.slice none 0 0) (.slice none 0 0))) x y z := ⟨(NK.new w x y z).step ((Below.refl _ _).alloc (Nat.le_refl _) _), TBox.at (by simp) _ _⟩
theorem GK.step {w V V' : World} {x y z : Value} (h : GK w V x y z) (hb : Below V.heap.size V V') : GK w V' x y z := ⟨h.1.step hb, h.2.below hb h.2.lt⟩

set_option maxRecDepth 100000 in
set_option maxHeartbeats 2000000 in
theorem rGiven_yes (a b c : Option Addr) (ca cb cc v : Nat) (V : List Vr) (L : List (List Int)) (R : List (List Fr)) (w : World) (h : NetI w a b c V L R) (hs : NSm V L R) (hw : ∀ l ∈ R, fw l ≤ 4200) (h0 : netE V L R = 0) (hv : v < V.length) :
    Calls Tryz.prog 7 #[.agg #[.slice a V.length ca, .slice b L.length cb, .slice c R.length cc], .int .i64 (v : Nat)] w fun e w' => TabA (gU L v) (gL V L R v) 0 e w' ∧ Below w.heap.size w w' := by
  have hok := netE_ok h0
  have hV5 := hs.vars.1
  have hn8 := hok.n8
  have hvL : v < L.length := by rw [hok.len]; exact hv
  have hvR : v < R.length := by rw [hok.lenR]; exact hv
  have eLv : L.getD v [] = L[v] := by rw [List.getD_eq_getElem?_getD, List.getElem?_eq_getElem hvL]; rfl
  have hua := hok.up v hvL
  have hub := up_one hv
  have HNC := hid (fun (U : World) (hU : NetI U a b c V L R) => rNetCheck_any a b c ca cb cc V L R U hU hs)
  rw [h0] at HNC
  have hUe : gU L v = togL L[v] [(v : Int)] := by rw [gU, eLv]
  have HUU : Hid (Up (gU L v) V.length) := by rw [hUe]; exact togL_up hua hub
  have HU : Hid (bothI L[v] [(v : Int)] V.length = gU L v) := by rw [hUe]; exact (togL_both hua hub).symm
  have hfi := hok.fine
  have hs4 : ∀ u, sz (sizesN V) u ≤ 4 := fun u => by have := hfi.sz_le u; rwa [toN_iL] at this
  have hps : Pos (sizesN V) := by have := hfi.pos; rwa [toN_iL] at this
  have hsm : cnt (sizesN V) (toN (gU L v)) ≤ 65536 := cnt_small hs4 (by rw [toN_length]; have := HUU.out.length; omega)
  have HFL : Hid ((gL V L R v).length = cnt (sizesN V) (toN (gU L v))) := by show _ = _; simp [gL]
  have HFG : Hid (∀ k (h : k < (gL V L R v).length), (gL V L R v)[k] = qF (frQ (likF V L R (asg (sizesN V) (toN (gU L v)) k) v))) := fun k h => by simp [gL]
  have HLS : Hid (∀ K, K < cnt (sizesN V) (toN (gU L v)) → (likF V L R (asg (sizesN V) (toN (gU L v)) K) v).2.1.size + (likF V L R (asg (sizesN V) (toN (gU L v)) K) v).2.2.size ≤ 4200) := fun K hK => likF_size hok (fun u => asg_lt hps _ K u hK) hw hv
  have HRA : Hid (∀ (K : Nat) (U : World) (G : Nat), K < cnt (sizesN V) (toN (gU L v)) → NetI U a b c V L R → RowI U G (spr V.length (asg (sizesN V) (toN (gU L v)) K)) → Calls Tryz.prog 32 #[.agg #[.slice a V.length ca, .slice b L.length cb, .slice c R.length cc], .int .i64 (v : Nat), .slice (some ⟨G, 0, none⟩) V.length V.length] U fun e w' => e = .returned (frV (likF V L R (asg (sizesN V) (toN (gU L v)) K) v)) ∧ Below U.heap.size U w') := fun K U G hK h1 h2 => by
    rw [likF_eq hvL hvR]
    have := rRowAt_any a b c (some ⟨G, 0, none⟩) ca cb cc V.length v V L R (spr V.length (asg (sizesN V) (toN (gU L v)) K)) U h1 h2.ints (spr_length _ _) hn8 hv hvL hvR hfi hua (hok.rows v hvL hvR) (asg (sizesN V) (toN (gU L v)) K) (fun u => asg_lt hps _ K u hK) (fun u hu => spr_get? hu)
    rwa [spr_length] at this
  have hsl : (iL (sizesN V)).length = V.length := by rw [iL_length, sizesN_length]
  have HCT : Hid (∀ (U : World) (d6 d : Option Addr) (cd6 cd : Nat), IntS U d6 (iL (sizesN V)) → IntS U d (gU L v) → Calls Tryz.prog 18 #[.slice d6 V.length cd6, .slice d (gU L v).length cd] U fun e w' => e = .returned (.tuple #[.int .i64 (cnt (sizesN V) (toN (gU L v)) : Nat), .int .i64 0]) ∧ Below U.heap.size U w') := fun U d6 d cd6 cd h1 h2 => by
    have := rCount_in d6 d cd6 cd (iL (sizesN V)) (gU L v) U h1 h2 hfi (by rw [hsl]; exact HUU.out)
    rwa [hsl, toN_iL] at this
  have HWH : Hid (∀ (U : World) (d6 d : Option Addr) (cd6 cd K : Nat), K < cnt (sizesN V) (toN (gU L v)) → IntS U d6 (iL (sizesN V)) → IntS U d (gU L v) → Calls Tryz.prog 21 #[.slice d6 V.length cd6, .slice d (gU L v).length cd, .int .i64 (K : Nat)] U fun e w' => ∃ (c : Option Addr) (cc : Nat), e = .returned (.tuple #[.slice c (gU L v).length cc, .int .i64 0]) ∧ IntS w' c (iL (digs (sizesN V) (toN (gU L v)) K)) ∧ Below U.heap.size U w') := fun U d6 d cd6 cd K hK h1 h2 => by
    have := rWhere_in d6 d cd6 cd K (iL (sizesN V)) (gU L v) U h1 h2 hfi (by rw [hsl]; exact HUU.out) (by rw [toN_iL]; exact hK)
    rwa [hsl, toN_iL] at this
  have HSP : Hid (∀ (U : World) (d6 d d5 : Option Addr) (cd6 cd cd5 K : Nat), IntS U d (gU L v) → IntS U d5 (iL (digs (sizesN V) (toN (gU L v)) K)) → Calls Tryz.prog 31 #[.slice d6 V.length cd6, .slice d (gU L v).length cd, .slice d5 (gU L v).length cd5] U fun e w' => ∃ G, e = .returned (.slice (some ⟨G, 0, none⟩) V.length V.length) ∧ U.heap.size ≤ G ∧ RowI w' G (spr V.length (asg (sizesN V) (toN (gU L v)) K)) ∧ Below U.heap.size U w') := fun U d6 d d5 cd6 cd cd5 K h1 h2 => by
    have := rSpread_any d6 d d5 cd6 cd cd5 K (iL (sizesN V)) (gU L v) U h1 (by rw [toN_iL]; exact h2) hfi (by rw [hsl]; exact HUU.out)
    rwa [hsl, toN_iL] at this
  have HIP := hid (h.pars v hvL)
  have hll := hs.pars.2 L[v] (List.getElem_mem hvL)
  have HINA := hid (fun (k : Int) (bl : Option Addr) (cl : Nat) (U : World) (hU : IntS U bl (L[v]'hvL)) => rIn_any k bl cl (L[v]'hvL) U hU (by omega))
  have HSUC := hid (bothI_succ L[v] [(v : Int)])
  have HLEN := hid (bothI_len L[v] [(v : Int)])
  have h0e : bothI L[v] [(v : Int)] 0 = [] := rfl
  have HIB := hid (fun i : Nat => inB_one i v)
  have HI := hid h
  have HSL := hid hsl
  generalize gL V L R v = FL at *
  generalize gU L v = U at *
  generalize bothI L[v] [(v : Int)] = BI at *
  obtain ⟨gp, op_, bl, cl, rfl, hgp, p1, hpi⟩ := HIP.out
  have HP1 := hid p1
  have HPI := hid hpi
  generalize hplv : L[v] = pl at *
  clear h hs hw h0 hok hua hub hUe hfi hs4 hps hsl HIP p1 hpi hplv eLv
  have HK0 := hid (GK.new w (.slice a V.length ca) (.slice (some ⟨gp, op_, none⟩) L.length cb) (.slice c R.length cc))
  obtain ⟨c0, c1, c2⟩ := HK0.out.1.1.cells
  go_enter Tryz.func7, Tryz.ntmps7
  go_wp2_with fail
  generalize ((w.alloc (NC (.slice a V.length ca) (.slice (some ⟨gp, op_, none⟩) L.length cb) (.slice c R.length cc))).alloc (TC (.slice none 0 0) (.slice none 0 0))) = w1 at *
  refine (HNC.out _ (HI.out.below HK0.out.1.2)).mono ?_
  rintro e w2 ⟨rfl, hb⟩
  have hK := HK0.out.step hb
  clear hb HK0 c0 c1 c2 HNC
  obtain ⟨c0, c1, c2⟩ := hK.1.1.cells
  have hv0 : (0 : Int) ≤ (v : Int) := by omega
  have hv1 : (v : Int) < (V.length : Int) := by omega
  have HK := hid hK
  clear hK
  go_wp2_with fail
  refine (rSizes_any a (some ⟨gp, op_, none⟩) c ca cb cc L.length R.length V _ (HI.out.below HK.out.1.2).vars hV5).mono ?_
  rintro e w2 ⟨xv, rfl, hrw, hb⟩
  obtain ⟨d6, cd6, rfl, hi6⟩ := hrw.ints
  rw [HSL.out]
  have hH := HK.out.step hb
  have HS6 := hid hi6
  clear hb hrw c0 c1 c2 HK hi6
  have hV0 : VX w2 (w2.alloc (TC (.slice none 0 0) (.slice none 0 0))) (.slice none 0 0) [] := ⟨(Below.refl _ w2).alloc (Nat.le_refl _) _, TBox.at rfl _ _, ⟨rfl, .inl ⟨rfl, rfl⟩⟩⟩
  go_wp2_with fail
  generalize (w2.alloc (TC (.slice none 0 0) (.slice none 0 0))) = w3 at *
  have HV0 := hid hV0
  have HH := hid hH
  clear hV0 hH
  go_loopw [9] (fun iv wr => ∃ (i : Nat) (x : Value), i ≤ V.length ∧ iv = .int .i64 i ∧ Hid (VX w2 wr x (BI i))) (fun iv _ => V.length - (intOf iv).toNat)
  case atStart => exact ⟨0, _, Nat.zero_le _, rfl, by rw [h0e]; exact HV0⟩
  case round =>
    obtain ⟨i, x, hi, rfl, HX⟩ := hrel
    clear HV0
    have hHw := HH.out.step HX.out.1
    by_cases hlt : i < V.length
    · obtain ⟨c0, c1, c2⟩ := hHw.1.1.cells
      have p1 := (hHw.1.2.cell (p := ⟨gp, op_ + v, none⟩) hgp).trans HP1.out
      go_wp2_with fail
      refine (HINA.out (i : Int) bl cl _ (HPI.out.below hHw.1.2)).mono ?_
      rintro e u1 ⟨rfl, hu1⟩
      replace hu1 := hu1.symm
      subst hu1
      have hsu := HSUC.out i
      have hle := HLEN.out i
      have hib := HIB.out i
      generalize inB (i : Int) pl = pa at *
      generalize inB (i : Int) [(v : Int)] = pb at *
      replace hib := hib.symm
      by_cases hp : (pa || pb) = true
      · rw [if_pos hp] at hsu
        have HSU := hid hsu
        clear hsu
        obtain ⟨d0, n0, e0, rfl⟩ := HX.out.2.2.slv
        have cx := HX.out.2.1.c0
        have hbA : Below wr.heap.size wr (wr.alloc (.cells #[.int .i64 (i : Int)] 3)) := (Below.refl _ wr).alloc (Nat.le_refl _) _
        have HXA := hid (HX.out.step hbA)
        have HIA := hid (one_int wr (i : Int))
        have hbs : w2.heap.size + 1 ≤ (wr.alloc (.cells #[.int .i64 (i : Int)] 3)).heap.size := HXA.out.2.1.lt
        cases pa
        case true =>
          clear hbA hHw hp c0 c1 c2 p1
          go_wp2_with (at_builtin; refine wpList_append_ints rfl _ _ rfl (w2.heap.size + 1) _ (BI i) [(i : Int)] rfl HXA.out.2.2 (some ⟨wr.heap.size, 0, none⟩) 1 rfl HIA.out (fun e => by cases e) (by simp; omega) hbs ?_; intro v' u3 hr3 hg3; obtain ⟨d3, n3, cd3, rfl⟩ := hr3.slv; have hmid := HXA.out.mid hg3; have hm0 := hmid.c0; have hmf : u3.frozen? ⟨w2.heap.size, 0, none⟩ = false := frozen_of_row _ _ 0 _ _ hmid; have HPU := hid (HXA.out.push hr3 hg3); clear hmid hr3 hg3)
          go_roundw
          case rel => exact ⟨i + 1, _, by omega, by go_num, by rw [HSU.out]; exact HPU⟩
          case measure => simp [intOf]; omega
        case false =>
          have hpb : pb = true := by simpa using hp
          subst hpb
          clear hbA hHw hp c0 c1 c2 p1
          go_wp2_with (at_builtin; refine wpList_append_ints rfl _ _ rfl (w2.heap.size + 1) _ (BI i) [(i : Int)] rfl HXA.out.2.2 (some ⟨wr.heap.size, 0, none⟩) 1 rfl HIA.out (fun e => by cases e) (by simp; omega) hbs ?_; intro v' u3 hr3 hg3; obtain ⟨d3, n3, cd3, rfl⟩ := hr3.slv; have hmid := HXA.out.mid hg3; have hm0 := hmid.c0; have hmf : u3.frozen? ⟨w2.heap.size, 0, none⟩ = false := frozen_of_row _ _ 0 _ _ hmid; have HPU := hid (HXA.out.push hr3 hg3); clear hmid hr3 hg3)
          go_roundw
          case rel => exact ⟨i + 1, _, by omega, by go_num, by rw [HSU.out]; exact HPU⟩
          case measure => simp [intOf]; omega
      · rw [if_neg hp, List.append_nil] at hsu
        have HSU := hid hsu
        clear hsu
        have hpa : pa = false := by cases pa; rfl; exact absurd rfl hp
        have hpb : pb = false := by cases pb; rfl; rw [hpa] at hp; exact absurd rfl hp
        subst hpa hpb
        clear hp
        go_wp2
        go_roundw
        case rel => exact ⟨i + 1, _, by omega, by go_num, by rw [HSU.out]; exact HX⟩
        case measure => simp [intOf]; omega
    · obtain rfl : i = V.length := by omega
      clear hHw
      have hV := HX.out
      rw [HU.out] at hV
      obtain ⟨d, cd, rfl, -⟩ := hV.2.2.ints
      have HRU := hid hV.2.2
      have HP0 : Hid (PX w2 wr wr (.slice d U.length cd) (.slice none 0 0) []) := ⟨hV.1, hV.2.1, RwF.empty _ _, fun _ _ _ => rfl, Nat.le_refl _⟩
      have c0 := hV.2.1.c0
      have HS7 := hid (HS6.out.below hV.1)
      have h21 : w2.heap.size < wr.heap.size := hV.2.1.lt
      have hUl := HUU.out.length
      clear HX hV
      go_wp2_with fail
      generalize wr = w4 at *
      refine (HCT.out _ d6 d cd6 cd HS7.out HRU.out.intS).mono ?_
      rintro e w5 ⟨rfl, hb5⟩
      have HP1' := hid (HP0.out.step hb5)
      clear c0 hb5 HP0
      go_wp2_with fail
      go_loopw [13] (fun iv wr => ∃ (i : Nat) (y : Value), i ≤ FL.length ∧ iv = .int .i64 i ∧ Hid (PX w2 w4 wr (.slice d U.length cd) y (FL.take i))) (fun iv _ => FL.length - (intOf iv).toNat)
      case atStart => exact ⟨0, _, Nat.zero_le _, rfl, HP1'⟩
      case round =>
        obtain ⟨i, y, hile, rfl, HX⟩ := hrel
        clear HP1'
        by_cases hlt2 : i < FL.length
        · have hiK : i < cnt (sizesN V) (toN U) := by rw [← HFL.out]; exact hlt2
          have hii : (i : Int) < (cnt (sizesN V) (toN U) : Int) := by omega
          have c0 := HX.out.2.1.c0
          have hIU := (HX.out.vars HRU.out).intS
          go_wp2_with fail
          refine (HWH.out _ d6 d cd6 cd i hiK (HS6.out.below HX.out.1) hIU).mono ?_
          rintro e u1 ⟨d5, cd5, rfl, hi5, hb5⟩
          have c0' := (HX.out.step hb5).2.1.c0
          clear c0
          go_wp2_with fail
          refine (HSP.out _ d6 d d5 cd6 cd cd5 i (hIU.below hb5) hi5).mono ?_
          rintro e u2 ⟨G, rfl, hG, hrow, hb6⟩
          have hb06 := hb5.trans (hb6.mono hb5.size)
          have hHx := HH.out.step (HX.out.step hb06).1
          obtain ⟨t0, t1, t2⟩ := hHx.1.1.cells
          have HRW := hid hrow
          clear c0' hb5 hb6 hi5 hG hrow
          go_wp2_with fail
          refine (HRA.out i _ G hiK (HI.out.below hHx.1.2) HRW.out).mono ?_
          rintro e u3 ⟨rfl, hb7⟩
          replace hb06 := hb06.trans (hb7.mono hb06.size)
          clear t0 t1 t2 hb7 hHx HRW
          have hfg := HFG.out i hlt2
          have hcs := HLS.out i hiK
          generalize likF V L R (asg (sizesN V) (toN U) i) v = fr at *
          obtain ⟨fn, fx, fy⟩ := fr
          replace hcs : fx.size + fy.size ≤ 4200 := hcs
          have hbb := Box.new u3 fn fx fy
          have hb9 := hb06.alloc hb06.size (FC fn fx fy)
          have hls := hb06.size
          obtain ⟨k0, k1, k2, -⟩ := hbb.facts
          go_wp2_with fail
          generalize (u3.alloc (FC fn fx fy)) = u4 at *
          generalize u3.heap.size = B17 at *
          refine (Canon_r (n := fn) (x := fx) (y := fy) (w := u4) (by omega)).mono ?_
          rintro e u5 ⟨rfl, hb10⟩
          replace hbb := hbb.below hb10 hbb.lt
          replace hb9 := hb9.trans (hb10.mono hb9.size)
          clear k0 k1 k2 hb10
          obtain ⟨k0, k1, k2, f0, f1, f2⟩ := hbb.facts
          have hq : FL[i] = qF (val fn fx fy) := hfg
          generalize qF (val fn fx fy) = q at *
          obtain ⟨qn, qx, qy⟩ := q
          have hpt := hbb.put qn qx qy
          have hb11 := below_put hb9 hls (.bool qn) (.string qx) (.string qy)
          clear hbb hb06 hb9
          have hst : FL.take i ++ [(qn, qx, qy)] = FL.take (i + 1) := by rw [List.take_succ_eq_append_getElem hlt2, hq]
          have HST := hid hst
          have htl : (FL.take i).length ≤ 65536 := by rw [List.length_take]; omega
          clear hst hq hfg
          go_upto_region 22 with fail
          clear k0 k1 k2 f0 f1 f2
          generalize (((u5.setCell ⟨B17, 0, none⟩ (.bool qn)).setCell ⟨B17, 1, none⟩ (.string qx)).setCell ⟨B17, 2, none⟩ (.string qy)) = u8 at *
          have cy := (HX.out.step hb11).2.1.c1
          obtain ⟨p0, p1, p2, -⟩ := hpt.facts
          have hb13 := hb11.alloc hb11.size (FC qn qx qy)
          have HNB := hid (Box.new u8 qn qx qy)
          have HX12 := hid (HX.out.step hb13)
          have hbs : w4.heap.size ≤ (u8.alloc (FC qn qx qy)).heap.size := HX12.out.2.2.2.2
          clear hb11 hb13 hpt
          go_wp2_with (at_builtin; refine wpList_append_fr rfl _ _ rfl w4.heap.size _ (FL.take i) (qn, qx, qy) rfl HX12.out.2.2.1 _ rfl HNB.out (by omega) hbs ?_; intro v' w13 hr13 hg13; obtain ⟨d13, n13, cd13, rfl⟩ := hr13.slv; have hmid := HX12.out.mid h21 hg13; have hm1 := hmid.c1; have hmf : w13.frozen? ⟨w2.heap.size, 1, none⟩ = false := frozen_of_row _ _ 1 _ _ hmid; have HPU := hid (HX12.out.push h21 hr13 hg13); clear hmid hr13 hg13)
          go_roundw
          case rel => exact ⟨i + 1, _, by omega, by go_num, by rw [← HST.out]; exact HPU⟩
          case measure => simp [intOf]; omega
        · obtain rfl : i = FL.length := by omega
          have hX := HX.out
          rw [List.take_length] at hX
          obtain ⟨dy, ny, cy, rfl⟩ := hX.2.2.1.slv
          have hR := HH.out.step hX.1
          have hIU := (hX.vars HRU.out).intS
          obtain ⟨k0, k1, f0, f1⟩ := hR.2.facts
          have c0 := hX.2.1.c0
          have c1 := hX.2.1.c1
          have hlf : (FL.length : Int) = (cnt (sizesN V) (toN U) : Int) := by rw [HFL.out]
          have hRw := HH.out.2.lt
          obtain ⟨df, cdf, ef, hff⟩ := ((hX.2.2.1.off (w.heap.size + 1) 0 (.slice d U.length cd) (by omega)).off (w.heap.size + 1) 1 (.slice dy ny cy) (by omega)).fr
          cases ef
          go_wp2
          refine bodyPost_ret ((hR.2.put _ _).result2 rfl _ rfl) rfl ?_
          exact ⟨⟨d, dy, cd, cy, rfl, hIU.putT hR.2 (Go.Proofs.YtncccbdledcibaaGreatDoor.slv _ _ _) (Go.Proofs.YtncccbdledcibaaGreatDoor.slv _ _ _) (Go.Proofs.YtncccbdledcibaaGreatDoor.slv _ _ _) _, hff⟩, below_put2 hR.1.2 (by omega) _ _⟩
end Go.Proofs.YtncccbdledcibaaGreatDoor

/- Nets: what Given of package net stands on. -/
namespace Go.Proofs.YtncccbdledcibaaGreatDoor
open Go.RowKit Go.Shelf

theorem cnt_perm {S : List Nat} {a b : List Nat} (h : a.Perm b) : cnt S a = cnt S b := by
  induction h with
  | nil => rfl
  | cons x _ ih => simp only [cnt, ih]
  | swap x y l => simp only [cnt]; rw [Nat.mul_left_comm]
  | trans _ _ h1 h2 => exact h1.trans h2
theorem noSelf_of {L : List (List Int)} {V : List Vr} {R : List (List Fr)} (h : netE V L R = 0) {v : Nat} (hv : v < L.length) : ¬ v ∈ toN L[v] := by
  rw [netE] at h
  by_cases h1 : L.length = V.length ∧ R.length = V.length
  · rw [if_pos h1] at h
    by_cases h2 : gcE L = 0
    · rw [gcE] at h2
      by_cases h3 : gB L = true
      · rw [gB, Bool.and_eq_true, Bool.and_eq_true, noSelf, List.all_eq_true] at h3
        have := h3.2 v (List.mem_range.2 hv)
        rw [List.getD_eq_getElem?_getD, List.getElem?_eq_getElem hv] at this
        simpa using this
      · rw [if_neg h3] at h2; cases h2
    · rw [if_neg h2] at h; exact absurd h h2
  · rw [if_neg h1] at h; cases h
/-- The variable and what it hangs on, put in order. -/
theorem sort_gU {L : List (List Int)} {v n : Nat} (hvL : v < L.length) (hup : Up L[v] n) (hno : ¬ v ∈ toN L[v]) : (([(v : Int)] ++ L[v]).mergeSort fun x y => decide (x ≤ y)) = gU L v := by
  have eLv : L.getD v [] = L[v] := by rw [List.getD_eq_getElem?_getD, List.getElem?_eq_getElem hvL]; rfl
  obtain ⟨h1, h2⟩ := togL_rise L[v] [(v : Int)]
  rw [gU, eLv]
  have hnv : ¬ (v : Int) ∈ L[v] := fun h => hno (by rw [toN]; exact List.mem_map.2 ⟨_, h, Int.toNat_natCast v⟩)
  have hp : (([(v : Int)] ++ L[v]).mergeSort fun x y => decide (x ≤ y)).Pairwise (fun x y => decide (x ≤ y) = true) := List.pairwise_mergeSort (fun a b c h1 h2 => by simp at h1 h2 ⊢; omega) (fun a b => by simp; omega) _
  have hn0 : ([(v : Int)] ++ L[v]).Nodup := by
    rw [List.singleton_append, List.nodup_cons]
    exact ⟨hnv, (up_iff.1 hup).2.imp fun h => by omega⟩
  have hn : (([(v : Int)] ++ L[v]).mergeSort fun x y => decide (x ≤ y)).Nodup := (List.mergeSort_perm _ _).nodup_iff.2 hn0
  refine rise_extI ?_ h1 fun x => ?_
  · rw [List.pairwise_iff_getElem]
    intro i j hi hj hij
    have q1 := List.pairwise_iff_getElem.1 hp i j hi hj hij
    have q2 := List.pairwise_iff_getElem.1 hn i j hi hj hij
    have q1' := of_decide_eq_true q1
    omega
  · rw [List.mem_mergeSort, h2, List.mem_append]
    exact Or.comm
theorem cnt_gU {L : List (List Int)} {v n : Nat} (S : List Nat) (hvL : v < L.length) (hup : Up L[v] n) (hno : ¬ v ∈ toN L[v]) : cnt S (toN (gU L v)) = cnt S (toN L[v]) * sz S v := by
  rw [← sort_gU hvL hup hno]
  have h : (([(v : Int)] ++ L[v]).mergeSort fun x y => decide (x ≤ y)).Perm ([(v : Int)] ++ L[v]) := List.mergeSort_perm _ _
  have h2 := cnt_perm (S := S) (h.map Int.toNat)
  rw [toN, h2, List.map_append, List.map_cons, List.map_nil, List.singleton_append, cnt, Int.toNat_natCast, Nat.mul_comm]
  rfl
/-- Values are written over others, one by one. -/
def mixF (A f : Nat → Nat) (vs : List Nat) (i : Nat) : Nat → Nat := fun u => if u ∈ vs.take i then f u else A u
theorem mixF_zero (A f : Nat → Nat) (vs : List Nat) : mixF A f vs 0 = A := by funext u; simp [mixF]
theorem mixF_succ (A f : Nat → Nat) {vs : List Nat} (n : Nat) {i : Nat} (h : i < vs.length) : (spr n (mixF A f vs i)).set vs[i] (f vs[i]) = spr n (mixF A f vs (i + 1)) := by
  rw [spr_set]
  refine spr_congr fun u _ => ?_
  rw [withV, mixF, mixF, List.take_succ_eq_append_getElem h]
  by_cases e : u = vs[i]
  · rw [if_pos e, if_pos (List.mem_append.2 (.inr (List.mem_singleton.2 e))), e]
  · rw [if_neg e]
    by_cases e2 : u ∈ vs.take i
    · rw [if_pos e2, if_pos (List.mem_append.2 (.inl e2))]
    · rw [if_neg e2, if_neg (fun hh => by rcases List.mem_append.1 hh with hh | hh; exact e2 hh; exact e (List.mem_singleton.1 hh))]
theorem mixF_all {A f : Nat → Nat} {vs : List Nat} (hA : ∀ u, ¬ u ∈ vs → A u = 0) (hf : ∀ u, ¬ u ∈ vs → f u = 0) : mixF A f vs vs.length = f := by
  funext u
  rw [mixF, List.take_length]
  by_cases e : u ∈ vs
  · rw [if_pos e]
  · rw [if_neg e, hA u e, hf u e]
end Go.Proofs.YtncccbdledcibaaGreatDoor

