/- The document's answer: Fix. -/
import Derived.Test.YtknlhejhnopnaaaGreatDoorRtBToRtC
namespace Go.Proofs.YtknlhejhnopnaaaGreatDoor
open Go.RowKit Go.Shelf

theorem countB_of {sizes vars : List Int} (h1 : Fine sizes) (h2 : Up vars sizes.length) : countB sizes vars = true := by
  rw [countB, Bool.and_eq_true]
  constructor
  · rw [fitB, Bool.and_eq_true, decide_eq_true_iff]
    refine ⟨⟨h1.one, h1.eight⟩, List.all_eq_true.2 fun x hx => ?_⟩
    obtain ⟨i, hi, rfl⟩ := List.getElem_of_mem hx
    rw [okSize, decide_eq_true_iff]
    exact h1.each i hi
  · rw [risB, List.all_eq_true]
    intro i hi
    have hi' := List.mem_range.1 hi
    rw [okAt, decide_eq_true_iff, getD_eq hi']
    refine ⟨(h2.each i hi').1, (h2.each i hi').2, fun h0 => ?_⟩
    rw [getD_eq (show i - 1 < vars.length by omega)]
    exact h2.lt (i - 1) i hi' (by omega)
theorem rCount_in (a b : Option Addr) (ca cb : Nat) (sizes vars : List Int) (w : World) (hs : IntS w a sizes) (hv : IntS w b vars) (hfi : Fine sizes) (hup : Up vars sizes.length) :
    Calls Tryz.prog 9 #[.slice a sizes.length ca, .slice b vars.length cb] w fun e w' => e = .returned (.tuple #[.int .i64 (cnt (toN sizes) (toN vars) : Nat), .int .i64 0]) ∧ Below w.heap.size w w' := by
  have h8 := hfi.eight
  have h9 := hup.length
  have h := rCount_any a b ca cb sizes vars w hs hv (by omega) (by omega)
  rw [countA_yes (countB_of hfi hup)] at h
  exact h
theorem rWhere_in (a b : Option Addr) (ca cb K : Nat) (sizes vars : List Int) (w : World) (hs : IntS w a sizes) (hv : IntS w b vars) (hfi : Fine sizes) (hup : Up vars sizes.length) (hK : K < cnt (toN sizes) (toN vars)) :
    Calls Tryz.prog 15 #[.slice a sizes.length ca, .slice b vars.length cb, .int .i64 (K : Nat)] w fun e w' => ∃ (c : Option Addr) (cc : Nat), e = .returned (.tuple #[.slice c vars.length cc, .int .i64 0]) ∧ IntS w' c (iL (digs (toN sizes) (toN vars) K)) ∧ Below w.heap.size w w' := by
  have h8 := hfi.eight
  have h9 := hup.length
  have hcb := countB_of hfi hup
  have h := rWhere_any a b ca cb sizes vars (K : Int) w hs hv (by omega) (by omega)
  have e1 : whereL sizes vars (K : Int) = digs (toN sizes) (toN vars) K := by rw [whereL, if_pos ⟨hcb, by omega, by omega⟩, Int.toNat_natCast]
  have e2 : whereE sizes vars (K : Int) = 0 := by rw [whereE, if_pos hcb, if_pos ⟨by omega, by omega⟩]
  rw [e1, e2, digs_length, toN_length] at h
  exact h
theorem Canon_r {n : Bool} {x y : ByteArray} {w : World} (s1 : x.size + y.size ≤ 100000) :
    Calls Tryz.prog 73 #[.agg #[.bool n, .string x, .string y]] w fun e w' => e = .returned (frV (qF (val n x y))) ∧ Below w.heap.size w w' := rCanon_any n x y w (by omega) (by omega)

set_option maxRecDepth 100000 in
set_option maxHeartbeats 400000 in
theorem rFix_no (a b c : Option Addr) (ca cb cc m : Nat) (sizes vars : List Int) (v x : Int) (w : World) (hs : IntS w a sizes) (hv : IntS w b vars) (hn : sizes.length ≤ 140737488355328) (hm : vars.length ≤ 140737488355328) (hk : checkA sizes vars m ≠ 0) :
    Calls Tryz.prog 23 #[.slice a sizes.length ca, .agg #[.slice b vars.length cb, .slice c m cc], .int .i64 v, .int .i64 x] w fun e w' => TabA [] [] (checkA sizes vars m) e w' ∧ Below w.heap.size w w' := by
  have HC := hid (fun V h1 h2 => rCheck_any a b c ca cb cc m sizes vars V h1 h2 hn hm)
  generalize checkA sizes vars m = r at *
  have HS := hid hs
  have HV := hid hv
  have hH : NR w ((w.alloc (TC (.slice b vars.length cb) (.slice c m cc))).alloc (TC (.slice none 0 0) (.slice none 0 0))) w.heap.size (w.heap.size + 1) (.slice b vars.length cb) (.slice c m cc) := NH.new w _ _
  have c0 := hH.1.c0
  have c1 := hH.1.c1
  go_enter Tryz.func23, Tryz.ntmps23
  go_wp2_with fail
  generalize ((w.alloc (TC (.slice b vars.length cb) (.slice c m cc))).alloc (TC (.slice none 0 0) (.slice none 0 0))) = W at *
  refine (HC.out _ (HS.out.below hH.2.2) (HV.out.below hH.2.2)).mono ?_
  rintro e w1 ⟨rfl, hb1⟩
  replace hH := hH.step hb1
  clear c0 c1 hb1
  have hrb : (r == 0) = false := by simp [hk]
  obtain ⟨k0, k1, f0, f1⟩ := hH.2.1.facts
  go_wp2
  refine bodyPost_ret ((hH.2.1.put _ _).result2 rfl _ rfl) rfl ?_
  exact ⟨TabA.empty _ _, below_put2 hH.2.2 (by omega) _ _⟩
set_option maxRecDepth 100000 in
set_option maxHeartbeats 400000 in
theorem rFix_var (a b c : Option Addr) (ca cb cc m : Nat) (sizes vars : List Int) (v x : Int) (w : World) (hs : IntS w a sizes) (hv : IntS w b vars) (hn : sizes.length ≤ 140737488355328) (hm : vars.length ≤ 140737488355328) (hk : checkA sizes vars m = 0) (hv' : ¬ (0 ≤ v ∧ v < (sizes.length : Int))) :
    Calls Tryz.prog 23 #[.slice a sizes.length ca, .agg #[.slice b vars.length cb, .slice c m cc], .int .i64 v, .int .i64 x] w fun e w' => TabA [] [] 11 e w' ∧ Below w.heap.size w w' := by
  have HCK := fun V h1 h2 => rCheck_any a b c ca cb cc m sizes vars V h1 h2 hn hm
  rw [hk] at HCK
  have HC := hid HCK
  clear HCK
  have HS := hid hs
  have HV := hid hv
  have hH : NR w ((w.alloc (TC (.slice b vars.length cb) (.slice c m cc))).alloc (TC (.slice none 0 0) (.slice none 0 0))) w.heap.size (w.heap.size + 1) (.slice b vars.length cb) (.slice c m cc) := NH.new w _ _
  have c0 := hH.1.c0
  have c1 := hH.1.c1
  go_enter Tryz.func23, Tryz.ntmps23
  go_wp2_with fail
  generalize ((w.alloc (TC (.slice b vars.length cb) (.slice c m cc))).alloc (TC (.slice none 0 0) (.slice none 0 0))) = W at *
  refine (HC.out _ (HS.out.below hH.2.2) (HV.out.below hH.2.2)).mono ?_
  rintro e w1 ⟨rfl, hb1⟩
  replace hH := hH.step hb1
  clear c0 c1 hb1
  obtain ⟨k0, k1, f0, f1⟩ := hH.2.1.facts
  by_cases h0 : v < 0
  · go_wp2
    refine bodyPost_ret ((hH.2.1.put _ _).result2 rfl _ rfl) rfl ?_
    exact ⟨TabA.empty _ _, below_put2 hH.2.2 (by omega) _ _⟩
  · have h0' : 0 ≤ v := by omega
    have h1 : (sizes.length : Int) ≤ v := by omega
    clear hv'
    go_wp2
    refine bodyPost_ret ((hH.2.1.put _ _).result2 rfl _ rfl) rfl ?_
    exact ⟨TabA.empty _ _, below_put2 hH.2.2 (by omega) _ _⟩
set_option maxRecDepth 100000 in
set_option maxHeartbeats 400000 in
theorem rFix_val (a b c : Option Addr) (ca cb cc m : Nat) (sizes vars : List Int) (v : Nat) (x : Int) (w : World) (hs : IntS w a sizes) (hv : IntS w b vars) (hn : sizes.length ≤ 140737488355328) (hm : vars.length ≤ 140737488355328) (hk : checkA sizes vars m = 0) (hv' : v < sizes.length) (hx' : ¬ (0 ≤ x ∧ x < (sz (toN sizes) v : Int))) :
    Calls Tryz.prog 23 #[.slice a sizes.length ca, .agg #[.slice b vars.length cb, .slice c m cc], .int .i64 (v : Nat), .int .i64 x] w fun e w' => TabA [] [] 12 e w' ∧ Below w.heap.size w w' := by
  have hfi := (checkA_parts hk).1
  have hsv := hfi.sz_eq hv'
  have HCK := fun V h1 h2 => rCheck_any a b c ca cb cc m sizes vars V h1 h2 hn hm
  rw [hk] at HCK
  have HC := hid HCK
  clear HCK
  have h0 : (0 : Int) ≤ (v : Int) := by omega
  have h1 : (v : Int) < (sizes.length : Int) := by omega
  have HS := hid hs
  have HV := hid hv
  have hH : NR w ((w.alloc (TC (.slice b vars.length cb) (.slice c m cc))).alloc (TC (.slice none 0 0) (.slice none 0 0))) w.heap.size (w.heap.size + 1) (.slice b vars.length cb) (.slice c m cc) := NH.new w _ _
  have c0 := hH.1.c0
  have c1 := hH.1.c1
  go_enter Tryz.func23, Tryz.ntmps23
  go_wp2_with fail
  generalize ((w.alloc (TC (.slice b vars.length cb) (.slice c m cc))).alloc (TC (.slice none 0 0) (.slice none 0 0))) = W at *
  refine (HC.out _ (HS.out.below hH.2.2) (HV.out.below hH.2.2)).mono ?_
  rintro e w1 ⟨rfl, hb1⟩
  replace hH := hH.step hb1
  clear c0 c1 hb1
  obtain ⟨g, o, rfl, hg, cs⟩ := (HS.out.below hH.2.2) v hv'
  rw [← hsv] at cs
  obtain ⟨k0, k1, f0, f1⟩ := hH.2.1.facts
  clear hsv hfi
  generalize sz (toN sizes) v = Y at *
  by_cases hx0 : x < 0
  · clear hx'
    go_wp2
    refine bodyPost_ret ((hH.2.1.put _ _).result2 rfl _ rfl) rfl ?_
    exact ⟨TabA.empty _ _, below_put2 hH.2.2 (by omega) _ _⟩
  · have hx1 : 0 ≤ x := by omega
    have hx2 : (Y : Int) ≤ x := by omega
    clear hx'
    go_wp2
    refine bodyPost_ret ((hH.2.1.put _ _).result2 rfl _ rfl) rfl ?_
    exact ⟨TabA.empty _ _, below_put2 hH.2.2 (by omega) _ _⟩
set_option maxRecDepth 100000 in
set_option maxHeartbeats 1000000 in
theorem rFix_yes (a b c : Option Addr) (ca cb cc : Nat) (sizes vars : List Int) (l : List Fr) (v x : Nat) (w : World) (hs : IntS w a sizes) (hv : IntS w b vars) (hf : FrS w c l) (hn : sizes.length ≤ 140737488355328) (hm : vars.length ≤ 140737488355328) (hk : checkA sizes vars l.length = 0) (hw : fw l ≤ 10000) (hv' : v < sizes.length) (hx' : x < sz (toN sizes) v) :
    Calls Tryz.prog 23 #[.slice a sizes.length ca, .agg #[.slice b vars.length cb, .slice c l.length cc], .int .i64 (v : Nat), .int .i64 (x : Nat)] w fun e w' => TabA (lessN vars (v : Int)) (fixL (toN sizes) (toN vars) (toN (lessN vars (v : Int))) v x l) 0 e w' ∧ Below w.heap.size w w' := by
  obtain ⟨hfi, hup, hlc⟩ := checkA_parts hk
  have hsv := hfi.sz_eq hv'
  have HCK := fun V h1 h2 => rCheck_any a b c ca cb cc l.length sizes vars V h1 h2 hn hm
  rw [hk] at HCK
  have HC := hid HCK
  clear HCK
  have h0 : (0 : Int) ≤ (v : Int) := by omega
  have h1 : (v : Int) < (sizes.length : Int) := by omega
  have hrl : (lessN vars (v : Int)).length ≤ vars.length := List.length_filter_le _ _
  have hv8 := hup.length
  have hl8 := hfi.eight
  have HFI := hid hfi
  have HUP := hid hup
  have HUR := hid (lessN_up hup (v : Int))
  have HPL := hid (fun K (hK : K < cnt (toN sizes) (toN (lessN vars (v : Int)))) => with_lt hk hK hx')
  have HAW := hid (fun K (hK : K < cnt (toN sizes) (toN (lessN vars (v : Int)))) => withV_lt (fun u => asg_lt hfi.pos (toN (lessN vars (v : Int))) K u hK) hx')
  have HFL := hid (fixL_length (toN sizes) (toN vars) (toN (lessN vars (v : Int))) v x l)
  have HFG := hid (fun (k : Nat) (h : k < (fixL (toN sizes) (toN vars) (toN (lessN vars (v : Int))) v x l).length) => fixL_get (toN sizes) (toN vars) (toN (lessN vars (v : Int))) v x l h)
  have HWO := hid (fun V h => rWithout_any b cb vars (v : Int) V h (by omega))
  have hsm : cnt (toN sizes) (toN (lessN vars (v : Int))) ≤ 65536 := cnt_small hfi.sz_le (by rw [toN_length]; omega)
  generalize fixL (toN sizes) (toN vars) (toN (lessN vars (v : Int))) v x l = FL at *
  generalize lessN vars (v : Int) = rest at *
  have HF := hid hf
  have HW := hid hw
  clear hk hfi hup hlc hf hw
  have HS := hid hs
  have HV := hid hv
  have hH : NR w ((w.alloc (TC (.slice b vars.length cb) (.slice c l.length cc))).alloc (TC (.slice none 0 0) (.slice none 0 0))) w.heap.size (w.heap.size + 1) (.slice b vars.length cb) (.slice c l.length cc) := NH.new w _ _
  have c0 := hH.1.c0
  have c1 := hH.1.c1
  go_enter Tryz.func23, Tryz.ntmps23
  go_wp2_with fail
  generalize ((w.alloc (TC (.slice b vars.length cb) (.slice c l.length cc))).alloc (TC (.slice none 0 0) (.slice none 0 0))) = W at *
  refine (HC.out _ (HS.out.below hH.2.2) (HV.out.below hH.2.2)).mono ?_
  rintro e w1 ⟨rfl, hb1⟩
  replace hH := hH.step hb1
  clear c0 c1 hb1
  obtain ⟨g, o, rfl, hg, cs⟩ := (HS.out.below hH.2.2) v hv'
  rw [← hsv] at cs
  have c0 := hH.1.c0
  clear hsv
  have hxi : (x : Int) < (sz (toN sizes) v : Int) := by omega
  have hx0 : (0 : Int) ≤ (x : Int) := by omega
  have HXI := hid hx'
  clear hx'
  go_wp2_with fail
  refine (HWO.out _ (HV.out.below hH.2.2)).mono ?_
  rintro e w2 ⟨xv, rfl, hrw, hb2⟩
  obtain ⟨d, cd, rfl, hi⟩ := hrw.ints
  replace hH := hH.step hb2
  clear cs c0 hb2 hrw HWO
  have hF0 := FX.new w2 (.slice d rest.length cd)
  have c0 := hF0.2.1.c0
  go_wp2_with fail
  generalize (w2.alloc (TC (.slice d rest.length cd) (.slice none 0 0))) = w3 at *
  have hBw := hH.2.2.trans (hF0.1.mono hH.2.2.size)
  refine (rCount_in (some ⟨g, o, none⟩) d ca cd sizes rest _ (HS.out.below hBw) (hi.below hF0.1) HFI.out HUR.out).mono ?_
  rintro e w4 ⟨rfl, hb4⟩
  replace hF0 := hF0.step hb4
  have HF0 := hid hF0
  have HHI := hid hi
  clear hF0 hb4 c0 hBw hi
  go_wp2_with fail
  go_loopw [14] (fun iv wr => ∃ (i : Nat) (y : Value), i ≤ FL.length ∧ iv = .int .i64 i ∧ Hid (FX w2 wr (.slice d rest.length cd) y (FL.take i))) (fun iv _ => FL.length - (intOf iv).toNat)
  case atStart => exact ⟨0, _, Nat.zero_le _, rfl, HF0⟩
  case round =>
    obtain ⟨i, y, hile, rfl, HX⟩ := hrel
    clear HF0
    by_cases hlt : i < FL.length
    · have hiK : i < cnt (toN sizes) (toN rest) := by rw [← HFL.out]; exact hlt
      have hii : (i : Int) < (cnt (toN sizes) (toN rest) : Int) := by omega
      have c0 := HX.out.2.1.c0
      have hB0 : Below w.heap.size w wr := hH.2.2.trans (HX.out.1.mono hH.2.2.size)
      have HB0 := hid hB0
      clear hB0
      go_wp2_with fail
      refine (rWhere_in (some ⟨g, o, none⟩) d ca cd i sizes rest _ (HS.out.below HB0.out) (HHI.out.below HX.out.1) HFI.out HUR.out hiK).mono ?_
      rintro e w5 ⟨d5, cd5, rfl, hi5, hb5⟩
      have c0' := (HX.out.step hb5).2.1.c0
      clear c0
      go_wp2_with fail
      refine (rSpread_any (some ⟨g, o, none⟩) d d5 ca cd cd5 i sizes rest _ (HHI.out.below (HX.out.step hb5).1) hi5 HFI.out HUR.out).mono ?_
      rintro e w6 ⟨G, rfl, hG, hrow, hb6⟩
      have hb06 := hb5.trans (hb6.mono hb5.size)
      have hG' : wr.heap.size ≤ G := Nat.le_trans hb5.size hG
      have hrc := hrow.cell v (by rw [spr_length]; exact hv')
      have hrf := hrow.fz v
      have hset := hrow.set v x
      rw [spr_set] at hset
      have hb07 := hb06.setCell (p := ⟨G, v, none⟩) hG' (.int .i64 (x : Nat))
      have ct0 := ((hH.step (HX.out.step hb07).1).1).c0
      have ct1 := ((hH.step (HX.out.step hb07).1).1).c1
      generalize (spr sizes.length (asg (toN sizes) (toN rest) i))[v]'(by rw [spr_length]; exact hv') = z at *
      clear hrow hb5 hb6 hi5 c0' hb06 hG hG'
      go_wp2_with fail
      generalize (w6.setCell ⟨G, v, none⟩ (.int .i64 (x : Nat))) = w7 at *
      have hB7 := HB0.out.trans (hb07.mono HB0.out.size)
      refine (rCell_any (some ⟨g, o, none⟩) b c (some ⟨G, 0, none⟩) ca cb cc sizes.length sizes vars l (withV (asg (toN sizes) (toN rest) i) v x) _ (HS.out.below hB7) (HV.out.below hB7) (HF.out.below hB7) (hset.ints) HFI.out HUP.out (HAW.out i hiK) (HPL.out i hiK)).mono ?_
      rintro e w8 ⟨rfl, hb8⟩
      replace hb07 := hb07.trans (hb8.mono hb07.size)
      clear hset hb8 hrc hrf ct0 ct1 hB7
      have hfg := HFG.out i hlt
      have hcs := celF_size (HPL.out i hiK)
      have hw' := HW.out
      generalize celF l (pos (toN sizes) (withV (asg (toN sizes) (toN rest) i) v x) (toN vars)) = fr at *
      obtain ⟨fn, fx, fy⟩ := fr
      replace hcs : fx.size + fy.size + 2 ≤ fw l := hcs
      have hbb := Box.new w8 fn fx fy
      have hb9 := hb07.alloc hb07.size (FC fn fx fy)
      have hls := hb07.size
      obtain ⟨k0, k1, k2, -⟩ := hbb.facts
      go_wp2_with fail
      generalize (w8.alloc (FC fn fx fy)) = w9 at *
      generalize w8.heap.size = B17 at *
      refine (Canon_r (n := fn) (x := fx) (y := fy) (w := w9) (by omega)).mono ?_
      rintro e w10 ⟨rfl, hb10⟩
      replace hbb := hbb.below hb10 hbb.lt
      replace hb9 := hb9.trans (hb10.mono hb9.size)
      clear k0 k1 k2 hb10
      obtain ⟨k0, k1, k2, f0, f1, f2⟩ := hbb.facts
      have hq : FL[i] = qF (val fn fx fy) := hfg
      generalize qF (val fn fx fy) = q at *
      obtain ⟨qn, qx, qy⟩ := q
      have hpt := hbb.put qn qx qy
      have hb11 := below_put hb9 hls (.bool qn) (.string qx) (.string qy)
      clear hbb hb07 hb9
      have hst : FL.take i ++ [(qn, qx, qy)] = FL.take (i + 1) := by rw [List.take_succ_eq_append_getElem hlt, hq]
      have HST := hid hst
      have htl : (FL.take i).length ≤ 65536 := by rw [List.length_take]; omega
      clear hst hq hfg
      go_upto_region 18 with fail
      clear k0 k1 k2 f0 f1 f2
      generalize (((w10.setCell ⟨B17, 0, none⟩ (.bool qn)).setCell ⟨B17, 1, none⟩ (.string qx)).setCell ⟨B17, 2, none⟩ (.string qy)) = w11 at *
      have cy := (HX.out.step hb11).2.1.c1
      obtain ⟨p0, p1, p2, -⟩ := hpt.facts
      have hb12 := hb11.alloc hb11.size (FC qn qx qy)
      have HNB := hid (Box.new w11 qn qx qy)
      have HX12 := hid (HX.out.step hb12)
      have hbs : w2.heap.size + 1 ≤ (w11.alloc (FC qn qx qy)).heap.size := HX12.out.2.1.lt
      clear hb11 hb12 hpt
      go_wp2_with (at_builtin; refine wpList_append_fr rfl _ _ rfl (w2.heap.size + 1) _ (FL.take i) (qn, qx, qy) rfl HX12.out.2.2 _ rfl HNB.out (by omega) hbs ?_; intro v' w13 hr13 hg13; obtain ⟨d13, n13, cd13, rfl⟩ := hr13.slv; have hmid := HX12.out.mid hg13; have hm1 := hmid.c1; have hmf : w13.frozen? ⟨w2.heap.size, 1, none⟩ = false := frozen_of_row _ _ 1 _ _ hmid; have HPU := hid (HX12.out.push hr13 hg13); clear hmid hr13 hg13)
      go_roundw
      case rel => exact ⟨i + 1, _, by omega, by go_num, by rw [← HST.out]; exact HPU⟩
      case measure => simp [intOf]; omega
    · obtain rfl : i = FL.length := by omega
      have hX := HX.out
      rw [List.take_length] at hX
      obtain ⟨dy, ny, cy, rfl⟩ := hX.2.2.slv
      obtain ⟨t0, e1, e2, e3⟩ := hH.finW (by omega) HHI.out hX rfl
      obtain ⟨k0, k1, f0, f1⟩ := t0.facts
      have c0 := hX.2.1.c0
      have c1 := hX.2.1.c1
      have hlf : (FL.length : Int) = (cnt (toN sizes) (toN rest) : Int) := by rw [HFL.out]
      go_wp2
      refine bodyPost_ret (e1.result2 rfl _ rfl) rfl ?_
      exact ⟨e2, e3⟩
end Go.Proofs.YtknlhejhnopnaaaGreatDoor
