/- The document's answer: Out. -/
import Derived.Test.YtncccbdledcibaaGreatDoorProdBToSwapT
import Derived.Test.YtncccbdledcibaaGreatDoorStandBToProdA
import Derived.Laws.EntriesVeiled
import Derived.Test.YtncccbdledcibaaGreatDoorTabR1ToTabP1
namespace Go.Proofs.YtncccbdledcibaaGreatDoor
open Go.RowKit Go.Shelf

theorem cmp_turn (p q : Rat) : 0 < cmpQ p q ↔ cmpQ q p < 0 := by
  rw [cmpQ, cmpQ]
  by_cases h1 : p < q
  · have h2 : ¬ q < p := Rat.not_lt.2 (Rat.le_of_lt h1)
    have h3 : ¬ q = p := fun h => by rw [h] at h1; exact Rat.lt_irrefl h1
    rw [if_pos h1, if_neg h2, if_neg h3]; decide
  · rw [if_neg h1]
    by_cases h2 : p = q
    · subst h2
      rw [if_neg h1, if_pos rfl]
    · have h3 : q < p := Rat.not_le.1 fun h4 => h1 (Rat.lt_of_le_of_ne h4 h2)
      rw [if_neg h2, if_pos h3]; decide
/-- What is left of the first so many; ahead of the first nothing. -/
def leftN (most : Bool) (T : Nat → Fr) (x : Nat) : Fr := if x = 0 then frZ else outN most T (x - 1)
theorem leftN_zero (most : Bool) (T : Nat → Fr) : leftN most T 0 = frZ := rfl
theorem leftN_one (most : Bool) (T : Nat → Fr) : leftN most T 1 = T 0 := rfl
theorem leftN_sum (T : Nat → Fr) {x : Nat} (h : x ≠ 0) : leftN false T (x + 1) = qF (frQ (leftN false T x) + frQ (T x)) := by
  obtain ⟨y, rfl⟩ : ∃ y, x = y + 1 := ⟨x - 1, by omega⟩
  rfl
theorem leftN_up (T : Nat → Fr) {x : Nat} (h : x ≠ 0) (hc : 0 < cmpQ (frQ (T x)) (frQ (leftN true T x))) : leftN true T (x + 1) = T x := by
  obtain ⟨y, rfl⟩ : ∃ y, x = y + 1 := ⟨x - 1, by omega⟩
  change 0 < cmpQ (frQ (T (y + 1))) (frQ (outN true T y)) at hc
  show great (outN true T y) (T (y + 1)) = _
  rw [great, if_pos ((cmp_turn _ _).1 hc)]
theorem leftN_keep (T : Nat → Fr) {x : Nat} (h : x ≠ 0) (hc : ¬ 0 < cmpQ (frQ (T x)) (frQ (leftN true T x))) : leftN true T (x + 1) = leftN true T x := by
  obtain ⟨y, rfl⟩ : ∃ y, x = y + 1 := ⟨x - 1, by omega⟩
  change ¬ 0 < cmpQ (frQ (T (y + 1))) (frQ (outN true T y)) at hc
  show great (outN true T y) (T (y + 1)) = outN true T y
  rw [great, if_neg (fun h => hc ((cmp_turn _ _).2 h))]
theorem left_ar {x : Nat} (hx : x ≤ 3) : 2 * ((x - 1 + 1) * 8192) ≤ 50000 := by omega
theorem leftN_size (most : Bool) (T : Nat → Fr) (x : Nat) (hx : x ≤ 3) (h : ∀ y, y < x → (T y).2.1.size + (T y).2.2.size + 2 ≤ 8192) : (leftN most T x).2.1.size + (leftN most T x).2.2.size ≤ 50000 := by
  by_cases h0 : x = 0
  · subst h0; rw [leftN_zero]; decide
  · have e : leftN most T x = outN most T (x - 1) := if_neg h0
    rw [e]
    exact Nat.le_trans (outN_size most T (x - 1) fun y hy => h y (by omega)) (left_ar hx)
theorem spr_with (n : Nat) (f : Nat → Nat) (v z x : Nat) : (spr n (withV f v z)).set v x = spr n (withV f v x) := by
  rw [spr_set]
  exact spr_congr fun u _ => by
    rw [withV, withV, withV]
    by_cases e : u = v
    · rw [if_pos e, if_pos e]
    · rw [if_neg e, if_neg e, if_neg e]
theorem spr_self (n : Nat) (f : Nat → Nat) (v : Nat) : spr n f = spr n (withV f v (f v)) := spr_congr fun u _ => by
  rw [withV]
  by_cases e : u = v
  · rw [if_pos e, e]
  · rw [if_neg e]
theorem left_ar2 {x : Nat} (hx : x ≤ 4) : 2 * ((x - 1 + 1) * 8192) ≤ 65536 := by omega
theorem leftN_lt (most : Bool) (T : Nat → Fr) (x : Nat) (h1 : 1 ≤ x) (hx : x ≤ 4) (h : ∀ y, y < x → (T y).2.1.size + (T y).2.2.size + 2 ≤ 8192) : (leftN most T x).2.1.size + (leftN most T x).2.2.size ≤ 65536 := by
  have e : leftN most T x = outN most T (x - 1) := if_neg (by omega)
  rw [e]
  exact Nat.le_trans (outN_size most T (x - 1) fun y hy => h y (by omega)) (left_ar2 hx)

/-- What the inner loop of Out holds. -/
def OI (V0 V : World) (G B : Nat) (n v z : Nat) (F : Nat → Nat) (f : Fr) : Prop := RowI V G (spr n (withV F v z)) ∧ Box V B f.1 f.2.1 f.2.2 ∧ Below V0.heap.size V0 V
theorem OI.step {V0 V V' : World} {G B n v z : Nat} {F : Nat → Nat} {f : Fr} (h : OI V0 V G B n v z F f) (hb : Below V.heap.size V V') : OI V0 V' G B n v z F f := ⟨h.1.below hb h.1.lt, h.2.1.below hb h.2.1.lt, h.2.2.trans (hb.mono h.2.2.size)⟩
theorem rows_apart {V : World} {G B : Nat} {l : List Nat} {n : Bool} {x y : ByteArray} (h1 : RowI V G l) (h2 : Box V B n x y) : G ≠ B := fun e => by
  subst e
  rw [RowI] at h1
  rw [Box, h1] at h2
  simp at h2

set_option maxRecDepth 100000 in
set_option maxHeartbeats 400000 in
theorem rOut_no (a b c : Option Addr) (ca cb cc m : Nat) (sizes vars : List Int) (v : Int) (most : Bool) (w : World) (hs : IntS w a sizes) (hv : IntS w b vars) (hn : sizes.length ≤ 140737488355328) (hm : vars.length ≤ 140737488355328) (hk : checkA sizes vars m ≠ 0) :
    Calls Tryz.prog 24 #[.slice a sizes.length ca, .agg #[.slice b vars.length cb, .slice c m cc], .int .i64 v, .bool most] w fun e w' => TabA [] [] (checkA sizes vars m) e w' ∧ Below w.heap.size w w' := by
  have HC := hid (fun V h1 h2 => rCheck_any a b c ca cb cc m sizes vars V h1 h2 hn hm)
  generalize checkA sizes vars m = r at *
  have HS := hid hs
  have HV := hid hv
  have hH : NR w ((w.alloc (TC (.slice b vars.length cb) (.slice c m cc))).alloc (TC (.slice none 0 0) (.slice none 0 0))) w.heap.size (w.heap.size + 1) (.slice b vars.length cb) (.slice c m cc) := NH.new w _ _
  have c0 := hH.1.c0
  have c1 := hH.1.c1
  go_enter Tryz.func24, Tryz.ntmps24
  go_wp2_with fail
  generalize ((w.alloc (TC (.slice b vars.length cb) (.slice c m cc))).alloc (TC (.slice none 0 0) (.slice none 0 0))) = W at *
  refine (HC.out _ (HS.out.below hH.2.2) (HV.out.below hH.2.2)).mono ?_
  rintro e w1 ⟨rfl, hb1⟩
  replace hH := hH.step hb1
  clear c0 c1 hb1
  have hrb : (r == 0) = false := by simp [hk]
  obtain ⟨k0, k1, f0, f1⟩ := hH.2.1.facts
  go_wp2
  refine bodyPost_ret ((hH.2.1.put _ _).result2 rfl _ rfl) rfl ?_
  exact ⟨TabA.empty _ _, below_put2 hH.2.2 (by omega) _ _⟩
set_option maxRecDepth 100000 in
set_option maxHeartbeats 400000 in
theorem rOut_var (a b c : Option Addr) (ca cb cc m : Nat) (sizes vars : List Int) (v : Int) (most : Bool) (w : World) (hs : IntS w a sizes) (hv : IntS w b vars) (hn : sizes.length ≤ 140737488355328) (hm : vars.length ≤ 140737488355328) (hk : checkA sizes vars m = 0) (hv' : vars.contains v = false) :
    Calls Tryz.prog 24 #[.slice a sizes.length ca, .agg #[.slice b vars.length cb, .slice c m cc], .int .i64 v, .bool most] w fun e w' => TabA [] [] 11 e w' ∧ Below w.heap.size w w' := by
  have HCO := hid (fun V h => rIn_any v b cb vars V h hm)
  have hin : inB v vars = false := Bool.eq_false_iff.2 fun h => by rw [List.contains_iff_mem.2 (inB_iff.1 h)] at hv'; cases hv'
  rw [hin] at HCO
  have HCK := fun V h1 h2 => rCheck_any a b c ca cb cc m sizes vars V h1 h2 hn hm
  rw [hk] at HCK
  have HC := hid HCK
  clear HCK
  clear hv' hin
  have HS := hid hs
  have HV := hid hv
  have hH : NR w ((w.alloc (TC (.slice b vars.length cb) (.slice c m cc))).alloc (TC (.slice none 0 0) (.slice none 0 0))) w.heap.size (w.heap.size + 1) (.slice b vars.length cb) (.slice c m cc) := NH.new w _ _
  have c0 := hH.1.c0
  have c1 := hH.1.c1
  go_enter Tryz.func24, Tryz.ntmps24
  go_wp2_with fail
  generalize ((w.alloc (TC (.slice b vars.length cb) (.slice c m cc))).alloc (TC (.slice none 0 0) (.slice none 0 0))) = W at *
  refine (HC.out _ (HS.out.below hH.2.2) (HV.out.below hH.2.2)).mono ?_
  rintro e w1 ⟨rfl, hb1⟩
  replace hH := hH.step hb1
  clear c0 c1 hb1
  have c0 := hH.1.c0
  go_wp2_with fail
  refine (HCO.out _ (HV.out.below hH.2.2)).mono ?_
  rintro e w2 ⟨rfl, rfl⟩
  clear c0 HCO
  obtain ⟨k0, k1, f0, f1⟩ := hH.2.1.facts
  go_wp2
  refine bodyPost_ret ((hH.2.1.put _ _).result2 rfl _ rfl) rfl ?_
  exact ⟨TabA.empty _ _, below_put2 hH.2.2 (by omega) _ _⟩
set_option maxRecDepth 100000 in
set_option maxHeartbeats 2000000 in
theorem rOut_sums (a b c : Option Addr) (ca cb cc : Nat) (sizes vars : List Int) (l : List Fr) (v : Nat) (w : World) (hs : IntS w a sizes) (hv : IntS w b vars) (hf : FrS w c l) (hn : sizes.length ≤ 140737488355328) (hm : vars.length ≤ 140737488355328) (hk : checkA sizes vars l.length = 0) (hw : fw l ≤ 8192) (hv' : vars.contains (v : Int) = true) (hvs : v < sizes.length) :
    Calls Tryz.prog 24 #[.slice a sizes.length ca, .agg #[.slice b vars.length cb, .slice c l.length cc], .int .i64 (v : Nat), .bool false] w fun e w' => TabA (lessN vars (v : Int)) (outL (toN sizes) (toN vars) (toN (lessN vars (v : Int))) v false l) 0 e w' ∧ Below w.heap.size w w' := by
  obtain ⟨hfi, hup, hlc⟩ := checkA_parts hk
  have HCO := hid (fun V h => rIn_any (v : Int) b cb vars V h hm)
  rw [inB_iff.2 (List.contains_iff_mem.1 hv')] at HCO
  have hsv := hfi.sz_eq hvs
  have HCK := fun V h1 h2 => rCheck_any a b c ca cb cc l.length sizes vars V h1 h2 hn hm
  rw [hk] at HCK
  have HC := hid HCK
  clear HCK
  have hrl : (lessN vars (v : Int)).length ≤ vars.length := List.length_filter_le _ _
  have hv8 := hup.length
  have hl8 := hfi.eight
  have h0 : (0 : Int) ≤ (v : Int) := by omega
  have h1 : (v : Int) < (sizes.length : Int) := by omega
  have hn4 := hfi.sz_le v
  have HFI := hid hfi
  have HUP := hid hup
  have HUR := hid (lessN_up hup (v : Int))
  have HPL := hid (fun K (hK : K < cnt (toN sizes) (toN (lessN vars (v : Int)))) x (hx : x < sz (toN sizes) v) => with_lt hk hK hx)
  have HAW := hid (fun K (hK : K < cnt (toN sizes) (toN (lessN vars (v : Int)))) x (hx : x < sz (toN sizes) v) => withV_lt (fun u => asg_lt hfi.pos (toN (lessN vars (v : Int))) K u hK) hx)
  have HFL := hid (outL_length (toN sizes) (toN vars) (toN (lessN vars (v : Int))) v false l)
  have HFG := hid (fun (k : Nat) (h : k < (outL (toN sizes) (toN vars) (toN (lessN vars (v : Int))) v false l).length) => outL_get (toN sizes) (toN vars) (toN (lessN vars (v : Int))) v false l h)
  have HWO := hid (fun V h => rWithout_any b cb vars (v : Int) V h (by omega))
  have hsm : cnt (toN sizes) (toN (lessN vars (v : Int))) ≤ 65536 := cnt_small hfi.sz_le (by rw [toN_length]; omega)
  have hN1 := sz_pos hfi.pos v
  generalize outL (toN sizes) (toN vars) (toN (lessN vars (v : Int))) v false l = FL at *
  generalize lessN vars (v : Int) = rest at *
  have HF := hid hf
  have HW := hid hw
  have HSV := hid hsv
  clear hk hfi hup hlc hf hw hv' hsv
  have HS := hid hs
  have HV := hid hv
  have hH : NR w ((w.alloc (TC (.slice b vars.length cb) (.slice c l.length cc))).alloc (TC (.slice none 0 0) (.slice none 0 0))) w.heap.size (w.heap.size + 1) (.slice b vars.length cb) (.slice c l.length cc) := NH.new w _ _
  have c0 := hH.1.c0
  have c1 := hH.1.c1
  go_enter Tryz.func24, Tryz.ntmps24
  go_wp2_with fail
  generalize ((w.alloc (TC (.slice b vars.length cb) (.slice c l.length cc))).alloc (TC (.slice none 0 0) (.slice none 0 0))) = W at *
  refine (HC.out _ (HS.out.below hH.2.2) (HV.out.below hH.2.2)).mono ?_
  rintro e w1 ⟨rfl, hb1⟩
  replace hH := hH.step hb1
  clear c0 c1 hb1
  have c0 := hH.1.c0
  go_wp2_with fail
  refine (HCO.out _ (HV.out.below hH.2.2)).mono ?_
  rintro e w2 ⟨rfl, rfl⟩
  clear c0 HCO
  have c0 := hH.1.c0
  go_wp2_with fail
  refine (HWO.out _ (HV.out.below hH.2.2)).mono ?_
  rintro e w3 ⟨xv, rfl, hrw, hb2⟩
  obtain ⟨d, cd, rfl, hi⟩ := hrw.ints
  replace hH := hH.step hb2
  clear c0 hb2 hrw HWO
  have hF0 := FX.new w3 (.slice d rest.length cd)
  have c0 := hF0.2.1.c0
  go_wp2_with fail
  generalize (w3.alloc (TC (.slice d rest.length cd) (.slice none 0 0))) = w4 at *
  have hBw := hH.2.2.trans (hF0.1.mono hH.2.2.size)
  refine (rCount_in a d ca cd sizes rest _ (HS.out.below hBw) (hi.below hF0.1) HFI.out HUR.out).mono ?_
  rintro e w5 ⟨rfl, hb4⟩
  replace hF0 := hF0.step hb4
  have HF0 := hid hF0
  have HHI := hid hi
  clear hF0 hb4 c0 hBw hi
  go_wp2_with fail
  go_loopw [15] (fun iv wr => ∃ (i : Nat) (y : Value), i ≤ FL.length ∧ iv = .int .i64 i ∧ Hid (FX w3 wr (.slice d rest.length cd) y (FL.take i))) (fun iv _ => FL.length - (intOf iv).toNat)
  case atStart => exact ⟨0, _, Nat.zero_le _, rfl, HF0⟩
  case round =>
    obtain ⟨i, y, hile, rfl, HX⟩ := hrel
    clear HF0
    by_cases hlt : i < FL.length
    · have hiK : i < cnt (toN sizes) (toN rest) := by rw [← HFL.out]; exact hlt
      have hii : (i : Int) < (cnt (toN sizes) (toN rest) : Int) := by omega
      generalize wr = V0 at *
      have c0 := HX.out.2.1.c0
      have hB0 : Below w.heap.size w V0 := hH.2.2.trans (HX.out.1.mono hH.2.2.size)
      have HB0 := hid hB0
      clear hB0
      go_wp2_with fail
      refine (rWhere_in a d ca cd i sizes rest _ (HS.out.below HB0.out) (HHI.out.below HX.out.1) HFI.out HUR.out hiK).mono ?_
      rintro e w6 ⟨d5, cd5, rfl, hi5, hb5⟩
      have c0' := (HX.out.step hb5).2.1.c0
      clear c0
      go_wp2_with fail
      refine (rSpread_any a d d5 ca cd cd5 i sizes rest _ (HHI.out.below (HX.out.step hb5).1) hi5 HFI.out HUR.out).mono ?_
      rintro e w7 ⟨G, rfl, hG, hrow, hb6⟩
      have hb06 := hb5.trans (hb6.mono hb5.size)
      have hG' : V0.heap.size ≤ G := Nat.le_trans hb5.size hG
      rw [spr_self sizes.length (asg (toN sizes) (toN rest) i) v] at hrow
      have hI0 : OI V0 (w7.alloc (FC false ⟨#[]⟩ ⟨#[]⟩)) G w7.heap.size sizes.length v (asg (toN sizes) (toN rest) i v) (asg (toN sizes) (toN rest) i) frZ := ⟨(Below.heap_alloc w7 _ G hrow.lt).trans hrow, Box.new w7 _ _ _, hb06.alloc hb06.size _⟩
      have hB18 : V0.heap.size ≤ w7.heap.size := hb06.size
      clear hrow hb5 hb6 hi5 c0' hb06 hG
      have HT : Hid (∀ x, x < sz (toN sizes) v → (celF l (pos (toN sizes) (withV (asg (toN sizes) (toN rest) i) v x) (toN vars))).2.1.size + (celF l (pos (toN sizes) (withV (asg (toN sizes) (toN rest) i) v x) (toN vars))).2.2.size + 2 ≤ 8192) := fun x hx => Nat.le_trans (celF_size (HPL.out i hiK x hx)) HW.out
      obtain ⟨T, hT⟩ : ∃ T : Nat → Fr, T = fun x => celF l (pos (toN sizes) (withV (asg (toN sizes) (toN rest) i) v x) (toN vars)) := ⟨_, rfl⟩
      have hfg := HFG.out i hlt
      rw [← hT] at hfg
      have HTX : Hid (∀ x, celF l (pos (toN sizes) (withV (asg (toN sizes) (toN rest) i) v x) (toN vars)) = T x) := fun x => by rw [hT]
      have HTS : Hid (∀ x, x < sz (toN sizes) v → (T x).2.1.size + (T x).2.2.size + 2 ≤ 8192) := fun x hx => by rw [hT]; exact HT.out x hx
      have hEND : FL[i] = qF (frQ (leftN false T (sz (toN sizes) v))) := by
        rw [hfg, leftN, if_neg (by omega)]
      have HEND := hid hEND
      clear hT hfg HT hEND
      go_wp2_with fail
      generalize (w7.alloc (FC false ⟨#[]⟩ ⟨#[]⟩)) = w8 at *
      generalize w7.heap.size = B18 at *
      have HI0 := hid hI0
      clear hI0
      go_loopw [19] (fun jv wr => ∃ (x z : Nat), x ≤ sz (toN sizes) v ∧ jv = .int .i64 x ∧ Hid (OI V0 wr G B18 sizes.length v z (asg (toN sizes) (toN rest) i) (leftN false T x))) (fun jv _ => sz (toN sizes) v - (intOf jv).toNat)
      case atStart => exact ⟨0, _, Nat.zero_le _, rfl, HI0⟩
      case round =>
        obtain ⟨x, z, hxle, rfl, HI⟩ := hrel
        clear HI0
        have hBI := HB0.out.trans (HI.out.2.2.mono HB0.out.size)
        obtain ⟨g, o, rfl, hg, cs⟩ := (HS.out.below hBI) v hvs
        rw [← HSV.out] at cs
        by_cases hxl : x < sz (toN sizes) v
        · have hxi : (x : Int) < (sz (toN sizes) v : Int) := by omega
          have hrc := HI.out.1.cell v (by rw [spr_length]; exact hvs)
          have hrf := HI.out.1.fz v
          have hset := HI.out.1.set v x
          rw [spr_with] at hset
          have hap := rows_apart HI.out.1 HI.out.2.1
          have hIx : OI V0 (wr.setCell ⟨G, v, none⟩ (.int .i64 (x : Nat))) G B18 sizes.length v x (asg (toN sizes) (toN rest) i) (leftN false T x) := ⟨hset, HI.out.2.1.far (fun e => hap e.symm) _, HI.out.2.2.setCell (p := ⟨G, v, none⟩) hG' _⟩
          generalize (spr sizes.length (withV (asg (toN sizes) (toN rest) i) v z))[v]'(by rw [spr_length]; exact hvs) = zz at *
          have ht := (hH.step (HX.out.step hIx.2.2).1).1
          have ct0 := ht.c0
          have ct1 := ht.c1
          clear ht hset hBI
          go_wp2_with fail
          clear hrc hrf cs ct0 ct1
          generalize (wr.setCell ⟨G, v, none⟩ (.int .i64 (x : Nat))) = u1 at *
          have hB7 := HB0.out.trans (hIx.2.2.mono HB0.out.size)
          refine (rCell_any (some ⟨g, o, none⟩) b c (some ⟨G, 0, none⟩) ca cb cc sizes.length sizes vars l (withV (asg (toN sizes) (toN rest) i) v x) _ (HS.out.below hB7) (HV.out.below hB7) (HF.out.below hB7) (hIx.1.ints) HFI.out HUP.out (HAW.out i hiK x hxl) (HPL.out i hiK x hxl)).mono ?_
          rintro e u2 ⟨rfl, hb8⟩
          rw [HTX.out x]
          replace hIx := hIx.step hb8
          have hts := HTS.out x hxl
          have hls := leftN_size false T x (by omega) fun y hy => HTS.out y (by omega)
          have HSUM := hid (fun (h : x ≠ 0) => leftN_sum T h (x := x))
          have HONE : Hid (x = 0 → leftN false T (x + 1) = T x) := fun h => by subst h; rfl
          generalize leftN false T x = f0 at *
          generalize T x = gx at *
          obtain ⟨gn, gp, gq⟩ := gx
          obtain ⟨fn, fp, fq⟩ := f0
          replace hts : gp.size + gq.size + 2 ≤ 8192 := hts
          replace hls : fp.size + fq.size ≤ 50000 := hls
          clear hb8 hB7 HTX HTS
          have hgb := Box.new u2 gn gp gq
          have hlu : V0.heap.size ≤ u2.heap.size := hIx.2.2.size
          have hne18 : B18 ≠ u2.heap.size := by have := hIx.2.1.lt; omega
          have hneG : G ≠ u2.heap.size := by have := hIx.1.lt; omega
          replace hIx := hIx.step ((Below.refl _ u2).alloc (Nat.le_refl _) (FC gn gp gq))
          obtain ⟨q0, q1, q2, -⟩ := hgb.facts
          obtain ⟨r0, r1, r2, -⟩ := hIx.2.1.facts
          go_wp2_with fail
          clear q0 q1 q2 r0 r1 r2
          generalize (u2.alloc (FC gn gp gq)) = u3 at *
          generalize u2.heap.size = B20 at *
          refine (rCmpF_any gn fn gp gq fp fq _ (by omega) (by omega)).mono ?_
          rintro e u4 ⟨rfl, hb4⟩
          replace hIx := hIx.step hb4
          replace hgb := hgb.below hb4 hgb.lt
          clear hb4
          obtain ⟨q0, q1, q2, -⟩ := hgb.facts
          obtain ⟨r0, r1, r2, t0, t1, t2⟩ := hIx.2.1.facts
          have hput : ∀ (n : Bool) (p q : ByteArray), OI V0 (((u4.setCell ⟨B18, 0, none⟩ (.bool n)).setCell ⟨B18, 1, none⟩ (.string p)).setCell ⟨B18, 2, none⟩ (.string q)) G B18 sizes.length v x (asg (toN sizes) (toN rest) i) (n, p, q) := fun n p q => ⟨(Below.heap_setCell _ ⟨B18, 2, none⟩ _ G hap).trans ((Below.heap_setCell _ ⟨B18, 1, none⟩ _ G hap).trans ((Below.heap_setCell _ ⟨B18, 0, none⟩ _ G hap).trans hIx.1)), hIx.2.1.put n p q, below_put hIx.2.2 hB18 _ _ _⟩
          have HPUT := hid hput
          clear hput
          obtain ⟨cm, hcm⟩ : ∃ cm, cm = cmpQ (val gn gp gq) (val fn fp fq) := ⟨_, rfl⟩
          rw [← hcm]
          by_cases hx0 : x = 0
          · have hfN := HONE.out hx0
            have hxb : ((x : Int) == 0) = true := by simp [hx0]
            have HFN := hid hfN
            have hx1 := hid hx0
            clear hx0 hcm hfN
            go_wp2
            go_roundw
            case rel => exact ⟨x + 1, x, by omega, by go_num, by rw [HFN.out]; exact HPUT.out gn gp gq⟩
            case measure => simp [intOf]; omega
          · have hxb : ((x : Int) == 0) = false := by simp [hx0]
            have HFN := hid (HSUM.out hx0)
            clear hcm hx0
            go_wp2_with fail
            refine (rAddF_any fn gn fp fq gp gq _ (by omega) (by omega)).mono ?_
            rintro e u5 ⟨rfl, hb5⟩
            replace hIx := hIx.step hb5
            clear r0 r1 r2 t0 t1 t2 q0 q1 q2 HPUT hb5
            obtain ⟨r0, r1, r2, t0, t1, t2⟩ := hIx.2.1.facts
            rw [C_eq]
            have hsum : leftN false T (x + 1) = (sgn (val fn fp fq + val gn gp gq), nu (val fn fp fq + val gn gp gq), de (val fn fp fq + val gn gp gq)) := HFN.out
            generalize val fn fp fq + val gn gp gq = rr at *
            have hput : OI V0 (((u5.setCell ⟨B18, 0, none⟩ (.bool (sgn rr))).setCell ⟨B18, 1, none⟩ (.string (nu rr))).setCell ⟨B18, 2, none⟩ (.string (de rr))) G B18 sizes.length v x (asg (toN sizes) (toN rest) i) (sgn rr, nu rr, de rr) := ⟨(Below.heap_setCell _ ⟨B18, 2, none⟩ _ G hap).trans ((Below.heap_setCell _ ⟨B18, 1, none⟩ _ G hap).trans ((Below.heap_setCell _ ⟨B18, 0, none⟩ _ G hap).trans hIx.1)), hIx.2.1.put _ _ _, below_put hIx.2.2 hB18 _ _ _⟩
            have HPUT := hid hput
            have HSU := hid hsum
            clear hput hsum
            go_wp2
            go_roundw
            case rel => exact ⟨x + 1, x, by omega, by go_num, by rw [HSU.out]; exact HPUT⟩
            case measure => simp [intOf]; omega
        · obtain rfl : x = sz (toN sizes) v := by omega
          clear hBI
          have hls := leftN_lt false T (sz (toN sizes) v) hN1 hn4 HTS.out
          have hq := HEND.out
          generalize leftN false T (sz (toN sizes) v) = fr at *
          obtain ⟨fn, fx, fy⟩ := fr
          replace hls : fx.size + fy.size ≤ 65536 := hls
          have hbb := HI.out.2.1
          have hb9 := HI.out.2.2
          obtain ⟨k0, k1, k2, -⟩ := hbb.facts
          go_wp2_with fail
          refine (Canon_r (n := fn) (x := fx) (y := fy) (w := wr) (by omega)).mono ?_
          rintro e w10 ⟨rfl, hb10⟩
          replace hbb := hbb.below hb10 hbb.lt
          replace hb9 := hb9.trans (hb10.mono hb9.size)
          clear k0 k1 k2 hb10
          obtain ⟨k0, k1, k2, f0, f1, f2⟩ := hbb.facts
          replace hq : FL[i] = qF (val fn fx fy) := hq
          generalize qF (val fn fx fy) = q at *
          obtain ⟨qn, qx, qy⟩ := q
          have hpt := hbb.put qn qx qy
          have hb11 := below_put hb9 hB18 (.bool qn) (.string qx) (.string qy)
          clear hbb hb9
          have hst : FL.take i ++ [(qn, qx, qy)] = FL.take (i + 1) := by rw [List.take_succ_eq_append_getElem hlt, hq]
          have HST := hid hst
          have htl : (FL.take i).length ≤ 65536 := by rw [List.length_take]; omega
          clear hst hq HEND
          go_upto_region 26 with fail
          clear k0 k1 k2 f0 f1 f2
          generalize (((w10.setCell ⟨B18, 0, none⟩ (.bool qn)).setCell ⟨B18, 1, none⟩ (.string qx)).setCell ⟨B18, 2, none⟩ (.string qy)) = w11 at *
          have cy := (HX.out.step hb11).2.1.c1
          obtain ⟨p0, p1, p2, -⟩ := hpt.facts
          have hb12 := hb11.alloc hb11.size (FC qn qx qy)
          have HNB := hid (Box.new w11 qn qx qy)
          have HX12 := hid (HX.out.step hb12)
          have hbs : w3.heap.size + 1 ≤ (w11.alloc (FC qn qx qy)).heap.size := HX12.out.2.1.lt
          clear hb11 hb12 hpt
          go_wp2_with (at_builtin; refine wpList_append_fr rfl _ _ rfl (w3.heap.size + 1) _ (FL.take i) (qn, qx, qy) rfl HX12.out.2.2 _ rfl HNB.out (by omega) hbs ?_; intro v' w13 hr13 hg13; obtain ⟨d13, n13, cd13, rfl⟩ := hr13.slv; have hmid := HX12.out.mid hg13; have hm1 := hmid.c1; have hmf : w13.frozen? ⟨w3.heap.size, 1, none⟩ = false := frozen_of_row _ _ 1 _ _ hmid; have HPU := hid (HX12.out.push hr13 hg13); clear hmid hr13 hg13)
          go_roundw
          case rel => exact ⟨i + 1, _, by omega, by go_num, by rw [← HST.out]; exact HPU⟩
          case measure => simp [intOf]; omega
    · obtain rfl : i = FL.length := by omega
      have hX := HX.out
      rw [List.take_length] at hX
      obtain ⟨dy, ny, cy, rfl⟩ := hX.2.2.slv
      obtain ⟨t0, e1, e2, e3⟩ := hH.finW (by omega) HHI.out hX rfl
      obtain ⟨k0, k1, f0, f1⟩ := t0.facts
      have c0 := hX.2.1.c0
      have c1 := hX.2.1.c1
      have hlf : (FL.length : Int) = (cnt (toN sizes) (toN rest) : Int) := by rw [HFL.out]
      go_wp2
      refine bodyPost_ret (e1.result2 rfl _ rfl) rfl ?_
      exact ⟨e2, e3⟩
set_option maxRecDepth 100000 in
set_option maxHeartbeats 2000000 in
theorem rOut_most (a b c : Option Addr) (ca cb cc : Nat) (sizes vars : List Int) (l : List Fr) (v : Nat) (w : World) (hs : IntS w a sizes) (hv : IntS w b vars) (hf : FrS w c l) (hn : sizes.length ≤ 140737488355328) (hm : vars.length ≤ 140737488355328) (hk : checkA sizes vars l.length = 0) (hw : fw l ≤ 8192) (hv' : vars.contains (v : Int) = true) (hvs : v < sizes.length) :
    Calls Tryz.prog 24 #[.slice a sizes.length ca, .agg #[.slice b vars.length cb, .slice c l.length cc], .int .i64 (v : Nat), .bool true] w fun e w' => TabA (lessN vars (v : Int)) (outL (toN sizes) (toN vars) (toN (lessN vars (v : Int))) v true l) 0 e w' ∧ Below w.heap.size w w' := by
  obtain ⟨hfi, hup, hlc⟩ := checkA_parts hk
  have HCO := hid (fun V h => rIn_any (v : Int) b cb vars V h hm)
  rw [inB_iff.2 (List.contains_iff_mem.1 hv')] at HCO
  have hsv := hfi.sz_eq hvs
  have HCK := fun V h1 h2 => rCheck_any a b c ca cb cc l.length sizes vars V h1 h2 hn hm
  rw [hk] at HCK
  have HC := hid HCK
  clear HCK
  have hrl : (lessN vars (v : Int)).length ≤ vars.length := List.length_filter_le _ _
  have hv8 := hup.length
  have hl8 := hfi.eight
  have h0 : (0 : Int) ≤ (v : Int) := by omega
  have h1 : (v : Int) < (sizes.length : Int) := by omega
  have hn4 := hfi.sz_le v
  have HFI := hid hfi
  have HUP := hid hup
  have HUR := hid (lessN_up hup (v : Int))
  have HPL := hid (fun K (hK : K < cnt (toN sizes) (toN (lessN vars (v : Int)))) x (hx : x < sz (toN sizes) v) => with_lt hk hK hx)
  have HAW := hid (fun K (hK : K < cnt (toN sizes) (toN (lessN vars (v : Int)))) x (hx : x < sz (toN sizes) v) => withV_lt (fun u => asg_lt hfi.pos (toN (lessN vars (v : Int))) K u hK) hx)
  have HFL := hid (outL_length (toN sizes) (toN vars) (toN (lessN vars (v : Int))) v true l)
  have HFG := hid (fun (k : Nat) (h : k < (outL (toN sizes) (toN vars) (toN (lessN vars (v : Int))) v true l).length) => outL_get (toN sizes) (toN vars) (toN (lessN vars (v : Int))) v true l h)
  have HWO := hid (fun V h => rWithout_any b cb vars (v : Int) V h (by omega))
  have hsm : cnt (toN sizes) (toN (lessN vars (v : Int))) ≤ 65536 := cnt_small hfi.sz_le (by rw [toN_length]; omega)
  have hN1 := sz_pos hfi.pos v
  generalize outL (toN sizes) (toN vars) (toN (lessN vars (v : Int))) v true l = FL at *
  generalize lessN vars (v : Int) = rest at *
  have HF := hid hf
  have HW := hid hw
  have HSV := hid hsv
  clear hk hfi hup hlc hf hw hv' hsv
  have HS := hid hs
  have HV := hid hv
  have hH : NR w ((w.alloc (TC (.slice b vars.length cb) (.slice c l.length cc))).alloc (TC (.slice none 0 0) (.slice none 0 0))) w.heap.size (w.heap.size + 1) (.slice b vars.length cb) (.slice c l.length cc) := NH.new w _ _
  have c0 := hH.1.c0
  have c1 := hH.1.c1
  go_enter Tryz.func24, Tryz.ntmps24
  go_wp2_with fail
  generalize ((w.alloc (TC (.slice b vars.length cb) (.slice c l.length cc))).alloc (TC (.slice none 0 0) (.slice none 0 0))) = W at *
  refine (HC.out _ (HS.out.below hH.2.2) (HV.out.below hH.2.2)).mono ?_
  rintro e w1 ⟨rfl, hb1⟩
  replace hH := hH.step hb1
  clear c0 c1 hb1
  have c0 := hH.1.c0
  go_wp2_with fail
  refine (HCO.out _ (HV.out.below hH.2.2)).mono ?_
  rintro e w2 ⟨rfl, rfl⟩
  clear c0 HCO
  have c0 := hH.1.c0
  go_wp2_with fail
  refine (HWO.out _ (HV.out.below hH.2.2)).mono ?_
  rintro e w3 ⟨xv, rfl, hrw, hb2⟩
  obtain ⟨d, cd, rfl, hi⟩ := hrw.ints
  replace hH := hH.step hb2
  clear c0 hb2 hrw HWO
  have hF0 := FX.new w3 (.slice d rest.length cd)
  have c0 := hF0.2.1.c0
  go_wp2_with fail
  generalize (w3.alloc (TC (.slice d rest.length cd) (.slice none 0 0))) = w4 at *
  have hBw := hH.2.2.trans (hF0.1.mono hH.2.2.size)
  refine (rCount_in a d ca cd sizes rest _ (HS.out.below hBw) (hi.below hF0.1) HFI.out HUR.out).mono ?_
  rintro e w5 ⟨rfl, hb4⟩
  replace hF0 := hF0.step hb4
  have HF0 := hid hF0
  have HHI := hid hi
  clear hF0 hb4 c0 hBw hi
  go_wp2_with fail
  go_loopw [15] (fun iv wr => ∃ (i : Nat) (y : Value), i ≤ FL.length ∧ iv = .int .i64 i ∧ Hid (FX w3 wr (.slice d rest.length cd) y (FL.take i))) (fun iv _ => FL.length - (intOf iv).toNat)
  case atStart => exact ⟨0, _, Nat.zero_le _, rfl, HF0⟩
  case round =>
    obtain ⟨i, y, hile, rfl, HX⟩ := hrel
    clear HF0
    by_cases hlt : i < FL.length
    · have hiK : i < cnt (toN sizes) (toN rest) := by rw [← HFL.out]; exact hlt
      have hii : (i : Int) < (cnt (toN sizes) (toN rest) : Int) := by omega
      generalize wr = V0 at *
      have c0 := HX.out.2.1.c0
      have hB0 : Below w.heap.size w V0 := hH.2.2.trans (HX.out.1.mono hH.2.2.size)
      have HB0 := hid hB0
      clear hB0
      go_wp2_with fail
      refine (rWhere_in a d ca cd i sizes rest _ (HS.out.below HB0.out) (HHI.out.below HX.out.1) HFI.out HUR.out hiK).mono ?_
      rintro e w6 ⟨d5, cd5, rfl, hi5, hb5⟩
      have c0' := (HX.out.step hb5).2.1.c0
      clear c0
      go_wp2_with fail
      refine (rSpread_any a d d5 ca cd cd5 i sizes rest _ (HHI.out.below (HX.out.step hb5).1) hi5 HFI.out HUR.out).mono ?_
      rintro e w7 ⟨G, rfl, hG, hrow, hb6⟩
      have hb06 := hb5.trans (hb6.mono hb5.size)
      have hG' : V0.heap.size ≤ G := Nat.le_trans hb5.size hG
      rw [spr_self sizes.length (asg (toN sizes) (toN rest) i) v] at hrow
      have hI0 : OI V0 (w7.alloc (FC false ⟨#[]⟩ ⟨#[]⟩)) G w7.heap.size sizes.length v (asg (toN sizes) (toN rest) i v) (asg (toN sizes) (toN rest) i) frZ := ⟨(Below.heap_alloc w7 _ G hrow.lt).trans hrow, Box.new w7 _ _ _, hb06.alloc hb06.size _⟩
      have hB18 : V0.heap.size ≤ w7.heap.size := hb06.size
      clear hrow hb5 hb6 hi5 c0' hb06 hG
      have HT : Hid (∀ x, x < sz (toN sizes) v → (celF l (pos (toN sizes) (withV (asg (toN sizes) (toN rest) i) v x) (toN vars))).2.1.size + (celF l (pos (toN sizes) (withV (asg (toN sizes) (toN rest) i) v x) (toN vars))).2.2.size + 2 ≤ 8192) := fun x hx => Nat.le_trans (celF_size (HPL.out i hiK x hx)) HW.out
      obtain ⟨T, hT⟩ : ∃ T : Nat → Fr, T = fun x => celF l (pos (toN sizes) (withV (asg (toN sizes) (toN rest) i) v x) (toN vars)) := ⟨_, rfl⟩
      have hfg := HFG.out i hlt
      rw [← hT] at hfg
      have HTX : Hid (∀ x, celF l (pos (toN sizes) (withV (asg (toN sizes) (toN rest) i) v x) (toN vars)) = T x) := fun x => by rw [hT]
      have HTS : Hid (∀ x, x < sz (toN sizes) v → (T x).2.1.size + (T x).2.2.size + 2 ≤ 8192) := fun x hx => by rw [hT]; exact HT.out x hx
      have hEND : FL[i] = qF (frQ (leftN true T (sz (toN sizes) v))) := by
        rw [hfg, leftN, if_neg (by omega)]
      have HEND := hid hEND
      clear hT hfg HT hEND
      go_wp2_with fail
      generalize (w7.alloc (FC false ⟨#[]⟩ ⟨#[]⟩)) = w8 at *
      generalize w7.heap.size = B18 at *
      have HI0 := hid hI0
      clear hI0
      go_loopw [19] (fun jv wr => ∃ (x z : Nat), x ≤ sz (toN sizes) v ∧ jv = .int .i64 x ∧ Hid (OI V0 wr G B18 sizes.length v z (asg (toN sizes) (toN rest) i) (leftN true T x))) (fun jv _ => sz (toN sizes) v - (intOf jv).toNat)
      case atStart => exact ⟨0, _, Nat.zero_le _, rfl, HI0⟩
      case round =>
        obtain ⟨x, z, hxle, rfl, HI⟩ := hrel
        clear HI0
        have hBI := HB0.out.trans (HI.out.2.2.mono HB0.out.size)
        obtain ⟨g, o, rfl, hg, cs⟩ := (HS.out.below hBI) v hvs
        rw [← HSV.out] at cs
        by_cases hxl : x < sz (toN sizes) v
        · have hxi : (x : Int) < (sz (toN sizes) v : Int) := by omega
          have hrc := HI.out.1.cell v (by rw [spr_length]; exact hvs)
          have hrf := HI.out.1.fz v
          have hset := HI.out.1.set v x
          rw [spr_with] at hset
          have hap := rows_apart HI.out.1 HI.out.2.1
          have hIx : OI V0 (wr.setCell ⟨G, v, none⟩ (.int .i64 (x : Nat))) G B18 sizes.length v x (asg (toN sizes) (toN rest) i) (leftN true T x) := ⟨hset, HI.out.2.1.far (fun e => hap e.symm) _, HI.out.2.2.setCell (p := ⟨G, v, none⟩) hG' _⟩
          generalize (spr sizes.length (withV (asg (toN sizes) (toN rest) i) v z))[v]'(by rw [spr_length]; exact hvs) = zz at *
          have ht := (hH.step (HX.out.step hIx.2.2).1).1
          have ct0 := ht.c0
          have ct1 := ht.c1
          clear ht hset hBI
          go_wp2_with fail
          clear hrc hrf cs ct0 ct1
          generalize (wr.setCell ⟨G, v, none⟩ (.int .i64 (x : Nat))) = u1 at *
          have hB7 := HB0.out.trans (hIx.2.2.mono HB0.out.size)
          refine (rCell_any (some ⟨g, o, none⟩) b c (some ⟨G, 0, none⟩) ca cb cc sizes.length sizes vars l (withV (asg (toN sizes) (toN rest) i) v x) _ (HS.out.below hB7) (HV.out.below hB7) (HF.out.below hB7) (hIx.1.ints) HFI.out HUP.out (HAW.out i hiK x hxl) (HPL.out i hiK x hxl)).mono ?_
          rintro e u2 ⟨rfl, hb8⟩
          rw [HTX.out x]
          replace hIx := hIx.step hb8
          have hts := HTS.out x hxl
          have hls := leftN_size true T x (by omega) fun y hy => HTS.out y (by omega)
          have HUPP := hid (fun (h : x ≠ 0) hc => leftN_up T h hc (x := x))
          have HKEE := hid (fun (h : x ≠ 0) hc => leftN_keep T h hc (x := x))
          have HONE : Hid (x = 0 → leftN true T (x + 1) = T x) := fun h => by subst h; rfl
          generalize leftN true T x = f0 at *
          generalize T x = gx at *
          obtain ⟨gn, gp, gq⟩ := gx
          obtain ⟨fn, fp, fq⟩ := f0
          replace hts : gp.size + gq.size + 2 ≤ 8192 := hts
          replace hls : fp.size + fq.size ≤ 50000 := hls
          clear hb8 hB7 HTX HTS
          have hgb := Box.new u2 gn gp gq
          have hlu : V0.heap.size ≤ u2.heap.size := hIx.2.2.size
          have hne18 : B18 ≠ u2.heap.size := by have := hIx.2.1.lt; omega
          have hneG : G ≠ u2.heap.size := by have := hIx.1.lt; omega
          replace hIx := hIx.step ((Below.refl _ u2).alloc (Nat.le_refl _) (FC gn gp gq))
          obtain ⟨q0, q1, q2, -⟩ := hgb.facts
          obtain ⟨r0, r1, r2, -⟩ := hIx.2.1.facts
          go_wp2_with fail
          clear q0 q1 q2 r0 r1 r2
          generalize (u2.alloc (FC gn gp gq)) = u3 at *
          generalize u2.heap.size = B20 at *
          refine (rCmpF_any gn fn gp gq fp fq _ (by omega) (by omega)).mono ?_
          rintro e u4 ⟨rfl, hb4⟩
          replace hIx := hIx.step hb4
          replace hgb := hgb.below hb4 hgb.lt
          clear hb4
          obtain ⟨q0, q1, q2, -⟩ := hgb.facts
          obtain ⟨r0, r1, r2, t0, t1, t2⟩ := hIx.2.1.facts
          have hput : ∀ (n : Bool) (p q : ByteArray), OI V0 (((u4.setCell ⟨B18, 0, none⟩ (.bool n)).setCell ⟨B18, 1, none⟩ (.string p)).setCell ⟨B18, 2, none⟩ (.string q)) G B18 sizes.length v x (asg (toN sizes) (toN rest) i) (n, p, q) := fun n p q => ⟨(Below.heap_setCell _ ⟨B18, 2, none⟩ _ G hap).trans ((Below.heap_setCell _ ⟨B18, 1, none⟩ _ G hap).trans ((Below.heap_setCell _ ⟨B18, 0, none⟩ _ G hap).trans hIx.1)), hIx.2.1.put n p q, below_put hIx.2.2 hB18 _ _ _⟩
          have HPUT := hid hput
          clear hput
          obtain ⟨cm, hcm⟩ : ∃ cm, cm = cmpQ (val gn gp gq) (val fn fp fq) := ⟨_, rfl⟩
          rw [← hcm]
          by_cases hx0 : x = 0
          · have hfN := HONE.out hx0
            have hxb : ((x : Int) == 0) = true := by simp [hx0]
            have HFN := hid hfN
            have hx1 := hid hx0
            clear hx0 hcm hfN
            go_wp2
            go_roundw
            case rel => exact ⟨x + 1, x, by omega, by go_num, by rw [HFN.out]; exact HPUT.out gn gp gq⟩
            case measure => simp [intOf]; omega
          · have hxb : ((x : Int) == 0) = false := by simp [hx0]
            by_cases hc0 : 0 < cm
            · have HFN := hid (HUPP.out hx0 (by rw [hcm] at hc0; exact hc0))
              clear hcm hx0
              go_wp2
              go_roundw
              case rel => exact ⟨x + 1, x, by omega, by go_num, by rw [HFN.out]; exact HPUT.out gn gp gq⟩
              case measure => simp [intOf]; omega
            · have HFN := hid (HKEE.out hx0 (by rw [hcm] at hc0; exact Int.not_lt.1 hc0))
              have HIX := hid hIx
              have hc1 : cm ≤ 0 := by omega
              clear hcm hx0 hIx
              go_wp2
              go_roundw
              case rel => exact ⟨x + 1, x, by omega, by go_num, by rw [HFN.out]; exact HIX⟩
              case measure => simp [intOf]; omega
        · obtain rfl : x = sz (toN sizes) v := by omega
          clear hBI
          have hls := leftN_lt true T (sz (toN sizes) v) hN1 hn4 HTS.out
          have hq := HEND.out
          generalize leftN true T (sz (toN sizes) v) = fr at *
          obtain ⟨fn, fx, fy⟩ := fr
          replace hls : fx.size + fy.size ≤ 65536 := hls
          have hbb := HI.out.2.1
          have hb9 := HI.out.2.2
          obtain ⟨k0, k1, k2, -⟩ := hbb.facts
          go_wp2_with fail
          refine (Canon_r (n := fn) (x := fx) (y := fy) (w := wr) (by omega)).mono ?_
          rintro e w10 ⟨rfl, hb10⟩
          replace hbb := hbb.below hb10 hbb.lt
          replace hb9 := hb9.trans (hb10.mono hb9.size)
          clear k0 k1 k2 hb10
          obtain ⟨k0, k1, k2, f0, f1, f2⟩ := hbb.facts
          replace hq : FL[i] = qF (val fn fx fy) := hq
          generalize qF (val fn fx fy) = q at *
          obtain ⟨qn, qx, qy⟩ := q
          have hpt := hbb.put qn qx qy
          have hb11 := below_put hb9 hB18 (.bool qn) (.string qx) (.string qy)
          clear hbb hb9
          have hst : FL.take i ++ [(qn, qx, qy)] = FL.take (i + 1) := by rw [List.take_succ_eq_append_getElem hlt, hq]
          have HST := hid hst
          have htl : (FL.take i).length ≤ 65536 := by rw [List.length_take]; omega
          clear hst hq HEND
          go_upto_region 26 with fail
          clear k0 k1 k2 f0 f1 f2
          generalize (((w10.setCell ⟨B18, 0, none⟩ (.bool qn)).setCell ⟨B18, 1, none⟩ (.string qx)).setCell ⟨B18, 2, none⟩ (.string qy)) = w11 at *
          have cy := (HX.out.step hb11).2.1.c1
          obtain ⟨p0, p1, p2, -⟩ := hpt.facts
          have hb12 := hb11.alloc hb11.size (FC qn qx qy)
          have HNB := hid (Box.new w11 qn qx qy)
          have HX12 := hid (HX.out.step hb12)
          have hbs : w3.heap.size + 1 ≤ (w11.alloc (FC qn qx qy)).heap.size := HX12.out.2.1.lt
          clear hb11 hb12 hpt
          go_wp2_with (at_builtin; refine wpList_append_fr rfl _ _ rfl (w3.heap.size + 1) _ (FL.take i) (qn, qx, qy) rfl HX12.out.2.2 _ rfl HNB.out (by omega) hbs ?_; intro v' w13 hr13 hg13; obtain ⟨d13, n13, cd13, rfl⟩ := hr13.slv; have hmid := HX12.out.mid hg13; have hm1 := hmid.c1; have hmf : w13.frozen? ⟨w3.heap.size, 1, none⟩ = false := frozen_of_row _ _ 1 _ _ hmid; have HPU := hid (HX12.out.push hr13 hg13); clear hmid hr13 hg13)
          go_roundw
          case rel => exact ⟨i + 1, _, by omega, by go_num, by rw [← HST.out]; exact HPU⟩
          case measure => simp [intOf]; omega
    · obtain rfl : i = FL.length := by omega
      have hX := HX.out
      rw [List.take_length] at hX
      obtain ⟨dy, ny, cy, rfl⟩ := hX.2.2.slv
      obtain ⟨t0, e1, e2, e3⟩ := hH.finW (by omega) HHI.out hX rfl
      obtain ⟨k0, k1, f0, f1⟩ := t0.facts
      have c0 := hX.2.1.c0
      have c1 := hX.2.1.c1
      have hlf : (FL.length : Int) = (cnt (toN sizes) (toN rest) : Int) := by rw [HFL.out]
      go_wp2
      refine bodyPost_ret (e1.result2 rfl _ rfl) rfl ?_
      exact ⟨e2, e3⟩
end Go.Proofs.YtncccbdledcibaaGreatDoor

/- The document's answer: TableBest. -/
namespace Go.Proofs.YtncccbdledcibaaGreatDoor
open Go.RowKit Go.Shelf

theorem bestN_up {l : List Fr} {i : Nat} (h : 1 ≤ i) (hc : 0 < cmpQ (frQ (celF l i)) (frQ (celF l (bestN l (i - 1))))) : bestN l i = i := by
  obtain ⟨k, rfl⟩ : ∃ k, i = k + 1 := ⟨i - 1, by omega⟩
  rw [Nat.add_sub_cancel] at hc
  rw [bestN, if_pos ((cmp_turn _ _).1 hc)]
theorem bestN_keep {l : List Fr} {i : Nat} (h : 1 ≤ i) (hc : ¬ 0 < cmpQ (frQ (celF l i)) (frQ (celF l (bestN l (i - 1))))) : bestN l i = bestN l (i - 1) := by
  obtain ⟨k, rfl⟩ : ∃ k, i = k + 1 := ⟨i - 1, by omega⟩
  rw [Nat.add_sub_cancel] at hc ⊢
  rw [bestN, if_neg (fun h => hc ((cmp_turn _ _).2 h))]

end Go.Proofs.YtncccbdledcibaaGreatDoor

/- Package table: Norm's closure. -/
namespace Go.Proofs.YtncccbdledcibaaGreatDoor
open Go.RowKit Go.Shelf

end Go.Proofs.YtncccbdledcibaaGreatDoor

/- Package table: Norm. -/
namespace Go.Proofs.YtncccbdledcibaaGreatDoor
open Go.RowKit Go.Shelf

theorem normL_length (l : List Fr) : (normL l).length = l.length := by simp [normL]
theorem normL_get (l : List Fr) {k : Nat} (h : k < (normL l).length) : (normL l)[k] = qF (frQ (l[k]'(by rw [normL_length] at h; exact h)) * (1 / fsum l)) := by simp [normL]
theorem qw_inv {q : Rat} (h : q ≠ 0) : qw (1 / q) ≤ qw q + 1 := by
  have e : val (sgn q) (nu q) (de q) ≠ 0 := by rw [val_own]; exact h
  have h0 := fun h => e (val_zero_iff.2 h)
  have e1 : 1 / q = val (sgn q) (de q) (nu q) := by rw [val_inv _ _ _ (fun h => h0 (.inl h)) (fun h => h0 (.inr h)), val_own, Rat.div_def, Rat.one_mul]
  rw [e1]
  refine Nat.le_trans (qw_val _ _ _) ?_
  show (B q.den).size + (B q.num.natAbs).size + 1 ≤ qw q + 1
  rw [qw]
  omega
theorem qw_sum {l : List Fr} (h : fw l ≤ 10000) : qw (fsum l) ≤ 20002 := by have := fits_qw (fits_sum l); omega

end Go.Proofs.YtncccbdledcibaaGreatDoor

/- The document's answer: Norm. -/
namespace Go.Proofs.YtncccbdledcibaaGreatDoor
open Go.RowKit Go.Shelf

end Go.Proofs.YtncccbdledcibaaGreatDoor

/- The document's answer: Product. -/
namespace Go.Proofs.YtncccbdledcibaaGreatDoor
open Go.RowKit Go.Shelf

/-- What Product holds: two tables, its result's block. -/
def QH (w V : World) (x y z t : Value) : Prop := TBox V w.heap.size x y ∧ TBox V (w.heap.size + 1) z t ∧ TBox V (w.heap.size + 1 + 1) (.slice none 0 0) (.slice none 0 0) ∧ Below w.heap.size w V
theorem QH.step {w V V' : World} {x y z t : Value} (h : QH w V x y z t) (hb : Below V.heap.size V V') : QH w V' x y z t := ⟨h.1.below hb h.1.lt, h.2.1.below hb h.2.1.lt, h.2.2.1.below hb h.2.2.1.lt, h.2.2.2.trans (hb.mono h.2.2.2.size)⟩
theorem QH.new (w : World) (x y z t : Value) : QH w (((w.alloc (TC x y)).alloc (TC z t)).alloc (TC (.slice none 0 0) (.slice none 0 0))) x y z t := ⟨((TBox.at rfl _ _).alloc _).alloc _, (TBox.at (by simp) _ _).alloc _, TBox.at (by simp) _ _, (((Below.refl _ w).alloc (Nat.le_refl _) _).alloc (by simp) _).alloc (by simp; omega) _⟩
/-- The variables so far. -/
def bothI (a b : List Int) (i : Nat) : List Int := iL (bothN i a b)
theorem bothI_succ (a b : List Int) (i : Nat) : bothI a b (i + 1) = bothI a b i ++ if (inB (i : Int) a || inB (i : Int) b) = true then [(i : Int)] else [] := by
  rw [bothI, bothI, bothN, bothN, List.range_succ, List.filter_append, iL, iL, List.map_append]
  congr 1
  by_cases h : (inB (i : Int) a || inB (i : Int) b) = true
  · simp only [List.filter_cons, h, List.filter_nil, if_true, List.map_cons, List.map_nil]
  · simp only [List.filter_cons, h, List.filter_nil]
    rfl
theorem bothI_len (a b : List Int) (i : Nat) : (bothI a b i).length ≤ i := by
  rw [bothI, iL_length]
  exact Nat.le_trans (List.length_filter_le _ _) (by rw [List.length_range]; exact Nat.le_refl _)
theorem RwI.off {w : World} {B : Nat} {v : Value} {l : List Int} (h : RwI w B v l) (b j : Nat) (y : Value) (hb : b < B) : RwI (w.setCell ⟨b, j, none⟩ y) B v l := by
  refine ⟨h.1, h.2.imp id ?_⟩
  rintro ⟨g, cap, cur, h1, h2, h3, h4⟩
  exact ⟨g, cap, cur, h1, h2, (Below.heap_setCell w ⟨b, j, none⟩ y g (by show g ≠ b; omega)).trans h3, h4⟩
theorem RwI.below {w w' : World} {B : Nat} {v : Value} {l : List Int} (h : RwI w B v l) (hb : Below w.heap.size w w') : RwI w' B v l := by
  refine ⟨h.1, h.2.imp id ?_⟩
  rintro ⟨g, cap, cur, h1, h2, h3, h4⟩
  exact ⟨g, cap, cur, h1, h2, (hb.block g (Array.getElem?_eq_some_iff.1 h3).1).trans h3, h4⟩
theorem RwI.slv {w : World} {B : Nat} {v : Value} {l : List Int} (h : RwI w B v l) : SlV v := by
  obtain ⟨d, cd, e, _⟩ := h.ints
  exact ⟨d, _, cd, e⟩
/-- A table whose variables grow. -/
def VX (w0 V : World) (x : Value) (l : List Int) : Prop := Below w0.heap.size w0 V ∧ TBox V w0.heap.size x (.slice none 0 0) ∧ RwI V (w0.heap.size + 1) x l
theorem VX.step {w0 V V' : World} {x : Value} {l : List Int} (h : VX w0 V x l) (hb : Below V.heap.size V V') : VX w0 V' x l := ⟨h.1.trans (hb.mono h.1.size), h.2.1.below hb h.2.1.lt, h.2.2.below hb⟩
theorem VX.push {w0 V V' : World} {x x' : Value} {l l' : List Int} (h : VX w0 V x l) (hr : RwI V' (w0.heap.size + 1) x' l') (hg : V.grownBy V' x.ownBlock) : VX w0 (V'.setCell ⟨w0.heap.size, 0, none⟩ x') x' l' := by
  have hs : w0.heap.size + 1 ≤ V.heap.size := h.2.1.lt
  have hb : Below (w0.heap.size + 1) V V' := (Below.refl _ V).grown hg hs h.2.2.own
  have ht := h.2.1.below hb (by omega)
  refine ⟨(h.1.trans (hb.mono (by omega))).setCell (p := ⟨w0.heap.size, 0, none⟩) (Nat.le_refl _) _, heap_setCell_same _ _ 0 _ _ _ ht, hr.off _ 0 _ (by omega)⟩
theorem VX.mid {w0 V V' : World} {x : Value} {l : List Int} (h : VX w0 V x l) (hg : V.grownBy V' x.ownBlock) : TBox V' w0.heap.size x (.slice none 0 0) := by
  have hs : w0.heap.size + 1 ≤ V.heap.size := h.2.1.lt
  exact h.2.1.below ((Below.refl _ V).grown hg hs h.2.2.own) (by omega)
/-- A table whose variables lie behind it, and whose cells grow behind these. -/
def PX (w0 w1 V : World) (x y : Value) (L : List Fr) : Prop := Below w0.heap.size w0 V ∧ TBox V w0.heap.size x y ∧ RwF V w1.heap.size y L ∧ (∀ k, w0.heap.size < k → k < w1.heap.size → V.heap[k]? = w1.heap[k]?) ∧ w1.heap.size ≤ V.heap.size
theorem PX.step {w0 w1 V V' : World} {x y : Value} {L : List Fr} (h : PX w0 w1 V x y L) (hb : Below V.heap.size V V') : PX w0 w1 V' x y L := ⟨h.1.trans (hb.mono h.1.size), h.2.1.below hb h.2.1.lt, h.2.2.1.below hb, fun k h1 h2 => (hb.block k (by have := h.2.2.2.2; omega)).trans (h.2.2.2.1 k h1 h2), Nat.le_trans h.2.2.2.2 hb.size⟩
theorem PX.push {w0 w1 V V' : World} {x y y' : Value} {L L' : List Fr} (h : PX w0 w1 V x y L) (h01 : w0.heap.size < w1.heap.size) (hr : RwF V' w1.heap.size y' L') (hg : V.grownBy V' y.ownBlock) : PX w0 w1 (V'.setCell ⟨w0.heap.size, 1, none⟩ y') x y' L' := by
  have hb : Below w1.heap.size V V' := (Below.refl _ V).grown hg h.2.2.2.2 h.2.2.1.own
  have ht := h.2.1.below hb h01
  refine ⟨(h.1.trans (hb.mono (by omega))).setCell (p := ⟨w0.heap.size, 1, none⟩) (Nat.le_refl _) _, heap_setCell_same _ _ 1 _ _ _ ht, hr.off _ 1 _ h01, fun k h1 h2 => ?_, ?_⟩
  · rw [Below.heap_setCell V' ⟨w0.heap.size, 1, none⟩ y' k (by show k ≠ w0.heap.size; omega), hb.block k h2]
    exact h.2.2.2.1 k h1 h2
  · exact Nat.le_trans (Nat.le_trans h.2.2.2.2 hb.size) (KeepsOthers.setCell V' _ _).size
theorem PX.mid {w0 w1 V V' : World} {x y : Value} {L : List Fr} (h : PX w0 w1 V x y L) (h01 : w0.heap.size < w1.heap.size) (hg : V.grownBy V' y.ownBlock) : TBox V' w0.heap.size x y := h.2.1.below ((Below.refl _ V).grown hg h.2.2.2.2 h.2.2.1.own) h01
theorem PX.vars {w0 w1 V : World} {x y : Value} {L : List Fr} {d : Option Addr} {cd : Nat} {U : List Int} (h : PX w0 w1 V x y L) (hr : RwI w1 (w0.heap.size + 1) (.slice d U.length cd) U) : RwI V (w0.heap.size + 1) (.slice d U.length cd) U := by
  refine ⟨hr.1, hr.2.imp id ?_⟩
  rintro ⟨g, cap, cur, h1, h2, h3, h4⟩
  exact ⟨g, cap, cur, h1, h2, (h.2.2.2.1 g (by omega) (Array.getElem?_eq_some_iff.1 h3).1).trans h3, h4⟩
theorem RwI.intS {w : World} {B : Nat} {d : Option Addr} {cd : Nat} {U : List Int} (h : RwI w B (.slice d U.length cd) U) : IntS w d U := by
  obtain ⟨d', cd', e, hi⟩ := h.ints
  cases e
  exact hi

end Go.Proofs.YtncccbdledcibaaGreatDoor

/- The law's raw numbers: Pick, sizesOf, All, Some, Less. -/
namespace Go.Proofs.YtncccbdledcibaaGreatDoor
open Go.RowKit Go.Shelf

/-- A number below n, of any number. -/
def pickN (c : Int) (n : Nat) : Nat := (if c < 0 then (-(c + 1)).toNat else c.toNat) % n
theorem pickN_lt (c : Int) {n : Nat} (h : 1 ≤ n) : pickN c n < n := Nat.mod_lt _ h

set_option maxRecDepth 100000 in
set_option maxHeartbeats 1000000 in
theorem rPick_any (c : Int) (n : Nat) (w : World) (h1 : -9223372036854775808 ≤ c) (h2 : c ≤ 9223372036854775807) (hn : 1 ≤ n) (hn' : n ≤ 1000) :
    Calls Tryz.prog 48 #[.int .i64 c, .int .i64 (n : Nat)] w fun e w' => e = .returned (.int .i64 (pickN c n : Nat)) ∧ Below w.heap.size w w' := by
  have HP : Hid (pickN c n = (if c < 0 then (-(c + 1)).toNat else c.toNat) % n) := rfl
  have hlt := pickN_lt c hn
  generalize pickN c n = P at *
  by_cases hc : c < 0
  · rw [if_pos hc] at HP
    obtain ⟨d, hd⟩ : ∃ d : Nat, c = -((d : Int) + 1) := ⟨(-(c + 1)).toNat, by omega⟩
    subst hd
    have HE : Hid ((d : Int) % (n : Int) = (P : Int)) := by
      show _ = _
      rw [HP.out, show (-(-((d : Int) + 1) + 1)).toNat = d by omega, Int.natCast_emod]
    have hw : IntKind.i64.wrap (-((d : Int) + 1) + 1) = -(d : Int) := by rw [IntKind.wrap_i64]; omega
    have hw2 : IntKind.i64.wrap (- -(d : Int)) = (d : Int) := by rw [IntKind.wrap_i64]; omega
    go_enter Tryz.func48, Tryz.ntmps48
    go_wp2
    go_ret
    exact ⟨by rw [HE.out]; rfl, Below.refl _ _⟩
  · rw [if_neg hc] at HP
    obtain ⟨d, rfl⟩ : ∃ d : Nat, c = d := ⟨c.toNat, by omega⟩
    have HE : Hid ((d : Int) % (n : Int) = (P : Int)) := by
      show _ = _
      rw [HP.out, Int.toNat_natCast, Int.natCast_emod]
    go_enter Tryz.func48, Tryz.ntmps48
    go_wp2
    go_ret
    exact ⟨by rw [HE.out]; rfl, Below.refl _ _⟩

/-- Sizes so far. -/
def Each3 (L : List Int) : Prop := ∀ i (h : i < L.length), 1 ≤ L[i] ∧ L[i] ≤ 3
theorem Each3.snoc {L : List Int} {x : Int} (h : Each3 L) (h1 : 1 ≤ x) (h2 : x ≤ 3) : Each3 (L ++ [x]) := by
  intro i hi
  rw [List.getElem_append]
  by_cases e : i < L.length
  · rw [dif_pos e]; exact h i e
  · rw [dif_neg e, List.getElem_singleton]; exact ⟨h1, h2⟩
theorem Each3.sz {L : List Int} (h : Each3 L) (h1 : 3 ≤ L.length) (h2 : L.length ≤ 5) : Sz3 L := ⟨⟨by omega, by omega, fun i hi => ⟨(h i hi).1, by have := (h i hi).2; omega⟩⟩, fun i hi => (h i hi).2, h1, h2⟩
theorem new_int (w : World) (u : Int) : IntS (w.alloc (.cells #[.int .i64 u] 3)) (some ⟨w.heap.size, 0, none⟩) [u] := fun k hk => by
  obtain rfl : k = 0 := by simp at hk; omega
  exact ⟨w.heap.size, 0, rfl, by simp, (Boxed.new w _ _).cell⟩

set_option maxRecDepth 100000 in
set_option maxHeartbeats 1000000 in
theorem rAll_any (a : Option Addr) (ca n : Nat) (w : World) (hn : n ≤ 1000) :
    Calls Tryz.prog 19 #[.slice a n ca] w fun e w' => ∃ x, e = .returned x ∧ RwI w' w.heap.size x (iL (List.range n)) ∧ Below w.heap.size w w' := by
  obtain ⟨i0, hi0, hz0, hz1, hz2⟩ := info_parts Tryz.infoInt
  have HT := hid (fun i : Nat => show iL (List.range (i + 1)) = iL (List.range i) ++ [(i : Int)] by rw [List.range_succ, iL, iL, List.map_append]; rfl)
  have HLE := hid (fun i : Nat => show (iL (List.range i)).length = i by simp [iL])
  have hnil : iL (List.range 0) = [] := rfl
  generalize hg : (fun i : Nat => iL (List.range i)) = F at *
  have hF : ∀ i : Nat, iL (List.range i) = F i := fun i => by rw [← hg]
  simp only [hF] at HT HLE hnil ⊢
  clear hg hF
  go_enter Tryz.func19, Tryz.ntmps19
  go_wp2_with fail
  go_loopw [3, 4] (fun xv iv wr => ∃ i : Nat, i ≤ n ∧ iv = .int .i64 i ∧ Hid (RwI wr w.heap.size xv (F i)) ∧ Hid (Below w.heap.size w wr)) (fun _ iv _ => n - (intOf iv).toNat)
  case atStart => exact ⟨0, Nat.zero_le _, rfl, by rw [hnil]; exact ⟨rfl, .inl ⟨rfl, rfl⟩⟩, Below.refl _ _⟩
  case round =>
    obtain ⟨i, hi, rfl, HR, HB⟩ := hrel
    by_cases hlt : i < n
    · have HLI := hid (HLE.out i)
      have HOWN := hid HR.out.own
      have HRA : Hid (RwI (wr.alloc (.cells #[.int .i64 (i : Nat)] 3)) w.heap.size _ (F i)) := World.ownsRow.alloc HR.out _
      have HBA := hid (HB.out.alloc HB.out.size (.cells #[.int .i64 (i : Nat)] 3))
      have HIA := hid (new_int wr (i : Nat))
      go_wp2_with (at_builtin; refine wpList_append_ints rfl _ _ rfl w.heap.size _ (F i) [((i : Nat) : Int)] rfl HRA.out (some ⟨wr.heap.size, 0, none⟩) 1 rfl HIA.out (fun e => by cases e) (by rw [HLI.out]; simp; omega) HBA.out.size ?_; intro v' w3 hr3 hg3)
      have HR3 := hid hr3
      have HB3 := hid (HBA.out.grown hg3 HBA.out.size HOWN.out)
      clear hr3 hg3
      go_roundw
      case rel => exact ⟨i + 1, by omega, by go_num, by rw [HT.out]; exact HR3, HB3⟩
      case measure => simp [intOf]; omega
    · obtain rfl : i = n := by omega
      go_wp2
      go_ret
      exact ⟨_, rfl, HR.out, HB.out⟩
end Go.Proofs.YtncccbdledcibaaGreatDoor

/- Package table: Best. -/
namespace Go.Proofs.YtncccbdledcibaaGreatDoor
open Go.RowKit Go.Shelf

end Go.Proofs.YtncccbdledcibaaGreatDoor

/- The law's comparison of two answers beside errors. -/
namespace Go.Proofs.YtncccbdledcibaaGreatDoor
open Go.RowKit

set_option maxRecDepth 100000 in
set_option maxHeartbeats 1000000 in
theorem lawNought_any (w : World) :
    Calls Tryz.prog 47 #[.agg #[.bool false, .string ⟨#[]⟩, .string ⟨#[]⟩]] w fun e w' => e = .returned (.bool true) ∧ Below w.heap.size w w' := by
  go_enter Tryz.func47, Tryz.ntmps47
  have hB0 : Below w.heap.size w (w.alloc (FC false ⟨#[]⟩ ⟨#[]⟩)) := (Below.refl _ w).alloc (Nat.le_refl _) _
  go_wp2_with fail
  go_quiet (fail)
  go_wp2
  go_ret
  exact ⟨rfl, below_drewN hB0 _⟩

set_option maxRecDepth 100000 in
set_option maxHeartbeats 1000000 in
theorem oneFrac_ok (n : Bool) (x y : ByteArray) (w : World) :
    Calls Tryz.prog 16 #[.agg #[.bool n, .string x, .string y], .int .i64 0, .agg #[.bool n, .string x, .string y], .int .i64 0] w fun e w' => e = .returned (.bool true) ∧ Below w.heap.size w w' := by
  go_enter Tryz.func16, Tryz.ntmps16
  have hB0 : Below w.heap.size w ((w.alloc (FC n x y)).alloc (FC n x y)) := ((Below.refl _ w).alloc (Nat.le_refl _) _).alloc (by simp) _
  go_wp2
  go_ret
  exact ⟨rfl, hB0⟩

set_option maxRecDepth 100000 in
set_option maxHeartbeats 1000000 in
theorem oneFrac_err (k : Int) (hk : ¬ k = 0) (w : World) :
    Calls Tryz.prog 16 #[.agg #[.bool false, .string ⟨#[]⟩, .string ⟨#[]⟩], .int .i64 k, .agg #[.bool false, .string ⟨#[]⟩, .string ⟨#[]⟩], .int .i64 k] w fun e w' => e = .returned (.bool true) ∧ Below w.heap.size w w' := by
  have hkb : (k == 0) = false := beq_eq_false_iff_ne.2 hk
  go_enter Tryz.func16, Tryz.ntmps16
  have hB0 : Below w.heap.size w ((w.alloc (FC false ⟨#[]⟩ ⟨#[]⟩)).alloc (FC false ⟨#[]⟩ ⟨#[]⟩)) := ((Below.refl _ w).alloc (Nat.le_refl _) _).alloc (by simp) _
  go_wp2_with fail
  refine (lawNought_any _).mono ?_
  rintro e w1 ⟨rfl, hb1⟩
  have hB1 := hB0.trans (hb1.mono hB0.size)
  go_wp2
  go_ret
  exact ⟨rfl, hB1⟩
end Go.Proofs.YtncccbdledcibaaGreatDoor
