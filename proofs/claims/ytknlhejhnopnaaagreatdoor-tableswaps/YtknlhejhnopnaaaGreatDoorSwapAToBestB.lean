/- The law's raw numbers: Pick, sizesOf, All, Some, Less. -/
import Derived.Test.YtknlhejhnopnaaaGreatDoorSwapTOwn
import Derived.Test.YtknlhejhnopnaaaGreatDoorRtHOwn
import Derived.Test.YtknlhejhnopnaaaGreatDoorTabR1ToTabN
import Derived.Test.YtknlhejhnopnaaaGreatDoorBytesAToTabT
import Derived.Test.YtknlhejhnopnaaaGreatDoorStandDOwn
import Derived.Laws.EntriesVeiled
namespace Go.Proofs.YtknlhejhnopnaaaGreatDoor
open Go.RowKit Go.Shelf

/-- A number below n, of any number. -/
def pickN (c : Int) (n : Nat) : Nat := (if c < 0 then (-(c + 1)).toNat else c.toNat) % n
theorem pickN_lt (c : Int) {n : Nat} (h : 1 ≤ n) : pickN c n < n := Nat.mod_lt _ h

set_option maxRecDepth 100000 in
set_option maxHeartbeats 1000000 in
theorem rPick_any (c : Int) (n : Nat) (w : World) (h1 : -9223372036854775808 ≤ c) (h2 : c ≤ 9223372036854775807) (hn : 1 ≤ n) (hn' : n ≤ 1000) :
    Calls Tryz.prog 30 #[.int .i64 c, .int .i64 (n : Nat)] w fun e w' => e = .returned (.int .i64 (pickN c n : Nat)) ∧ Below w.heap.size w w' := by
  have HP : Hid (pickN c n = (if c < 0 then (-(c + 1)).toNat else c.toNat) % n) := rfl
  have hlt := pickN_lt c hn
  generalize pickN c n = P at *
  by_cases hc : c < 0
  · rw [if_pos hc] at HP
    obtain ⟨d, hd⟩ : ∃ d : Nat, c = -((d : Int) + 1) := ⟨(-(c + 1)).toNat, by omega⟩
    subst hd
    have HE : Hid ((d : Int) % (n : Int) = (P : Int)) := by
      show _ = _
      rw [HP.out, show (-(-((d : Int) + 1) + 1)).toNat = d by omega, Int.natCast_emod]
    have hw : IntKind.i64.wrap (-((d : Int) + 1) + 1) = -(d : Int) := by rw [IntKind.wrap_i64]; omega
    have hw2 : IntKind.i64.wrap (- -(d : Int)) = (d : Int) := by rw [IntKind.wrap_i64]; omega
    go_enter Tryz.func30, Tryz.ntmps30
    go_wp2
    go_ret
    exact ⟨by rw [HE.out]; rfl, Below.refl _ _⟩
  · rw [if_neg hc] at HP
    obtain ⟨d, rfl⟩ : ∃ d : Nat, c = d := ⟨c.toNat, by omega⟩
    have HE : Hid ((d : Int) % (n : Int) = (P : Int)) := by
      show _ = _
      rw [HP.out, Int.toNat_natCast, Int.natCast_emod]
    go_enter Tryz.func30, Tryz.ntmps30
    go_wp2
    go_ret
    exact ⟨by rw [HE.out]; rfl, Below.refl _ _⟩

/-- Sizes so far. -/
def Each3 (L : List Int) : Prop := ∀ i (h : i < L.length), 1 ≤ L[i] ∧ L[i] ≤ 3
theorem Each3.snoc {L : List Int} {x : Int} (h : Each3 L) (h1 : 1 ≤ x) (h2 : x ≤ 3) : Each3 (L ++ [x]) := by
  intro i hi
  rw [List.getElem_append]
  by_cases e : i < L.length
  · rw [dif_pos e]; exact h i e
  · rw [dif_neg e, List.getElem_singleton]; exact ⟨h1, h2⟩
theorem Each3.sz {L : List Int} (h : Each3 L) (h1 : 3 ≤ L.length) (h2 : L.length ≤ 5) : Sz3 L := ⟨⟨by omega, by omega, fun i hi => ⟨(h i hi).1, by have := (h i hi).2; omega⟩⟩, fun i hi => (h i hi).2, h1, h2⟩
theorem new_int (w : World) (u : Int) : IntS (w.alloc (.cells #[.int .i64 u] 3)) (some ⟨w.heap.size, 0, none⟩) [u] := fun k hk => by
  obtain rfl : k = 0 := by simp at hk; omega
  exact ⟨w.heap.size, 0, rfl, by simp, (Boxed.new w _ _).cell⟩

set_option maxRecDepth 100000 in
set_option maxHeartbeats 1000000 in
theorem sizesOf_any (a : Option Addr) (ca : Nat) (raw : List Int) (w : World) (hv : IntS w a raw) (hr : ∀ x ∈ raw, -9223372036854775808 ≤ x ∧ x ≤ 9223372036854775807) (hn : raw.length ≤ 512) :
    Calls Tryz.prog 29 #[.slice a raw.length ca] w fun e w' => ∃ x L, e = .returned x ∧ RwI w' w.heap.size x L ∧ Sz3 L ∧ Below w.heap.size w w' := by
  obtain ⟨i0, hi0, hz0, hz1, hz2⟩ := info_parts Tryz.infoInt
  have HV := hid hv
  have HR := hid hr
  have HP := hid (fun V : World => rPick_any (raw.length : Int) 3 V (by omega) (by omega) (by omega) (by omega))
  have hp := pickN_lt (raw.length : Int) (n := 3) (by omega)
  generalize pickN (raw.length : Int) 3 = P at *
  clear hv hr
  go_enter Tryz.func29, Tryz.ntmps29
  go_wp2_with fail
  go_loopw [3, 4] (fun xv iv wr => ∃ (i : Nat) (L : List Int), i ≤ 3 + P ∧ iv = .int .i64 i ∧ Hid (L.length = i ∧ Each3 L) ∧ Hid (RwI wr w.heap.size xv L) ∧ Hid (Below w.heap.size w wr)) (fun _ iv _ => 3 + P - (intOf iv).toNat)
  case atStart => exact ⟨0, [], Nat.zero_le _, rfl, ⟨rfl, fun i hi => by cases hi⟩, ⟨rfl, .inl ⟨rfl, rfl⟩⟩, Below.refl _ _⟩
  case round =>
    obtain ⟨i, L, hi, rfl, HL, HI, HB⟩ := hrel
    go_wp2_with fail
    refine (HP.out _).mono ?_
    rintro e w1 ⟨rfl, hb1⟩
    have HI1 := hid (HI.out.below hb1)
    have HB1 := hid (HB.out.trans (hb1.mono HB.out.size))
    clear HI HB hb1
    have hLn := HL.out.1
    by_cases hlt : i < 3 + P
    · by_cases hlr : i < raw.length
      · obtain ⟨g, o, rfl, hg, c0⟩ := (HV.out.below HB1.out) i hlr
        have hrr := HR.out raw[i] (List.getElem_mem hlr)
        generalize raw[i] = u at *
        have HPU := hid (fun V : World => rPick_any u 3 V hrr.1 hrr.2 (by omega) (by omega))
        have hpu := pickN_lt u (n := 3) (by omega)
        generalize pickN u 3 = z at *
        clear hrr
        go_wp2_with fail
        refine (HPU.out _).mono ?_
        rintro e w2 ⟨rfl, hb2⟩
        have HI2 := hid (HI1.out.below hb2)
        have HB2 := hid (HB1.out.trans (hb2.mono HB1.out.size))
        clear HI1 HB1 hb2 c0
        have hw1 : IntKind.i64.wrap (1 + (z : Int)) = ((1 + z : Nat) : Int) := by rw [IntKind.wrap_i64]; omega
        have HOWN := hid HI2.out.own
        have HRA : Hid (RwI (w2.alloc (.cells #[.int .i64 ((1 + z : Nat) : Int)] 3)) w.heap.size _ L) := World.ownsRow.alloc HI2.out _
        have HBA := hid (HB2.out.alloc HB2.out.size (.cells #[.int .i64 ((1 + z : Nat) : Int)] 3))
        have HIA := hid (new_int w2 ((1 + z : Nat) : Int))
        generalize hz : 1 + z = y at *
        go_wp2_with (at_builtin; refine wpList_append_ints rfl _ _ rfl w.heap.size _ L [((y : Nat) : Int)] rfl HRA.out (some ⟨w2.heap.size, 0, none⟩) 1 rfl HIA.out (fun e => by cases e) (by simp; omega) HBA.out.size ?_; intro v' w3 hr3 hg3)
        have HR3 := hid hr3
        have HB3 := hid (HBA.out.grown hg3 HBA.out.size HOWN.out)
        clear hr3 hg3
        go_roundw
        case rel => exact ⟨i + 1, _, by omega, by go_num, ⟨by rw [List.length_append, HL.out.1]; rfl, HL.out.2.snoc (by omega) (by omega)⟩, HR3, HB3⟩
        case measure => simp [intOf]; omega
      · have HOWN := hid HI1.out.own
        have HRA : Hid (RwI (w1.alloc (.cells #[.int .i64 2] 3)) w.heap.size _ L) := World.ownsRow.alloc HI1.out _
        have HBA := hid (HB1.out.alloc HB1.out.size (.cells #[.int .i64 2] 3))
        have HIA := hid (new_int w1 2)
        go_wp2_with (at_builtin; refine wpList_append_ints rfl _ _ rfl w.heap.size _ L [2] rfl HRA.out (some ⟨w1.heap.size, 0, none⟩) 1 rfl HIA.out (fun e => by cases e) (by simp; omega) HBA.out.size ?_; intro v' w3 hr3 hg3)
        have HR3 := hid hr3
        have HB3 := hid (HBA.out.grown hg3 HBA.out.size HOWN.out)
        clear hr3 hg3
        go_roundw
        case rel => exact ⟨i + 1, _, by omega, by go_num, ⟨by rw [List.length_append, HL.out.1]; rfl, HL.out.2.snoc (by omega) (by omega)⟩, HR3, HB3⟩
        case measure => simp [intOf]; omega
    · obtain rfl : i = 3 + P := by omega
      go_wp2
      go_ret
      exact ⟨_, L, rfl, HI1.out, HL.out.2.sz (by rw [HL.out.1]; omega) (by rw [HL.out.1]; omega), HB1.out⟩

set_option maxRecDepth 100000 in
set_option maxHeartbeats 1000000 in
theorem rAll_any (a : Option Addr) (ca n : Nat) (w : World) (hn : n ≤ 1000) :
    Calls Tryz.prog 32 #[.slice a n ca] w fun e w' => ∃ x, e = .returned x ∧ RwI w' w.heap.size x (iL (List.range n)) ∧ Below w.heap.size w w' := by
  obtain ⟨i0, hi0, hz0, hz1, hz2⟩ := info_parts Tryz.infoInt
  have HT := hid (fun i : Nat => show iL (List.range (i + 1)) = iL (List.range i) ++ [(i : Int)] by rw [List.range_succ, iL, iL, List.map_append]; rfl)
  have HLE := hid (fun i : Nat => show (iL (List.range i)).length = i by simp [iL])
  have hnil : iL (List.range 0) = [] := rfl
  generalize hg : (fun i : Nat => iL (List.range i)) = F at *
  have hF : ∀ i : Nat, iL (List.range i) = F i := fun i => by rw [← hg]
  simp only [hF] at HT HLE hnil ⊢
  clear hg hF
  go_enter Tryz.func32, Tryz.ntmps32
  go_wp2_with fail
  go_loopw [3, 4] (fun xv iv wr => ∃ i : Nat, i ≤ n ∧ iv = .int .i64 i ∧ Hid (RwI wr w.heap.size xv (F i)) ∧ Hid (Below w.heap.size w wr)) (fun _ iv _ => n - (intOf iv).toNat)
  case atStart => exact ⟨0, Nat.zero_le _, rfl, by rw [hnil]; exact ⟨rfl, .inl ⟨rfl, rfl⟩⟩, Below.refl _ _⟩
  case round =>
    obtain ⟨i, hi, rfl, HR, HB⟩ := hrel
    by_cases hlt : i < n
    · have HLI := hid (HLE.out i)
      have HOWN := hid HR.out.own
      have HRA : Hid (RwI (wr.alloc (.cells #[.int .i64 (i : Nat)] 3)) w.heap.size _ (F i)) := World.ownsRow.alloc HR.out _
      have HBA := hid (HB.out.alloc HB.out.size (.cells #[.int .i64 (i : Nat)] 3))
      have HIA := hid (new_int wr (i : Nat))
      go_wp2_with (at_builtin; refine wpList_append_ints rfl _ _ rfl w.heap.size _ (F i) [((i : Nat) : Int)] rfl HRA.out (some ⟨wr.heap.size, 0, none⟩) 1 rfl HIA.out (fun e => by cases e) (by rw [HLI.out]; simp; omega) HBA.out.size ?_; intro v' w3 hr3 hg3)
      have HR3 := hid hr3
      have HB3 := hid (HBA.out.grown hg3 HBA.out.size HOWN.out)
      clear hr3 hg3
      go_roundw
      case rel => exact ⟨i + 1, by omega, by go_num, by rw [HT.out]; exact HR3, HB3⟩
      case measure => simp [intOf]; omega
    · obtain rfl : i = n := by omega
      go_wp2
      go_ret
      exact ⟨_, rfl, HR.out, HB.out⟩
end Go.Proofs.YtknlhejhnopnaaaGreatDoor

/- Package table: Best. -/
namespace Go.Proofs.YtknlhejhnopnaaaGreatDoor
open Go.RowKit Go.Shelf

set_option maxRecDepth 100000 in
set_option maxHeartbeats 400000 in
theorem tBest_no (a b c : Option Addr) (ca cb cc m : Nat) (sizes vars : List Int) (w : World) (hs : IntS w a sizes) (hv : IntS w b vars) (hn : sizes.length ≤ 140737488355328) (hm : vars.length ≤ 140737488355328) (hk : checkA sizes vars m ≠ 0) :
    Calls Tryz.prog 26 #[.slice a sizes.length ca, .agg #[.slice b vars.length cb, .slice c m cc]] w fun e w' => e = .returned (.tuple #[.slice none 0 0, .agg #[.bool false, .string ⟨#[]⟩, .string ⟨#[]⟩], .int .i64 (checkA sizes vars m)]) ∧ Below w.heap.size w w' := by
  have HS := hid hs
  have HV := hid hv
  have HC := hid (fun V h1 h2 => tCheck_any a b c ca cb cc m sizes vars V h1 h2 hn hm)
  generalize checkA sizes vars m = r at *
  clear hs hv hn hm
  have hH : BH w ((w.alloc (TC (.slice b vars.length cb) (.slice c m cc))).alloc (FC false ⟨#[]⟩ ⟨#[]⟩)) (.slice b vars.length cb) (.slice c m cc) := ⟨(TBox.at (w := w) rfl _ _).alloc _, Box.at (w := w.alloc (TC (.slice b vars.length cb) (.slice c m cc))) (by simp) _ _ _, ((Below.refl _ w).alloc (Nat.le_refl _) _).alloc (by simp) _⟩
  have c0 := hH.1.c0
  have c1 := hH.1.c1
  go_enter Tryz.func26, Tryz.ntmps26
  go_wp2_with fail
  generalize ((w.alloc (TC (.slice b vars.length cb) (.slice c m cc))).alloc (FC false ⟨#[]⟩ ⟨#[]⟩)) = W at *
  refine (HC.out _ (HS.out.below hH.2.2) (HV.out.below hH.2.2)).mono ?_
  rintro e w1 ⟨rfl, hb1⟩
  replace hH := hH.step hb1
  obtain ⟨k0, k1, k2, f0, f1, f2⟩ := hH.2.1.facts
  clear c0 c1 hb1
  have hrb : (r == 0) = false := by simp [hk]
  go_wp2
  refine bodyPost_ret (results_tmp_cell_tmp (hH.2.1.put _ _ _) rfl _ rfl) rfl ?_
  exact ⟨rfl, below_put hH.2.2 (by omega) _ _ _⟩

set_option maxRecDepth 100000 in
set_option maxHeartbeats 400000 in
theorem tBest_yes (a b c : Option Addr) (ca cb cc : Nat) (sizes vars : List Int) (l : List Fr) (w : World) (hs : IntS w a sizes) (hv : IntS w b vars) (hf : FrS w c l) (hn : sizes.length ≤ 140737488355328) (hm : vars.length ≤ 140737488355328) (hk : checkA sizes vars l.length = 0) (hw : fw l ≤ 10000) :
    Calls Tryz.prog 26 #[.slice a sizes.length ca, .agg #[.slice b vars.length cb, .slice c l.length cc]] w fun e w' => ∃ (d : Option Addr) (cd : Nat), e = .returned (.tuple #[.slice d (digs (toN sizes) (toN vars) (bestN l (l.length - 1))).length cd, frV (qF (frQ (celF l (bestN l (l.length - 1))))), .int .i64 0]) ∧ IntS w' d (iL (digs (toN sizes) (toN vars) (bestN l (l.length - 1)))) ∧ Below w.heap.size w w' := by
  obtain ⟨hfi, hup, hlc⟩ := checkA_parts hk
  have hl1 := checkA_pos hk
  have hll : l.length ≤ 10000 := by have := fw_sw l; omega
  have hbl := bestN_le l (l.length - 1)
  have HCK := fun V h1 h2 => tCheck_any a b c ca cb cc l.length sizes vars V h1 h2 hn hm
  rw [hk] at HCK
  have HCK := hid HCK
  have HJ := hid (fun V B h1 h2 h3 => bestJoin_any c cc l V B h1 h2 h3 hl1 hw)
  have HA := hid (fun V h1 h2 => assignment_any a b ca cb sizes vars (bestN l (l.length - 1)) V h1 h2 hfi hup (by omega))
  have hK : bestN l (l.length - 1) < l.length := by omega
  have hsz := celF_size hK
  obtain ⟨g, o, rfl, hg, a0, a1, a2⟩ := hf _ hK
  rw [← celF_eq hK] at a0 a1 a2
  have HC := hid (fun V : World => Canon_q (w := V) (frQ (celF l (bestN l (l.length - 1)))) rfl (show (celF l (bestN l (l.length - 1))).2.1.size + (celF l (bestN l (l.length - 1))).2.2.size ≤ 100000 by omega))
  rw [frV_qF]
  generalize frQ (celF l (bestN l (l.length - 1))) = r at *
  generalize celF l (bestN l (l.length - 1)) = f at *
  generalize bestN l (l.length - 1) = K at *
  generalize digs (toN sizes) (toN vars) K = ds at *
  obtain ⟨fn, fx, fy⟩ := f
  simp only at a0 a1 a2 HC
  have HS := hid hs
  have HV := hid hv
  have HF := hid hf
  clear hs hv hn hm hf hk hup hfi hlc hsz hw
  have hH : BH w ((w.alloc (TC (.slice b vars.length cb) (.slice (some ⟨g, o, none⟩) l.length cc))).alloc (FC false ⟨#[]⟩ ⟨#[]⟩)) (.slice b vars.length cb) (.slice (some ⟨g, o, none⟩) l.length cc) := ⟨(TBox.at (w := w) rfl _ _).alloc _, Box.at (w := w.alloc (TC (.slice b vars.length cb) (.slice (some ⟨g, o, none⟩) l.length cc))) (by simp) _ _ _, ((Below.refl _ w).alloc (Nat.le_refl _) _).alloc (by simp) _⟩
  have c0 := hH.1.c0
  have c1 := hH.1.c1
  go_enter Tryz.func26, Tryz.ntmps26
  go_wp2_with fail
  generalize ((w.alloc (TC (.slice b vars.length cb) (.slice (some ⟨g, o, none⟩) l.length cc))).alloc (FC false ⟨#[]⟩ ⟨#[]⟩)) = W at *
  refine (HCK.out _ (HS.out.below hH.2.2) (HV.out.below hH.2.2)).mono ?_
  rintro e w1 ⟨rfl, hb1⟩
  replace hH := hH.step hb1
  clear c0 c1 hb1
  have H0 := hH.drew
  go_upto_region 4 with fail
  go_region_held3 (fun u => (u.cell? ⟨w.heap.size, 0, none⟩ = some (.slice b vars.length cb) ∧ u.cell? ⟨w.heap.size, 1, none⟩ = some (.slice (some ⟨g, o, none⟩) l.length cc)) ∧ Hid (BH w u (.slice b vars.length cb) (.slice (some ⟨g, o, none⟩) l.length cc)))
    (first | exact H2.of | exact H1.of | exact H0.of)
    (first
      | (have HH := H1; go_at_call 82; refine (HJ.out _ _ hxl hxc (HF.out.below HH.2.2)).mono ?_; rintro e w3 ⟨rfl, hb3⟩; have H2 := HH.step hb3)
      | (have HH := H0; go_at_call 83; refine (firstGreatest_any _ _ _ _).mono ?_; rintro e w2 ⟨rfl, hxl, hxc, hb2⟩; have H1 := HH.step hb2))
  clear hH H0 H1 hb3 hb2 hxl hxc
  have hH := H2.drew
  clear H2 HJ HCK HF
  go_upto_region 5 with fail
  refine wp_region_held_drew (S := fun u => u.cell? ⟨w.heap.size, 0, none⟩ = some (.slice b vars.length cb) ∧ u.cell? ⟨w.heap.size, 1, none⟩ = some (.slice (some ⟨g, o, none⟩) l.length cc) ∧ u.cell? ⟨g, o + K * 3, none⟩ = some (.bool fn) ∧ u.cell? ⟨g, o + K * 3 + 1, none⟩ = some (.string fx) ∧ u.cell? ⟨g, o + K * 3 + 2, none⟩ = some (.string fy)) (by kernel_rfl) (hH.ofF hg a0 a1 a2).1 (fun hSd => ?_)
  generalize w3.drew = u0 at *
  refine wpAnyH_take (i := 0) (oi := _) (v := .slice a sizes.length ca) rfl (by kernel_rfl) (by kernel_rfl) (by kernel_rfl) (fun _ _ _ h => h) (Or.inl ⟨by rfl, ?_⟩) (by assumption) ?_
  · intro u' hSu
    (try simp only [List.getElem_toArray, List.getElem_cons_zero])
    go_simp
  (try simp only [List.getElem_toArray, List.getElem_cons_zero])
  (try simp only [Act.put, List.setIfInBounds_toArray, List.set_cons_zero, List.set_cons_succ])
  refine wpAnyH_take (i := 1) (oi := _) (v := .pointer (some ⟨w.heap.size, 0, none⟩)) rfl (by kernel_rfl) (by kernel_rfl) (by kernel_rfl) (fun _ _ _ h => h) (Or.inl ⟨by rfl, ?_⟩) (by assumption) ?_
  · intro u' hSu
    (try simp only [List.getElem_toArray, List.getElem_cons_zero, List.getElem_cons_succ])
    go_simp
  (try simp only [List.getElem_toArray, List.getElem_cons_zero, List.getElem_cons_succ])
  (try simp only [Act.put, List.setIfInBounds_toArray, List.set_cons_zero, List.set_cons_succ])
  refine wpAnyH_take (i := 2) (oi := _) (v := .slice b vars.length cb) rfl (by kernel_rfl) (by kernel_rfl) (by kernel_rfl) (fun _ _ _ h => h) (Or.inl ⟨by rfl, ?_⟩) (by assumption) ?_
  · intro u' hSu
    (try simp only [List.getElem_toArray, List.getElem_cons_zero, List.getElem_cons_succ])
    obtain ⟨s1, s2, s3, s4, s5⟩ := hSu
    go_simp
  (try simp only [List.getElem_toArray, List.getElem_cons_zero, List.getElem_cons_succ])
  (try simp only [Act.put, List.setIfInBounds_toArray, List.set_cons_zero, List.set_cons_succ])
  refine wpAnyH_take (i := 3) (oi := _) (v := .int .i64 (K : Nat)) rfl (by kernel_rfl) (by kernel_rfl) (by kernel_rfl) (fun _ _ _ h => h) (Or.inl ⟨by rfl, ?_⟩) (by assumption) ?_
  · intro u' hSu
    (try simp only [List.getElem_toArray, List.getElem_cons_zero, List.getElem_cons_succ])
    go_simp
  (try simp only [List.getElem_toArray, List.getElem_cons_zero, List.getElem_cons_succ])
  (try simp only [Act.put, List.setIfInBounds_toArray, List.set_cons_zero, List.set_cons_succ])
  refine wpAnyH_take (i := 5) (oi := _) (v := .pointer (some ⟨w.heap.size, 1, none⟩)) rfl (by kernel_rfl) (by kernel_rfl) (by kernel_rfl) (fun _ _ _ h => h) (Or.inl ⟨by rfl, ?_⟩) (by assumption) ?_
  · intro u' hSu
    (try simp only [List.getElem_toArray, List.getElem_cons_zero, List.getElem_cons_succ])
    go_simp
  (try simp only [List.getElem_toArray, List.getElem_cons_zero, List.getElem_cons_succ])
  (try simp only [Act.put, List.setIfInBounds_toArray, List.set_cons_zero, List.set_cons_succ])
  refine wpAnyH_take (i := 6) (oi := _) (v := .slice (some ⟨g, o, none⟩) l.length cc) rfl (by kernel_rfl) (by kernel_rfl) (by kernel_rfl) (fun _ _ _ h => h) (Or.inl ⟨by rfl, ?_⟩) (by assumption) ?_
  · intro u' hSu
    (try simp only [List.getElem_toArray, List.getElem_cons_zero, List.getElem_cons_succ])
    obtain ⟨s1, s2, s3, s4, s5⟩ := hSu
    go_simp
  (try simp only [List.getElem_toArray, List.getElem_cons_zero, List.getElem_cons_succ])
  (try simp only [Act.put, List.setIfInBounds_toArray, List.set_cons_zero, List.set_cons_succ])
  refine wpAnyH_take (i := 7) (oi := _) (v := .int .i64 (K : Nat)) rfl (by kernel_rfl) (by kernel_rfl) (by kernel_rfl) (fun _ _ _ h => h) (Or.inl ⟨by rfl, ?_⟩) (by assumption) ?_
  · intro u' hSu
    (try simp only [List.getElem_toArray, List.getElem_cons_zero, List.getElem_cons_succ])
    go_simp
  (try simp only [List.getElem_toArray, List.getElem_cons_zero, List.getElem_cons_succ])
  (try simp only [Act.put, List.setIfInBounds_toArray, List.set_cons_zero, List.set_cons_succ])
  refine wpAnyH_take (i := 8) (oi := _) (v := .pointer (some ⟨g, o + K * 3, none⟩)) rfl (by kernel_rfl) (by kernel_rfl) (by kernel_rfl) (fun _ _ _ h => h) (Or.inl ⟨by rfl, ?_⟩) (by assumption) ?_
  · intro u' hSu
    (try simp only [List.getElem_toArray, List.getElem_cons_zero, List.getElem_cons_succ])
    go_simp
  (try simp only [List.getElem_toArray, List.getElem_cons_zero, List.getElem_cons_succ])
  (try simp only [Act.put, List.setIfInBounds_toArray, List.set_cons_zero, List.set_cons_succ])
  refine wpAnyH_take (i := 9) (oi := _) (v := .agg #[.bool fn, .string fx, .string fy]) rfl (by kernel_rfl) (by kernel_rfl) (by kernel_rfl) (fun _ _ _ h => h) (Or.inl ⟨by rfl, ?_⟩) (by assumption) ?_
  · intro u' hSu
    (try simp only [List.getElem_toArray, List.getElem_cons_zero, List.getElem_cons_succ])
    obtain ⟨s1, s2, s3, s4, s5⟩ := hSu
    go_simp
  (try simp only [List.getElem_toArray, List.getElem_cons_zero, List.getElem_cons_succ])
  (try simp only [Act.put, List.setIfInBounds_toArray, List.set_cons_zero, List.set_cons_succ])
  refine wpAnyH_ready (rs := [4]) (by kernel_rfl) (by simp) (AllReadyH.cons rfl ?_ (AllReadyH.nil))
  · intro K' hK'
    (try simp only [List.getElem_toArray, List.getElem_cons_zero, List.getElem_cons_succ])
    go_simp
    refine (HA.out _ (HS.out.below hH.2.2) (HV.out.below hH.2.2)).mono ?_
    rintro e u1 ⟨d, cd, rfl, hi, hb⟩
    replace hH := hH.step hb
    refine hK'.out _ _ (hH.ofF hg a0 a1 a2).1 (fun hSe => ?_)
    clear hK' K' hSd
    have hSd := hSe
    clear hSe hb
    (try simp only [List.getElem_toArray, List.getElem_cons_zero, List.getElem_cons_succ])
    (try simp only [Act.put, List.setIfInBounds_toArray, List.set_cons_zero, List.set_cons_succ])
    refine wpAnyH_ready (rs := [10]) (by kernel_rfl) (by simp) (AllReadyH.cons rfl ?_ (AllReadyH.nil))
    · intro K' hK'
      (try simp only [List.getElem_toArray, List.getElem_cons_zero, List.getElem_cons_succ])
      go_simp
      refine (HC.out _).mono ?_
      rintro e u2 ⟨rfl, hb⟩
      replace hH := hH.step hb
      replace hi := hi.below hb
      refine hK'.out _ _ (hH.ofF hg a0 a1 a2).1 (fun hSe => ?_)
      clear hK' K' hSd
      have hSd := hSe
      clear hSe hb
      (try simp only [List.getElem_toArray, List.getElem_cons_zero, List.getElem_cons_succ])
      (try simp only [Act.put, List.setIfInBounds_toArray, List.set_cons_zero, List.set_cons_succ])
      refine wpAnyH_take (i := 11) (oi := _) (v := .slice d ds.length cd) rfl (by kernel_rfl) (by kernel_rfl) (by kernel_rfl) (fun _ _ _ h => h) (Or.inl ⟨by rfl, ?_⟩) (by assumption) ?_
      · intro u' hSu
        (try simp only [List.getElem_toArray, List.getElem_cons_zero, List.getElem_cons_succ])
        go_simp
      (try simp only [List.getElem_toArray, List.getElem_cons_zero, List.getElem_cons_succ])
      (try simp only [Act.put, List.setIfInBounds_toArray, List.set_cons_zero, List.set_cons_succ])
      have hrb := hH.2.1
      obtain ⟨k0, k1, k2, f0, f1, f2⟩ := hrb.facts
      refine wpAnyH_ready (rs := [12]) (by kernel_rfl) (by simp) (AllReadyH.cons rfl ?_ (AllReadyH.nil))
      · intro K' hK'
        (try simp only [List.getElem_toArray, List.getElem_cons_zero, List.getElem_cons_succ])
        go_simp
        have hput := hrb.put (sgn r) (nu r) (de r)
        replace hi := hi.put3 hrb (sgn r) (nu r) (de r)
        have hBp := below_put hH.2.2 (g := w.heap.size + 1) (by omega) (.bool (sgn r)) (.string (nu r)) (.string (de r))
        have hTp := ((hH.1.off (w.heap.size + 1) 0 (.bool (sgn r)) (by omega)).off (w.heap.size + 1) 1 (.string (nu r)) (by omega)).off (w.heap.size + 1) 2 (.string (de r)) (by omega)
        generalize (((u2.setCell ⟨w.heap.size + 1, 0, none⟩ (.bool (sgn r))).setCell ⟨w.heap.size + 1, 1, none⟩ (.string (nu r))).setCell ⟨w.heap.size + 1, 2, none⟩ (.string (de r))) = v9 at *
        have hSp : v9.cell? ⟨w.heap.size, 0, none⟩ = some (.slice b vars.length cb) ∧ v9.cell? ⟨w.heap.size, 1, none⟩ = some (.slice (some ⟨g, o, none⟩) l.length cc) ∧ v9.cell? ⟨g, o + K * 3, none⟩ = some (.bool fn) ∧ v9.cell? ⟨g, o + K * 3 + 1, none⟩ = some (.string fx) ∧ v9.cell? ⟨g, o + K * 3 + 2, none⟩ = some (.string fy) := ⟨hTp.c0, hTp.c1, (hBp.cell (p := ⟨g, _, none⟩) hg).trans a0, (hBp.cell (p := ⟨g, _, none⟩) hg).trans a1, (hBp.cell (p := ⟨g, _, none⟩) hg).trans a2⟩
        refine hK'.out _ _ hSp (fun hSe => ?_)
        clear hK' K' hSd
        have hSd := hSe
        clear hSe hSp
        (try simp only [List.getElem_toArray, List.getElem_cons_zero, List.getElem_cons_succ])
        (try simp only [Act.put, List.setIfInBounds_toArray, List.set_cons_zero, List.set_cons_succ])
        refine wpAnyH_take (i := 13) (oi := _) (v := .int .i64 0) rfl (by kernel_rfl) (by kernel_rfl) (by kernel_rfl) (fun _ _ _ h => h) (Or.inl ⟨by rfl, ?_⟩) (by assumption) ?_
        · intro u' hSu
          (try simp only [List.getElem_toArray, List.getElem_cons_zero, List.getElem_cons_succ])
          go_simp
        (try simp only [List.getElem_toArray, List.getElem_cons_zero, List.getElem_cons_succ])
        (try simp only [Act.put, List.setIfInBounds_toArray, List.set_cons_zero, List.set_cons_succ])
        refine wpAnyH_done (by kernel_rfl) ?_ _
        go_wp2
        refine bodyPost_ret (results_tmp_cell_tmp hput rfl _ rfl) rfl ?_
        exact ⟨d, cd, rfl, hi, hBp⟩
end Go.Proofs.YtknlhejhnopnaaaGreatDoor
