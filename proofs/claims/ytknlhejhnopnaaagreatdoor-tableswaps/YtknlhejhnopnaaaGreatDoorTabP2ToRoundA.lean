/- Package table: the place of an assignment; whether a table may be, in both. -/
import Derived.Test.YtknlhejhnopnaaaGreatDoorTabR4ToNum
import Derived.Test.YtknlhejhnopnaaaGreatDoorRefSToSumA
import Derived.Test.YtknlhejhnopnaaaGreatDoorDivCToRefA
import Derived.Test.YtknlhejhnopnaaaGreatDoorCore1ToCore5
import Derived.Deep.RegionHeld3
namespace Go.Proofs.YtknlhejhnopnaaaGreatDoor
open Go.RowKit

set_option maxRecDepth 100000 in
set_option maxHeartbeats 1000000 in
theorem tIndex_any (a b c : Option Addr) (ca cb cc : Nat) (sizes vars l : List Int) (w : World) (hs : IntS w a sizes) (hv : IntS w b vars) (hl : IntS w c l) (hn : sizes.length ≤ 140737488355328) (hm : vars.length ≤ 140737488355328) (hk : l.length ≤ 140737488355328) :
    Calls Tryz.prog 12 #[.slice a sizes.length ca, .slice b vars.length cb, .slice c l.length cc] w fun e w' => e = .returned (.tuple #[.int .i64 (indexA sizes vars l).1, .int .i64 (indexA sizes vars l).2]) ∧ Below w.heap.size w w' := by
  have HS := hid hs
  have HV := hid hv
  have HL := hid hl
  have HC := hid (fun V h1 h2 => tCount_any a b ca cb sizes vars V h1 h2 hn hm)
  clear hs hv hl
  cases hcb : countB sizes vars with
  | false =>
    have HA := hid (indexA_none (l := l) hcb)
    rw [countA_no hcb] at HC
    simp only at HC
    generalize indexA sizes vars l = r at *
    go_enter Tryz.func12, Tryz.ntmps12
    go_wp2_with fail
    refine (HC.out _ HS.out HV.out).mono ?_
    rintro e w1 ⟨rfl, hb1⟩
    go_wp2
    go_ret2
    exact ⟨by rw [HA.out]; rfl, hb1⟩
  | true =>
    have HN := hid (fun h => indexA_len (l := l) hcb h)
    have HB := hid (fun i h hi h2 => indexA_val (l := l) hcb h (i := i) hi h2)
    have HO := hid (fun h h2 => indexA_ok (l := l) hcb h h2)
    rw [countA_yes hcb] at HC
    simp only at HC
    obtain ⟨hfi, hup⟩ := countB_parts hcb
    have hl8 := hfi.eight
    have hvl := hup.length
    have HFI := hid hfi
    have HUP := hid hup
    clear hcb hfi hup
    generalize indexA sizes vars l = r at *
    generalize cnt (toN sizes) (toN vars) = N0 at *
    go_enter Tryz.func12, Tryz.ntmps12
    go_wp2_with fail
    refine (HC.out _ HS.out HV.out).mono ?_
    rintro e w1 ⟨rfl, hb1⟩
    by_cases hlen : l.length = vars.length
    · have HLEN := hid hlen
      have hlb : ((l.length : Int) == (vars.length : Int)) = true := by simp [hlen]
      have hli : (l.length : Int) = (vars.length : Int) := by omega
      have hln : ¬ ¬ l.length = vars.length := fun h => h hlen
      clear HN
      go_wp2_with fail
      go_loopw [10, 29] (fun kv iv wr => ∃ i : Nat, i ≤ vars.length ∧ iv = .int .i64 i ∧ kv = .int .i64 (idxN (toN sizes) (toN vars) (toN l) i : Nat) ∧ Hid ((List.range i).all (valB (toN sizes) (toN vars) l) = true) ∧ Below w.heap.size w wr) (fun _ iv _ => vars.length - (intOf iv).toNat)
      case atStart => exact ⟨0, Nat.zero_le _, rfl, rfl, rfl, hb1⟩
      case round =>
        obtain ⟨i, hi, rfl, rfl, HI, hB⟩ := hrel
        clear hb1 hlb hli hln
        by_cases hlt : i < vars.length
        · obtain ⟨g, o, rfl, hg, c0⟩ := (HV.out.below hB) i hlt
          obtain ⟨g2, o2, rfl, hg2, c2⟩ := (HL.out.below hB) i (by rw [HLEN.out]; exact hlt)
          obtain ⟨hvi, hvn⟩ := HUP.out.nat hlt
          have hvb : valB (toN sizes) (toN vars) l i = decide (0 ≤ l[i]'(by omega) ∧ l[i]'(by omega) < (sz (toN sizes) vars[i].toNat : Int)) := by
            rw [valB, getD_eq (by omega), getN_eq (by rw [toN_length]; exact hlt), toN_get hlt]
          have hst : idxN (toN sizes) (toN vars) (toN l) (i + 1) = idxN (toN sizes) (toN vars) (toN l) i * sz (toN sizes) vars[i].toNat + (l[i]'(by omega)).toNat := by
            rw [idxN_succ, getN_eq (show i < (toN vars).length by rw [toN_length]; exact hlt), toN_get hlt, getN_eq (show i < (toN l).length by rw [toN_length]; omega), toN_get (by omega)]
          have HBI := hid (fun h2 => HB.out i HLEN.out hlt h2)
          have hbd : valB (toN sizes) (toN vars) l i = true → idxN (toN sizes) (toN vars) (toN l) (i + 1) < 65537 := fun h => by
            have h1 := idxN_lt (i + 1) (by rw [toN_length]; omega) (by omega) (val_succ HI.out h)
            have h2 : cnt (toN sizes) ((toN vars).take (i + 1)) ≤ 65536 := cnt_small HFI.out.sz_le (by rw [List.length_take, toN_length]; omega)
            omega
          have HBD := hid hbd
          have HVS := hid (fun h => val_succ HI.out h (i := i))
          have hxl : i < l.length := by omega
          have HIV := hid (fun V h x => isValue_any a ca sizes vars[i].toNat x V h HFI.out hvn)
          generalize hV : vars[i].toNat = v at *
          rw [← hvi] at c0
          have HSB := hid (HS.out.below hB)
          obtain ⟨g', o', rfl, hg', c1⟩ := HSB.out v hvn
          rw [← HFI.out.sz_eq hvn] at c1
          have HVB := hid hvb
          have HST := hid hst
          clear hst hvi hV hvb hbd
          generalize idxN (toN sizes) (toN vars) (toN l) i = X at *
          generalize sz (toN sizes) v = Y at *
          generalize l[i] = x at *
          go_wp2_with fail
          refine (HIV.out _ HSB.out x).mono ?_
          rintro e w2 ⟨rfl, hb2⟩
          have hB2 := hB.trans (hb2.mono hB.size)
          have c1' := (hb2.cell (p := ⟨g', _, none⟩) hg').trans c1
          have c2' := (hb2.cell (p := ⟨g2, _, none⟩) hg2).trans c2
          clear HIV HSB hb2 c1 c2
          by_cases e0 : 0 ≤ x ∧ x < (Y : Int)
          · rw [decide_eq_true e0]
            have hok : valB (toN sizes) (toN vars) l i = true := by rw [HVB.out]; exact decide_eq_true e0
            have h1 := HBD.out hok
            rw [HST.out] at h1
            have HS2 := hid (HVS.out hok)
            have hpi : ((X : Nat) : Int) * ((Y : Nat) : Int) = ((X * Y : Nat) : Int) := (Int.natCast_mul _ _).symm
            have hp0 : 0 ≤ (X : Int) * (Y : Int) := by rw [hpi]; omega
            have hp1 : (X : Int) * (Y : Int) + x ≤ 65536 := by rw [hpi]; omega
            have HFN : Hid ((X : Int) * (Y : Int) + x = ((X * Y + x.toNat : Nat) : Int)) := by show _ = _; rw [hpi]; omega
            obtain ⟨e1, e2⟩ := e0
            clear hpi h1 hok HBD HBI HB
            go_wp2_with fail
            go_quiet (fail)
            go_wp2
            go_roundw
            case rel => exact ⟨i + 1, by omega, by go_num, by rw [HST.out, ← HFN.out], HS2.out, below_dn hB2 _⟩
            case measure => simp [intOf]; omega
          · rw [decide_eq_false e0]
            have HE := hid (HBI.out (by rw [HVB.out]; exact decide_eq_false e0))
            go_wp2
            go_ret2
            exact ⟨by rw [HE.out]; rfl, hB2⟩
        · obtain rfl : i = vars.length := by omega
          have HE := hid (HO.out HLEN.out HI.out)
          go_wp2
          go_ret2
          exact ⟨by rw [HE.out]; rfl, hB⟩
    · have HE := hid (HN.out hlen)
      have hlb : ((l.length : Int) == (vars.length : Int)) = false := by simp; omega
      go_wp2
      go_ret2
      exact ⟨by rw [HE.out]; rfl, hb1⟩

/-- What Check answers. -/
def checkA (sizes vars : List Int) (m : Nat) : Int := if countB sizes vars = true then (if m = cnt (toN sizes) (toN vars) then 0 else 8) else 11
theorem checkA_none {sizes vars : List Int} {m : Nat} (h : countB sizes vars = false) : checkA sizes vars m = 11 := if_neg (by rw [h]; decide)
theorem checkA_no {sizes vars : List Int} {m : Nat} (h : countB sizes vars = true) (h1 : ¬ m = cnt (toN sizes) (toN vars)) : checkA sizes vars m = 8 := by rw [checkA, if_pos h, if_neg h1]
theorem checkA_yes {sizes vars : List Int} {m : Nat} (h : countB sizes vars = true) (h1 : m = cnt (toN sizes) (toN vars)) : checkA sizes vars m = 0 := by rw [checkA, if_pos h, if_pos h1]
/-- A table's two fields, fresh. -/
abbrev TC (u v : Value) : Obj := .cells #[u, v] 25
def TBox (w : World) (g : Nat) (u v : Value) : Prop := w.heap[g]? = some (.cells #[u, v] 25 (0, 0))
theorem TBox.c0 {w : World} {g : Nat} {u v : Value} (h : TBox w g u v) : w.cell? ⟨g, 0, none⟩ = some u := by rw [cell_of_row w g 0 _ _ (0, 0) h]; rfl
theorem TBox.c1 {w : World} {g : Nat} {u v : Value} (h : TBox w g u v) : w.cell? ⟨g, 1, none⟩ = some v := by rw [cell_of_row w g 1 _ _ (0, 0) h]; rfl
theorem TBox.lt {w : World} {g : Nat} {u v : Value} (h : TBox w g u v) : g < w.heap.size := (Array.getElem?_eq_some_iff.1 h).1
theorem TBox.below {w w' : World} {g B : Nat} {u v : Value} (h : TBox w g u v) (hb : Below B w w') (hB : g < B) : TBox w' g u v := (hb.block g hB).trans h
theorem TBox.at {w : World} {g : Nat} (hg : w.heap.size = g) (u v : Value) : TBox (w.alloc (TC u v)) g u v := by
  subst hg; exact heap_alloc_new _ _
theorem TBox.alloc {w : World} {g : Nat} {u v : Value} (h : TBox w g u v) (o : Obj) : TBox (w.alloc o) g u v := (Below.heap_alloc w o g h.lt).trans h
theorem TBox.drew {w : World} {g : Nat} {u v : Value} (h : TBox w g u v) : TBox w.drew g u v := h

set_option maxRecDepth 100000 in
set_option maxHeartbeats 1000000 in
theorem rCheck_any (a b c : Option Addr) (ca cb cc m : Nat) (sizes vars : List Int) (w : World) (hs : IntS w a sizes) (hv : IntS w b vars) (hn : sizes.length ≤ 140737488355328) (hm : vars.length ≤ 140737488355328) :
    Calls Tryz.prog 11 #[.slice a sizes.length ca, .agg #[.slice b vars.length cb, .slice c m cc]] w fun e w' => e = .returned (.int .i64 (checkA sizes vars m)) ∧ Below w.heap.size w w' := by
  have HS := hid hs
  have HV := hid hv
  have HC := hid (fun V h1 h2 => rCount_any a b ca cb sizes vars V h1 h2 hn hm)
  clear hs hv
  have hB0 : Below w.heap.size w (w.alloc (TC (.slice b vars.length cb) (.slice c m cc))) := (Below.refl _ w).alloc (Nat.le_refl _) _
  have hbx := TBox.at (w := w) rfl (.slice b vars.length cb) (.slice c m cc)
  cases hcb : countB sizes vars with
  | false =>
    have HA := hid (checkA_none (m := m) hcb)
    rw [countA_no hcb] at HC
    simp only at HC
    generalize checkA sizes vars m = r at *
    go_enter Tryz.func11, Tryz.ntmps11
    go_wp2_with fail
    refine (HC.out _ (HS.out.below hB0) (HV.out.below hB0)).mono ?_
    rintro e w1 ⟨rfl, hb1⟩
    have hB1 := hB0.trans (hb1.mono hB0.size)
    go_wp2
    go_ret
    exact ⟨by rw [HA.out]; rfl, hB1⟩
  | true =>
    have HN := hid (fun h => checkA_no (m := m) hcb h)
    have HY := hid (fun h => checkA_yes (m := m) hcb h)
    rw [countA_yes hcb] at HC
    simp only at HC
    obtain ⟨hfi, hup⟩ := countB_parts hcb
    have hsm : cnt (toN sizes) (toN vars) ≤ 65536 := cnt_small hfi.sz_le (by rw [toN_length]; have := hfi.eight; have := hup.length; omega)
    clear hcb hfi hup
    generalize checkA sizes vars m = r at *
    generalize cnt (toN sizes) (toN vars) = N0 at *
    go_enter Tryz.func11, Tryz.ntmps11
    go_wp2_with fail
    refine (HC.out _ (HS.out.below hB0) (HV.out.below hB0)).mono ?_
    rintro e w1 ⟨rfl, hb1⟩
    have hB1 := hB0.trans (hb1.mono hB0.size)
    have hx1 := hbx.below hb1 hbx.lt
    have k0 := hx1.c0
    have k1 := hx1.c1
    by_cases h : m = N0
    · have HE := hid (HY.out h)
      subst h
      go_wp2
      go_ret
      exact ⟨by rw [HE.out]; rfl, hB1⟩
    · have HE := hid (HN.out h)
      have hb : ((N0 : Int) == (m : Int)) = false := by simp; omega
      have hi : ¬ (N0 : Int) = (m : Int) := by omega
      go_wp2
      go_ret
      exact ⟨by rw [HE.out]; rfl, hB1⟩

set_option maxRecDepth 100000 in
set_option maxHeartbeats 1000000 in
theorem tCheck_any (a b c : Option Addr) (ca cb cc m : Nat) (sizes vars : List Int) (w : World) (hs : IntS w a sizes) (hv : IntS w b vars) (hn : sizes.length ≤ 140737488355328) (hm : vars.length ≤ 140737488355328) :
    Calls Tryz.prog 10 #[.slice a sizes.length ca, .agg #[.slice b vars.length cb, .slice c m cc]] w fun e w' => e = .returned (.int .i64 (checkA sizes vars m)) ∧ Below w.heap.size w w' := by
  have HS := hid hs
  have HV := hid hv
  have HC := hid (fun V h1 h2 => tCount_any a b ca cb sizes vars V h1 h2 hn hm)
  clear hs hv
  have hB0 : Below w.heap.size w (w.alloc (TC (.slice b vars.length cb) (.slice c m cc))) := (Below.refl _ w).alloc (Nat.le_refl _) _
  have hbx := TBox.at (w := w) rfl (.slice b vars.length cb) (.slice c m cc)
  cases hcb : countB sizes vars with
  | false =>
    have HA := hid (checkA_none (m := m) hcb)
    rw [countA_no hcb] at HC
    simp only at HC
    generalize checkA sizes vars m = r at *
    go_enter Tryz.func10, Tryz.ntmps10
    go_wp2_with fail
    refine (HC.out _ (HS.out.below hB0) (HV.out.below hB0)).mono ?_
    rintro e w1 ⟨rfl, hb1⟩
    have hB1 := hB0.trans (hb1.mono hB0.size)
    go_wp2
    go_ret
    exact ⟨by rw [HA.out]; rfl, hB1⟩
  | true =>
    have HN := hid (fun h => checkA_no (m := m) hcb h)
    have HY := hid (fun h => checkA_yes (m := m) hcb h)
    rw [countA_yes hcb] at HC
    simp only at HC
    obtain ⟨hfi, hup⟩ := countB_parts hcb
    have hsm : cnt (toN sizes) (toN vars) ≤ 65536 := cnt_small hfi.sz_le (by rw [toN_length]; have := hfi.eight; have := hup.length; omega)
    clear hcb hfi hup
    generalize checkA sizes vars m = r at *
    generalize cnt (toN sizes) (toN vars) = N0 at *
    go_enter Tryz.func10, Tryz.ntmps10
    go_wp2_with fail
    refine (HC.out _ (HS.out.below hB0) (HV.out.below hB0)).mono ?_
    rintro e w1 ⟨rfl, hb1⟩
    have hB1 := hB0.trans (hb1.mono hB0.size)
    have hx1 := hbx.below hb1 hbx.lt
    have k0 := hx1.c0
    have k1 := hx1.c1
    by_cases h : m = N0
    · have HE := hid (HY.out h)
      subst h
      go_wp2
      go_ret
      exact ⟨by rw [HE.out]; rfl, hB1⟩
    · have HE := hid (HN.out h)
      have hb : ((m : Int) == (N0 : Int)) = false := by simp; omega
      have hi : ¬ (m : Int) = (N0 : Int) := by omega
      go_wp2
      go_ret
      exact ⟨by rw [HE.out]; rfl, hB1⟩
end Go.Proofs.YtknlhejhnopnaaaGreatDoor

/- The document's answer: the assignment of a place. -/
namespace Go.Proofs.YtknlhejhnopnaaaGreatDoor
open Go.RowKit

theorem cnt_drop_dvd (S vs : List Nat) (i : Nat) : cnt S (vs.drop i) ∣ cnt S vs := by
  have h := cnt_append S (vs.take i) (vs.drop i)
  rw [List.take_append_drop] at h
  exact ⟨_, by rw [h, Nat.mul_comm]⟩
theorem digs_get {S : List Nat} (hp : Pos S) : ∀ (vs : List Nat) (k i : Nat) (_ : k < cnt S vs) (h : i < vs.length), (digs S vs k)[i]'(by rw [digs_length]; exact h) = k % cnt S (vs.drop i) / cnt S (vs.drop (i + 1))
  | [], _, _, _, h => absurd h (by simp)
  | v :: vs, k, 0, hk, _ => by
    show k / cnt S vs = k % cnt S (v :: vs) / cnt S vs
    rw [Nat.mod_eq_of_lt hk]
  | v :: vs, k, i + 1, _, h => by
    have h' : i < vs.length := by simpa using h
    have := digs_get hp vs (k % cnt S vs) i (Nat.mod_lt _ (cnt_pos hp vs)) h'
    show (digs S vs (k % cnt S vs))[i]'_ = k % cnt S (vs.drop i) / cnt S (vs.drop (i + 1))
    rw [this, Nat.mod_mod_of_dvd _ (cnt_drop_dvd S vs i)]
theorem digs_at {S : List Nat} (hp : Pos S) (vs : List Nat) (k i : Nat) (hk : k < cnt S vs) (h : i < vs.length) : (digs S vs k)[i]? = some (k % cnt S (vs.drop i) / cnt S (vs.drop (i + 1))) := by
  rw [List.getElem?_eq_getElem (by rw [digs_length]; exact h), digs_get hp vs k i hk h]
theorem cnt_drop (S vs : List Nat) {i : Nat} (h : i < vs.length) : cnt S (vs.drop i) = sz S vs[i] * cnt S (vs.drop (i + 1)) := by
  rw [List.drop_eq_getElem_cons h, cnt]
/-- What is written when i values are told. -/
def partD (l : List Nat) (i : Nat) : List Nat := l.take i ++ List.replicate (l.length - i) 0
theorem partD_zero (l : List Nat) : partD l 0 = List.replicate l.length 0 := by simp [partD]
theorem partD_length (l : List Nat) {i : Nat} (h : i ≤ l.length) : (partD l i).length = l.length := by simp [partD]; omega
theorem partD_all (l : List Nat) : partD l l.length = l := by simp [partD]
theorem partD_set (l : List Nat) {i : Nat} (h : i < l.length) : (partD l i).set i l[i] = partD l (i + 1) := by
  rw [partD, partD, List.set_append_right _ _ (by simp; omega), List.take_succ_eq_append_getElem h]
  have e : l.length - i = (l.length - (i + 1)) + 1 := by omega
  rw [e, List.replicate_succ, List.length_take, Nat.min_eq_left (by omega), Nat.sub_self, List.set_cons_zero, List.append_assoc]
  rfl
/-- Natural numbers as ints. -/
def iL (l : List Nat) : List Int := l.map fun x : Nat => (x : Int)
theorem iL_length (l : List Nat) : (iL l).length = l.length := by simp [iL]
theorem toN_iL (l : List Nat) : toN (iL l) = l := by simp [toN, iL, Function.comp_def]
theorem RowI.ints {w : World} {g : Nat} {l : List Nat} (h : RowI w g l) : IntS w (some ⟨g, 0, none⟩) (iL l) := fun k hk => by
  rw [iL_length] at hk
  refine ⟨g, 0, rfl, h.lt, ?_⟩
  rw [Nat.zero_add, h.cell k hk]
  simp [iL]

theorem wrap_le (n : Nat) (h : n ≤ 65536) : wrap64 (n : Int) = (n : Int) := by
  rw [wrap64]
  omega

/-- What Where answers. -/
def whereL (sizes vars : List Int) (k : Int) : List Nat := if countB sizes vars = true ∧ 0 ≤ k ∧ k < (cnt (toN sizes) (toN vars) : Int) then digs (toN sizes) (toN vars) k.toNat else []
def whereE (sizes vars : List Int) (k : Int) : Int := if countB sizes vars = true then (if 0 ≤ k ∧ k < (cnt (toN sizes) (toN vars) : Int) then 0 else 15) else 11

set_option maxRecDepth 100000 in
set_option maxHeartbeats 400000 in
theorem rWhere_any (a b : Option Addr) (ca cb : Nat) (sizes vars : List Int) (k : Int) (w : World) (hs : IntS w a sizes) (hv : IntS w b vars) (hn : sizes.length ≤ 140737488355328) (hm : vars.length ≤ 140737488355328) :
    Calls Tryz.prog 15 #[.slice a sizes.length ca, .slice b vars.length cb, .int .i64 k] w fun e w' => ∃ (c : Option Addr) (cc : Nat), e = .returned (.tuple #[.slice c (whereL sizes vars k).length cc, .int .i64 (whereE sizes vars k)]) ∧ IntS w' c (iL (whereL sizes vars k)) ∧ Below w.heap.size w w' := by
  obtain ⟨i0, hi0, hz0, hz1, hz2⟩ := info_parts Tryz.infoInt
  have HS := hid hs
  have HV := hid hv
  have HC := hid (fun V h1 h2 => rCount_any a b ca cb sizes vars V h1 h2 hn hm)
  clear hs hv
  cases hcb : countB sizes vars with
  | false =>
    have HL : Hid (whereL sizes vars k = []) := if_neg (by rw [hcb]; simp)
    have HE : Hid (whereE sizes vars k = 11) := if_neg (by rw [hcb]; decide)
    rw [countA_no hcb] at HC
    simp only at HC
    generalize whereL sizes vars k = rl at *
    generalize whereE sizes vars k = re at *
    go_enter Tryz.func15, Tryz.ntmps15
    go_wp2_with fail
    refine (HC.out _ HS.out HV.out).mono ?_
    rintro e w1 ⟨rfl, hb1⟩
    go_wp2
    go_ret2
    exact ⟨none, 0, by rw [HL.out, HE.out]; rfl, by rw [HL.out]; exact fun k hk => absurd hk (by simp [iL]), hb1⟩
  | true =>
    rw [countA_yes hcb] at HC
    simp only at HC
    obtain ⟨hfi, hup⟩ := countB_parts hcb
    have hl8 := hfi.eight
    have hvl := hup.length
    have hsm : cnt (toN sizes) (toN vars) ≤ 65536 := cnt_small hfi.sz_le (by rw [toN_length]; omega)
    by_cases hk : 0 ≤ k ∧ k < (cnt (toN sizes) (toN vars) : Int)
    · have HL : Hid (whereL sizes vars k = digs (toN sizes) (toN vars) k.toNat) := if_pos ⟨hcb, hk⟩
      have HE : Hid (whereE sizes vars k = 0) := by show _ = _; rw [whereE, if_pos hcb, if_pos hk]
      rw [HL.out, HE.out]
      obtain ⟨hk0, hk1⟩ := hk
      obtain ⟨K, rfl⟩ : ∃ K : Nat, k = K := ⟨k.toNat, by omega⟩
      rw [Int.toNat_natCast]
      have hK : K < cnt (toN sizes) (toN vars) := by omega
      have HD := hid (fun i h => digs_at hfi.pos (toN vars) K i hK h)
      have hdl : (digs (toN sizes) (toN vars) K).length = vars.length := by rw [digs_length, toN_length]
      have HFI := hid hfi
      have HUP := hid hup
      have HSM := hid (fun i => show cnt (toN sizes) ((toN vars).drop i) ≤ 65536 from cnt_small hfi.sz_le (by rw [List.length_drop, toN_length]; omega))
      have HPO := hid (fun i => cnt_pos hfi.pos ((toN vars).drop i))
      have HC0 : Hid (cnt (toN sizes) (toN vars) = cnt (toN sizes) ((toN vars).drop 0) ∧ K = K % cnt (toN sizes) ((toN vars).drop 0)) := ⟨by rw [List.drop_zero], by rw [List.drop_zero, Nat.mod_eq_of_lt hK]⟩
      clear HL HE hcb hfi hup hK
      generalize digs (toN sizes) (toN vars) K = ds at *
      rw [hdl]
      go_enter Tryz.func15, Tryz.ntmps15
      go_wp2_with fail
      refine (HC.out _ HS.out HV.out).mono ?_
      rintro e w1 ⟨rfl, hb1⟩
      go_wp2_with (first
        | (at_make; refine wpList_make_full _ rfl _ _ 22 rfl w1.heap.size 3 i0 (.int .i64 0) 1 Tryz.underlying22 hi0 hz0 hz1 .i64 .i64 _ _ vars.length rfl rfl (by go_num) (by go_num) (by rw [hz2]; omega) (by unfold maxLen; omega) (Nat.le_refl _) ?_; intro w2 hown2 hgrow2))
      have hb2 := block_of_own hown2
      rw [made_ints] at hb2
      have hB2 : Below w.heap.size w w2 := hb1.grown hgrow2 hb1.size (fun k e => by cases e)
      have HI : Hid (RowI w2 w1.heap.size (List.replicate vars.length 0)) := hb2
      have hlt1 := hb1.size
      clear hown2 hgrow2 hb2
      go_wp2_with fail
      go_loopw [2, 8, 11] (fun kv nv iv wr => ∃ i : Nat, i ≤ vars.length ∧ iv = .int .i64 i ∧ nv = .int .i64 (cnt (toN sizes) ((toN vars).drop i) : Nat) ∧ kv = .int .i64 (K % cnt (toN sizes) ((toN vars).drop i) : Nat) ∧ Hid (RowI wr w1.heap.size (partD ds i)) ∧ Below w.heap.size w wr) (fun _ _ iv _ => vars.length - (intOf iv).toNat)
      case atStart => exact ⟨0, Nat.zero_le _, rfl, by rw [← HC0.out.1], by rw [← HC0.out.2], by rw [partD_zero, hdl]; exact HI, hB2⟩
      case round =>
        obtain ⟨i, hi, rfl, rfl, rfl, HR, hB⟩ := hrel
        by_cases hlt : i < vars.length
        · obtain ⟨g, o, rfl, hg, c0⟩ := (HV.out.below hB) i hlt
          obtain ⟨hvi, hvn⟩ := HUP.out.nat hlt
          have hil : i < (toN vars).length := by rw [toN_length]; exact hlt
          have hdr := cnt_drop (toN sizes) (toN vars) hil
          rw [toN_get hlt] at hdr
          have hdg : ds[i]'(by omega) = K % cnt (toN sizes) ((toN vars).drop i) / cnt (toN sizes) ((toN vars).drop (i + 1)) := by
            have := HD.out i hil
            rwa [List.getElem?_eq_getElem (by omega), Option.some.injEq] at this
          have hps := HPO.out (i + 1)
          have hns := HSM.out i
          have hn1' := HSM.out (i + 1)
          have hz := sz_pos HFI.out.pos vars[i].toNat
          have hz4 := HFI.out.sz_le vars[i].toNat
          have hmm : K % cnt (toN sizes) ((toN vars).drop (i + 1)) = K % cnt (toN sizes) ((toN vars).drop i) % cnt (toN sizes) ((toN vars).drop (i + 1)) := by rw [hdr, mod_mod_c]
          generalize hV : vars[i].toNat = v at *
          rw [← hvi] at c0
          obtain ⟨g', o', rfl, hg', c1⟩ := (HS.out.below hB) v hvn
          rw [← HFI.out.sz_eq hvn] at c1
          have hset := hid (HR.out.set i (ds[i]'(by omega)))
          rw [partD_set ds (by omega)] at hset
          have hcell : wr.cell? ⟨w1.heap.size, i, none⟩ = some (.int .i64 ((partD ds i)[i]'(by rw [partD_length _ (by omega)]; omega) : Nat)) := HR.out.cell i (by rw [partD_length _ (by omega)]; omega)
          have hfz := HR.out.fz i
          have hdi : i < ds.length := by omega
          rw [hdg] at hset
          generalize (partD ds i)[i]'(by rw [partD_length _ (by omega)]; omega) = z at *
          have HMM := hid hmm
          clear hmm hdg hvi hV HR HI
          have hq : cnt (toN sizes) ((toN vars).drop i) / sz (toN sizes) v = cnt (toN sizes) ((toN vars).drop (i + 1)) := by rw [hdr, Nat.mul_div_cancel_left _ (by omega)]
          have HQ := hid hq
          clear hq hdr
          have hmod := Nat.mod_lt K (show 0 < cnt (toN sizes) ((toN vars).drop i) from HPO.out i)
          obtain ⟨n1, hn1e⟩ : ∃ n, cnt (toN sizes) ((toN vars).drop (i + 1)) = n := ⟨_, rfl⟩
          rw [hn1e] at hset hps hn1' HMM HQ
          have HN1 := hid hn1e
          clear hn1e
          generalize cnt (toN sizes) ((toN vars).drop i) = n0 at *
          generalize sz (toN sizes) v = s0 at *
          generalize K % n0 = k0 at *
          have hq1 : (n0 : Int) / (s0 : Int) = (n1 : Int) := by rw [← HQ.out]; exact (Int.natCast_ediv _ _).symm
          have hq2 : (k0 : Int) / (n1 : Int) = ((k0 / n1 : Nat) : Int) := (Int.natCast_ediv _ _).symm
          have hq3 : (k0 : Int) % (n1 : Int) = ((k0 % n1 : Nat) : Int) := (Int.natCast_emod _ _).symm
          have hkd : k0 / n1 ≤ 65536 := Nat.le_trans (Nat.div_le_self _ _) (by omega)
          have hkm : k0 % n1 ≤ 65536 := Nat.le_trans (Nat.mod_le _ _) (by omega)
          generalize k0 / n1 = dd at *
          generalize k0 % n1 = mm at *
          have hz1' : ¬ (s0 : Int) = 0 := by omega
          have hz2' : ¬ (n1 : Int) = 0 := by omega
          go_wp2
          go_roundw
          case rel => exact ⟨i + 1, by omega, by go_num, by rw [HN1.out], by rw [HN1.out, HMM.out, ← hq3], (by have h := hset.out; rwa [← hq2] at h), hB.setCell (p := ⟨w1.heap.size, _, none⟩) hlt1 _⟩
          case measure => simp [intOf]; omega
        · obtain rfl : i = vars.length := by omega
          have hfin := HR.out.ints
          rw [← hdl, partD_all] at hfin
          go_wp2
          go_ret2
          exact ⟨some ⟨w1.heap.size, 0, none⟩, vars.length, rfl, hfin, hB⟩
    · have HL : Hid (whereL sizes vars k = []) := if_neg (fun h => hk h.2)
      have HE : Hid (whereE sizes vars k = 15) := by show _ = _; rw [whereE, if_pos hcb, if_neg hk]
      clear hcb hfi hup
      generalize whereL sizes vars k = rl at *
      generalize whereE sizes vars k = re at *
      generalize cnt (toN sizes) (toN vars) = N0 at *
      rcases (show k < 0 ∨ (0 ≤ k ∧ (N0 : Int) ≤ k) by omega) with h3 | ⟨h3, h4⟩
      all_goals
        clear hk
        go_enter Tryz.func15, Tryz.ntmps15
        go_wp2_with fail
        refine (HC.out _ HS.out HV.out).mono ?_
        rintro e w1 ⟨rfl, hb1⟩
        go_wp2
        go_ret2
        exact ⟨none, 0, by rw [HL.out, HE.out]; rfl, by rw [HL.out]; exact fun k hk => absurd hk (by simp [iL]), hb1⟩
end Go.Proofs.YtknlhejhnopnaaaGreatDoor

/- slices.Backward over a slice of ints: what a loop over it may lean on. -/
namespace Go.Proofs.YtknlhejhnopnaaaGreatDoor
open Go.RowKit Go.Shelf

attribute [local go_sem] Oper.semAt_some

/-- A list of ints, as a slice at a, in blocks below B. -/
def IntB (B : Nat) (w : World) (a : Option Addr) (l : List Int) : Prop := ∀ k (h : k < l.length), ∃ g o, a = some ⟨g, o, none⟩ ∧ g < B ∧ w.cell? ⟨g, o + k, none⟩ = some (.int .i64 l[k])
theorem IntB.below {B : Nat} {w w' : World} {a : Option Addr} {l : List Int} (h : IntB B w a l) (hb : Below B w w') : IntB B w' a l := fun k hk => by
  obtain ⟨g, o, h1, h2, h3⟩ := h k hk
  exact ⟨g, o, h1, h2, (hb.cell (p := ⟨g, _, none⟩) h2).trans h3⟩
theorem IntS.toB {w : World} {a : Option Addr} {l : List Int} (h : IntS w a l) : IntB w.heap.size w a l := h
theorem IntB.mono {B B' : Nat} {w : World} {a : Option Addr} {l : List Int} (h : IntB B w a l) (hB : B ≤ B') : IntB B' w a l := fun k hk => by
  obtain ⟨g, o, h1, h2, h3⟩ := h k hk
  exact ⟨g, o, h1, Nat.lt_of_lt_of_le h2 hB, h3⟩
/-- What a round must keep: the iterator's box, and all that lay below B. -/
def KeepsB (Bn B : Nat) (V V' : World) : Prop := KeepsBox Bn V V' ∧ Below B V V'
theorem KeepsB.t {Bn B : Nat} {X Y Z : World} (h : KeepsB Bn B X Y) (k : KeepsB Bn B Y Z) : KeepsB Bn B X Z := ⟨h.1.t k.1, h.2.trans k.2⟩
theorem KeepsB.b {Bn B : Nat} {w : World} (hn : Bn < w.heap.size) (hB : B ≤ w.heap.size) (V : World) (l : Nat) (o o' : Obj) (hl : w.heap.size ≤ l) (h1 : V.heap[l]? = some o) (h2 : o.isCells = false) (h3 : o.isWalk = false) : KeepsB Bn B V (V.putObj l o') :=
  ⟨KeepsBox.b hn V l o o' hl h1 h2 h3, belowK_b hB V l o o' hl h1 h2 h3⟩

/-- The places of a list, from the last on. -/
def backs (n k : Nat) : List Nat := (List.range k).map fun j => n - 1 - j
theorem backs_succ (n k : Nat) : backs n (k + 1) = backs n k ++ [n - 1 - k] := by simp [backs, List.range_succ]
theorem backs_length (n k : Nat) : (backs n k).length = k := by simp [backs]

abbrev At (l : List Int) : Type := { i : Nat // i < l.length }
abbrev atV (l : List Int) (x : At l) : Array Value := #[.int .i64 (x.1 : Nat), .int .i64 (l[x.1]'x.2)]

set_option maxRecDepth 100000 in
set_option maxHeartbeats 400000 in
theorem backward1_in (n : Nat) (hn : 1 ≤ n) (l Bn B : Nat) (a : Option Addr) (cap : Nat) (xs : List Int) (hl : xs.length ≤ 140737488355328) (J Jx : List (At xs) → World → Prop)
    (hY : ∀ pre x V, J pre V → pre.length < xs.length → YieldAt Fence.wide (n - 1) Tryz.prog l (atV xs x) V fun e V' =>
      (e = .returned (.bool true) ∧ J (pre ++ [x]) V' ∧ KeepsB Bn B V V') ∨ (e = .returned (.bool false) ∧ Jx (pre ++ [x]) V'))
    (V : World) (hBn : V.cell? ⟨Bn, 0, none⟩ = some (.slice a xs.length cap)) (hx : IntB B V a xs) (h0 : J [] V) :
    CallsIn Fence.wide n Tryz.prog 133 #[.func (.yield l) #[] #[], .pointer (some ⟨Bn, 0, none⟩)] V fun e V' => (∃ v, e = .returned v) ∧
      ((∃ ys : List (At xs), ys.map (·.1) = backs xs.length xs.length ∧ J ys V') ∨ (∃ pre : List (At xs), (∃ k, k ≤ xs.length ∧ pre.map (·.1) = backs xs.length k) ∧ Jx pre V')) := by
  have HX := hid hx
  clear hx
  refine callsIn_of_wp Tryz.func133 rfl trivial ?_ rfl
  simp only [Tryz.ntmps133, List.size_toArray, List.length_cons, List.length_nil, Nat.reduceAdd, Nat.reduceSub, Array.replicate_succ, Array.replicate_zero, List.push_toArray, List.append_toArray, List.nil_append, List.cons_append]
  gi_wp2
  gi_loopw [3] (fun i wr => ∃ (k : Nat) (pre : List (At xs)), k ≤ xs.length ∧ i = .int .i64 ((xs.length : Int) - 1 - (k : Int)) ∧ Hid (pre.map (·.1) = backs xs.length k) ∧ J pre wr ∧ wr.cell? ⟨Bn, 0, none⟩ = some (.slice a xs.length cap) ∧ Hid (IntB B wr a xs))
    (fun i _ => (intOf i + 1).toNat)
  case atStart => exact ⟨0, [], Nat.zero_le _, by simp, rfl, h0, hBn, HX⟩
  case round =>
    obtain ⟨k, pre, hk, rfl, HP, hJs, hbx, HB⟩ := hrel
    by_cases hlt : k < xs.length
    · have hpl : pre.length = k := by have := congrArg List.length HP.out; rwa [List.length_map, backs_length] at this
      have hi : xs.length - 1 - k < xs.length := by omega
      obtain ⟨fn, tmps, assign, body, hy, hR⟩ := hY pre ⟨xs.length - 1 - k, hi⟩ wr hJs (by omega)
      obtain ⟨g, o, rfl, hg, c0⟩ := HB.out (xs.length - 1 - k) hi
      have HS : Hid ((pre ++ [(⟨xs.length - 1 - k, hi⟩ : At xs)]).map (·.1) = backs xs.length (k + 1)) := by show _ = _; rw [List.map_append, HP.out, backs_succ]; rfl
      have HR := hid hR
      clear hR
      rw [atV] at hy
      simp only at hy
      have HEQ : Hid ((xs.length : Int) - 1 - ((k + 1 : Nat) : Int) = (xs.length : Int) - 1 - (k : Int) - 1) := by show _ = _; omega
      have hEe : (xs.length : Int) - 1 - (k : Int) = ((xs.length - 1 - k : Nat) : Int) := by omega
      rw [hEe]
      have HEE := hid hEe
      clear hEe
      have hE1 : xs.length - 1 - k < xs.length := hi
      generalize hEn : xs[xs.length - 1 - k] = xv at *
      generalize hEm : xs.length - 1 - k = E at *
      gi_wp2
      refine HR.out.mono ?_
      rintro e W3 (⟨rfl, hJ3, hk3⟩ | ⟨rfl, hJx3⟩)
      · have hbx3 := Eq.trans hk3.1 hbx
        have hB3 := HB.out.below hk3.2
        gi_wp2
        go_roundw
        case rel => exact ⟨k + 1, _, by omega, by rw [HEQ.out, HEE.out], HS, hJ3, hbx3, hB3⟩
        case measure => simp [intOf]
      · gi_wp2
        refine bodyPost_ret (results_none rfl _ _ _) rfl ?_
        exact ⟨⟨_, rfl⟩, .inr ⟨_, ⟨k + 1, by omega, HS.out⟩, hJx3⟩⟩
    · obtain rfl : k = xs.length := by omega
      have he : (xs.length : Int) - 1 - (xs.length : Int) = -1 := by omega
      rw [he]
      gi_wp2
      go_end0
      exact ⟨⟨_, rfl⟩, .inl ⟨_, HP.out, hJs⟩⟩

end Go.Proofs.YtknlhejhnopnaaaGreatDoor

/- A region that draws its order, in a round of a range over a function: by the plain region's law. -/
namespace Go.Proofs.YtknlhejhnopnaaaGreatDoor
open Go.RowKit Go.Shelf

/-- No operation of the region defers. -/
def plainOps (ops : Array Oper) : Bool := ops.all fun o => match o.op with | .defer _ => false | _ => true
theorem plainOps_at {ops : Array Oper} (h : plainOps ops = true) {i : Nat} {o : Oper} (ho : ops[i]? = some o) : ∀ c, o.op ≠ .defer c := by
  intro c e
  rw [plainOps, Array.all_eq_true] at h
  obtain ⟨hi, he⟩ := Array.getElem?_eq_some_iff.1 ho
  have := h i hi
  rw [he, e] at this
  cases this

theorem op_in {l n : Nat} {P : Program} {ops : Array Oper} {Q : Exit → Act → World → Prop} (hnd : plainOps ops = true) (hlo : ¬ LetsOut Q) {i : Nat} {K K' : Act → World → Prop} {a : Act} {w : World} (hK : ∀ a w, K a w → K' a w)
    (h : wpOp P ops Q i K a w) : wpOpIn (Fence.wide.inRound l) n P ops Q i K' a w := by
  unfold wpOp at h
  unfold wpOpIn
  cases ho : ops[i]? with
  | none => rw [ho] at h; exact hK _ _ h
  | some o =>
    rw [ho] at h
    simp only at h ⊢
    by_cases hw : Region.wanted o (yielded ops a.tmps) = true
    · rw [if_pos hw] at h ⊢
      rcases h with h | h
      · refine ⟨fun _ _ => trivial, ?_⟩
        rw [Oper.semAt_eq _ _ _ (plainOps_at hnd ho)]
        unfold Oper.wp at h
        generalize (execOp a.eval o).run P w = r at *
        cases r with
        | ok nx w' =>
          cases nx with
          | value v => exact hK _ _ h
          | skip => exact hK _ _ h
          | defer d => exact hK _ _ h
          | enter f args =>
            refine ⟨fun hd => absurd hd (show ¬ Fence.wide.depth.isSome = true by decide), (callsIn_wide (n := n - 1)).2 (Calls.mono h ?_)⟩
            intro e w'' he
            cases e with
            | returned v => exact hK _ _ he
            | panicked c => exact he
            | outgrown => exact he
          | row r args => exact ⟨fun hd => absurd hd (show ¬ Fence.wide.depth.isSome = true by decide), fun c cs _ => let ⟨v, w2, r, s⟩ := h c cs; ⟨v, w2, hK _ _ r, stepsIn_wide.2 s⟩⟩
          | _ => exact h.elim
        | halt hl w' =>
          cases hl with
          | panic v => exact h
          | _ => exact h.elim
      · exact absurd h.2 hlo
    · rw [if_neg hw] at h ⊢
      exact ⟨fun _ _ => trivial, hK _ _ h⟩
theorem any_in {l n : Nat} {P : Program} {md : Region.Mode} {ops : Array Oper} {Q : Exit → Act → World → Prop} (hnd : plainOps ops = true) (hlo : ¬ LetsOut Q) : ∀ (fuel : Nat) (listed : Array Bool) (a : Act) (w : World), wpAny P md ops Q fuel listed a w → wpAnyIn (Fence.wide.inRound l) n P md ops Q fuel listed a w
  | 0, _, _, _, h => h
  | fuel + 1, _, _, _, h => ⟨h.1, fun i hi => op_in hnd hlo (fun a w => any_in hnd hlo fuel _ a w) (h.2 i hi)⟩
theorem region_round {l n id : Nat} {P : Program} {ops : Array Oper} {Q : Exit → Act → World → Prop} {a : Act} {w : World} (S : World → Prop) (hm : P.follows .mixedOrders = true) (hnd : plainOps ops = true) (hlo : ¬ LetsOut Q) (hS : S w.drew)
    (h : S w.drew → wpAnyH P .any ops Q S ops.size (Array.replicate ops.size false) a w.drew) : (Code.region id ops true).wpIn (Fence.wide.inRound l) n P Q a w :=
  wpIn_region_any hm (any_in hnd hlo _ _ _ _ (wpAny_of_held _ _ _ _ (h hS)))
end Go.Proofs.YtknlhejhnopnaaaGreatDoor
