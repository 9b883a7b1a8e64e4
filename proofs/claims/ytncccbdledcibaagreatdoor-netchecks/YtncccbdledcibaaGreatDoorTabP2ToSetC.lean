/- Package table: the place of an assignment; whether a table may be, in both. -/
import Derived.Test.YtncccbdledcibaaGreatDoorTabR4ToSetA
import Derived.Test.YtncccbdledcibaaGreatDoorRefSToSumA
import Derived.Test.YtncccbdledcibaaGreatDoorDivCToRefA
import Derived.Laws.EntriesVeiled
namespace Go.Proofs.YtncccbdledcibaaGreatDoor
open Go.RowKit

set_option maxRecDepth 100000 in
set_option maxHeartbeats 1000000 in
theorem tIndex_any (a b c : Option Addr) (ca cb cc : Nat) (sizes vars l : List Int) (w : World) (hs : IntS w a sizes) (hv : IntS w b vars) (hl : IntS w c l) (hn : sizes.length ≤ 140737488355328) (hm : vars.length ≤ 140737488355328) (hk : l.length ≤ 140737488355328) :
    Calls Tryz.prog 34 #[.slice a sizes.length ca, .slice b vars.length cb, .slice c l.length cc] w fun e w' => e = .returned (.tuple #[.int .i64 (indexA sizes vars l).1, .int .i64 (indexA sizes vars l).2]) ∧ Below w.heap.size w w' := by
  have HS := hid hs
  have HV := hid hv
  have HL := hid hl
  have HC := hid (fun V h1 h2 => tCount_any a b ca cb sizes vars V h1 h2 hn hm)
  clear hs hv hl
  cases hcb : countB sizes vars with
  | false =>
    have HA := hid (indexA_none (l := l) hcb)
    rw [countA_no hcb] at HC
    simp only at HC
    generalize indexA sizes vars l = r at *
    go_enter Tryz.func34, Tryz.ntmps34
    go_wp2_with fail
    refine (HC.out _ HS.out HV.out).mono ?_
    rintro e w1 ⟨rfl, hb1⟩
    go_wp2
    go_ret2
    exact ⟨by rw [HA.out]; rfl, hb1⟩
  | true =>
    have HN := hid (fun h => indexA_len (l := l) hcb h)
    have HB := hid (fun i h hi h2 => indexA_val (l := l) hcb h (i := i) hi h2)
    have HO := hid (fun h h2 => indexA_ok (l := l) hcb h h2)
    rw [countA_yes hcb] at HC
    simp only at HC
    obtain ⟨hfi, hup⟩ := countB_parts hcb
    have hl8 := hfi.eight
    have hvl := hup.length
    have HFI := hid hfi
    have HUP := hid hup
    clear hcb hfi hup
    generalize indexA sizes vars l = r at *
    generalize cnt (toN sizes) (toN vars) = N0 at *
    go_enter Tryz.func34, Tryz.ntmps34
    go_wp2_with fail
    refine (HC.out _ HS.out HV.out).mono ?_
    rintro e w1 ⟨rfl, hb1⟩
    by_cases hlen : l.length = vars.length
    · have HLEN := hid hlen
      have hlb : ((l.length : Int) == (vars.length : Int)) = true := by simp [hlen]
      have hli : (l.length : Int) = (vars.length : Int) := by omega
      have hln : ¬ ¬ l.length = vars.length := fun h => h hlen
      clear HN
      go_wp2_with fail
      go_loopw [10, 29] (fun kv iv wr => ∃ i : Nat, i ≤ vars.length ∧ iv = .int .i64 i ∧ kv = .int .i64 (idxN (toN sizes) (toN vars) (toN l) i : Nat) ∧ Hid ((List.range i).all (valB (toN sizes) (toN vars) l) = true) ∧ Below w.heap.size w wr) (fun _ iv _ => vars.length - (intOf iv).toNat)
      case atStart => exact ⟨0, Nat.zero_le _, rfl, rfl, rfl, hb1⟩
      case round =>
        obtain ⟨i, hi, rfl, rfl, HI, hB⟩ := hrel
        clear hb1 hlb hli hln
        by_cases hlt : i < vars.length
        · obtain ⟨g, o, rfl, hg, c0⟩ := (HV.out.below hB) i hlt
          obtain ⟨g2, o2, rfl, hg2, c2⟩ := (HL.out.below hB) i (by rw [HLEN.out]; exact hlt)
          obtain ⟨hvi, hvn⟩ := HUP.out.nat hlt
          have hvb : valB (toN sizes) (toN vars) l i = decide (0 ≤ l[i]'(by omega) ∧ l[i]'(by omega) < (sz (toN sizes) vars[i].toNat : Int)) := by
            rw [valB, getD_eq (by omega), getN_eq (by rw [toN_length]; exact hlt), toN_get hlt]
          have hst : idxN (toN sizes) (toN vars) (toN l) (i + 1) = idxN (toN sizes) (toN vars) (toN l) i * sz (toN sizes) vars[i].toNat + (l[i]'(by omega)).toNat := by
            rw [idxN_succ, getN_eq (show i < (toN vars).length by rw [toN_length]; exact hlt), toN_get hlt, getN_eq (show i < (toN l).length by rw [toN_length]; omega), toN_get (by omega)]
          have HBI := hid (fun h2 => HB.out i HLEN.out hlt h2)
          have hbd : valB (toN sizes) (toN vars) l i = true → idxN (toN sizes) (toN vars) (toN l) (i + 1) < 65537 := fun h => by
            have h1 := idxN_lt (i + 1) (by rw [toN_length]; omega) (by omega) (val_succ HI.out h)
            have h2 : cnt (toN sizes) ((toN vars).take (i + 1)) ≤ 65536 := cnt_small HFI.out.sz_le (by rw [List.length_take, toN_length]; omega)
            omega
          have HBD := hid hbd
          have HVS := hid (fun h => val_succ HI.out h (i := i))
          have hxl : i < l.length := by omega
          have HIV := hid (fun V h x => isValue_any a ca sizes vars[i].toNat x V h HFI.out hvn)
          generalize hV : vars[i].toNat = v at *
          rw [← hvi] at c0
          have HSB := hid (HS.out.below hB)
          obtain ⟨g', o', rfl, hg', c1⟩ := HSB.out v hvn
          rw [← HFI.out.sz_eq hvn] at c1
          have HVB := hid hvb
          have HST := hid hst
          clear hst hvi hV hvb hbd
          generalize idxN (toN sizes) (toN vars) (toN l) i = X at *
          generalize sz (toN sizes) v = Y at *
          generalize l[i] = x at *
          go_wp2_with fail
          refine (HIV.out _ HSB.out x).mono ?_
          rintro e w2 ⟨rfl, hb2⟩
          have hB2 := hB.trans (hb2.mono hB.size)
          have c1' := (hb2.cell (p := ⟨g', _, none⟩) hg').trans c1
          have c2' := (hb2.cell (p := ⟨g2, _, none⟩) hg2).trans c2
          clear HIV HSB hb2 c1 c2
          by_cases e0 : 0 ≤ x ∧ x < (Y : Int)
          · rw [decide_eq_true e0]
            have hok : valB (toN sizes) (toN vars) l i = true := by rw [HVB.out]; exact decide_eq_true e0
            have h1 := HBD.out hok
            rw [HST.out] at h1
            have HS2 := hid (HVS.out hok)
            have hpi : ((X : Nat) : Int) * ((Y : Nat) : Int) = ((X * Y : Nat) : Int) := (Int.natCast_mul _ _).symm
            have hp0 : 0 ≤ (X : Int) * (Y : Int) := by rw [hpi]; omega
            have hp1 : (X : Int) * (Y : Int) + x ≤ 65536 := by rw [hpi]; omega
            have HFN : Hid ((X : Int) * (Y : Int) + x = ((X * Y + x.toNat : Nat) : Int)) := by show _ = _; rw [hpi]; omega
            obtain ⟨e1, e2⟩ := e0
            clear hpi h1 hok HBD HBI HB
            go_wp2_with fail
            go_quiet (fail)
            go_wp2
            go_roundw
            case rel => exact ⟨i + 1, by omega, by go_num, by rw [HST.out, ← HFN.out], HS2.out, below_dn hB2 _⟩
            case measure => simp [intOf]; omega
          · rw [decide_eq_false e0]
            have HE := hid (HBI.out (by rw [HVB.out]; exact decide_eq_false e0))
            go_wp2
            go_ret2
            exact ⟨by rw [HE.out]; rfl, hB2⟩
        · obtain rfl : i = vars.length := by omega
          have HE := hid (HO.out HLEN.out HI.out)
          go_wp2
          go_ret2
          exact ⟨by rw [HE.out]; rfl, hB⟩
    · have HE := hid (HN.out hlen)
      have hlb : ((l.length : Int) == (vars.length : Int)) = false := by simp; omega
      go_wp2
      go_ret2
      exact ⟨by rw [HE.out]; rfl, hb1⟩

/-- What Check answers. -/
def checkA (sizes vars : List Int) (m : Nat) : Int := if countB sizes vars = true then (if m = cnt (toN sizes) (toN vars) then 0 else 8) else 11
theorem checkA_none {sizes vars : List Int} {m : Nat} (h : countB sizes vars = false) : checkA sizes vars m = 11 := if_neg (by rw [h]; decide)
theorem checkA_no {sizes vars : List Int} {m : Nat} (h : countB sizes vars = true) (h1 : ¬ m = cnt (toN sizes) (toN vars)) : checkA sizes vars m = 8 := by rw [checkA, if_pos h, if_neg h1]
theorem checkA_yes {sizes vars : List Int} {m : Nat} (h : countB sizes vars = true) (h1 : m = cnt (toN sizes) (toN vars)) : checkA sizes vars m = 0 := by rw [checkA, if_pos h, if_pos h1]
/-- A table's two fields, fresh. -/
abbrev TC (u v : Value) : Obj := .cells #[u, v] 31
def TBox (w : World) (g : Nat) (u v : Value) : Prop := w.heap[g]? = some (.cells #[u, v] 31 (0, 0))
theorem TBox.c0 {w : World} {g : Nat} {u v : Value} (h : TBox w g u v) : w.cell? ⟨g, 0, none⟩ = some u := by rw [cell_of_row w g 0 _ _ (0, 0) h]; rfl
theorem TBox.c1 {w : World} {g : Nat} {u v : Value} (h : TBox w g u v) : w.cell? ⟨g, 1, none⟩ = some v := by rw [cell_of_row w g 1 _ _ (0, 0) h]; rfl
theorem TBox.lt {w : World} {g : Nat} {u v : Value} (h : TBox w g u v) : g < w.heap.size := (Array.getElem?_eq_some_iff.1 h).1
theorem TBox.below {w w' : World} {g B : Nat} {u v : Value} (h : TBox w g u v) (hb : Below B w w') (hB : g < B) : TBox w' g u v := (hb.block g hB).trans h
theorem TBox.at {w : World} {g : Nat} (hg : w.heap.size = g) (u v : Value) : TBox (w.alloc (TC u v)) g u v := by
  subst hg; exact heap_alloc_new _ _
theorem TBox.alloc {w : World} {g : Nat} {u v : Value} (h : TBox w g u v) (o : Obj) : TBox (w.alloc o) g u v := (Below.heap_alloc w o g h.lt).trans h
theorem TBox.drew {w : World} {g : Nat} {u v : Value} (h : TBox w g u v) : TBox w.drew g u v := h

set_option maxRecDepth 100000 in
set_option maxHeartbeats 1000000 in
theorem rCheck_any (a b c : Option Addr) (ca cb cc m : Nat) (sizes vars : List Int) (w : World) (hs : IntS w a sizes) (hv : IntS w b vars) (hn : sizes.length ≤ 140737488355328) (hm : vars.length ≤ 140737488355328) :
    Calls Tryz.prog 60 #[.slice a sizes.length ca, .agg #[.slice b vars.length cb, .slice c m cc]] w fun e w' => e = .returned (.int .i64 (checkA sizes vars m)) ∧ Below w.heap.size w w' := by
  have HS := hid hs
  have HV := hid hv
  have HC := hid (fun V h1 h2 => rCount_any a b ca cb sizes vars V h1 h2 hn hm)
  clear hs hv
  have hB0 : Below w.heap.size w (w.alloc (TC (.slice b vars.length cb) (.slice c m cc))) := (Below.refl _ w).alloc (Nat.le_refl _) _
  have hbx := TBox.at (w := w) rfl (.slice b vars.length cb) (.slice c m cc)
  cases hcb : countB sizes vars with
  | false =>
    have HA := hid (checkA_none (m := m) hcb)
    rw [countA_no hcb] at HC
    simp only at HC
    generalize checkA sizes vars m = r at *
    go_enter Tryz.func60, Tryz.ntmps60
    go_wp2_with fail
    refine (HC.out _ (HS.out.below hB0) (HV.out.below hB0)).mono ?_
    rintro e w1 ⟨rfl, hb1⟩
    have hB1 := hB0.trans (hb1.mono hB0.size)
    go_wp2
    go_ret
    exact ⟨by rw [HA.out]; rfl, hB1⟩
  | true =>
    have HN := hid (fun h => checkA_no (m := m) hcb h)
    have HY := hid (fun h => checkA_yes (m := m) hcb h)
    rw [countA_yes hcb] at HC
    simp only at HC
    obtain ⟨hfi, hup⟩ := countB_parts hcb
    have hsm : cnt (toN sizes) (toN vars) ≤ 65536 := cnt_small hfi.sz_le (by rw [toN_length]; have := hfi.eight; have := hup.length; omega)
    clear hcb hfi hup
    generalize checkA sizes vars m = r at *
    generalize cnt (toN sizes) (toN vars) = N0 at *
    go_enter Tryz.func60, Tryz.ntmps60
    go_wp2_with fail
    refine (HC.out _ (HS.out.below hB0) (HV.out.below hB0)).mono ?_
    rintro e w1 ⟨rfl, hb1⟩
    have hB1 := hB0.trans (hb1.mono hB0.size)
    have hx1 := hbx.below hb1 hbx.lt
    have k0 := hx1.c0
    have k1 := hx1.c1
    by_cases h : m = N0
    · have HE := hid (HY.out h)
      subst h
      go_wp2
      go_ret
      exact ⟨by rw [HE.out]; rfl, hB1⟩
    · have HE := hid (HN.out h)
      have hb : ((N0 : Int) == (m : Int)) = false := by simp; omega
      have hi : ¬ (N0 : Int) = (m : Int) := by omega
      go_wp2
      go_ret
      exact ⟨by rw [HE.out]; rfl, hB1⟩

end Go.Proofs.YtncccbdledcibaaGreatDoor

/- The document's answer: the assignment of a place. -/
namespace Go.Proofs.YtncccbdledcibaaGreatDoor
open Go.RowKit

theorem cnt_drop_dvd (S vs : List Nat) (i : Nat) : cnt S (vs.drop i) ∣ cnt S vs := by
  have h := cnt_append S (vs.take i) (vs.drop i)
  rw [List.take_append_drop] at h
  exact ⟨_, by rw [h, Nat.mul_comm]⟩
theorem digs_get {S : List Nat} (hp : Pos S) : ∀ (vs : List Nat) (k i : Nat) (_ : k < cnt S vs) (h : i < vs.length), (digs S vs k)[i]'(by rw [digs_length]; exact h) = k % cnt S (vs.drop i) / cnt S (vs.drop (i + 1))
  | [], _, _, _, h => absurd h (by simp)
  | v :: vs, k, 0, hk, _ => by
    show k / cnt S vs = k % cnt S (v :: vs) / cnt S vs
    rw [Nat.mod_eq_of_lt hk]
  | v :: vs, k, i + 1, _, h => by
    have h' : i < vs.length := by simpa using h
    have := digs_get hp vs (k % cnt S vs) i (Nat.mod_lt _ (cnt_pos hp vs)) h'
    show (digs S vs (k % cnt S vs))[i]'_ = k % cnt S (vs.drop i) / cnt S (vs.drop (i + 1))
    rw [this, Nat.mod_mod_of_dvd _ (cnt_drop_dvd S vs i)]
theorem digs_at {S : List Nat} (hp : Pos S) (vs : List Nat) (k i : Nat) (hk : k < cnt S vs) (h : i < vs.length) : (digs S vs k)[i]? = some (k % cnt S (vs.drop i) / cnt S (vs.drop (i + 1))) := by
  rw [List.getElem?_eq_getElem (by rw [digs_length]; exact h), digs_get hp vs k i hk h]
theorem cnt_drop (S vs : List Nat) {i : Nat} (h : i < vs.length) : cnt S (vs.drop i) = sz S vs[i] * cnt S (vs.drop (i + 1)) := by
  rw [List.drop_eq_getElem_cons h, cnt]
/-- What is written when i values are told. -/
def partD (l : List Nat) (i : Nat) : List Nat := l.take i ++ List.replicate (l.length - i) 0
theorem partD_zero (l : List Nat) : partD l 0 = List.replicate l.length 0 := by simp [partD]
theorem partD_length (l : List Nat) {i : Nat} (h : i ≤ l.length) : (partD l i).length = l.length := by simp [partD]; omega
theorem partD_all (l : List Nat) : partD l l.length = l := by simp [partD]
theorem partD_set (l : List Nat) {i : Nat} (h : i < l.length) : (partD l i).set i l[i] = partD l (i + 1) := by
  rw [partD, partD, List.set_append_right _ _ (by simp; omega), List.take_succ_eq_append_getElem h]
  have e : l.length - i = (l.length - (i + 1)) + 1 := by omega
  rw [e, List.replicate_succ, List.length_take, Nat.min_eq_left (by omega), Nat.sub_self, List.set_cons_zero, List.append_assoc]
  rfl
/-- Natural numbers as ints. -/
def iL (l : List Nat) : List Int := l.map fun x : Nat => (x : Int)
theorem iL_length (l : List Nat) : (iL l).length = l.length := by simp [iL]
theorem toN_iL (l : List Nat) : toN (iL l) = l := by simp [toN, iL, Function.comp_def]
theorem RowI.ints {w : World} {g : Nat} {l : List Nat} (h : RowI w g l) : IntS w (some ⟨g, 0, none⟩) (iL l) := fun k hk => by
  rw [iL_length] at hk
  refine ⟨g, 0, rfl, h.lt, ?_⟩
  rw [Nat.zero_add, h.cell k hk]
  simp [iL]

theorem wrap_le (n : Nat) (h : n ≤ 65536) : wrap64 (n : Int) = (n : Int) := by
  rw [wrap64]
  omega

/-- What Where answers. -/
def whereL (sizes vars : List Int) (k : Int) : List Nat := if countB sizes vars = true ∧ 0 ≤ k ∧ k < (cnt (toN sizes) (toN vars) : Int) then digs (toN sizes) (toN vars) k.toNat else []
def whereE (sizes vars : List Int) (k : Int) : Int := if countB sizes vars = true then (if 0 ≤ k ∧ k < (cnt (toN sizes) (toN vars) : Int) then 0 else 15) else 11

set_option maxRecDepth 100000 in
set_option maxHeartbeats 400000 in
theorem rWhere_any (a b : Option Addr) (ca cb : Nat) (sizes vars : List Int) (k : Int) (w : World) (hs : IntS w a sizes) (hv : IntS w b vars) (hn : sizes.length ≤ 140737488355328) (hm : vars.length ≤ 140737488355328) :
    Calls Tryz.prog 21 #[.slice a sizes.length ca, .slice b vars.length cb, .int .i64 k] w fun e w' => ∃ (c : Option Addr) (cc : Nat), e = .returned (.tuple #[.slice c (whereL sizes vars k).length cc, .int .i64 (whereE sizes vars k)]) ∧ IntS w' c (iL (whereL sizes vars k)) ∧ Below w.heap.size w w' := by
  obtain ⟨i0, hi0, hz0, hz1, hz2⟩ := info_parts Tryz.infoInt
  have HS := hid hs
  have HV := hid hv
  have HC := hid (fun V h1 h2 => rCount_any a b ca cb sizes vars V h1 h2 hn hm)
  clear hs hv
  cases hcb : countB sizes vars with
  | false =>
    have HL : Hid (whereL sizes vars k = []) := if_neg (by rw [hcb]; simp)
    have HE : Hid (whereE sizes vars k = 11) := if_neg (by rw [hcb]; decide)
    rw [countA_no hcb] at HC
    simp only at HC
    generalize whereL sizes vars k = rl at *
    generalize whereE sizes vars k = re at *
    go_enter Tryz.func21, Tryz.ntmps21
    go_wp2_with fail
    refine (HC.out _ HS.out HV.out).mono ?_
    rintro e w1 ⟨rfl, hb1⟩
    go_wp2
    go_ret2
    exact ⟨none, 0, by rw [HL.out, HE.out]; rfl, by rw [HL.out]; exact fun k hk => absurd hk (by simp [iL]), hb1⟩
  | true =>
    rw [countA_yes hcb] at HC
    simp only at HC
    obtain ⟨hfi, hup⟩ := countB_parts hcb
    have hl8 := hfi.eight
    have hvl := hup.length
    have hsm : cnt (toN sizes) (toN vars) ≤ 65536 := cnt_small hfi.sz_le (by rw [toN_length]; omega)
    by_cases hk : 0 ≤ k ∧ k < (cnt (toN sizes) (toN vars) : Int)
    · have HL : Hid (whereL sizes vars k = digs (toN sizes) (toN vars) k.toNat) := if_pos ⟨hcb, hk⟩
      have HE : Hid (whereE sizes vars k = 0) := by show _ = _; rw [whereE, if_pos hcb, if_pos hk]
      rw [HL.out, HE.out]
      obtain ⟨hk0, hk1⟩ := hk
      obtain ⟨K, rfl⟩ : ∃ K : Nat, k = K := ⟨k.toNat, by omega⟩
      rw [Int.toNat_natCast]
      have hK : K < cnt (toN sizes) (toN vars) := by omega
      have HD := hid (fun i h => digs_at hfi.pos (toN vars) K i hK h)
      have hdl : (digs (toN sizes) (toN vars) K).length = vars.length := by rw [digs_length, toN_length]
      have HFI := hid hfi
      have HUP := hid hup
      have HSM := hid (fun i => show cnt (toN sizes) ((toN vars).drop i) ≤ 65536 from cnt_small hfi.sz_le (by rw [List.length_drop, toN_length]; omega))
      have HPO := hid (fun i => cnt_pos hfi.pos ((toN vars).drop i))
      have HC0 : Hid (cnt (toN sizes) (toN vars) = cnt (toN sizes) ((toN vars).drop 0) ∧ K = K % cnt (toN sizes) ((toN vars).drop 0)) := ⟨by rw [List.drop_zero], by rw [List.drop_zero, Nat.mod_eq_of_lt hK]⟩
      clear HL HE hcb hfi hup hK
      generalize digs (toN sizes) (toN vars) K = ds at *
      rw [hdl]
      go_enter Tryz.func21, Tryz.ntmps21
      go_wp2_with fail
      refine (HC.out _ HS.out HV.out).mono ?_
      rintro e w1 ⟨rfl, hb1⟩
      go_wp2_with (first
        | (at_make; refine wpList_make_full _ rfl _ _ 27 rfl w1.heap.size 3 i0 (.int .i64 0) 1 Tryz.underlying27 hi0 hz0 hz1 .i64 .i64 _ _ vars.length rfl rfl (by go_num) (by go_num) (by rw [hz2]; omega) (by unfold maxLen; omega) (Nat.le_refl _) ?_; intro w2 hown2 hgrow2))
      have hb2 := block_of_own hown2
      rw [made_ints] at hb2
      have hB2 : Below w.heap.size w w2 := hb1.grown hgrow2 hb1.size (fun k e => by cases e)
      have HI : Hid (RowI w2 w1.heap.size (List.replicate vars.length 0)) := hb2
      have hlt1 := hb1.size
      clear hown2 hgrow2 hb2
      go_wp2_with fail
      go_loopw [2, 8, 11] (fun kv nv iv wr => ∃ i : Nat, i ≤ vars.length ∧ iv = .int .i64 i ∧ nv = .int .i64 (cnt (toN sizes) ((toN vars).drop i) : Nat) ∧ kv = .int .i64 (K % cnt (toN sizes) ((toN vars).drop i) : Nat) ∧ Hid (RowI wr w1.heap.size (partD ds i)) ∧ Below w.heap.size w wr) (fun _ _ iv _ => vars.length - (intOf iv).toNat)
      case atStart => exact ⟨0, Nat.zero_le _, rfl, by rw [← HC0.out.1], by rw [← HC0.out.2], by rw [partD_zero, hdl]; exact HI, hB2⟩
      case round =>
        obtain ⟨i, hi, rfl, rfl, rfl, HR, hB⟩ := hrel
        by_cases hlt : i < vars.length
        · obtain ⟨g, o, rfl, hg, c0⟩ := (HV.out.below hB) i hlt
          obtain ⟨hvi, hvn⟩ := HUP.out.nat hlt
          have hil : i < (toN vars).length := by rw [toN_length]; exact hlt
          have hdr := cnt_drop (toN sizes) (toN vars) hil
          rw [toN_get hlt] at hdr
          have hdg : ds[i]'(by omega) = K % cnt (toN sizes) ((toN vars).drop i) / cnt (toN sizes) ((toN vars).drop (i + 1)) := by
            have := HD.out i hil
            rwa [List.getElem?_eq_getElem (by omega), Option.some.injEq] at this
          have hps := HPO.out (i + 1)
          have hns := HSM.out i
          have hn1' := HSM.out (i + 1)
          have hz := sz_pos HFI.out.pos vars[i].toNat
          have hz4 := HFI.out.sz_le vars[i].toNat
          have hmm : K % cnt (toN sizes) ((toN vars).drop (i + 1)) = K % cnt (toN sizes) ((toN vars).drop i) % cnt (toN sizes) ((toN vars).drop (i + 1)) := by rw [hdr, mod_mod_c]
          generalize hV : vars[i].toNat = v at *
          rw [← hvi] at c0
          obtain ⟨g', o', rfl, hg', c1⟩ := (HS.out.below hB) v hvn
          rw [← HFI.out.sz_eq hvn] at c1
          have hset := hid (HR.out.set i (ds[i]'(by omega)))
          rw [partD_set ds (by omega)] at hset
          have hcell : wr.cell? ⟨w1.heap.size, i, none⟩ = some (.int .i64 ((partD ds i)[i]'(by rw [partD_length _ (by omega)]; omega) : Nat)) := HR.out.cell i (by rw [partD_length _ (by omega)]; omega)
          have hfz := HR.out.fz i
          have hdi : i < ds.length := by omega
          rw [hdg] at hset
          generalize (partD ds i)[i]'(by rw [partD_length _ (by omega)]; omega) = z at *
          have HMM := hid hmm
          clear hmm hdg hvi hV HR HI
          have hq : cnt (toN sizes) ((toN vars).drop i) / sz (toN sizes) v = cnt (toN sizes) ((toN vars).drop (i + 1)) := by rw [hdr, Nat.mul_div_cancel_left _ (by omega)]
          have HQ := hid hq
          clear hq hdr
          have hmod := Nat.mod_lt K (show 0 < cnt (toN sizes) ((toN vars).drop i) from HPO.out i)
          obtain ⟨n1, hn1e⟩ : ∃ n, cnt (toN sizes) ((toN vars).drop (i + 1)) = n := ⟨_, rfl⟩
          rw [hn1e] at hset hps hn1' HMM HQ
          have HN1 := hid hn1e
          clear hn1e
          generalize cnt (toN sizes) ((toN vars).drop i) = n0 at *
          generalize sz (toN sizes) v = s0 at *
          generalize K % n0 = k0 at *
          have hq1 : (n0 : Int) / (s0 : Int) = (n1 : Int) := by rw [← HQ.out]; exact (Int.natCast_ediv _ _).symm
          have hq2 : (k0 : Int) / (n1 : Int) = ((k0 / n1 : Nat) : Int) := (Int.natCast_ediv _ _).symm
          have hq3 : (k0 : Int) % (n1 : Int) = ((k0 % n1 : Nat) : Int) := (Int.natCast_emod _ _).symm
          have hkd : k0 / n1 ≤ 65536 := Nat.le_trans (Nat.div_le_self _ _) (by omega)
          have hkm : k0 % n1 ≤ 65536 := Nat.le_trans (Nat.mod_le _ _) (by omega)
          generalize k0 / n1 = dd at *
          generalize k0 % n1 = mm at *
          have hz1' : ¬ (s0 : Int) = 0 := by omega
          have hz2' : ¬ (n1 : Int) = 0 := by omega
          go_wp2
          go_roundw
          case rel => exact ⟨i + 1, by omega, by go_num, by rw [HN1.out], by rw [HN1.out, HMM.out, ← hq3], (by have h := hset.out; rwa [← hq2] at h), hB.setCell (p := ⟨w1.heap.size, _, none⟩) hlt1 _⟩
          case measure => simp [intOf]; omega
        · obtain rfl : i = vars.length := by omega
          have hfin := HR.out.ints
          rw [← hdl, partD_all] at hfin
          go_wp2
          go_ret2
          exact ⟨some ⟨w1.heap.size, 0, none⟩, vars.length, rfl, hfin, hB⟩
    · have HL : Hid (whereL sizes vars k = []) := if_neg (fun h => hk h.2)
      have HE : Hid (whereE sizes vars k = 15) := by show _ = _; rw [whereE, if_pos hcb, if_neg hk]
      clear hcb hfi hup
      generalize whereL sizes vars k = rl at *
      generalize whereE sizes vars k = re at *
      generalize cnt (toN sizes) (toN vars) = N0 at *
      rcases (show k < 0 ∨ (0 ≤ k ∧ (N0 : Int) ≤ k) by omega) with h3 | ⟨h3, h4⟩
      all_goals
        clear hk
        go_enter Tryz.func21, Tryz.ntmps21
        go_wp2_with fail
        refine (HC.out _ HS.out HV.out).mono ?_
        rintro e w1 ⟨rfl, hb1⟩
        go_wp2
        go_ret2
        exact ⟨none, 0, by rw [HL.out, HE.out]; rfl, by rw [HL.out]; exact fun k hk => absurd hk (by simp [iL]), hb1⟩
end Go.Proofs.YtncccbdledcibaaGreatDoor

/- Package graph: lists of lists, and their sets. -/
namespace Go.Proofs.YtncccbdledcibaaGreatDoor
open Go.RowKit

/-- A list of lists of ints in memory. -/
def LsS (w : World) (a : Option Addr) (L : List (List Int)) : Prop := ∀ k (h : k < L.length), ∃ g o b c, a = some ⟨g, o, none⟩ ∧ g < w.heap.size ∧ w.cell? ⟨g, o + k, none⟩ = some (.slice b L[k].length c) ∧ IntS w b L[k]
theorem LsS.below {w w' : World} {a : Option Addr} {L : List (List Int)} (h : LsS w a L) (hb : Below w.heap.size w w') : LsS w' a L := fun k hk => by
  obtain ⟨g, o, b, c, h1, h2, h3, h4⟩ := h k hk
  exact ⟨g, o, b, c, h1, Nat.lt_of_lt_of_le h2 hb.size, (hb.cell (p := ⟨g, o + k, none⟩) h2).trans h3, h4.below hb⟩
/-- What is nil in a list of lists has no room. -/
def LsN (w : World) (a : Option Addr) (L : List (List Int)) : Prop := ∀ k, k < L.length → ∀ g o b n c, a = some ⟨g, o, none⟩ → w.cell? ⟨g, o + k, none⟩ = some (.slice b n c) → b = none → c = 0
theorem LsN.below {w w' : World} {a : Option Addr} {L : List (List Int)} (h : LsN w a L) (hl : LsS w a L) (hb : Below w.heap.size w w') : LsN w' a L := fun k hk g o b n c ha hc hn => by
  obtain ⟨g', o', _, _, e, hg, _⟩ := hl k hk
  rw [ha] at e
  cases e
  exact h k hk g o b n c ha ((hb.cell (p := ⟨g, o + k, none⟩) hg).symm.trans hc) hn
abbrev uv (x : Nat) : Value := .int .u32 (x : Int)
/-- The block g holds these sets. -/
def RowU (w : World) (g : Nat) (l : List Nat) : Prop := w.heap[g]? = some (.cells (l.map uv).toArray 157 (0, 0))
theorem RowU.cell {w : World} {g : Nat} {l : List Nat} (h : RowU w g l) (j : Nat) (hj : j < l.length) : w.cell? ⟨g, j, none⟩ = some (.int .u32 (l[j] : Nat)) := by
  rw [cell_of_row w g j _ _ (0, 0) h]
  simp [uv, hj]
theorem RowU.fz {w : World} {g : Nat} {l : List Nat} (h : RowU w g l) (j : Nat) : w.frozen? ⟨g, j, none⟩ = false := frozen_of_row w g j _ _ h
theorem RowU.lt {w : World} {g : Nat} {l : List Nat} (h : RowU w g l) : g < w.heap.size := (Array.getElem?_eq_some_iff.1 h).1
theorem RowU.below {w w' : World} {g b : Nat} {l : List Nat} (h : RowU w g l) (hb : Below b w w') (hg : g < b) : RowU w' g l := (hb.block g hg).trans h
theorem RowU.set {w : World} {g : Nat} {l : List Nat} (h : RowU w g l) (j y : Nat) : RowU (w.setCell ⟨g, j, none⟩ (.int .u32 (y : Int))) g (l.set j y) := by
  have h2 := heap_setCell_same w g j _ _ (.int .u32 (y : Int)) h
  rw [RowU, h2]
  simp [List.map_set, uv]
theorem made_sets (n : Nat) : (madeCells (Value.int .u32 0).cells (n * 1)).toList = (List.replicate n (0 : Nat)).map uv := by
  rw [show (Value.int .u32 0).cells = #[Value.int .u32 0] from rfl, toList_madeCells_one, Nat.mul_one, List.map_replicate]; rfl
theorem Tryz.infoSet : (Tryz.prog.info? 157).map (fun i => (i.zero, i.size, i.bytes)) = some (some (.int .u32 0), 1, 4) := by kernel_rfl

/-- All lists rise. -/
def allRis (L : List (List Int)) (n : Nat) : Bool := L.all fun l => risB l n
/-- Their sets. -/
def masks (L : List (List Int)) : List Nat := L.map fun l => mskN (toN l)
theorem masks_length (L : List (List Int)) : (masks L).length = L.length := by simp [masks]
theorem allRis_bad {L : List (List Int)} {n i : Nat} (h : i < L.length) (e : risB L[i] n = false) : allRis L n = false := by
  rw [allRis, List.all_eq_false]; exact ⟨L[i], List.getElem_mem h, by rw [e]; decide⟩
theorem setA_yes {l : List Int} {n : Nat} (h : risB l n = true) : setA l n = mskN (toN l) := if_pos h

set_option maxRecDepth 100000 in
set_option maxHeartbeats 1000000 in
theorem setsOf_any (a : Option Addr) (ca n : Nat) (L : List (List Int)) (w : World) (h : LsS w a L) (hL : L.length ≤ 8) (hn : n ≤ 8) (hl : ∀ l ∈ L, l.length ≤ 140737488355328) :
    Calls Tryz.prog 137 #[.slice a L.length ca, .int .i64 (n : Nat)] w fun e w' => Below w.heap.size w w' ∧
      ((allRis L n = true ∧ ∃ G, e = .returned (.tuple #[.slice (some ⟨G, 0, none⟩) L.length L.length, .bool true]) ∧ w.heap.size ≤ G ∧ RowU w' G (masks L)) ∨ (allRis L n = false ∧ e = .returned (.tuple #[.slice none 0 0, .bool false]))) := by
  obtain ⟨i0, hi0, hz0, hz1, hz2⟩ := info_parts Tryz.infoSet
  have HF := hid h
  have HB := hid (fun i h e => allRis_bad (L := L) (n := n) (i := i) h e)
  have HT : Hid ((∀ i (h : i < L.length), risB L[i] n = true) → allRis L n = true) := fun h => List.all_eq_true.2 fun l hl => by
    obtain ⟨i, hi, rfl⟩ := List.getElem_of_mem hl
    exact h i hi
  have HM : Hid (∀ i (h : i < L.length), (masks L)[i]? = some (mskN (toN L[i]))) := fun i h => by simp [masks, h]
  have HSZ := hid hl
  have hml := masks_length L
  generalize allRis L n = rb at *
  generalize masks L = ms at *
  clear h hl
  go_enter Tryz.func137, Tryz.ntmps137
  go_wp2_with (first
    | (at_make; refine wpList_make_full _ rfl _ _ 92 rfl w.heap.size 157 i0 (.int .u32 0) 1 Tryz.underlying92 hi0 hz0 hz1 .i64 .i64 _ _ L.length rfl rfl (by go_num) (by go_num) (by rw [hz2]; omega) (by unfold maxLen; omega) (Nat.le_refl _) ?_; intro w2 hown2 hgrow2))
  have hb2 := block_of_own hown2
  rw [made_sets] at hb2
  have HB2 : Hid (Below w.heap.size w w2) := (Below.refl _ w).grown hgrow2 (Nat.le_refl _) (fun k e => by cases e)
  have HI : Hid (RowU w2 w.heap.size (List.replicate L.length 0)) := hb2
  clear hown2 hgrow2 hb2
  go_wp2_with fail
  go_loopw [15] (fun iv wr => ∃ i : Nat, i ≤ L.length ∧ iv = .int .i64 i ∧ Hid (∀ j (h : j < L.length), j < i → risB L[j] n = true) ∧ Hid (RowU wr w.heap.size (partD ms i)) ∧ Hid (Below w.heap.size w wr)) (fun iv _ => L.length - (intOf iv).toNat)
  case atStart => exact ⟨0, Nat.zero_le _, rfl, fun j _ h => absurd h (by omega), by rw [partD_zero, hml]; exact HI, HB2⟩
  case round =>
    obtain ⟨i, hi, rfl, HR, HU, HBW⟩ := hrel
    clear HI HB2
    by_cases hlt : i < L.length
    · obtain ⟨g, o, b, c, rfl, hg, c0, hI⟩ := (HF.out.below HBW.out) i hlt
      have hll := HSZ.out L[i] (List.getElem_mem hlt)
      have HII := hid hI
      clear hI
      have HBi := hid (HB.out i hlt)
      have HMi := hid (HM.out i hlt)
      have HRi : Hid (risB L[i] n = true → ∀ j (h : j < L.length), j < i + 1 → risB L[j] n = true) := fun h j hj hji => by
        rcases Nat.lt_or_ge j i with h2 | h2
        · exact HR.out j hj h2
        · obtain rfl : j = i := by omega
          exact h
      have HSA : Hid (risB L[i] n = true → setA L[i] n = mskN (toN L[i])) := setA_yes
      generalize L[i] = l at *
      go_wp2_with fail
      refine (setOf_any b c l n _ HII.out hll hn).mono ?_
      rintro e w3 ⟨rfl, rfl⟩
      cases hr : risB l n with
      | false =>
        have HE := hid (HBi.out hr)
        generalize setA l n = s at *
        go_wp2
        go_ret2
        exact ⟨HBW.out, .inr ⟨HE.out, rfl⟩⟩
      | true =>
        rw [HSA.out hr]
        have HPR := hid (HRi.out hr)
        have k0 := HU.out.cell i (by rw [partD_length _ (by omega)]; omega)
        have f0 := HU.out.fz i
        have HSE := hid (HU.out.set i (mskN (toN l)))
        have HPS : Hid ((partD ms i).set i (mskN (toN l)) = partD ms (i + 1)) := by
          show _ = _
          obtain ⟨h1, h2⟩ := List.getElem?_eq_some_iff.1 HMi.out
          rw [← h2]
          exact partD_set ms h1
        rw [HPS.out] at HSE
        have HBS := hid (HBW.out.setCell (p := ⟨w.heap.size, i, none⟩) (Nat.le_refl _) (.int .u32 (mskN (toN l) : Nat)))
        clear hr
        generalize mskN (toN l) = s at *
        generalize (partD ms i)[i]'(by rw [partD_length _ (by omega)]; omega) = z at *
        go_wp2
        go_roundw
        case rel => exact ⟨i + 1, by omega, by go_num, HPR, HSE, HBS⟩
        case measure => simp [intOf]; omega
    · obtain rfl : i = L.length := by omega
      have HE := hid (HT.out fun j hj => HR.out j hj hj)
      have hU := HU.out
      rw [← hml, partD_all] at hU
      have HUU := hid hU
      clear hU
      go_wp2
      go_ret2
      exact ⟨HBW.out, .inl ⟨HE.out, _, rfl, Nat.le_refl _, HUU.out⟩⟩
end Go.Proofs.YtncccbdledcibaaGreatDoor

/- Package graph: readOthers. -/
namespace Go.Proofs.YtncccbdledcibaaGreatDoor
open Go.RowKit

/-- No list has its own number. -/
def noSelf (L : List (List Int)) : Bool := (List.range L.length).all fun v => !decide (v ∈ toN (L.getD v []))
/-- Lists of other nodes. -/
def gB (L : List (List Int)) : Bool := decide (1 ≤ L.length ∧ L.length ≤ 8) && allRis L L.length && noSelf L

set_option maxRecDepth 100000 in
set_option maxHeartbeats 400000 in
theorem mayCount_any (n : Nat) (w : World) :
    Calls Tryz.prog 136 #[.int .i64 (n : Nat)] w fun e w' => e = .returned (.bool (decide (1 ≤ n ∧ n ≤ 8))) ∧ w' = w := by
  by_cases h1 : 1 ≤ n
  · by_cases h2 : n ≤ 8
    · rw [decide_eq_true (p := 1 ≤ n ∧ n ≤ 8) ⟨h1, h2⟩]
      have e1 : (1 : Int) ≤ (n : Int) := by omega
      have e2 : (n : Int) ≤ 8 := by omega
      go_enter Tryz.func136, Tryz.ntmps136
      go_wp2
      go_ret
      exact ⟨rfl, rfl⟩
    · rw [decide_eq_false (p := 1 ≤ n ∧ n ≤ 8) (fun h => h2 h.2)]
      have e1 : (1 : Int) ≤ (n : Int) := by omega
      have HE : Hid (decide ((n : Int) ≤ 8) = false) := decide_eq_false (by omega)
      clear h2
      go_enter Tryz.func136, Tryz.ntmps136
      go_wp2
      go_ret
      exact ⟨by rw [HE.out]; rfl, rfl⟩
  · rw [decide_eq_false (p := 1 ≤ n ∧ n ≤ 8) (fun h => h1 h.1)]
    obtain rfl : n = 0 := by omega
    clear h1
    go_enter Tryz.func136, Tryz.ntmps136
    go_wp2
    go_ret
    exact ⟨rfl, rfl⟩
theorem ris_all {l : List Int} {n : Nat} (hn : n ≤ 8) (h : risB l n = true) : ∀ u ∈ toN l, u < 8 := by
  have := ris_small (l := l) (n := n) (i := l.length) hn h (Nat.le_refl _)
  rwa [List.take_length] at this
theorem allRis_at {L : List (List Int)} {n i : Nat} (h : allRis L n = true) (hi : i < L.length) : risB L[i] n = true := List.all_eq_true.1 h _ (List.getElem_mem hi)
theorem noSelf_bad {L : List (List Int)} {i : Nat} (h : i < L.length) (e : i ∈ toN L[i]) : noSelf L = false := by
  rw [noSelf, List.all_eq_false]
  refine ⟨i, List.mem_range.2 h, ?_⟩
  rw [List.getD_eq_getElem?_getD, List.getElem?_eq_getElem h]
  simpa using e
theorem noSelf_good {L : List (List Int)} (h : ∀ i (hi : i < L.length), ¬ i ∈ toN L[i]) : noSelf L = true := by
  rw [noSelf, List.all_eq_true]
  intro i hi
  have hi' := List.mem_range.1 hi
  rw [List.getD_eq_getElem?_getD, List.getElem?_eq_getElem hi']
  simpa using h i hi'

set_option maxRecDepth 100000 in
set_option maxHeartbeats 1000000 in
theorem readOthers_any (a : Option Addr) (ca : Nat) (L : List (List Int)) (w : World) (h : LsS w a L) (hl : ∀ l ∈ L, l.length ≤ 140737488355328) :
    Calls Tryz.prog 105 #[.slice a L.length ca] w fun e w' => Below w.heap.size w w' ∧
      ((gB L = true ∧ ∃ G, e = .returned (.tuple #[.slice (some ⟨G, 0, none⟩) L.length L.length, .bool true]) ∧ w.heap.size ≤ G ∧ RowU w' G (masks L)) ∨ (gB L = false ∧ ∃ v, e = .returned (.tuple #[v, .bool false]))) := by
  have HF := hid h
  have HL := hid hl
  have HG : Hid (gB L = (decide (1 ≤ L.length ∧ L.length ≤ 8) && allRis L L.length && noSelf L)) := rfl
  generalize gB L = gb at *
  clear h hl
  cases hm : decide (1 ≤ L.length ∧ L.length ≤ 8) with
  | false =>
    have HC := hid (fun V : World => mayCount_any L.length V)
    rw [hm] at HG HC
    have HGF : Hid (gb = false) := by show _ = _; rw [HG.out]; rfl
    clear hm HG
    go_enter Tryz.func105, Tryz.ntmps105
    go_wp2_with fail
    refine (HC.out _).mono ?_
    rintro e w1 ⟨rfl, rfl⟩
    go_wp2
    go_ret2
    exact ⟨Below.refl _ _, .inr ⟨HGF.out, _, rfl⟩⟩
  | true =>
    have HC := hid (fun V : World => mayCount_any L.length V)
    rw [hm] at HG HC
    obtain ⟨h1, h8⟩ := of_decide_eq_true hm
    have HS := hid (fun (V : World) (hV : LsS V a L) => setsOf_any a ca L.length L V hV h8 h8 HL.out)
    have HRA : Hid (allRis L L.length = true → ∀ i (hi : i < L.length), ∀ u ∈ toN L[i], u < 8) := fun h i hi => ris_all h8 (allRis_at h hi)
    have HNB := hid (fun i h e => noSelf_bad (L := L) (i := i) h e)
    have HNG := hid (fun h => noSelf_good (L := L) h)
    have HM : Hid (∀ i (h : i < L.length), (masks L)[i]? = some (mskN (toN L[i]))) := fun i h => by simp [masks, h]
    clear hm
    generalize allRis L L.length = ra at *
    generalize noSelf L = rn at *
    generalize masks L = ms at *
    go_enter Tryz.func105, Tryz.ntmps105
    go_wp2_with fail
    refine (HC.out _).mono ?_
    rintro e w1 ⟨rfl, rfl⟩
    go_wp2_with fail
    refine (HS.out _ HF.out).mono ?_
    rintro e w2 ⟨hb, ⟨hra, G, rfl, hG, hU⟩ | ⟨hra, rfl⟩⟩
    · have HU := hid hU
      have HB := hid hb
      have HAT := hid (HRA.out hra)
      have HGB : Hid (gb = rn) := by show _ = _; rw [HG.out, hra]; rfl
      clear hU hb hra HG
      go_wp2_with fail
      go_loopw [21] (fun iv wr => ∃ i : Nat, i ≤ L.length ∧ iv = .int .i64 i ∧ Hid (∀ j (h : j < L.length), j < i → ¬ j ∈ toN L[j]) ∧ wr = w2) (fun iv _ => L.length - (intOf iv).toNat)
      case atStart => exact ⟨0, Nat.zero_le _, rfl, fun j _ h => absurd h (by omega), rfl⟩
      case round =>
        obtain ⟨i, hi, rfl, HR, rfl⟩ := hrel
        by_cases hlt : i < L.length
        · have hmi := HM.out i hlt
          obtain ⟨hm1, hm2⟩ := List.getElem?_eq_some_iff.1 hmi
          have c0 := HU.out.cell i hm1
          rw [hm2] at c0
          have HNi := hid (HNB.out i hlt)
          have HRi : Hid (¬ i ∈ toN L[i] → ∀ j (h : j < L.length), j < i + 1 → ¬ j ∈ toN L[j]) := fun h j hj hji => by
            rcases Nat.lt_or_ge j i with h2 | h2
            · exact HR.out j hj h2
            · obtain rfl : j = i := by omega
              exact h
          have HH := hid (fun V : World => sHas_any (toN L[i]) i V (HAT.out i hlt) (by omega))
          clear hmi hm1 hm2
          generalize toN L[i] = l at *
          go_wp2_with fail
          refine (HH.out _).mono ?_
          rintro e w3 ⟨rfl, rfl⟩
          by_cases hin : i ∈ l
          · rw [decide_eq_true hin]
            have HE := hid (HNi.out hin)
            clear hin
            go_wp2
            go_ret2
            exact ⟨HB.out, .inr ⟨by rw [HGB.out]; exact HE.out, _, rfl⟩⟩
          · rw [decide_eq_false hin]
            have HE := hid (HRi.out hin)
            clear hin
            go_wp2
            go_roundw
            case rel => exact ⟨i + 1, by omega, by go_num, HE, trivial⟩
            case measure => simp [intOf]; omega
        · obtain rfl : i = L.length := by omega
          have HE := hid (HNG.out fun j hj => HR.out j hj hj)
          go_wp2
          go_ret2
          exact ⟨HB.out, .inl ⟨by rw [HGB.out]; exact HE.out, G, rfl, hG, HU.out⟩⟩
    · have HGB : Hid (gb = false) := by show _ = _; rw [HG.out, hra]; rfl
      have HB := hid hb
      clear hra hb HG
      go_wp2_with fail
      go_loopw [21] (fun iv wr => iv = .int .i64 0 ∧ wr = w2) (fun _ _ => 0)
      case atStart => exact ⟨rfl, rfl⟩
      case round =>
        obtain ⟨rfl, rfl⟩ := hrel
        go_wp2
        go_ret2
        exact ⟨HB.out, .inr ⟨HGB.out, _, rfl⟩⟩
end Go.Proofs.YtncccbdledcibaaGreatDoor
