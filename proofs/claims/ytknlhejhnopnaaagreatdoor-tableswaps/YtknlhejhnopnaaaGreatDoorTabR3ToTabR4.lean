/- Sizes and variables that may be, as natural numbers; the document's answer: how many assignments there are. -/
import Derived.Test.YtknlhejhnopnaaaGreatDoorTabR1ToTabN
namespace Go.Proofs.YtknlhejhnopnaaaGreatDoor
open Go.RowKit

def toN (l : List Int) : List Nat := l.map Int.toNat
theorem toN_length (l : List Int) : (toN l).length = l.length := by simp [toN]
theorem toN_get {l : List Int} {i : Nat} (h : i < l.length) : (toN l)[i]'(by rw [toN_length]; exact h) = l[i].toNat := by simp [toN]

/-- Sizes that may be. -/
structure Fine (l : List Int) : Prop where
  one : 1 ≤ l.length
  eight : l.length ≤ 8
  each : ∀ i (h : i < l.length), 1 ≤ l[i] ∧ l[i] ≤ 4
theorem fit_fine {l : List Int} (h : fitB l = true) : Fine l := by
  rw [fitB, Bool.and_eq_true, decide_eq_true_iff] at h
  exact ⟨h.1.1, h.1.2, fun i hi => by
    have := List.all_eq_true.1 h.2 l[i] (List.getElem_mem hi)
    simpa [okSize] using this⟩
theorem Fine.pos {l : List Int} (h : Fine l) : Pos (toN l) := by
  intro x hx
  obtain ⟨i, hi, rfl⟩ := List.mem_iff_getElem.1 hx
  rw [toN_length] at hi
  rw [toN_get hi]
  have := h.each i hi
  omega
theorem Fine.sz_le {l : List Int} (h : Fine l) (v : Nat) : sz (toN l) v ≤ 4 := by
  rw [sz]
  by_cases hv : v < l.length
  · rw [List.getElem?_eq_getElem (by rw [toN_length]; exact hv), Option.getD_some, toN_get hv]
    have := h.each v hv
    omega
  · rw [List.getElem?_eq_none (by rw [toN_length]; omega)]; simp
theorem Fine.sz_eq {l : List Int} (h : Fine l) {v : Nat} (hv : v < l.length) : (sz (toN l) v : Int) = l[v] := by
  rw [sz, List.getElem?_eq_getElem (by rw [toN_length]; exact hv), Option.getD_some, toN_get hv]
  have := h.each v hv
  omega

/-- A list that rises, of numbers from 0 on below n. -/
structure Up (l : List Int) (n : Nat) : Prop where
  each : ∀ i (h : i < l.length), 0 ≤ l[i] ∧ l[i] < n
  lt : ∀ i j (hj : j < l.length) (hi : i < j), l[i] < l[j]
theorem ris_up {l : List Int} {n : Nat} (h : risB l n = true) : Up l n := by
  have hok : ∀ i (hi : i < l.length), 0 ≤ l[i] ∧ l[i] < (n : Int) ∧ (0 < i → l.getD (i - 1) 0 < l[i]) := fun i hi => by
    have := List.all_eq_true.1 h i (List.mem_range.2 hi)
    rw [okAt, decide_eq_true_iff, getD_eq hi] at this
    exact this
  refine ⟨fun i hi => ⟨(hok i hi).1, (hok i hi).2.1⟩, ?_⟩
  intro i j
  induction j with
  | zero => intro _ h; omega
  | succ j ih =>
    intro hj hi
    have h1 := (hok (j + 1) hj).2.2 (by omega)
    rw [Nat.add_sub_cancel, getD_eq (by omega)] at h1
    rcases Nat.lt_or_ge i j with h2 | h2
    · have := ih (by omega) h2
      omega
    · obtain rfl : i = j := by omega
      exact h1
theorem Up.nat {l : List Int} {n : Nat} (h : Up l n) {i : Nat} (hi : i < l.length) : ((l[i].toNat : Nat) : Int) = l[i] ∧ l[i].toNat < n := by
  have := h.each i hi
  constructor <;> omega
theorem Up.below {l : List Int} {n : Nat} (h : Up l n) : ∀ v ∈ toN l, v < n := by
  intro v hv
  obtain ⟨i, hi, rfl⟩ := List.mem_iff_getElem.1 hv
  rw [toN_length] at hi
  rw [toN_get hi]
  exact (h.nat hi).2
theorem Up.nodup {l : List Int} {n : Nat} (h : Up l n) : (toN l).Nodup := by
  rw [List.Nodup, List.pairwise_iff_getElem]
  intro i j hi hj hij
  rw [toN_length] at hi hj
  rw [toN_get hi, toN_get hj]
  have h1 := h.lt i j hj hij
  have h2 := h.each i hi
  omega
theorem Up.ge {l : List Int} {n : Nat} (h : Up l n) : ∀ i (hi : i < l.length), (i : Int) ≤ l[i] := by
  intro i
  induction i with
  | zero => intro hi; exact (h.each 0 hi).1
  | succ i ih =>
    intro hi
    have := ih (by omega)
    have := h.lt i (i + 1) hi (by omega)
    omega
theorem Up.length {l : List Int} {n : Nat} (h : Up l n) : l.length ≤ n := by
  rcases Nat.eq_zero_or_pos l.length with h0 | h0
  · omega
  · have h1 := h.ge (l.length - 1) (by omega)
    have h2 := (h.each (l.length - 1) (by omega)).2
    omega
theorem cnt_le {S : List Nat} (h : ∀ v, sz S v ≤ 4) : ∀ vs : List Nat, cnt S vs ≤ 4 ^ vs.length
  | [] => Nat.le_refl _
  | v :: vs => by
    rw [cnt, List.length_cons, Nat.pow_succ, Nat.mul_comm (4 ^ _)]
    exact Nat.mul_le_mul (h v) (cnt_le h vs)
theorem cnt_small {S : List Nat} (h : ∀ v, sz S v ≤ 4) {vs : List Nat} (hv : vs.length ≤ 8) : cnt S vs ≤ 65536 := by
  have h1 := cnt_le h vs
  have h2 : 4 ^ vs.length ≤ 4 ^ 8 := Nat.pow_le_pow_right (by decide) hv
  have h3 : (4 : Nat) ^ 8 = 65536 := by decide
  omega
theorem cnt_take (S vs : List Nat) {i : Nat} (h : i < vs.length) : cnt S (vs.take (i + 1)) = cnt S (vs.take i) * sz S vs[i] := by
  rw [List.take_succ_eq_append_getElem h, cnt_snoc]

/-- What Count answers. -/
def countB (sizes vars : List Int) : Bool := fitB sizes && risB vars sizes.length
def countA (sizes vars : List Int) : Int × Int := if countB sizes vars = true then (((cnt (toN sizes) (toN vars) : Nat) : Int), 0) else (0, 11)
theorem countA_yes {sizes vars : List Int} (h : countB sizes vars = true) : countA sizes vars = (((cnt (toN sizes) (toN vars) : Nat) : Int), 0) := if_pos h
theorem countA_no {sizes vars : List Int} (h : countB sizes vars = false) : countA sizes vars = (0, 11) := if_neg (by rw [h]; decide)

set_option maxRecDepth 100000 in
set_option maxHeartbeats 1000000 in
theorem rCount_any (a b : Option Addr) (ca cb : Nat) (sizes vars : List Int) (w : World) (hs : IntS w a sizes) (hv : IntS w b vars) (hn : sizes.length ≤ 140737488355328) (hm : vars.length ≤ 140737488355328) :
    Calls Tryz.prog 9 #[.slice a sizes.length ca, .slice b vars.length cb] w fun e w' => e = .returned (.tuple #[.int .i64 (countA sizes vars).1, .int .i64 (countA sizes vars).2]) ∧ Below w.heap.size w w' := by
  have HS := hid hs
  have HV := hid hv
  clear hs hv
  have HFIT := hid (fun V h => rFit_any a ca sizes V h hn)
  have HRIS := hid (fun V h => rRising_any b cb vars sizes.length V h hm)
  cases hf : fitB sizes with
  | false =>
    have HA := hid (countA_no (sizes := sizes) (vars := vars) (by rw [countB, hf]; rfl))
    rw [hf] at HFIT
    generalize countA sizes vars = r at *
    generalize risB vars sizes.length = rb at *
    go_enter Tryz.func9, Tryz.ntmps9
    go_wp2_with fail
    refine (HFIT.out _ HS.out).mono ?_
    rintro e w1 ⟨rfl, hb1⟩
    go_wp2_with fail
    refine (HRIS.out _ (HV.out.below hb1)).mono ?_
    rintro e w2 ⟨rfl, hb2⟩
    have hB2 := hb1.trans (hb2.mono hb1.size)
    go_wp2
    go_ret2
    exact ⟨by rw [HA.out]; rfl, hB2⟩
  | true =>
    rw [hf] at HFIT
    cases hr : risB vars sizes.length with
    | false =>
      have HA := hid (countA_no (sizes := sizes) (vars := vars) (by rw [countB, hr, Bool.and_false]))
      rw [hr] at HRIS
      generalize countA sizes vars = r at *
      go_enter Tryz.func9, Tryz.ntmps9
      go_wp2_with fail
      refine (HFIT.out _ HS.out).mono ?_
      rintro e w1 ⟨rfl, hb1⟩
      go_wp2_with fail
      refine (HRIS.out _ (HV.out.below hb1)).mono ?_
      rintro e w2 ⟨rfl, hb2⟩
      have hB2 := hb1.trans (hb2.mono hb1.size)
      go_wp2
      go_ret2
      exact ⟨by rw [HA.out]; rfl, hB2⟩
    | true =>
      have HA := hid (countA_yes (sizes := sizes) (vars := vars) (by rw [countB, hf, hr]; rfl))
      rw [hr] at HRIS
      have hfine := fit_fine hf
      have hup := ris_up hr
      have hl8 := hfine.eight
      have hvl := hup.length
      have HFI := hid hfine
      have HUP := hid hup
      clear hf hr hfine hup
      generalize countA sizes vars = r at *
      go_enter Tryz.func9, Tryz.ntmps9
      go_wp2_with fail
      refine (HFIT.out _ HS.out).mono ?_
      rintro e w1 ⟨rfl, hb1⟩
      go_wp2_with fail
      refine (HRIS.out _ (HV.out.below hb1)).mono ?_
      rintro e w2 ⟨rfl, hb2⟩
      have hB2 := hb1.trans (hb2.mono hb1.size)
      clear hb1 hb2
      go_wp2_with fail
      go_loopw [8, 9] (fun nv iv wr => ∃ i : Nat, i ≤ vars.length ∧ iv = .int .i64 i ∧ nv = .int .i64 (cnt (toN sizes) ((toN vars).take i) : Nat) ∧ Below w.heap.size w wr) (fun _ iv _ => vars.length - (intOf iv).toNat)
      case atStart => exact ⟨0, Nat.zero_le _, rfl, rfl, hB2⟩
      case round =>
        obtain ⟨i, hi, rfl, rfl, hB⟩ := hrel
        by_cases hlt : i < vars.length
        · obtain ⟨g, o, rfl, hg, c0⟩ := (HV.out.below hB) i hlt
          obtain ⟨hvi, hvn⟩ := HUP.out.nat hlt
          have hst : cnt (toN sizes) ((toN vars).take (i + 1)) = cnt (toN sizes) ((toN vars).take i) * sz (toN sizes) vars[i].toNat := by
            rw [cnt_take _ _ (by rw [toN_length]; exact hlt), toN_get hlt]
          have hsm : cnt (toN sizes) ((toN vars).take (i + 1)) ≤ 65536 := cnt_small HFI.out.sz_le (by rw [List.length_take, toN_length]; omega)
          generalize hV : vars[i].toNat = v at *
          rw [← hvi] at c0
          obtain ⟨g', o', rfl, hg', c1⟩ := (HS.out.below hB) v hvn
          rw [← HFI.out.sz_eq hvn] at c1
          rw [hst] at hsm
          have hpi : ((cnt (toN sizes) ((toN vars).take i) : Nat) : Int) * ((sz (toN sizes) v : Nat) : Int) = ((cnt (toN sizes) ((toN vars).take i) * sz (toN sizes) v : Nat) : Int) := (Int.natCast_mul _ _).symm
          have HST := hid hst
          clear hst hvi hV
          generalize cnt (toN sizes) ((toN vars).take i) = X at *
          generalize sz (toN sizes) v = Y at *
          have hp0 : 0 ≤ (X : Int) * (Y : Int) := by rw [hpi]; omega
          have hp1 : (X : Int) * (Y : Int) ≤ 65536 := by rw [hpi]; omega
          have HPI := hid hpi
          clear hpi
          go_wp2
          go_roundw
          case rel => exact ⟨i + 1, by omega, by go_num, by rw [HST.out, ← HPI.out], hB⟩
          case measure => simp [intOf]; omega
        · obtain rfl : i = vars.length := by omega
          rw [List.take_of_length_le (by rw [toN_length]; exact Nat.le_refl _)]
          go_wp2
          go_ret2
          exact ⟨by rw [HA.out]; rfl, hB⟩
end Go.Proofs.YtknlhejhnopnaaaGreatDoor

/- The document's answer: the place of an assignment. -/
namespace Go.Proofs.YtknlhejhnopnaaaGreatDoor
open Go.RowKit

/-- Is the i-th value one of its variable's? -/
def valB (S vs : List Nat) (l : List Int) (i : Nat) : Bool := decide (0 ≤ l.getD i 0 ∧ l.getD i 0 < (sz S (vs.getD i 0) : Int))
/-- The place that the first n values come to. -/
def idxN (S vs l : List Nat) (n : Nat) : Nat := (List.range n).foldl (fun k i => k * sz S (vs.getD i 0) + l.getD i 0) 0
theorem idxN_succ (S vs l : List Nat) (n : Nat) : idxN S vs l (n + 1) = idxN S vs l n * sz S (vs.getD n 0) + l.getD n 0 := by
  rw [idxN, List.range_succ, List.foldl_append]; rfl
theorem getN_eq {l : List Nat} {i : Nat} (h : i < l.length) : l.getD i 0 = l[i] := by simp [List.getD, h]
theorem idxN_lt {S vs : List Nat} {l : List Int} : ∀ (n : Nat), n ≤ vs.length → n ≤ l.length → (List.range n).all (valB S vs l) = true → idxN S vs (toN l) n < cnt S (vs.take n)
  | 0, _, _, _ => by simp [idxN, cnt]
  | n + 1, h1, h2, h => by
    rw [List.range_succ, List.all_append, Bool.and_eq_true] at h
    have ih := idxN_lt n (by omega) (by omega) h.1
    have hv : valB S vs l n = true := by simpa using h.2
    rw [valB, decide_eq_true_iff, getD_eq (by omega), getN_eq (by omega)] at hv
    rw [idxN_succ, cnt_take S vs (by omega), getN_eq (show n < vs.length by omega), getN_eq (by rw [toN_length]; omega), toN_get (by omega)]
    have : (idxN S vs (toN l) n + 1) * sz S vs[n] ≤ cnt S (vs.take n) * sz S vs[n] := Nat.mul_le_mul_right _ ih
    rw [Nat.add_mul, Nat.one_mul] at this
    omega
def indexA (sizes vars l : List Int) : Int × Int :=
  if countB sizes vars = true then (if l.length = vars.length then (if (List.range vars.length).all (valB (toN sizes) (toN vars) l) = true then (((idxN (toN sizes) (toN vars) (toN l) vars.length : Nat) : Int), 0) else (0, 12)) else (0, 8)) else (0, 11)
theorem indexA_none {sizes vars l : List Int} (h : countB sizes vars = false) : indexA sizes vars l = (0, 11) := if_neg (by rw [h]; decide)
theorem indexA_len {sizes vars l : List Int} (h : countB sizes vars = true) (h1 : ¬ l.length = vars.length) : indexA sizes vars l = (0, 8) := by rw [indexA, if_pos h, if_neg h1]
theorem indexA_val {sizes vars l : List Int} (h : countB sizes vars = true) (h1 : l.length = vars.length) {i : Nat} (hi : i < vars.length) (h2 : valB (toN sizes) (toN vars) l i = false) : indexA sizes vars l = (0, 12) := by
  rw [indexA, if_pos h, if_pos h1, if_neg]
  rw [Bool.not_eq_true, List.all_eq_false]
  exact ⟨i, List.mem_range.2 hi, by rw [h2]; decide⟩
theorem indexA_ok {sizes vars l : List Int} (h : countB sizes vars = true) (h1 : l.length = vars.length) (h2 : (List.range vars.length).all (valB (toN sizes) (toN vars) l) = true) : indexA sizes vars l = (((idxN (toN sizes) (toN vars) (toN l) vars.length : Nat) : Int), 0) := by
  rw [indexA, if_pos h, if_pos h1, if_pos h2]
theorem val_succ {S vs : List Nat} {l : List Int} {i : Nat} (h0 : (List.range i).all (valB S vs l) = true) (e : valB S vs l i = true) : (List.range (i + 1)).all (valB S vs l) = true := by
  rw [List.range_succ, List.all_append, h0]; simp [e]
theorem countB_parts {sizes vars : List Int} (h : countB sizes vars = true) : Fine sizes ∧ Up vars sizes.length := by
  rw [countB, Bool.and_eq_true] at h
  exact ⟨fit_fine h.1, ris_up h.2⟩

set_option maxRecDepth 100000 in
set_option maxHeartbeats 1000000 in
theorem rIndex_any (a b c : Option Addr) (ca cb cc : Nat) (sizes vars l : List Int) (w : World) (hs : IntS w a sizes) (hv : IntS w b vars) (hl : IntS w c l) (hn : sizes.length ≤ 140737488355328) (hm : vars.length ≤ 140737488355328) (hk : l.length ≤ 140737488355328) :
    Calls Tryz.prog 13 #[.slice a sizes.length ca, .slice b vars.length cb, .slice c l.length cc] w fun e w' => e = .returned (.tuple #[.int .i64 (indexA sizes vars l).1, .int .i64 (indexA sizes vars l).2]) ∧ Below w.heap.size w w' := by
  have HS := hid hs
  have HV := hid hv
  have HL := hid hl
  have HC := hid (fun V h1 h2 => rCount_any a b ca cb sizes vars V h1 h2 hn hm)
  clear hs hv hl
  cases hcb : countB sizes vars with
  | false =>
    have HA := hid (indexA_none (l := l) hcb)
    rw [countA_no hcb] at HC
    simp only at HC
    generalize indexA sizes vars l = r at *
    go_enter Tryz.func13, Tryz.ntmps13
    go_wp2_with fail
    refine (HC.out _ HS.out HV.out).mono ?_
    rintro e w1 ⟨rfl, hb1⟩
    go_wp2
    go_ret2
    exact ⟨by rw [HA.out]; rfl, hb1⟩
  | true =>
    have HN := hid (fun h => indexA_len (l := l) hcb h)
    have HB := hid (fun i h hi h2 => indexA_val (l := l) hcb h (i := i) hi h2)
    have HO := hid (fun h h2 => indexA_ok (l := l) hcb h h2)
    rw [countA_yes hcb] at HC
    simp only at HC
    obtain ⟨hfi, hup⟩ := countB_parts hcb
    have hl8 := hfi.eight
    have hvl := hup.length
    have HFI := hid hfi
    have HUP := hid hup
    clear hcb hfi hup
    generalize indexA sizes vars l = r at *
    generalize cnt (toN sizes) (toN vars) = N0 at *
    go_enter Tryz.func13, Tryz.ntmps13
    go_wp2_with fail
    refine (HC.out _ HS.out HV.out).mono ?_
    rintro e w1 ⟨rfl, hb1⟩
    by_cases hlen : l.length = vars.length
    · have HLEN := hid hlen
      have hlb : ((l.length : Int) == (vars.length : Int)) = true := by simp [hlen]
      have hli : (l.length : Int) = (vars.length : Int) := by omega
      have hln : ¬ ¬ l.length = vars.length := fun h => h hlen
      clear HN
      go_wp2_with fail
      go_loopw [10, 11] (fun kv iv wr => ∃ i : Nat, i ≤ vars.length ∧ iv = .int .i64 i ∧ kv = .int .i64 (idxN (toN sizes) (toN vars) (toN l) i : Nat) ∧ Hid ((List.range i).all (valB (toN sizes) (toN vars) l) = true) ∧ Below w.heap.size w wr) (fun _ iv _ => vars.length - (intOf iv).toNat)
      case atStart => exact ⟨0, Nat.zero_le _, rfl, rfl, rfl, hb1⟩
      case round =>
        obtain ⟨i, hi, rfl, rfl, HI, hB⟩ := hrel
        clear hb1 hlb hli hln
        by_cases hlt : i < vars.length
        · obtain ⟨g, o, rfl, hg, c0⟩ := (HV.out.below hB) i hlt
          obtain ⟨g2, o2, rfl, hg2, c2⟩ := (HL.out.below hB) i (by rw [HLEN.out]; exact hlt)
          obtain ⟨hvi, hvn⟩ := HUP.out.nat hlt
          have hvb : valB (toN sizes) (toN vars) l i = decide (0 ≤ l[i]'(by omega) ∧ l[i]'(by omega) < (sz (toN sizes) vars[i].toNat : Int)) := by
            rw [valB, getD_eq (by omega), getN_eq (by rw [toN_length]; exact hlt), toN_get hlt]
          have hst : idxN (toN sizes) (toN vars) (toN l) (i + 1) = idxN (toN sizes) (toN vars) (toN l) i * sz (toN sizes) vars[i].toNat + (l[i]'(by omega)).toNat := by
            rw [idxN_succ, getN_eq (show i < (toN vars).length by rw [toN_length]; exact hlt), toN_get hlt, getN_eq (show i < (toN l).length by rw [toN_length]; omega), toN_get (by omega)]
          have HBI := hid (fun h2 => HB.out i HLEN.out hlt h2)
          have hbd : valB (toN sizes) (toN vars) l i = true → idxN (toN sizes) (toN vars) (toN l) (i + 1) < 65537 := fun h => by
            have h1 := idxN_lt (i + 1) (by rw [toN_length]; omega) (by omega) (val_succ HI.out h)
            have h2 : cnt (toN sizes) ((toN vars).take (i + 1)) ≤ 65536 := cnt_small HFI.out.sz_le (by rw [List.length_take, toN_length]; omega)
            omega
          have HBD := hid hbd
          have HVS := hid (fun h => val_succ HI.out h (i := i))
          have hxl : i < l.length := by omega
          generalize hV : vars[i].toNat = v at *
          rw [← hvi] at c0
          obtain ⟨g', o', rfl, hg', c1⟩ := (HS.out.below hB) v hvn
          rw [← HFI.out.sz_eq hvn] at c1
          have HVB := hid hvb
          have HST := hid hst
          clear hst hvi hV hvb hbd
          generalize idxN (toN sizes) (toN vars) (toN l) i = X at *
          generalize sz (toN sizes) v = Y at *
          generalize l[i] = x at *
          by_cases e0 : x < 0
          · have HE := hid (HBI.out (by rw [HVB.out]; exact decide_eq_false (by omega)))
            have d0 : decide (x < 0) = true := decide_eq_true e0
            go_wp2_with fail
            go_quiet (fail)
            go_wp2
            go_ret2
            exact ⟨by rw [HE.out]; rfl, below_dn hB _⟩
          · have d0 : decide (x < 0) = false := decide_eq_false e0
            by_cases e1 : (Y : Int) ≤ x
            · have HE := hid (HBI.out (by rw [HVB.out]; exact decide_eq_false (by omega)))
              have d1 : decide ((Y : Int) ≤ x) = true := decide_eq_true e1
              go_wp2_with fail
              go_quiet (fail)
              go_wp2
              go_ret2
              exact ⟨by rw [HE.out]; rfl, below_dn hB _⟩
            · have d1 : decide ((Y : Int) ≤ x) = false := decide_eq_false e1
              have hok : valB (toN sizes) (toN vars) l i = true := by rw [HVB.out]; exact decide_eq_true (by omega)
              have h1 := HBD.out hok
              rw [HST.out] at h1
              have HS2 := hid (HVS.out hok)
              have hpi : ((X : Nat) : Int) * ((Y : Nat) : Int) = ((X * Y : Nat) : Int) := (Int.natCast_mul _ _).symm
              have hp0 : 0 ≤ (X : Int) * (Y : Int) := by rw [hpi]; omega
              have hp1 : (X : Int) * (Y : Int) + x ≤ 65536 := by rw [hpi]; omega
              have HFN : Hid ((X : Int) * (Y : Int) + x = ((X * Y + x.toNat : Nat) : Int)) := by show _ = _; rw [hpi]; omega
              clear hpi h1 hok HBD HBI HB
              go_wp2_with fail
              go_quiet (fail)
              go_wp2_with fail
              go_quiet (fail)
              go_wp2
              go_roundw
              case rel => exact ⟨i + 1, by omega, by go_num, by rw [HST.out, ← HFN.out], HS2.out, below_dn hB _⟩
              case measure => simp [intOf]; omega
        · obtain rfl : i = vars.length := by omega
          have HE := hid (HO.out HLEN.out HI.out)
          go_wp2
          go_ret2
          exact ⟨by rw [HE.out]; rfl, hB⟩
    · have HE := hid (HN.out hlen)
      have hlb : ((l.length : Int) == (vars.length : Int)) = false := by simp; omega
      go_wp2
      go_ret2
      exact ⟨by rw [HE.out]; rfl, hb1⟩
end Go.Proofs.YtknlhejhnopnaaaGreatDoor
