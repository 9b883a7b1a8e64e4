/- The document's answer: a text read as a fraction. -/
import Derived.Test.YtmkilmcmgdoiiaaGreatDoorRefSOwn
import Derived.Test.YtmkilmcmgdoiiaaGreatDoorFracPOwn
namespace Go.Proofs.YtmkilmcmgdoiiaaGreatDoor
open Go.RowKit
open Go.Lib hiding intOf

set_option maxRecDepth 100000 in
set_option maxHeartbeats 1000000 in
theorem seek_any (s : ByteArray) (c : UInt8) (w : World) (hs : s.size ≤ 140737488355328) :
    Calls Tryz.prog 78 #[.string s, .int .u8 (c.toNat : Int)] w fun e w' => e = .returned (.int .i64 (ix s c)) ∧ w' = w := by
  go_enter Tryz.func78, Tryz.ntmps78
  go_wp2
  go_loop [5] (fun i => ∃ k : Nat, k ≤ s.size ∧ i = .int .i64 k ∧ Hid (∀ x ∈ s.data.toList.take k, ¬ x = c)) (fun i => s.size - (intOf i).toNat)
  case atStart => exact ⟨0, Nat.zero_le _, rfl, fun x hx => by simp at hx⟩
  case round =>
    obtain ⟨k, hk, rfl, HA⟩ := hrel
    by_cases hlt : k < s.size
    · by_cases hc : s[k].toNat = c.toNat
      · have HE : Hid (ix s c = k) := by
          show _ = _
          have hd : s.data.toList.drop k = s[k] :: s.data.toList.drop (k + 1) := List.drop_eq_getElem_cons (l := s.data.toList) (i := k) (by simpa using hlt)
          have e : s.data.toList = s.data.toList.take k ++ s[k] :: s.data.toList.drop (k + 1) := by rw [← hd, List.take_append_drop]
          rw [ix, e, UInt8.toNat_inj.1 hc, idx_hit c _ _ HA.out, List.length_take, bytes_len]
          omega
        go_wp2
        go_ret
        exact ⟨by rw [HE.out]; rfl, rfl⟩
      · have HS : Hid (∀ x ∈ s.data.toList.take (k + 1), ¬ x = c) := by
          intro x hx
          rw [take_snoc s k hlt] at hx
          rcases List.mem_append.1 hx with h | h
          · exact HA.out x h
          · rw [List.mem_singleton.1 h]; exact fun e => hc (by rw [e])
        go_wp2
        go_round
        case rel => exact ⟨k + 1, by omega, by go_num, HS.out⟩
        case measure => simp [intOf]; omega
    · have HE : Hid (ix s c = -1) := by
        show _ = _
        have := HA.out
        rw [List.take_of_length_le (by rw [bytes_len]; omega)] at this
        exact idx_none c _ this
      go_wp2
      go_ret
      exact ⟨by rw [HE.out]; rfl, rfl⟩

theorem sign_cases (s : ByteArray) : ∃ (t : ByteArray) (neg : Bool), t.size ≤ s.size ∧ fpar s = ((psz t).1, if neg = true then -(psz t).2 else (psz t).2) ∧
    ((neg = true ∧ t = s.extract 1 s.size ∧ ∃ h : 0 < s.size, s[0].toNat = 45) ∨ (neg = false ∧ t = s ∧ (s.size = 0 ∨ ∃ h : 0 < s.size, ¬ s[0].toNat = 45))) := by
  by_cases h0 : s.size = 0
  · refine ⟨s, false, Nat.le_refl _, ?_, .inr ⟨rfl, rfl, .inl h0⟩⟩
    have : s.data.toList = [] := List.eq_nil_of_length_eq_zero (by rw [bytes_len]; exact h0)
    rw [fpar, if_neg (by rw [this]; decide)]; rfl
  · have hp : 0 < s.size := by omega
    have hd : s.data.toList = s[0] :: s.data.toList.drop 1 := by
      have := List.drop_eq_getElem_cons (l := s.data.toList) (i := 0) (by rw [bytes_len]; exact hp)
      rw [List.drop_zero] at this
      exact this
    have hpre : hasPrefix s.data.toList [45] = decide (s[0].toNat = 45) := by
      rw [hd]
      by_cases h : s[0].toNat = 45
      · have : s[0] = 45 := UInt8.toNat_inj.1 h
        simp [hasPrefix, List.isPrefixOf, this]
      · have : ¬ s[0] = 45 := fun e => h (by rw [e]; rfl)
        simp [hasPrefix, List.isPrefixOf, h]
        exact fun e => this e.symm
    by_cases h : s[0].toNat = 45
    · refine ⟨s.extract 1 s.size, true, by rw [ByteArray.size_extract]; omega, ?_, .inl ⟨rfl, rfl, hp, h⟩⟩
      rw [fpar, if_pos (by rw [hpre, decide_eq_true h])]; rfl
    · refine ⟨s, false, Nat.le_refl _, ?_, .inr ⟨rfl, rfl, .inr ⟨hp, h⟩⟩⟩
      rw [fpar, if_neg (by rw [hpre, decide_eq_false h]; decide)]; rfl

theorem pres_nought (s : ByteArray) : (N (pres s).1 = 0 → (pres s).1 = ⟨#[]⟩) ∧ (¬ N (pres s).1 = 0 → (pres s).1.toList.isEmpty = false) := by
  obtain ⟨n, hn⟩ : ∃ n, (pres s).1 = B n := by
    rw [pres]
    split
    · split
      · exact ⟨0, B_zero.symm⟩
      · exact ⟨_, rfl⟩
    · exact ⟨0, B_zero.symm⟩
  rw [hn, N_B]
  exact ⟨fun h => by rw [h, B_zero], fun h => B_full h⟩

theorem dec_round (xa u : ByteArray) (m : Nat) (hmt : m < u.size) (hcd : 48 ≤ u[m].toNat ∧ u[m].toNat ≤ 57) (hu : u.size < 400) (hx : xa.size ≤ 400) (hall : (u.data.toList.take m).all isDig = true) :
    (B (10 ^ m)).size ≤ 1000 ∧ (B (N xa * 10 ^ m + dval (u.data.toList.take m))).size ≤ 2000 ∧ (B (10 ^ (m + 1))).size ≤ 1000 ∧ True ∧ True ∧
    Hid (∀ V : World, Calls Tryz.prog 17 #[.string (B (N xa * 10 ^ m + dval (u.data.toList.take m))), .string ⟨#[10]⟩] V fun e w' => e = .returned (.string (B ((N xa * 10 ^ m + dval (u.data.toList.take m)) * 10))) ∧ Below V.heap.size V w') ∧
    Hid (∀ V : World, Calls Tryz.prog 17 #[.string (B (10 ^ m)), .string ⟨#[10]⟩] V fun e w' => e = .returned (.string (B (10 ^ (m + 1)))) ∧ Below V.heap.size V w') ∧
    Hid (∀ V : World, Calls Tryz.prog 11 #[.int .i64 ((u[m].toNat : Int) - 48)] V fun e w' => e = .returned (.string (B (u[m].toNat - 48))) ∧ Below V.heap.size V w') ∧
    Hid (∀ V : World, Calls Tryz.prog 15 #[.string (B ((N xa * 10 ^ m + dval (u.data.toList.take m)) * 10)), .string (B (u[m].toNat - 48))] V fun e w' => e = .returned (.string (B (N xa * 10 ^ (m + 1) + dval (u.data.toList.take (m + 1))))) ∧ Below V.heap.size V w') := by
  have t1 := ten_size m
  have t2 := ten_size (m + 1)
  have d1 := dval_size _ hall
  rw [List.length_take, bytes_len] at d1
  have m1 := sz_mul (N xa) (10 ^ m)
  have m2 := sz_add (N xa * 10 ^ m) (dval (u.data.toList.take m))
  have b1 := B_size_le xa
  have hdn : (N xa * 10 ^ m + dval (u.data.toList.take m)) * 10 + (u[m].toNat - 48) = N xa * 10 ^ (m + 1) + dval (u.data.toList.take (m + 1)) := by
    rw [take_snoc u m hmt, dval_snoc, Nat.pow_succ, ← Nat.mul_assoc, Nat.add_mul]; omega
  have m3 := sz_mul (N xa * 10 ^ m + dval (u.data.toList.take m)) 10
  have b10 : (B 10).size ≤ 1 := by rw [B_size]; exact bn_fits 1 10 (by decide)
  have s3 : (B (u[m].toNat - 48)).size ≤ 1 := by rw [B_size]; exact bn_fits 1 _ (by show _ < 256; omega)
  have n10 : N ⟨#[10]⟩ = 10 := rfl
  refine ⟨by omega, by omega, by omega, trivial, trivial, fun V => ?_, fun V => ?_, fun V => ?_, fun V => ?_⟩
  · have := rMul_any (B (N xa * 10 ^ m + dval (u.data.toList.take m))) ⟨#[10]⟩ V (by omega) (by show 1 ≤ _; omega)
    rwa [N_B, n10] at this
  · have := rMul_any (B (10 ^ m)) ⟨#[10]⟩ V (by omega) (by show 1 ≤ _; omega)
    rwa [N_B, n10, ← Nat.pow_succ] at this
  · have := rOf_any ((u[m].toNat : Int) - 48) V (by omega) (by omega)
    rwa [show ((u[m].toNat : Int) - 48).toNat = u[m].toNat - 48 by omega] at this
  · have := rAdd_any (B ((N xa * 10 ^ m + dval (u.data.toList.take m)) * 10)) (B (u[m].toNat - 48)) V (by omega) (by omega)
    rwa [N_B, N_B, hdn] at this

theorem pres_own (s : ByteArray) : B (N (pres s).1) = (pres s).1 := by
  rw [pres]
  split
  · split
    · show B (N ⟨#[]⟩) = ⟨#[]⟩; rw [N_empty, B_zero]
    · show B (N (B _)) = B _; rw [N_B]
  · show B (N ⟨#[]⟩) = ⟨#[]⟩; rw [N_empty, B_zero]
theorem dec_end (xa u : ByteArray) (hu : u.size < 400) (hx : xa.size ≤ 400) (hall : u.data.toList.all isDig = true) : (B (N xa * 10 ^ u.size + dval u.data.toList)).size ≤ 2000 ∧ (B (10 ^ u.size)).size ≤ 2000 := by
  have t1 := ten_size u.size
  have d1 := dval_size _ hall
  rw [bytes_len] at d1
  have m1 := sz_mul (N xa) (10 ^ u.size)
  have m2 := sz_add (N xa * 10 ^ u.size) (dval u.data.toList)
  have b1 := B_size_le xa
  constructor <;> omega

/-- What is answered to a text, with the sign that was read. -/
def fans (neg : Bool) (r : Int × Rat) : Int × Rat := (r.1, if neg = true then -r.2 else r.2)
theorem fans_val (neg : Bool) (x y : ByteArray) : fans neg (0, val false x y) = (0, val neg x y) := by
  cases neg
  · rfl
  · rw [fans, if_pos rfl, ← val_not]; rfl
theorem fval_zero (q : Rat) : fval (0, q) = C q := rfl
theorem fval_err {e : Int} (q : Rat) (h : ¬ e = 0) : fval (e, q) = .agg #[.bool false, .string ⟨#[]⟩, .string ⟨#[]⟩] := if_neg h

set_option maxRecDepth 100000 in
set_option maxHeartbeats 4000000 in
theorem rParseF_any (s : ByteArray) (w : World) (hs : s.size ≤ 100000) :
    Calls Tryz.prog 32 #[.string s] w fun e w' => e = .returned (.tuple #[fval (fpar s), .int .i64 (fpar s).1]) ∧ Below w.heap.size w w' := by
  obtain ⟨t, neg, ht, hf, hcase⟩ := sign_cases s
  rw [hf, show ((psz t).1, if neg = true then -(psz t).2 else (psz t).2) = fans neg (psz t) from rfl]
  have HK1 := hide (fun V => seek_any t 47 V (by omega))
  have HK2 := hide (fun V => seek_any t 46 V (by omega))
  rw [show ((47 : UInt8).toNat : Int) = 47 from rfl] at HK1
  rw [show ((46 : UInt8).toNat : Int) = 46 from rfl] at HK2
  have HQ : Hid (psz t = if 0 ≤ ix t 47 then pquo (t.extract 0 (ix t 47).toNat) (t.extract ((ix t 47).toNat + 1) t.size)
    else if 0 ≤ ix t 46 then pdec (t.extract 0 (ix t 46).toNat) (t.extract ((ix t 46).toNat + 1) t.size) else pone t) := rfl
  have hx : ∀ i j : Nat, (t.extract i j).size ≤ 100000 := fun i j => by rw [ByteArray.size_extract]; omega
  have HX := hide hx
  clear hx hf
  rcases ix_cases t 47 with h1 | ⟨i, h1, h1'⟩
  · rw [h1] at HK1 HQ
    rw [if_neg (by decide)] at HQ
    clear h1
    rcases ix_cases t 46 with h2 | ⟨i, h2, h2'⟩
    · rw [h2] at HK2 HQ
      rw [if_neg (by decide), pone, B_one] at HQ
      clear h2
      have HPA := hide (fun V => rParse_any t V (by omega))
      have sa := pres_size t
      generalize pres t = pa at *
      obtain ⟨xa, ea⟩ := pa
      simp only at HPA sa HQ
      generalize psz t = r at *
      have s1 : (⟨#[1]⟩ : ByteArray).size = 1 := rfl
      clear HX
      rcases hcase with ⟨rfl, hte, hp, h45⟩ | ⟨rfl, rfl, h0 | ⟨hp, h45⟩⟩
      all_goals
        first
          | (have HTE := hide hte; clear hte)
          | (have HTE : Hid True := trivial)
        have hbx := Box.at (w := w) rfl false ⟨#[]⟩ ⟨#[]⟩
        have hB0 : Below w.heap.size w (w.alloc (FC false ⟨#[]⟩ ⟨#[]⟩)) := (Below.refl _ w).alloc (Nat.le_refl _) _
        go_enter Tryz.func32, Tryz.ntmps32
        go_wp2_with fail
        first
          | rw [← HTE.out]
          | skip
        refine (HK1.out _).mono ?_
        rintro e w1 ⟨rfl, hw1⟩
        subst hw1
        go_wp2_with fail
        refine (HK2.out _).mono ?_
        rintro e w1 ⟨rfl, hw1⟩
        subst hw1
        go_wp2_with fail
        refine (HPA.out _).mono ?_
        rintro e w2 ⟨rfl, hb2⟩
        have hx2 := hbx.below hb2 hbx.lt
        have hB2 := hB0.trans (hb2.mono hB0.size)
        clear hbx hB0 hb2
        by_cases e1 : ea = 0
        · subst e1
          have HR : Hid (r = (0, val false xa ⟨#[1]⟩)) := by show _ = _; rw [HQ.out, if_neg (by decide)]
          go_wp2_with fail
          refine (rMake_any _ xa ⟨#[1]⟩ _ (by omega) (by omega)).mono ?_
          rintro e w9 ⟨rfl, hb9⟩
          have hx9 := hx2.below hb9 hx2.lt
          have hB9 := hB2.trans (hb9.mono hB2.size)
          obtain ⟨k0, k1, k2, f0, f1, f2⟩ := hx9.facts
          rw [C_eq]
          go_wp2
          refine bodyPost_ret ((hx9.put _ _ _).result2 rfl _ rfl) rfl ?_
          exact ⟨by rw [HR.out, fans_val]; rfl, below_put hB9 (by omega) _ _ _⟩
        · have HR : Hid (r = (ea, 0)) := by show _ = _; rw [HQ.out, if_pos e1]
          have hbea : (ea == 0) = false := beq_eq_false_iff_ne.2 e1
          obtain ⟨k0, k1, k2, f0, f1, f2⟩ := hx2.facts
          go_wp2
          refine bodyPost_ret ((hx2.put _ _ _).result2 rfl _ rfl) rfl ?_
          exact ⟨by rw [HR.out, fans, fval_err _ e1]; rfl, below_put hB2 (by omega) _ _ _⟩
    · rw [h2] at HK2 HQ
      rw [if_pos (by omega), Int.toNat_natCast] at HQ
      clear h2
      have HPA := hide (fun V => rParse_any (t.extract 0 i) V (by have := HX.out 0 i; omega))
      have sa := pres_size (t.extract 0 i)
      have su := HX.out (i + 1) t.size
      have HXA := hide (pres_own (t.extract 0 i))
      rw [pdec] at HQ
      generalize pres (t.extract 0 i) = pa at *
      obtain ⟨xa, ea⟩ := pa
      simp only at HPA sa HQ HXA
      generalize psz t = r at *
      obtain ⟨u, hu⟩ : ∃ u, t.extract (i + 1) t.size = u := ⟨_, rfl⟩
      rw [hu] at HQ su
      have HU := hide hu
      clear HX hu
      have hcase : (neg = true ∧ t = s.extract 1 s.size ∧ ∃ h : 0 < s.size, s[0].toNat = 45) ∨ (neg = false ∧ t = s ∧ ∃ h : 0 < s.size, ¬ s[0].toNat = 45) := by
        rcases hcase with h | ⟨h1, h2, h3 | h3⟩
        · exact .inl h
        · rw [h2] at h2'; omega
        · exact .inr ⟨h1, h2, h3⟩
      rcases hcase with ⟨rfl, hte, hp, h45⟩ | ⟨rfl, rfl, hp, h45⟩
      all_goals
        first
          | (have HTE := hide hte; clear hte)
          | (have HTE : Hid True := trivial)
        have hbx := Box.at (w := w) rfl false ⟨#[]⟩ ⟨#[]⟩
        have hB0 : Below w.heap.size w (w.alloc (FC false ⟨#[]⟩ ⟨#[]⟩)) := (Below.refl _ w).alloc (Nat.le_refl _) _
        go_enter Tryz.func32, Tryz.ntmps32
        go_wp2_with fail
        first
          | rw [← HTE.out]
          | skip
        refine (HK1.out _).mono ?_
        rintro e w1 ⟨rfl, hw1⟩
        subst hw1
        go_wp2_with fail
        refine (HK2.out _).mono ?_
        rintro e w1 ⟨rfl, hw1⟩
        subst hw1
        go_wp2_with fail
        refine (HPA.out _).mono ?_
        rintro e w2 ⟨rfl, hb2⟩
        have hx2 := hbx.below hb2 hbx.lt
        have hB2 := hB0.trans (hb2.mono hB0.size)
        clear hbx hB0 hb2
        by_cases e1 : ea = 0
        · subst e1
          rw [if_neg (by decide)] at HQ
          go_upto_region 25 with fail
          rw [HU.out]
          clear HU
          by_cases hu0 : u.size = 0
          · obtain rfl : u = ⟨#[]⟩ := by
              obtain ⟨⟨l⟩⟩ := u
              have : l = [] := List.eq_nil_of_length_eq_zero (by simpa [ByteArray.size] using hu0)
              rw [this]
            have HR : Hid (r = (1, 0)) := by show _ = _; rw [HQ.out, if_pos (show allDig (⟨#[]⟩ : ByteArray).data.toList = false from rfl)]
            obtain ⟨k0, k1, k2, f0, f1, f2⟩ := hx2.facts
            go_wp2
            refine bodyPost_ret ((hx2.put _ _ _).result2 rfl _ rfl) rfl ?_
            exact ⟨by rw [HR.out, fans, fval_err _ (by decide)]; rfl, below_put hB2 (by omega) _ _ _⟩
          · have hne : u.toList.isEmpty = false := by
              rw [toList_data]
              cases hl : u.data.toList with
              | nil => rw [← bytes_len, hl] at hu0; exact absurd rfl hu0
              | cons x r => rfl
            go_wp2_with fail
            go_loopw [13] (fun iv wr => ∃ k : Nat, k ≤ u.size ∧ iv = .int .i64 k ∧ Hid ((u.data.toList.take k).all isDig = true) ∧ Hid (Box wr w.heap.size false ⟨#[]⟩ ⟨#[]⟩) ∧ Below w.heap.size w wr) (fun iv _ => u.size - (intOf iv).toNat)
            case atStart => exact ⟨0, Nat.zero_le _, rfl, rfl, hx2, hB2⟩
            case round =>
              obtain ⟨k, hk, rfl, HA, HB, hBr⟩ := hrel
              clear hx2 hB2
              have hxr := HB.out
              by_cases hlt : k < u.size
              · by_cases hc : 48 ≤ u[k].toNat ∧ u[k].toNat ≤ 57
                · have HS : Hid ((u.data.toList.take (k + 1)).all isDig = true) := by
                    show _ = _
                    rw [take_snoc u k hlt, List.all_append, HA.out]
                    simp [isDig, hc]
                  obtain ⟨hc1, hc2⟩ := hc
                  go_wp2
                  go_roundw
                  case rel => exact ⟨k + 1, by omega, by go_num, HS.out, hxr, hBr⟩
                  case measure => simp [intOf]; omega
                · have hf := allDig_false u k hlt (by simp only [isDig, decide_eq_false_iff_not]; exact hc)
                  have HR : Hid (r = (1, 0)) := by show _ = _; rw [HQ.out, if_pos hf]
                  obtain ⟨k0, k1, k2, f0, f1, f2⟩ := hxr.facts
                  clear hf
                  rcases (show u[k].toNat < 48 ∨ (48 ≤ u[k].toNat ∧ 57 < u[k].toNat) by omega) with h3 | ⟨h3, h4⟩
                  all_goals
                    clear hc
                    go_wp2
                    refine bodyPost_ret ((hxr.put _ _ _).result2 rfl _ rfl) rfl ?_
                    exact ⟨by rw [HR.out, fans, fval_err _ (by decide)]; rfl, below_put hBr (by omega) _ _ _⟩
              · have hall : u.data.toList.all isDig = true := by
                  have := HA.out
                  rwa [List.take_of_length_le (by rw [bytes_len]; omega)] at this
                have had : allDig u.data.toList = true := by
                  rw [allDig, hall, ← toList_data, hne]; rfl
                rw [had, if_neg (by decide)] at HQ
                clear had
                by_cases hlong : 400 ≤ u.size
                · have HR : Hid (r = (2, 0)) := by show _ = _; rw [HQ.out, if_pos hlong]
                  obtain ⟨k0, k1, k2, f0, f1, f2⟩ := hxr.facts
                  clear hall
                  go_wp2
                  refine bodyPost_ret ((hxr.put _ _ _).result2 rfl _ rfl) rfl ?_
                  exact ⟨by rw [HR.out, fans, fval_err _ (by decide)]; rfl, below_put hBr (by omega) _ _ _⟩
                · rw [if_neg hlong] at HQ
                  have HALL := hide hall
                  clear hall HA
                  go_wp2
                  go_loopw [11, 14, 15] (fun va vd iv wr => ∃ m : Nat, m ≤ u.size ∧ iv = .int .i64 m ∧ va = .string (B (N xa * 10 ^ m + dval (u.data.toList.take m))) ∧ vd = .string (B (10 ^ m)) ∧ Hid (Box wr w.heap.size false ⟨#[]⟩ ⟨#[]⟩) ∧ Below w.heap.size w wr) (fun _ _ iv _ => u.size - (intOf iv).toNat)
                  case atStart => exact ⟨0, Nat.zero_le _, rfl, by rw [List.take_zero, Nat.pow_zero, Nat.mul_one, show dval [] = 0 from rfl, Nat.add_zero, HXA.out], by rw [Nat.pow_zero, B_one], hxr, hBr⟩
                  case round =>
                    obtain ⟨m, hm, rfl, rfl, rfl, HB, hBr⟩ := hrel
                    by_cases hmt : m < u.size
                    · have hcd : 48 ≤ u[m].toNat ∧ u[m].toNat ≤ 57 := by
                        have := List.all_eq_true.1 HALL.out u[m] (by
                          have e : u.data.toList[m]'(by rw [bytes_len]; exact hmt) = u[m] := rfl
                          rw [← e]; exact List.getElem_mem _)
                        simpa [isDig] using this
                      obtain ⟨z1, z2, z3, d1, d2, HMU, HMD, HOF, HAD⟩ := dec_round xa u m hmt hcd (by omega) (by omega) (all_take HALL.out m)
                      obtain ⟨hc1, hc2⟩ := hcd
                      go_wp2_with fail
                      refine (HMU.out _).mono ?_
                      rintro e w3 ⟨rfl, hb3⟩
                      go_wp2_with fail
                      refine (HOF.out _).mono ?_
                      rintro e w4 ⟨rfl, hb4⟩
                      go_wp2_with fail
                      refine (HAD.out _).mono ?_
                      rintro e w5 ⟨rfl, hb5⟩
                      go_wp2_with fail
                      refine (HMD.out _).mono ?_
                      rintro e w6 ⟨rfl, hb6⟩
                      have x3 := HB.out.below hb3 HB.out.lt
                      have x4 := x3.below hb4 x3.lt
                      have x5 := x4.below hb5 x4.lt
                      have x6 := x5.below hb6 x5.lt
                      have B3 := hBr.trans (hb3.mono hBr.size)
                      have B4 := B3.trans (hb4.mono B3.size)
                      have B5 := B4.trans (hb5.mono B4.size)
                      have B6 := B5.trans (hb6.mono B5.size)
                      go_wp2
                      go_roundw
                      case rel => exact ⟨m + 1, by omega, by go_num, rfl, rfl, x6, B6⟩
                      case measure => simp [intOf]; omega
                    · obtain rfl : m = u.size := by omega
                      obtain ⟨z1, z2⟩ := dec_end xa u (by omega) (by omega) HALL.out
                      rw [List.take_of_length_le (by rw [bytes_len]; exact Nat.le_refl _)]
                      clear hxr
                      have hxr := HB.out
                      go_wp2_with fail
                      refine (rMake_any _ (B (N xa * 10 ^ u.size + dval u.data.toList)) (B (10 ^ u.size)) _ (by omega) (by omega)).mono ?_
                      rintro e w9 ⟨rfl, hb9⟩
                      have hx9 := hxr.below hb9 hxr.lt
                      have hB9 := hBr.trans (hb9.mono hBr.size)
                      obtain ⟨k0, k1, k2, f0, f1, f2⟩ := hx9.facts
                      rw [C_eq]
                      go_wp2
                      refine bodyPost_ret ((hx9.put _ _ _).result2 rfl _ rfl) rfl ?_
                      exact ⟨by rw [HQ.out, fans_val]; rfl, below_put hB9 (by omega) _ _ _⟩
        · have HR : Hid (r = (ea, 0)) := by show _ = _; rw [HQ.out, if_pos e1]
          have hbea : (ea == 0) = false := beq_eq_false_iff_ne.2 e1
          obtain ⟨k0, k1, k2, f0, f1, f2⟩ := hx2.facts
          go_wp2
          refine bodyPost_ret ((hx2.put _ _ _).result2 rfl _ rfl) rfl ?_
          exact ⟨by rw [HR.out, fans, fval_err _ e1]; rfl, below_put hB2 (by omega) _ _ _⟩
  · rw [h1] at HK1 HQ
    rw [if_pos (by omega), Int.toNat_natCast] at HQ
    clear h1 HK2
    have HPA := hide (fun V => rParse_any (t.extract 0 i) V (by have := HX.out 0 i; omega))
    have HPB := hide (fun V => rParse_any (t.extract (i + 1) t.size) V (by have := HX.out (i + 1) t.size; omega))
    have sa := pres_size (t.extract 0 i)
    have sb := pres_size (t.extract (i + 1) t.size)
    have hxb := hide (pres_nought (t.extract (i + 1) t.size))
    rw [pquo] at HQ
    generalize pres (t.extract 0 i) = pa at *
    generalize pres (t.extract (i + 1) t.size) = pb at *
    obtain ⟨xa, ea⟩ := pa
    obtain ⟨xb, eb⟩ := pb
    simp only at HPA HPB sa sb HQ hxb
    generalize psz t = r at *
    clear HX
    have hcase : (neg = true ∧ t = s.extract 1 s.size ∧ ∃ h : 0 < s.size, s[0].toNat = 45) ∨ (neg = false ∧ t = s ∧ ∃ h : 0 < s.size, ¬ s[0].toNat = 45) := by
      rcases hcase with h | ⟨h1, h2, h3 | h3⟩
      · exact .inl h
      · rw [h2] at h1'; omega
      · exact .inr ⟨h1, h2, h3⟩
    rcases hcase with ⟨rfl, hte, hp, h45⟩ | ⟨rfl, rfl, hp, h45⟩
    all_goals
      first
        | (have HTE := hide hte; clear hte)
        | (have HTE : Hid True := trivial)
      have hbx := Box.at (w := w) rfl false ⟨#[]⟩ ⟨#[]⟩
      have hB0 : Below w.heap.size w (w.alloc (FC false ⟨#[]⟩ ⟨#[]⟩)) := (Below.refl _ w).alloc (Nat.le_refl _) _
      go_enter Tryz.func32, Tryz.ntmps32
      go_wp2_with fail
      first
        | rw [← HTE.out]
        | skip
      refine (HK1.out _).mono ?_
      rintro e w1 ⟨rfl, hw1⟩
      subst hw1
      go_wp2_with fail
      refine (HPA.out _).mono ?_
      rintro e w2 ⟨rfl, hb2⟩
      have hx2 := hbx.below hb2 hbx.lt
      have hB2 := hB0.trans (hb2.mono hB0.size)
      clear hbx hB0 hb2
      by_cases e1 : ea = 0
      · subst e1
        go_wp2_with fail
        refine (HPB.out _).mono ?_
        rintro e w3 ⟨rfl, hb3⟩
        have hx3 := hx2.below hb3 hx2.lt
        have hB3 := hB2.trans (hb3.mono hB2.size)
        clear hx2 hB2 hb3
        by_cases e2 : eb = 0
        · subst e2
          by_cases hz : N xb = 0
          · have hxe := hxb.out.1 hz
            subst hxe
            have HR : Hid (r = (3, 0)) := by show _ = _; rw [HQ.out, if_neg (by decide), if_neg (by decide), if_pos hz]
            obtain ⟨k0, k1, k2, f0, f1, f2⟩ := hx3.facts
            go_wp2
            refine bodyPost_ret ((hx3.put _ _ _).result2 rfl _ rfl) rfl ?_
            exact ⟨by rw [HR.out, fans, fval_err _ (by decide)]; rfl, below_put hB3 (by omega) _ _ _⟩
          · have hne := hxb.out.2 hz
            have HR : Hid (r = (0, val false xa xb)) := by show _ = _; rw [HQ.out, if_neg (by decide), if_neg (by decide), if_neg hz]
            go_wp2_with fail
            refine (rMake_any _ xa xb _ (by omega) (by omega)).mono ?_
            rintro e w9 ⟨rfl, hb9⟩
            have hx9 := hx3.below hb9 hx3.lt
            have hB9 := hB3.trans (hb9.mono hB3.size)
            obtain ⟨k0, k1, k2, f0, f1, f2⟩ := hx9.facts
            rw [C_eq]
            go_wp2
            refine bodyPost_ret ((hx9.put _ _ _).result2 rfl _ rfl) rfl ?_
            exact ⟨by rw [HR.out, fans_val]; rfl, below_put hB9 (by omega) _ _ _⟩
        · have HR : Hid (r = (eb, 0)) := by show _ = _; rw [HQ.out, if_neg (by decide), if_pos e2]
          have hbeb : (eb == 0) = false := beq_eq_false_iff_ne.2 e2
          obtain ⟨k0, k1, k2, f0, f1, f2⟩ := hx3.facts
          go_wp2
          refine bodyPost_ret ((hx3.put _ _ _).result2 rfl _ rfl) rfl ?_
          exact ⟨by rw [HR.out, fans, fval_err _ e2]; rfl, below_put hB3 (by omega) _ _ _⟩
      · have HR : Hid (r = (ea, 0)) := by show _ = _; rw [HQ.out, if_pos e1]
        have hbea : (ea == 0) = false := beq_eq_false_iff_ne.2 e1
        obtain ⟨k0, k1, k2, f0, f1, f2⟩ := hx2.facts
        go_wp2
        refine bodyPost_ret ((hx2.put _ _ _).result2 rfl _ rfl) rfl ?_
        exact ⟨by rw [HR.out, fans, fval_err _ e1]; rfl, below_put hB2 (by omega) _ _ _⟩
end Go.Proofs.YtmkilmcmgdoiiaaGreatDoor
