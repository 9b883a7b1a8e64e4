/- Package frac reads a text. -/
import Derived.Test.YtmkilmcmgdoiiaaGreatDoorRefPToNumP
import Derived.Test.YtmkilmcmgdoiiaaGreatDoorFracGToRefQ
namespace Go.Proofs.YtmkilmcmgdoiiaaGreatDoor
open Go.RowKit Go.Lib

set_option maxRecDepth 100000 in
set_option maxHeartbeats 1000000 in
theorem parseQuotient_any (a b : ByteArray) (w : World) (ha : a.size ≤ 100000) (hb : b.size ≤ 100000) :
    Calls Tryz.prog 106 #[.string a, .string b] w fun e w' => ∃ x y : ByteArray, e = .returned (.tuple #[.string x, .string y, .int .i64 (pquo a b).1]) ∧ ((pquo a b).1 = 0 → val false x y = (pquo a b).2) ∧ x.size ≤ 100000 ∧ y.size ≤ 100000 ∧ Below w.heap.size w w' := by
  have HPA := hide (fun V => Parse_pres a V (by omega))
  have HPB := hide (fun V => Parse_pres b V (by omega))
  have sa := pres_size a
  have sb := pres_size b
  have HQ : Hid (pquo a b = if (pres a).2 ≠ 0 then ((pres a).2, 0) else if (pres b).2 ≠ 0 then ((pres b).2, 0) else if N (pres b).1 = 0 then (3, 0) else (0, val false (pres a).1 (pres b).1)) := rfl
  generalize pquo a b = r at *
  generalize pres a = pa at *
  generalize pres b = pb at *
  obtain ⟨xa, ea⟩ := pa
  obtain ⟨xb, eb⟩ := pb
  simp only at HPA HPB sa sb HQ
  have HN := hide (fun V => isNought_any xb V)
  clear ha hb
  go_enter Tryz.func106, Tryz.ntmps106
  go_wp2_with fail
  refine (HPA.out _).mono ?_
  rintro e w1 ⟨rfl, hb1⟩
  by_cases h1 : ea = 0
  · subst h1
    rw [if_neg (by decide)] at HQ
    go_wp2_with fail
    refine (HPB.out _).mono ?_
    rintro e w2 ⟨rfl, hb2⟩
    have hB2 := hb1.trans (hb2.mono hb1.size)
    by_cases h2 : eb = 0
    · subst h2
      rw [if_neg (by decide)] at HQ
      go_wp2_with fail
      refine (HN.out _).mono ?_
      rintro e w3 ⟨rfl, hw3⟩
      subst hw3
      by_cases h3 : N xb = 0
      · rw [if_pos h3] at HQ
        rw [decide_eq_true h3]
        go_wp2
        go_ret3
        rw [HQ.out]
        exact ⟨_, _, rfl, fun h => absurd h (by decide), by show 0 ≤ _; omega, by show 0 ≤ _; omega, hB2⟩
      · rw [if_neg h3] at HQ
        rw [decide_eq_false h3]
        go_wp2
        go_ret3
        rw [HQ.out]
        exact ⟨_, _, rfl, fun _ => rfl, by omega, by omega, hB2⟩
    · rw [if_pos h2] at HQ
      have h2b : (eb == 0) = false := beq_eq_false_iff_ne.2 h2
      go_wp2
      go_ret3
      rw [HQ.out]
      exact ⟨_, _, rfl, fun h => absurd h h2, by show 0 ≤ _; omega, by show 0 ≤ _; omega, hB2⟩
  · rw [if_pos h1] at HQ
    have h1b : (ea == 0) = false := beq_eq_false_iff_ne.2 h1
    go_wp2
    go_ret3
    rw [HQ.out]
    exact ⟨_, _, rfl, fun h => absurd h h1, by show 0 ≤ _; omega, by show 0 ≤ _; omega, hb1⟩

set_option maxRecDepth 100000 in
set_option maxHeartbeats 1000000 in
theorem parseDecimal_any (a b : ByteArray) (w : World) (ha : a.size ≤ 100000) (hb : b.size ≤ 100000) :
    Calls Tryz.prog 107 #[.string a, .string b] w fun e w' => ∃ x y : ByteArray, e = .returned (.tuple #[.string x, .string y, .int .i64 (pdec a b).1]) ∧ ((pdec a b).1 = 0 → val false x y = (pdec a b).2) ∧ x.size ≤ 100000 ∧ y.size ≤ 100000 ∧ Below w.heap.size w w' := by
  have h1s : (⟨#[49]⟩ : ByteArray).size = 1 := rfl
  have hcat : (⟨#[49]⟩ ++ b : ByteArray).size ≤ 140737488355328 := by rw [ByteArray.size_append, h1s]; omega
  have HPA := hide (fun V => Parse_pres a V (by omega))
  have HPM := hide (fun V => Parse_pres (⟨#[49]⟩ ++ b) V hcat)
  have sa := pres_size a
  have HQ : Hid (pdec a b = if (pres a).2 ≠ 0 then ((pres a).2, 0) else if allDig b.data.toList = false then (1, 0) else if 400 ≤ b.size then (2, 0) else (0, val false (B (N (pres a).1 * 10 ^ b.size + dval b.data.toList)) (B (10 ^ b.size)))) := rfl
  generalize pdec a b = r at *
  generalize pres a = pa at *
  obtain ⟨xa, ea⟩ := pa
  simp only at HPA sa HQ
  clear hcat
  go_enter Tryz.func107, Tryz.ntmps107
  go_wp2_with fail
  refine (HPA.out _).mono ?_
  rintro e w1 ⟨rfl, hb1⟩
  by_cases h1 : ea = 0
  · subst h1
    rw [if_neg (by decide)] at HQ
    by_cases h0 : b.size = 0
    · obtain rfl : b = ⟨#[]⟩ := by
        obtain ⟨⟨l⟩⟩ := b
        have : l = [] := List.eq_nil_of_length_eq_zero (by simpa [ByteArray.size] using h0)
        rw [this]
      rw [if_pos (show allDig (⟨#[]⟩ : ByteArray).data.toList = false from rfl)] at HQ
      clear HPM
      go_wp2
      go_ret3
      rw [HQ.out]
      exact ⟨_, _, rfl, fun h => absurd h (by decide), by show 0 ≤ _; omega, by show 0 ≤ _; omega, hb1⟩
    · have hm := pres_mark b (by omega)
      rw [hm] at HPM
      clear hm
      have hne : b.toList.isEmpty = false := by
        rw [toList_data]
        cases hl : b.data.toList with
        | nil => rw [← bytes_len, hl] at h0; exact absurd rfl h0
        | cons x r => rfl
      cases hd : allDig b.data.toList with
      | false =>
        rw [hd, if_pos rfl] at HQ HPM
        simp only at HPM
        clear hd
        go_wp2_with fail
        refine (HPM.out _).mono ?_
        rintro e w2 ⟨rfl, hb2⟩
        have hB2 := hb1.trans (hb2.mono hb1.size)
        go_wp2
        go_ret3
        rw [HQ.out]
        exact ⟨_, _, rfl, fun h => absurd h (by decide), by show 0 ≤ _; omega, by show 0 ≤ _; omega, hB2⟩
      | true =>
        have t0 := pres_size (⟨#[49]⟩ ++ b)
        rw [pres_mark b (by omega), hd, if_neg (by decide)] at t0
        rw [hd, if_neg (by decide)] at HQ HPM
        clear hd
        by_cases h4 : 400 ≤ b.size
        · rw [if_pos h4] at HQ HPM
          simp only at HPM
          go_wp2_with fail
          refine (HPM.out _).mono ?_
          rintro e w2 ⟨rfl, hb2⟩
          have hB2 := hb1.trans (hb2.mono hb1.size)
          go_wp2
          go_ret3
          rw [HQ.out]
          exact ⟨_, _, rfl, fun h => absurd h (by decide), by show 0 ≤ _; omega, by show 0 ≤ _; omega, hB2⟩
        · rw [if_neg h4] at HQ HPM
          simp only at HPM
          have hrep := fun V => Tryz.strings_Repeat ⟨#[48]⟩ b.size V (by omega) (by show 1 * _ ≤ _; omega)
          have hz : (repeatL (⟨#[48]⟩ : ByteArray).data.toList b.size) = List.replicate b.size 48 := repeat_zeros _
          rw [hz] at hrep
          have hzs : (⟨(List.replicate b.size (48 : UInt8)).toArray⟩ : ByteArray).size = b.size := by
            show (List.replicate b.size (48 : UInt8)).toArray.size = _
            simp
          have hten := pres_ten ⟨(List.replicate b.size (48 : UInt8)).toArray⟩ b.size rfl (by omega) (by omega)
          have HREP := hide hrep
          have HP2 := hide (fun V => Parse_pres (⟨#[49]⟩ ++ ⟨(List.replicate b.size (48 : UInt8)).toArray⟩) V (by rw [ByteArray.size_append, h1s, hzs]; omega))
          rw [hten] at HP2
          simp only at HP2
          clear hrep hz hten
          have t1 := ten_size b.size
          rw [if_neg h4] at t0
          simp only at t0
          generalize 10 ^ b.size = M at *
          generalize dval b.data.toList = D at *
          have m1 := sz_mul (N xa) M
          have m2 := sz_add (N xa * M) D
          have m3 := sz_mono (show D ≤ M + D by omega)
          have m4 := B_size_le xa
          go_wp2_with fail
          refine (HPM.out _).mono ?_
          rintro e w2 ⟨rfl, hb2⟩
          have hB2 := hb1.trans (hb2.mono hb1.size)
          go_wp2_with fail
          refine (HREP.out _).mono ?_
          rintro e w3 ⟨rfl, hb3⟩
          have hB3 := hB2.trans (hb3.mono hB2.size)
          go_wp2_with fail
          refine (HP2.out _).mono ?_
          rintro e w4 ⟨rfl, hb4⟩
          have hB4 := hB3.trans (hb4.mono hB3.size)
          go_wp2_with fail
          refine (Sub_to D hB4 (by rw [N_B, N_B]) (by omega) (by omega)).mono ?_
          rintro e w5 ⟨rfl, hB5⟩
          go_wp2_with fail
          refine (Mul_to (N xa * M) hB5 (by rw [N_B]) (by omega) (by omega)).mono ?_
          rintro e w6 ⟨rfl, hB6⟩
          go_wp2_with fail
          refine (Add_to (N xa * M + D) hB6 (by rw [N_B, N_B]) (by omega) (by omega)).mono ?_
          rintro e w7 ⟨rfl, hB7⟩
          go_wp2
          go_ret3
          rw [HQ.out]
          exact ⟨_, _, rfl, fun _ => rfl, by omega, by omega, hB7⟩
  · rw [if_pos h1] at HQ
    have h1b : (ea == 0) = false := beq_eq_false_iff_ne.2 h1
    clear HPM
    go_wp2
    go_ret3
    rw [HQ.out]
    exact ⟨_, _, rfl, fun h => absurd h h1, by show 0 ≤ _; omega, by show 0 ≤ _; omega, hb1⟩

set_option maxRecDepth 100000 in
set_option maxHeartbeats 1000000 in
theorem parseSize_any (s : ByteArray) (m : Int) (w : World) (hs : s.size ≤ 100000) (hm : w.cell? ⟨1, 0, none⟩ = some (.int .i64 m)) :
    Calls Tryz.prog 77 #[.string s] w fun e w' => ∃ x y : ByteArray, e = .returned (.tuple #[.string x, .string y, .int .i64 (psz s).1]) ∧ ((psz s).1 = 0 → val false x y = (psz s).2) ∧ x.size ≤ 100000 ∧ y.size ≤ 100000 ∧ Below w.heap.size w w' := by
  have HC1 := hide (Tryz.strings_Cut s ⟨#[47]⟩ m w (by omega) hm)
  have HC2 := hide (fun k => Tryz.strings_Cut s ⟨#[46]⟩ m (w.drewN k) (by omega) hm)
  have HQ : Hid (psz s = if 0 ≤ ix s 47 then pquo (s.extract 0 (ix s 47).toNat) (s.extract ((ix s 47).toNat + 1) s.size)
    else if 0 ≤ ix s 46 then pdec (s.extract 0 (ix s 46).toNat) (s.extract ((ix s 46).toNat + 1) s.size) else pone s) := rfl
  have hx : ∀ i j : Nat, (s.extract i j).size ≤ 100000 := fun i j => by rw [ByteArray.size_extract]; omega
  rcases ix_cases s 47 with h1 | ⟨i, h1, h1'⟩
  · obtain ⟨c1, c2, c3⟩ := cutB_miss s ⟨#[47]⟩ h1
    rw [c1, c2, c3] at HC1
    rw [if_neg (by omega)] at HQ
    clear c1 c2 c3 h1
    rcases ix_cases s 46 with h2 | ⟨i, h2, h2'⟩
    · obtain ⟨c1, c2, c3⟩ := cutB_miss s ⟨#[46]⟩ h2
      rw [c1, c2, c3] at HC2
      rw [if_neg (by omega), pone] at HQ
      clear c1 c2 c3 h2
      have HP := hide (fun V => Parse_pres s V (by omega))
      have sp := pres_size s
      have s1 := B_one_size
      generalize psz s = r at *
      generalize pres s = ps at *
      obtain ⟨xa, ea⟩ := ps
      simp only at HP HQ sp
      go_enter Tryz.func77, Tryz.ntmps77
      go_wp2_with fail
      refine (HC1.out).mono ?_
      rintro e w1 ⟨rfl, n1, hw1⟩
      subst hw1
      go_wp2_with fail
      refine (HC2.out _).mono ?_
      rintro e w2 ⟨rfl, n2, hw2⟩
      subst hw2
      have hB0 : Below w.heap.size w (w.drewN (n1 + n2)) := below_dr (Below.refl _ w) _
      go_wp2_with fail
      refine (under hB0 (HP.out _)).mono ?_
      rintro e w3 ⟨rfl, hB3⟩
      go_wp2_with fail
      refine (Of_to 1 hB3 rfl (by omega)).mono ?_
      rintro e w4 ⟨rfl, hB4⟩
      go_wp2
      go_ret3
      rw [HQ.out]
      by_cases h : ea = 0
      · subst h
        rw [if_neg (by decide)]
        exact ⟨_, _, rfl, fun _ => rfl, by omega, by omega, hB4⟩
      · rw [if_pos h]
        exact ⟨_, _, rfl, fun h' => absurd h' h, by omega, by omega, hB4⟩
    · obtain ⟨c1, c2, c3⟩ := cutB_hit s ⟨#[46]⟩ i h2
      rw [c1, c2, c3] at HC2
      rw [if_pos (by omega), h2, Int.toNat_natCast] at HQ
      rw [show (⟨#[46]⟩ : ByteArray).size = 1 from rfl] at HC2
      clear c1 c2 c3 h2
      have HP := hide (fun V => parseDecimal_any (s.extract 0 i) (s.extract (i + 1) s.size) V (hx _ _) (hx _ _))
      generalize s.extract 0 i = sa at *
      generalize s.extract (i + 1) s.size = sb at *
      rw [← HQ.out] at HP
      go_enter Tryz.func77, Tryz.ntmps77
      go_wp2_with fail
      refine (HC1.out).mono ?_
      rintro e w1 ⟨rfl, n1, hw1⟩
      subst hw1
      go_wp2_with fail
      refine (HC2.out _).mono ?_
      rintro e w2 ⟨rfl, n2, hw2⟩
      subst hw2
      have hB0 : Below w.heap.size w (w.drewN (n1 + n2)) := below_dr (Below.refl _ w) _
      go_wp2_with fail
      refine (HP.out _).mono ?_
      rintro e w3 ⟨x, y, rfl, hv, z1, z2, hb3⟩
      go_wp2
      go_ret3
      exact ⟨_, _, rfl, hv, z1, z2, hB0.trans (hb3.mono hB0.size)⟩
  · obtain ⟨c1, c2, c3⟩ := cutB_hit s ⟨#[47]⟩ i h1
    rw [c1, c2, c3] at HC1
    rw [if_pos (by omega), h1, Int.toNat_natCast] at HQ
    rw [show (⟨#[47]⟩ : ByteArray).size = 1 from rfl] at HC1
    clear c1 c2 c3 h1 HC2
    have HP := hide (fun V => parseQuotient_any (s.extract 0 i) (s.extract (i + 1) s.size) V (hx _ _) (hx _ _))
    generalize s.extract 0 i = sa at *
    generalize s.extract (i + 1) s.size = sb at *
    rw [← HQ.out] at HP
    go_enter Tryz.func77, Tryz.ntmps77
    go_wp2_with fail
    refine (HC1.out).mono ?_
    rintro e w1 ⟨rfl, n1, hw1⟩
    subst hw1
    have hB0 : Below w.heap.size w (w.drewN n1) := below_dr (Below.refl _ w) _
    go_wp2_with fail
    refine (HP.out _).mono ?_
    rintro e w3 ⟨x, y, rfl, hv, z1, z2, hb3⟩
    go_wp2
    go_ret3
    exact ⟨_, _, rfl, hv, z1, z2, hB0.trans (hb3.mono hB0.size)⟩

theorem prefix_cases (s : ByteArray) : (hasPrefix s.data.toList [45] = true ∧ (⟨(trimPrefix s.data.toList [45]).toArray⟩ : ByteArray) = s.extract 1 s.size) ∨ (hasPrefix s.data.toList [45] = false ∧ (⟨(trimPrefix s.data.toList [45]).toArray⟩ : ByteArray) = s) := by
  cases h : hasPrefix s.data.toList [45] with
  | true =>
    refine .inl ⟨rfl, ?_⟩
    rw [trimPrefix, if_pos h]
    apply ByteArray.ext
    apply Array.toList_inj.1
    rw [ByteArray.data_extract, Array.toList_extract]
    simp [List.take_of_length_le]
  | false =>
    refine .inr ⟨rfl, ?_⟩
    rw [trimPrefix, if_neg (by rw [h]; decide)]

set_option maxRecDepth 100000 in
set_option maxHeartbeats 1000000 in
theorem fParse_any (s : ByteArray) (m : Int) (w : World) (hs : s.size ≤ 100000) (hm : w.cell? ⟨1, 0, none⟩ = some (.int .i64 m)) :
    Calls Tryz.prog 31 #[.string s] w fun e w' => e = .returned (.tuple #[fval (fpar s), .int .i64 (fpar s).1]) ∧ Below w.heap.size w w' := by
  have hlt : 1 < w.heap.size := by
    rcases Nat.lt_or_ge 1 w.heap.size with h | h
    · exact h
    · simp [World.cell?, Array.getElem?_eq_none h] at hm
  have HCP := hide (fun V => Tryz.strings_CutPrefix s ⟨#[45]⟩ V)
  rw [show (⟨#[45]⟩ : ByteArray).data.toList = [45] from rfl] at HCP
  obtain ⟨t, neg, ht, HF, HC⟩ : ∃ (t : ByteArray) (neg : Bool), t.size ≤ 100000 ∧ Hid (fpar s = ((psz t).1, if neg = true then -(psz t).2 else (psz t).2)) ∧ Hid (∀ V : World, Calls Tryz.prog 76 #[.string s, .string ⟨#[45]⟩] V fun e w' => e = .returned (.tuple #[.string t, .bool neg]) ∧ w' = V) := by
    rcases prefix_cases s with ⟨h1, h2⟩ | ⟨h1, h2⟩
    · refine ⟨s.extract 1 s.size, true, by rw [ByteArray.size_extract]; omega, ?_, ?_⟩
      · show _ = _
        rw [fpar, if_pos h1]; rfl
      · rw [h1, h2] at HCP; exact HCP
    · refine ⟨s, false, hs, ?_, ?_⟩
      · show _ = _
        rw [fpar, if_neg (by rw [h1]; decide)]; rfl
      · rw [h1, h2] at HCP; exact HCP
  rw [HF.out]
  have HS := hide (fun (V : World) (h : V.cell? ⟨1, 0, none⟩ = some (.int .i64 m)) => parseSize_any t m V ht h)
  clear HF HCP
  generalize psz t = r at *
  obtain ⟨re, rq⟩ := r
  simp only at HS
  have HV : Hid (∀ q, fval (re, q) = if re = 0 then C q else .agg #[.bool false, .string ⟨#[]⟩, .string ⟨#[]⟩]) := fun q => rfl
  rw [HV.out]
  clear HV
  have HN : Hid (∀ x y, val false x y = rq → val neg x y = if neg = true then -rq else rq) := fun x y h => by
    cases neg
    · exact h
    · show val (!false) x y = _
      rw [val_not, h]; rfl
  generalize (if neg = true then -rq else rq) = q2 at *
  go_enter Tryz.func31, Tryz.ntmps31
  have hbx := Box.at (w := w) rfl false ⟨#[]⟩ ⟨#[]⟩
  have hB0 : Below w.heap.size w (w.alloc (FC false ⟨#[]⟩ ⟨#[]⟩)) := (Below.refl _ w).alloc (Nat.le_refl _) _
  have HM := hide ((hB0.cell (p := ⟨1, 0, none⟩) hlt).trans hm)
  clear hm
  go_wp2_with fail
  refine (HC.out _).mono ?_
  rintro e w1 ⟨rfl, hw1⟩
  subst hw1
  go_wp2_with fail
  refine (HS.out _ HM.out).mono ?_
  rintro e w2 ⟨x, y, rfl, hv, z1, z2, hb2⟩
  have hx2 := hbx.below hb2 hbx.lt
  have hB2 := hB0.trans (hb2.mono hB0.size)
  have HV := hide hv
  clear hv hbx hB0 hb2 HM
  by_cases h0 : re = 0
  · subst h0
    have HV2 := hide (HN.out x y (HV.out rfl))
    go_wp2_with fail
    refine (Make_any neg x y _ (by omega) (by omega)).mono ?_
    rintro e w3 ⟨rfl, hb3⟩
    have hx3 := hx2.below hb3 hx2.lt
    have hB3 := hB2.trans (hb3.mono hB2.size)
    obtain ⟨k0, k1, k2, f0, f1, f2⟩ := hx3.facts
    rw [HV2.out, C_eq]
    go_wp2
    refine bodyPost_ret ((hx3.put _ _ _).result2 rfl _ rfl) rfl ?_
    exact ⟨rfl, below_put hB3 (by omega) _ _ _⟩
  · have h0b : (re == 0) = false := beq_eq_false_iff_ne.2 h0
    obtain ⟨k0, k1, k2, f0, f1, f2⟩ := hx2.facts
    go_wp2
    refine bodyPost_ret ((hx2.put _ _ _).result2 rfl _ rfl) rfl ?_
    exact ⟨rfl, below_put hB2 (by omega) _ _ _⟩
end Go.Proofs.YtmkilmcmgdoiiaaGreatDoor
