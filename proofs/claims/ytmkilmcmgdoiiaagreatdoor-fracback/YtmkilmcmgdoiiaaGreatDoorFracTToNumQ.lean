/- A fraction in digits: package frac's and the document's answer. -/
import Derived.Test.YtmkilmcmgdoiiaaGreatDoorRefQToTextD
import Derived.Test.YtmkilmcmgdoiiaaGreatDoorRefLToParseB
import Derived.Test.YtmkilmcmgdoiiaaGreatDoorRefPToNumP
import Derived.Test.YtmkilmcmgdoiiaaGreatDoorNumEToFracA
namespace Go.Proofs.YtmkilmcmgdoiiaaGreatDoor
open Go.RowKit Go.Lib

/-- The digits of a natural number, as a text. -/
def dtx (n : Nat) : ByteArray := ⟨(decDigits n).toArray⟩
/-- A fraction in digits. -/
def ftxt (q : Rat) : ByteArray :=
  (if sgn q = true then ⟨#[45]⟩ ++ dtx q.num.natAbs else dtx q.num.natAbs) ++ (if q.den = 1 then ⟨#[]⟩ else ⟨#[47]⟩ ++ dtx q.den)
theorem app_nil (a : ByteArray) : a ++ (⟨#[]⟩ : ByteArray) = a := by
  apply ByteArray.ext; rw [ByteArray.data_append]; simp
theorem ftxt_one {q : Rat} (h1 : q.den = 1) : ftxt q = if sgn q = true then ⟨#[45]⟩ ++ dtx q.num.natAbs else dtx q.num.natAbs := by rw [ftxt, if_pos h1, app_nil]
theorem ftxt_two {q : Rat} (h1 : ¬ q.den = 1) : ftxt q = (if sgn q = true then ⟨#[45]⟩ ++ dtx q.num.natAbs else dtx q.num.natAbs) ++ (⟨#[47]⟩ ++ dtx q.den) := by rw [ftxt, if_neg h1]
theorem dtx_size (n : Nat) : (dtx n).size ≤ 3 * (B n).size + 1 := by
  have := dec_fits (B_lt n)
  show (decDigits n).toArray.size ≤ _
  simpa using this

theorem three_of {w w' : World} {g : Nat} {n : Bool} {x y : ByteArray} (h1 : Box w' g n x y) (h3 : Below w.heap.size w w') : (w'.cell? ⟨g, 1, none⟩ = some (.string x) ∧ w'.cell? ⟨g, 2, none⟩ = some (.string y)) ∧ Hid ((∃ b, Box w' g b x y) ∧ Below w.heap.size w w') :=
  ⟨⟨h1.c1, h1.c2⟩, ⟨_, h1⟩, h3⟩

set_option maxRecDepth 100000 in
set_option maxHeartbeats 2000000 in
theorem fText_any (n : Bool) (x y : ByteArray) (w : World) (hx : x.size + y.size ≤ 100000) (htab : TabIs Tryz.prog w "internal/strconv.uint64pow10" .u64 pow10Tab) :
    Calls Tryz.prog 49 #[.agg #[.bool n, .string x, .string y]] w fun e w' => e = .returned (.string (ftxt (val n x y))) ∧ Below w.heap.size w w' := by
  have hq := qw_val n x y
  have HC := hide (fun V => Canon_any n x y V (by omega) (by omega))
  generalize val n x y = q at *
  have z := own_size q
  have HTAB := hide htab
  clear htab
  have d1 := dtx_size q.num.natAbs
  have d2 := dtx_size q.den
  have e1 : (B q.num.natAbs).size = (nu q).size := rfl
  have e2 : (B q.den).size = (de q).size := rfl
  have HT1 := hide (fun (V : World) (h : TabIs Tryz.prog V "internal/strconv.uint64pow10" .u64 pow10Tab) => Text_any (nu q) V (by omega) h)
  have HT2 := hide (fun (V : World) (h : TabIs Tryz.prog V "internal/strconv.uint64pow10" .u64 pow10Tab) => Text_any (de q) V (by omega) h)
  have n1 : N (nu q) = q.num.natAbs := N_B _
  have n2 : N (de q) = q.den := N_B _
  rw [n1] at HT1
  rw [n2] at HT2
  have HCM : Hid (∀ V : World, Calls Tryz.prog 12 #[.string (de q), .string (B 1)] V fun e w' => e = .returned (.int .i64 (cmpI q.den 1)) ∧ w' = V) := fun V => by
    have := Cmp_any (de q) (B 1) V
    rwa [n2, N_B] at this
  have s1 : (dtx q.num.natAbs).size ≤ 400000 := by omega
  have s2 : (dtx q.den).size ≤ 400000 := by omega
  clear d1 d2 e1 e2 n1 n2 z hq
  have P1 := hide (fun h1 => ftxt_one (q := q) h1)
  have P2 := hide (fun h1 => ftxt_two (q := q) h1)
  generalize ftxt q = T at *
  go_enter Tryz.func49, Tryz.ntmps49
  have hbx := Box.at (w := w) rfl n x y
  have hB0 : Below w.heap.size w (w.alloc (FC n x y)) := (Below.refl _ w).alloc (Nat.le_refl _) _
  go_wp2_with fail
  refine (HC.out _).mono ?_
  rintro e w1 ⟨rfl, hb1⟩
  have hx1 := hbx.below hb1 hbx.lt
  have hB1 : Below w.heap.size w w1 := hB0.trans (hb1.mono hB0.size)
  obtain ⟨k0, k1, k2, f0, f1, f2⟩ := hx1.facts
  have hx1' := hx1.put (sgn q) (nu q) (de q)
  have hB1' := below_put hB1 (Nat.le_refl _) (.bool (sgn q)) (.string (nu q)) (.string (de q))
  clear hbx hB0 HC hb1
  rw [C_eq]
  have HTAB1 := hide (tab_below HTAB.out hB1')
  go_wp2_with fail
  refine (HT1.out _ HTAB1.out).mono ?_
  rintro e w2 ⟨rfl, hb2⟩
  have hx2 := hx1'.below hb2 hx1'.lt
  have hB2 : Below w.heap.size w w2 := hB1'.trans (hb2.mono hB1'.size)
  clear k0 k1 k2 f0 f1 f2 HTAB1 hx1' hB1' hx1 hB1 HT1 hb2
  obtain ⟨k0, k1, k2, f0, f1, f2⟩ := hx2.facts
  rw [show (⟨(decDigits q.num.natAbs).toArray⟩ : ByteArray) = dtx q.num.natAbs from rfl]
  have h1s : (⟨#[45]⟩ : ByteArray).size = 1 := rfl
  have h2s : (⟨#[47]⟩ : ByteArray).size = 1 := rfl
  have HT3 : Hid (∀ (V : World), TabIs Tryz.prog V "internal/strconv.uint64pow10" .u64 pow10Tab → Calls Tryz.prog 20 #[.string (de q)] V fun e w' => e = .returned (.string (dtx q.den)) ∧ Below V.heap.size V w') := HT2.out
  clear HT2
  have hcmp : (q.den = 1 ∧ cmpI q.den 1 = 0) ∨ (¬ q.den = 1 ∧ ¬ cmpI q.den 1 = 0) := by
    by_cases h : q.den = 1
    · exact .inl ⟨h, by rw [h]; rfl⟩
    · refine .inr ⟨h, ?_⟩
      rw [cmpI]
      have := q.den_pos
      rw [if_neg (by omega), if_neg h]
      decide
  generalize dtx q.num.natAbs = t1 at *
  generalize dtx q.den = t2 at *
  generalize cmpI q.den 1 = k at *
  generalize hsq : sgn q = sq at *
  cases sq
  all_goals
    go_upto_region 5 with fail
    go_region_held3 (fun w' => (w'.cell? ⟨w.heap.size, 1, none⟩ = some (.string (nu q)) ∧ w'.cell? ⟨w.heap.size, 2, none⟩ = some (.string (de q))) ∧ Hid ((∃ b, Box w' w.heap.size b (nu q) (de q)) ∧ Below w.heap.size w w'))
      (first | exact three_of hx3 hB3 | exact three_of hx2.drew hB2.drew)
      (first
        | (have HH := hx3; go_at_call 12; refine (HCM.out _).mono ?_; rintro e w4 ⟨rfl, hw4⟩; subst hw4)
        | (go_at_call 10; refine (Of_to 1 (Below.refl _ _) rfl (by omega)).mono ?_; rintro e w3 ⟨rfl, hb3⟩; have hx3 := hx2.drew.below hb3 hx2.lt; have hB3 : Below w.heap.size w w3 := hB2.drew.trans (hb3.mono hB2.size)))
    have HTAB3 := hide (tab_below HTAB.out hB3)
    obtain ⟨c0, c1, c2, g0, g1, g2⟩ := hx3.facts
    rcases hcmp with ⟨hd, rfl⟩ | ⟨hd, hk⟩
    · have HE := hide (P1.out hd)
      clear P1 P2 hd
      go_wp2
      go_ret
      exact ⟨by rw [HE.out]; rfl, hB3⟩
    · have HE := hide (P2.out hd)
      clear P1 P2 hd
      have hkb : (k == 0) = false := beq_eq_false_iff_ne.2 hk
      go_wp2_with fail
      refine (HT3.out _ HTAB3.out).mono ?_
      rintro e w5 ⟨rfl, hb5⟩
      have hB5 : Below w.heap.size w w5 := hB3.trans (hb5.mono hB3.size)
      go_wp2
      go_ret
      exact ⟨by rw [HE.out]; rfl, hB5⟩

set_option maxRecDepth 100000 in
set_option maxHeartbeats 2000000 in
theorem rTextF_any (n : Bool) (x y : ByteArray) (w : World) (hx : x.size + y.size ≤ 100000) :
    Calls Tryz.prog 50 #[.agg #[.bool n, .string x, .string y]] w fun e w' => e = .returned (.string (ftxt (val n x y))) ∧ Below w.heap.size w w' := by
  have hq := qw_val n x y
  have HC := hide (fun V => rCanon_any n x y V (by omega) (by omega))
  generalize val n x y = q at *
  have z := own_size q
  have d1 := dtx_size q.num.natAbs
  have d2 := dtx_size q.den
  have e1 : (B q.num.natAbs).size = (nu q).size := rfl
  have e2 : (B q.den).size = (de q).size := rfl
  have n1 : N (nu q) = q.num.natAbs := N_B _
  have n2 : N (de q) = q.den := N_B _
  have HT1 : Hid (∀ V : World, Calls Tryz.prog 21 #[.string (nu q)] V fun e w' => e = .returned (.string (dtx q.num.natAbs)) ∧ Below V.heap.size V w') := fun V => by
    have := rText_any (nu q) V (by omega)
    rwa [n1] at this
  have HT3 : Hid (∀ V : World, Calls Tryz.prog 21 #[.string (de q)] V fun e w' => e = .returned (.string (dtx q.den)) ∧ Below V.heap.size V w') := fun V => by
    have := rText_any (de q) V (by omega)
    rwa [n2] at this
  have s1 : (dtx q.num.natAbs).size ≤ 400000 := by omega
  have s2 : (dtx q.den).size ≤ 400000 := by omega
  clear d1 d2 e1 e2 n1 n2 z hq
  have P1 := hide (fun h1 => ftxt_one (q := q) h1)
  have P2 := hide (fun h1 => ftxt_two (q := q) h1)
  generalize ftxt q = T at *
  go_enter Tryz.func50, Tryz.ntmps50
  have hbx := Box.at (w := w) rfl n x y
  have hB0 : Below w.heap.size w (w.alloc (FC n x y)) := (Below.refl _ w).alloc (Nat.le_refl _) _
  go_wp2_with fail
  refine (HC.out _).mono ?_
  rintro e w1 ⟨rfl, hb1⟩
  have hx1 := hbx.below hb1 hbx.lt
  have hB1 : Below w.heap.size w w1 := hB0.trans (hb1.mono hB0.size)
  obtain ⟨k0, k1, k2, f0, f1, f2⟩ := hx1.facts
  have hx1' := hx1.put (sgn q) (nu q) (de q)
  have hB1' := below_put hB1 (Nat.le_refl _) (.bool (sgn q)) (.string (nu q)) (.string (de q))
  clear hbx hB0 HC hb1
  rw [C_eq]
  go_wp2_with fail
  refine (HT1.out _).mono ?_
  rintro e w2 ⟨rfl, hb2⟩
  have hx2 := hx1'.below hb2 hx1'.lt
  have hB2 : Below w.heap.size w w2 := hB1'.trans (hb2.mono hB1'.size)
  clear k0 k1 k2 f0 f1 f2 hx1' hB1' hx1 hB1 HT1 hb2
  obtain ⟨k0, k1, k2, f0, f1, f2⟩ := hx2.facts
  have h1s : (⟨#[45]⟩ : ByteArray).size = 1 := rfl
  have h2s : (⟨#[47]⟩ : ByteArray).size = 1 := rfl
  have hcmp : (q.den = 1 ∧ de q = ⟨#[1]⟩) ∨ (¬ q.den = 1 ∧ ((de q).toList == [1]) = false) := by
    by_cases h : q.den = 1
    · exact .inl ⟨h, by rw [de, h, B_one]⟩
    · exact .inr ⟨h, ne_one h⟩
  generalize dtx q.num.natAbs = t1 at *
  generalize dtx q.den = t2 at *
  generalize hsq : sgn q = sq at *
  generalize de q = dq at *
  cases sq
  all_goals
    rcases hcmp with ⟨hd, rfl⟩ | ⟨hd, hk⟩
    · have HE := hide (P1.out hd)
      clear P1 P2 hd
      go_wp2
      go_ret
      exact ⟨by rw [HE.out]; rfl, hB2⟩
    · have HE := hide (P2.out hd)
      clear P1 P2 hd
      go_wp2_with fail
      refine (HT3.out _).mono ?_
      rintro e w5 ⟨rfl, hb5⟩
      have hB5 : Below w.heap.size w w5 := hB2.trans (hb5.mono hB2.size)
      go_wp2
      go_ret
      exact ⟨by rw [HE.out, ← ByteArray.append_assoc]; rfl, hB5⟩
end Go.Proofs.YtmkilmcmgdoiiaaGreatDoor

/- The text of a fraction reads back as the fraction: plain facts. -/
namespace Go.Proofs.YtmkilmcmgdoiiaaGreatDoor
open Go.RowKit Go.Lib

theorem dec_not (m : Nat) (c : UInt8) (hc : c.toNat < 48) : ∀ x ∈ decDigits m, ¬ x = c := by
  intro x hx e
  have := List.all_eq_true.1 (dec_all m) x hx
  simp only [isDig, decide_eq_true_eq] at this
  rw [e] at this
  omega
theorem pres_dtx (m : Nat) (h : (decDigits m).length ≤ 400) : pres (dtx m) = (B m, 0) := by
  have h1 : (dtx m).data.toList = decDigits m := rfl
  have h2 : (dtx m).size = (decDigits m).length := by rw [← bytes_len, h1]
  rw [pres, h1, dec_well, if_pos rfl, if_neg (by omega), dval_dec]
theorem psz_one (m : Nat) (h : (decDigits m).length ≤ 400) : psz (dtx m) = (0, val false (B m) (B 1)) := by
  have h1 : (dtx m).data.toList = decDigits m := rfl
  have e1 : ix (dtx m) 47 = -1 := by rw [ix, h1]; exact idx_none _ _ (dec_not m 47 (by decide))
  have e2 : ix (dtx m) 46 = -1 := by rw [ix, h1]; exact idx_none _ _ (dec_not m 46 (by decide))
  rw [psz, e1, e2, if_neg (by decide), if_neg (by decide), pone, pres_dtx m h]
  rfl
theorem psz_two (m d : Nat) (hd : d ≠ 0) (h : (decDigits m).length ≤ 400) (h' : (decDigits d).length ≤ 400) : psz (dtx m ++ (⟨#[47]⟩ ++ dtx d)) = (0, val false (B m) (B d)) := by
  have h1 : (dtx m ++ (⟨#[47]⟩ ++ dtx d)).data.toList = decDigits m ++ 47 :: decDigits d := by rw [cat_data, cat_data]; rfl
  have hs : (dtx m).size = (decDigits m).length := by rw [← bytes_len]; rfl
  have e1 : ix (dtx m ++ (⟨#[47]⟩ ++ dtx d)) 47 = (dtx m).size := by rw [ix, h1, idx_hit _ _ _ (dec_not m 47 (by decide)), hs]
  have x1 : (dtx m ++ (⟨#[47]⟩ ++ dtx d)).extract 0 (dtx m).size = dtx m := by
    apply ByteArray.ext
    apply Array.toList_inj.1
    rw [ByteArray.data_extract, Array.toList_extract, h1, hs]
    simp
    rfl
  have x2 : (dtx m ++ (⟨#[47]⟩ ++ dtx d)).extract ((dtx m).size + 1) (dtx m ++ (⟨#[47]⟩ ++ dtx d)).size = dtx d := by
    apply ByteArray.ext
    apply Array.toList_inj.1
    rw [ByteArray.data_extract, Array.toList_extract, ← bytes_len (_ ++ _), h1, hs]
    have hz : List.drop ((decDigits m).length + 1) (decDigits m) = [] := List.drop_eq_nil_of_le (by omega)
    simp only [List.extract, List.drop_append, hz, List.nil_append, List.length_append, List.length_cons]
    rw [show (decDigits m).length + 1 - (decDigits m).length = 1 by omega]
    show List.take _ (decDigits d) = decDigits d
    exact List.take_of_length_le (by omega)
  rw [psz, e1, if_pos (by omega), Int.toNat_natCast, x1, x2, pquo, pres_dtx m h, pres_dtx d h']
  simp only [N_B]
  rw [if_neg (by decide), if_neg (by decide), if_neg hd]
theorem psz_txt (q : Rat) (h : (decDigits q.num.natAbs).length ≤ 400) (h' : (decDigits q.den).length ≤ 400) : psz (dtx q.num.natAbs ++ (if q.den = 1 then ⟨#[]⟩ else ⟨#[47]⟩ ++ dtx q.den)) = (0, val false (nu q) (de q)) := by
  by_cases h1 : q.den = 1
  · rw [if_pos h1, app_nil, psz_one _ h]
    simp only [nu, de, h1]
  · rw [if_neg h1, psz_two _ _ q.den_nz h h']
    rfl
theorem first_dig (m : Nat) (t : ByteArray) : hasPrefix (dtx m ++ t).data.toList [45] = false := by
  rw [cat_data]
  show hasPrefix (decDigits m ++ _) _ = false
  cases hl : decDigits m with
  | nil => exact absurd hl (dec_ne m)
  | cons x r =>
    have := dec_not m 45 (by decide) x (by rw [hl]; simp)
    simp [hasPrefix, List.isPrefixOf]
    exact fun e => this e.symm
theorem tail_of (t : ByteArray) : (⟨#[45]⟩ ++ t : ByteArray).extract 1 (⟨#[45]⟩ ++ t : ByteArray).size = t := by
  apply ByteArray.ext
  apply Array.toList_inj.1
  rw [ByteArray.data_extract, Array.toList_extract, ← bytes_len (_ ++ _), cat_data]
  simp [List.extract]
  exact List.take_of_length_le (by rw [bytes_len]; exact Nat.le_refl _)
theorem fpar_back (q : Rat) (h : (decDigits q.num.natAbs).length ≤ 400) (h' : (decDigits q.den).length ≤ 400) : fpar (ftxt q) = (0, q) := by
  have hp := psz_txt q h h'
  have hv := val_own q
  cases hs : sgn q with
  | false =>
    rw [ftxt, hs, if_neg (by decide), fpar, if_neg (by rw [first_dig]; decide), hp]
    rw [hs] at hv
    rw [hv]
  | true =>
    rw [ftxt, hs, if_pos rfl, ByteArray.append_assoc, fpar, if_pos (by rw [cat_data]; rfl), tail_of, hp]
    rw [hs, show true = !false from rfl, val_not] at hv
    rw [hv]
theorem dec_160 (n k : Nat) (h : n < 256 ^ k) (hk : k ≤ 160) : (decDigits n).length ≤ 400 := by
  refine dec_len 399 n (Nat.lt_of_lt_of_le h (Nat.le_trans (Nat.pow_le_pow_right (by decide) hk) ?_))
  decide +kernel
end Go.Proofs.YtmkilmcmgdoiiaaGreatDoor
