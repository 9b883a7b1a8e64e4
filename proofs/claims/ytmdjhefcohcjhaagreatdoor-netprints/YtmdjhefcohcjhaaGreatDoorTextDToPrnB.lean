/- nat.Text: the decimal numeral of the number that the string stands for. -/
import Derived.Test.YtmdjhefcohcjhaaGreatDoorRtEToTextC
import Derived.WalkSmall
import Derived.Test.YtmdjhefcohcjhaaGreatDoorFracFToRefR
import Derived.Lib.Join
namespace Go.Proofs.YtmdjhefcohcjhaaGreatDoor
open Go.RowKit Go.Lib



theorem builder_below {T e : TypeId} {Bb b : Nat} {bs : List Value} {w w' : World} (h : IsBuilder T e Bb b bs w) (hb : Below w.heap.size w w') : IsBuilder T e Bb b bs w' := by
  have one : ∀ p, BuilderAt T e Bb b p bs w → BuilderAt T e Bb b p bs w' := by
    rintro p h
    obtain ⟨hB, v, hbk, hown, hne⟩ := id h
    exact ⟨hB, v, (hb.block b h.lt).trans hbk, own_below hown hb (Nat.le_refl _), hne⟩
  rcases h with h | h
  · exact .inl (one _ h)
  · exact .inr (one _ h)

theorem tab_below {w w' : World} (h : TabIs Tryz.prog w "internal/strconv.uint64pow10" .u64 pow10Tab) (hb : Below w.heap.size w w') : TabIs Tryz.prog w' "internal/strconv.uint64pow10" .u64 pow10Tab := by
  cases hg : Tryz.prog.globalNamed "internal/strconv.uint64pow10" with
  | none => simp [TabIs, World.var?, hg] at h
  | some g =>
    by_cases hlt : g < w.heap.size
    · exact var?_below hb hg hlt h
    · simp [TabIs, World.var?, hg, Array.getElem?_eq_none (show w.heap.size ≤ g by omega)] at h

theorem write_txt (Bb b : Nat) (l : List UInt8) (s : ByteArray) (w : World) (h : IsBuilder 67 5 Bb b (Lib.byteCells l) w) (hlen : l.length + s.size ≤ 140737488355328) (hBw : Bb ≤ w.heap.size) :
    Calls Tryz.prog 35 #[.pointer (some ⟨b, 0, none⟩), .string s] w fun e w' => e = .returned (.tuple #[.int .i64 s.size, .nilIface]) ∧ IsBuilder 67 5 Bb b (Lib.byteCells (l ++ s.data.toList)) w' ∧ Below Bb w w' := by
  refine (WriteString_any Bb b (Lib.byteCells l) s w h (by simpa [Lib.byteCells] using hlen) hBw).mono ?_
  rintro e w' ⟨rfl, h1, h2⟩
  refine ⟨rfl, .inr ?_, h2⟩
  have e1 : Lib.byteCells (l ++ s.data.toList) = Lib.byteCells l ++ Lib.strCells s := by simp [Lib.byteCells, Lib.strCells]
  rw [e1]; exact h1
theorem size_list (s : ByteArray) : s.data.toList.length = s.size := by rw [Array.length_toList]; rfl
theorem size_mk (l : List UInt8) : (⟨l.toArray⟩ : ByteArray).size = l.length := by rw [← size_list]
theorem repeat_48 (c : Nat) : repeatL [48] c = List.replicate c 48 := by
  induction c with
  | zero => rfl
  | succ c ih => rw [repeatL, ih, List.replicate_succ]; rfl

theorem dec_size (u : Nat) (h : u < 1000000000) : (decDigits u).length ≤ 9 := by
  have h1 := decs_pad 8 u (by simpa using h)
  have h2 : (decs 9 u).length = 9 := rfl
  rw [h1, List.length_append] at h2
  omega

set_option maxRecDepth 100000 in
set_option maxHeartbeats 2000000 in
theorem Text_any (s : ByteArray) (w : World) (hs : s.size ≤ 1099511627776) (htab : TabIs Tryz.prog w "internal/strconv.uint64pow10" .u64 pow10Tab) :
    Calls Tryz.prog 61 #[.string s] w fun e w' => e = .returned (.string ⟨(decDigits (N s)).toArray⟩) ∧ Below w.heap.size w w' := by
  have hwl : (words (N s)).length ≤ 1099511627776 := by
    rw [words_length, ← B_size]
    have := B_size_le s
    omega
  have hgl := grp_words (N s)
  have hsp := spread_any s w (by omega)
  generalize hm : N s = m at *
  have HM : Hid (N s = m) := hm
  have HS := hide hsp
  have HT := hide htab
  clear hm hsp htab
  go_enter Tryz.func61, Tryz.ntmps61
  go_wp2_with fail
  refine HS.out.mono ?_
  rintro e w1 ⟨v, rfl, hv, hb1⟩
  go_wp2_with fail
  refine (groupsOf_any w.heap.size v m w1 (by omega) hv hb1.size (fun k hk => (World.ownsRow.lt hv k hk).2)).mono ?_
  rintro e w2 ⟨v2, rfl, hv2, hb2⟩
  have hb02 : Below w.heap.size w w2 := hb1.trans hb2
  by_cases h0 : m = 0
  · subst h0
    rw [grp_zero] at hv2
    have hd : decDigits 0 = [48] := dec_small (by omega)
    rcases hv2.cases with ⟨rfl, _⟩ | ⟨g, cap, rfl, _, _, _⟩
    all_goals
      go_wp2
      go_ret
      exact ⟨by rw [hd]; rfl, hb02⟩
  · have hne : grp m ≠ [] := fun e => h0 ((grp_nil_iff m).1 e)
    have hpos : 0 < (grp m).length := List.length_pos_iff.2 hne
    have hpb : (((grp m).length : Int) == 0) = false := by simp; omega
    rcases hv2.cases with ⟨_, hnil⟩ | ⟨g, cap, rfl, hcap, hbg, hlg⟩
    · exact absurd hnil hne
    · go_wp2
      have hf0 := fresh_isBuilder 67 5 w2
      have hB2 : Below w2.heap.size w2 (w2.alloc (.cells #[.pointer none, .slice none 0 0] 67)) := (Below.refl _ _).alloc (Nat.le_refl _) _
      go_loopw [15] (fun i wr => ∃ k : Nat, k ≤ (grp m).length ∧ i = .int .i64 k ∧ IsBuilder 67 5 w2.heap.size w2.heap.size (Lib.byteCells (txt m k)) wr ∧ Below w2.heap.size w2 wr)
        (fun i _ => (grp m).length - (RowKit.intOf i).toNat)
      case atStart => exact ⟨0, Nat.zero_le _, rfl, hf0, hB2⟩
      case round =>
        obtain ⟨k, hk, rfl, hbr, hBr⟩ := hrel
        clear hf0 hB2
        have htl := txt_len m k hk
        by_cases hlt : k < (grp m).length
        · have hgk : (grp m).length - 1 - k < (grp m).length := by omega
          have hcell := (hBr.cell (p := ⟨g, 0 + ((grp m).length - 1 - k), none⟩) hlg.lt).trans (hlg.cell _ hgk)
          rw [Nat.zero_add] at hcell
          have hidx : (((grp m).length : Int) - 1 - (k : Int)).toNat = (grp m).length - 1 - k := by omega
          have HX := hide (txt_succ m k hlt)
          have hxb : (grp m)[(grp m).length - 1 - k]?.getD 0 < 1000000000 := by
            rw [grp_get _ m hgk]; exact Nat.mod_lt _ G_pos
          generalize (grp m)[(grp m).length - 1 - k]?.getD 0 = x at *
          have htr : TabIs Tryz.prog wr "internal/strconv.uint64pow10" .u64 pow10Tab := tab_below HT.out (hb02.trans (hBr.mono hb02.size))
          have hfu := FormatUint_any x wr (by omega) htr
          have hds : (⟨(decDigits x).toArray⟩ : ByteArray).size ≤ 9 := dec_size x hxb
          have HD : Hid ((⟨(decDigits x).toArray⟩ : ByteArray).data.toList = decDigits x) := rfl
          generalize (⟨(decDigits x).toArray⟩ : ByteArray) = D at *
          have HF := hide hfu
          clear hfu htr
          go_wp2_with fail
          refine HF.out.mono ?_
          rintro e w3 ⟨rfl, hb3⟩
          have hbr3 := builder_below hbr hb3
          have hB3 : Below w2.heap.size w2 w3 := hBr.trans (hb3.mono hBr.size)
          clear hbr hb3 hcell HF
          by_cases h0k : 0 < k
          · go_wp2_with fail
            rw [show (9 : Int) - (D.size : Int) = ((9 - D.size : Nat) : Int) by omega]
            refine (Tryz.strings_Repeat ⟨#[48]⟩ (9 - D.size) _ (by omega) (by show 1 * _ ≤ _; omega)).mono ?_
            rintro e w4 ⟨rfl, hb4⟩
            have hbr4 := builder_below hbr3 hb4
            have hB4 : Below w2.heap.size w2 w4 := hB3.trans (hb4.mono hB3.size)
            have hz4 : (⟨(repeatL [48] (9 - D.size)).toArray⟩ : ByteArray).size ≤ 9 := by rw [size_mk, repeat_48, List.length_replicate]; omega
            have HZ : Hid ((⟨(repeatL [48] (9 - D.size)).toArray⟩ : ByteArray).data.toList = List.replicate (9 - D.size) 48) := by rw [repeat_48]; rfl
            generalize (⟨(repeatL [48] (9 - D.size)).toArray⟩ : ByteArray) = Z at *
            go_wp2_with fail
            refine (write_txt w2.heap.size w2.heap.size (txt m k) Z _ hbr4 (by omega) hB4.size).mono ?_
            rintro e w5 ⟨rfl, hbr5, hb5⟩
            have hB5 : Below w2.heap.size w2 w5 := hB4.trans hb5
            have HZ2 : Hid ((txt m k ++ Z.data.toList).length ≤ 9 * k + 9) := by show _ ≤ _; rw [List.length_append, size_list]; omega
            clear hbr4 hbr3
            go_wp2_with fail
            refine (write_txt w2.heap.size w2.heap.size _ D _ hbr5 (by have := HZ2.out; omega) hB5.size).mono ?_
            rintro e w6 ⟨rfl, hbr6, hb6⟩
            have hB6 : Below w2.heap.size w2 w6 := hB5.trans hb6
            have HE : Hid (txt m k ++ Z.data.toList ++ D.data.toList = txt m (k + 1)) := by
              show _ = _
              have hdl : D.size = (decDigits x).length := by rw [← HD.out, size_list]
              rw [HX.out, if_neg (by omega), HZ.out, HD.out, hdl, List.append_assoc]
            clear hbr5
            go_wp2
            go_roundw
            case rel => exact ⟨k + 1, by omega, by go_num, by rw [HE.out] at hbr6; exact hbr6, hB6⟩
            case measure => simp [RowKit.intOf]; omega
          · go_wp2_with fail
            refine (write_txt w2.heap.size w2.heap.size (txt m k) D _ hbr3 (by omega) hB3.size).mono ?_
            rintro e w6 ⟨rfl, hbr6, hb6⟩
            have hB6 : Below w2.heap.size w2 w6 := hB3.trans hb6
            have HE : Hid (txt m k ++ D.data.toList = txt m (k + 1)) := by
              show _ = _
              rw [HX.out, if_pos (by omega), HD.out]
            clear hbr3
            go_wp2
            go_roundw
            case rel => exact ⟨k + 1, by omega, by go_num, by rw [HE.out] at hbr6; exact hbr6, hB6⟩
            case measure => simp [RowKit.intOf]; omega
        · obtain rfl : k = (grp m).length := by omega
          have HA := hide (txt_all m h0)
          go_wp2_with fail
          refine (Tryz.Builder_String_any w2.heap.size w2.heap.size (txt m (grp m).length) _ hbr hBr.size).mono ?_
          rintro e w3 ⟨rfl, hb3⟩
          go_wp2
          go_ret
          exact ⟨by rw [HA.out]; rfl, hb02.trans ((hBr.trans hb3).mono hb02.size)⟩
end Go.Proofs.YtmdjhefcohcjhaaGreatDoor


/- A fraction in digits: package frac's and the document's answer. -/
namespace Go.Proofs.YtmdjhefcohcjhaaGreatDoor
open Go.RowKit Go.Lib

/-- The digits of a natural number, as a text. -/
def dtx (n : Nat) : ByteArray := ⟨(decDigits n).toArray⟩
/-- A fraction in digits. -/
def ftxt (q : Rat) : ByteArray :=
  (if sgn q = true then ⟨#[45]⟩ ++ dtx q.num.natAbs else dtx q.num.natAbs) ++ (if q.den = 1 then ⟨#[]⟩ else ⟨#[47]⟩ ++ dtx q.den)
theorem app_nil (a : ByteArray) : a ++ (⟨#[]⟩ : ByteArray) = a := by
  apply ByteArray.ext; rw [ByteArray.data_append]; simp
theorem ftxt_one {q : Rat} (h1 : q.den = 1) : ftxt q = if sgn q = true then ⟨#[45]⟩ ++ dtx q.num.natAbs else dtx q.num.natAbs := by rw [ftxt, if_pos h1, app_nil]
theorem ftxt_two {q : Rat} (h1 : ¬ q.den = 1) : ftxt q = (if sgn q = true then ⟨#[45]⟩ ++ dtx q.num.natAbs else dtx q.num.natAbs) ++ (⟨#[47]⟩ ++ dtx q.den) := by rw [ftxt, if_neg h1]
theorem dtx_size (n : Nat) : (dtx n).size ≤ 3 * (B n).size + 1 := by
  have := dec_fits (B_lt n)
  show (decDigits n).toArray.size ≤ _
  simpa using this

theorem three_of {w w' : World} {g : Nat} {n : Bool} {x y : ByteArray} (h1 : Box w' g n x y) (h3 : Below w.heap.size w w') : (w'.cell? ⟨g, 1, none⟩ = some (.string x) ∧ w'.cell? ⟨g, 2, none⟩ = some (.string y)) ∧ Hid ((∃ b, Box w' g b x y) ∧ Below w.heap.size w w') :=
  ⟨⟨h1.c1, h1.c2⟩, ⟨_, h1⟩, h3⟩

set_option maxRecDepth 100000 in
set_option maxHeartbeats 2000000 in
theorem fText_any (n : Bool) (x y : ByteArray) (w : World) (hx : x.size + y.size ≤ 100000) (htab : TabIs Tryz.prog w "internal/strconv.uint64pow10" .u64 pow10Tab) :
    Calls Tryz.prog 37 #[.agg #[.bool n, .string x, .string y]] w fun e w' => e = .returned (.string (ftxt (val n x y))) ∧ Below w.heap.size w w' := by
  have hq := qw_val n x y
  have HC := hide (fun V => Canon_any n x y V (by omega) (by omega))
  generalize val n x y = q at *
  have z := own_size q
  have HTAB := hide htab
  clear htab
  have d1 := dtx_size q.num.natAbs
  have d2 := dtx_size q.den
  have e1 : (B q.num.natAbs).size = (nu q).size := rfl
  have e2 : (B q.den).size = (de q).size := rfl
  have HT1 := hide (fun (V : World) (h : TabIs Tryz.prog V "internal/strconv.uint64pow10" .u64 pow10Tab) => Text_any (nu q) V (by omega) h)
  have HT2 := hide (fun (V : World) (h : TabIs Tryz.prog V "internal/strconv.uint64pow10" .u64 pow10Tab) => Text_any (de q) V (by omega) h)
  have n1 : N (nu q) = q.num.natAbs := N_B _
  have n2 : N (de q) = q.den := N_B _
  rw [n1] at HT1
  rw [n2] at HT2
  have HCM : Hid (∀ V : World, Calls Tryz.prog 62 #[.string (de q), .string (B 1)] V fun e w' => e = .returned (.int .i64 (cmpI q.den 1)) ∧ w' = V) := fun V => by
    have := Cmp_any (de q) (B 1) V
    rwa [n2, N_B] at this
  have s1 : (dtx q.num.natAbs).size ≤ 400000 := by omega
  have s2 : (dtx q.den).size ≤ 400000 := by omega
  clear d1 d2 e1 e2 n1 n2 z hq
  have P1 := hide (fun h1 => ftxt_one (q := q) h1)
  have P2 := hide (fun h1 => ftxt_two (q := q) h1)
  generalize ftxt q = T at *
  go_enter Tryz.func37, Tryz.ntmps37
  have hbx := Box.at (w := w) rfl n x y
  have hB0 : Below w.heap.size w (w.alloc (FC n x y)) := (Below.refl _ w).alloc (Nat.le_refl _) _
  go_wp2_with fail
  refine (HC.out _).mono ?_
  rintro e w1 ⟨rfl, hb1⟩
  have hx1 := hbx.below hb1 hbx.lt
  have hB1 : Below w.heap.size w w1 := hB0.trans (hb1.mono hB0.size)
  obtain ⟨k0, k1, k2, f0, f1, f2⟩ := hx1.facts
  have hx1' := hx1.put (sgn q) (nu q) (de q)
  have hB1' := below_put hB1 (Nat.le_refl _) (.bool (sgn q)) (.string (nu q)) (.string (de q))
  clear hbx hB0 HC hb1
  rw [C_eq]
  have HTAB1 := hide (tab_below HTAB.out hB1')
  go_wp2_with fail
  refine (HT1.out _ HTAB1.out).mono ?_
  rintro e w2 ⟨rfl, hb2⟩
  have hx2 := hx1'.below hb2 hx1'.lt
  have hB2 : Below w.heap.size w w2 := hB1'.trans (hb2.mono hB1'.size)
  clear k0 k1 k2 f0 f1 f2 HTAB1 hx1' hB1' hx1 hB1 HT1 hb2
  obtain ⟨k0, k1, k2, f0, f1, f2⟩ := hx2.facts
  rw [show (⟨(decDigits q.num.natAbs).toArray⟩ : ByteArray) = dtx q.num.natAbs from rfl]
  have h1s : (⟨#[45]⟩ : ByteArray).size = 1 := rfl
  have h2s : (⟨#[47]⟩ : ByteArray).size = 1 := rfl
  have HT3 : Hid (∀ (V : World), TabIs Tryz.prog V "internal/strconv.uint64pow10" .u64 pow10Tab → Calls Tryz.prog 61 #[.string (de q)] V fun e w' => e = .returned (.string (dtx q.den)) ∧ Below V.heap.size V w') := HT2.out
  clear HT2
  have hcmp : (q.den = 1 ∧ cmpI q.den 1 = 0) ∨ (¬ q.den = 1 ∧ ¬ cmpI q.den 1 = 0) := by
    by_cases h : q.den = 1
    · exact .inl ⟨h, by rw [h]; rfl⟩
    · refine .inr ⟨h, ?_⟩
      rw [cmpI]
      have := q.den_pos
      rw [if_neg (by omega), if_neg h]
      decide
  generalize dtx q.num.natAbs = t1 at *
  generalize dtx q.den = t2 at *
  generalize cmpI q.den 1 = k at *
  generalize hsq : sgn q = sq at *
  cases sq
  all_goals
    go_upto_region 5 with fail
    go_region_held3 (fun w' => (w'.cell? ⟨w.heap.size, 1, none⟩ = some (.string (nu q)) ∧ w'.cell? ⟨w.heap.size, 2, none⟩ = some (.string (de q))) ∧ Hid ((∃ b, Box w' w.heap.size b (nu q) (de q)) ∧ Below w.heap.size w w'))
      (first | exact three_of hx3 hB3 | exact three_of hx2.drew hB2.drew)
      (first
        | (have HH := hx3; go_at_call 62; refine (HCM.out _).mono ?_; rintro e w4 ⟨rfl, hw4⟩; subst hw4)
        | (go_at_call 63; refine (Of_to 1 (Below.refl _ _) rfl (by omega)).mono ?_; rintro e w3 ⟨rfl, hb3⟩; have hx3 := hx2.drew.below hb3 hx2.lt; have hB3 : Below w.heap.size w w3 := hB2.drew.trans (hb3.mono hB2.size)))
    have HTAB3 := hide (tab_below HTAB.out hB3)
    obtain ⟨c0, c1, c2, g0, g1, g2⟩ := hx3.facts
    rcases hcmp with ⟨hd, rfl⟩ | ⟨hd, hk⟩
    · have HE := hide (P1.out hd)
      clear P1 P2 hd
      go_wp2
      go_ret
      exact ⟨by rw [HE.out]; rfl, hB3⟩
    · have HE := hide (P2.out hd)
      clear P1 P2 hd
      have hkb : (k == 0) = false := beq_eq_false_iff_ne.2 hk
      go_wp2_with fail
      refine (HT3.out _ HTAB3.out).mono ?_
      rintro e w5 ⟨rfl, hb5⟩
      have hB5 : Below w.heap.size w w5 := hB3.trans (hb5.mono hB3.size)
      go_wp2
      go_ret
      exact ⟨by rw [HE.out]; rfl, hB5⟩

set_option maxRecDepth 100000 in
set_option maxHeartbeats 2000000 in
theorem rTextF_any (n : Bool) (x y : ByteArray) (w : World) (hx : x.size + y.size ≤ 100000) :
    Calls Tryz.prog 24 #[.agg #[.bool n, .string x, .string y]] w fun e w' => e = .returned (.string (ftxt (val n x y))) ∧ Below w.heap.size w w' := by
  have hq := qw_val n x y
  have HC := hide (fun V => rCanon_any n x y V (by omega) (by omega))
  generalize val n x y = q at *
  have z := own_size q
  have d1 := dtx_size q.num.natAbs
  have d2 := dtx_size q.den
  have e1 : (B q.num.natAbs).size = (nu q).size := rfl
  have e2 : (B q.den).size = (de q).size := rfl
  have n1 : N (nu q) = q.num.natAbs := N_B _
  have n2 : N (de q) = q.den := N_B _
  have HT1 : Hid (∀ V : World, Calls Tryz.prog 46 #[.string (nu q)] V fun e w' => e = .returned (.string (dtx q.num.natAbs)) ∧ Below V.heap.size V w') := fun V => by
    have := rText_any (nu q) V (by omega)
    rwa [n1] at this
  have HT3 : Hid (∀ V : World, Calls Tryz.prog 46 #[.string (de q)] V fun e w' => e = .returned (.string (dtx q.den)) ∧ Below V.heap.size V w') := fun V => by
    have := rText_any (de q) V (by omega)
    rwa [n2] at this
  have s1 : (dtx q.num.natAbs).size ≤ 400000 := by omega
  have s2 : (dtx q.den).size ≤ 400000 := by omega
  clear d1 d2 e1 e2 n1 n2 z hq
  have P1 := hide (fun h1 => ftxt_one (q := q) h1)
  have P2 := hide (fun h1 => ftxt_two (q := q) h1)
  generalize ftxt q = T at *
  go_enter Tryz.func24, Tryz.ntmps24
  have hbx := Box.at (w := w) rfl n x y
  have hB0 : Below w.heap.size w (w.alloc (FC n x y)) := (Below.refl _ w).alloc (Nat.le_refl _) _
  go_wp2_with fail
  refine (HC.out _).mono ?_
  rintro e w1 ⟨rfl, hb1⟩
  have hx1 := hbx.below hb1 hbx.lt
  have hB1 : Below w.heap.size w w1 := hB0.trans (hb1.mono hB0.size)
  obtain ⟨k0, k1, k2, f0, f1, f2⟩ := hx1.facts
  have hx1' := hx1.put (sgn q) (nu q) (de q)
  have hB1' := below_put hB1 (Nat.le_refl _) (.bool (sgn q)) (.string (nu q)) (.string (de q))
  clear hbx hB0 HC hb1
  rw [C_eq]
  go_wp2_with fail
  refine (HT1.out _).mono ?_
  rintro e w2 ⟨rfl, hb2⟩
  have hx2 := hx1'.below hb2 hx1'.lt
  have hB2 : Below w.heap.size w w2 := hB1'.trans (hb2.mono hB1'.size)
  clear k0 k1 k2 f0 f1 f2 hx1' hB1' hx1 hB1 HT1 hb2
  obtain ⟨k0, k1, k2, f0, f1, f2⟩ := hx2.facts
  have h1s : (⟨#[45]⟩ : ByteArray).size = 1 := rfl
  have h2s : (⟨#[47]⟩ : ByteArray).size = 1 := rfl
  have hcmp : (q.den = 1 ∧ de q = ⟨#[1]⟩) ∨ (¬ q.den = 1 ∧ ((de q).toList == [1]) = false) := by
    by_cases h : q.den = 1
    · exact .inl ⟨h, by rw [de, h, B_one]⟩
    · exact .inr ⟨h, ne_one h⟩
  generalize dtx q.num.natAbs = t1 at *
  generalize dtx q.den = t2 at *
  generalize hsq : sgn q = sq at *
  generalize de q = dq at *
  cases sq
  all_goals
    rcases hcmp with ⟨hd, rfl⟩ | ⟨hd, hk⟩
    · have HE := hide (P1.out hd)
      clear P1 P2 hd
      go_wp2
      go_ret
      exact ⟨by rw [HE.out]; rfl, hB2⟩
    · have HE := hide (P2.out hd)
      clear P1 P2 hd
      go_wp2_with fail
      refine (HT3.out _).mono ?_
      rintro e w5 ⟨rfl, hb5⟩
      have hB5 : Below w.heap.size w w5 := hB2.trans (hb5.mono hB2.size)
      go_wp2
      go_ret
      exact ⟨by rw [HE.out, ← ByteArray.append_assoc]; rfl, hB5⟩
end Go.Proofs.YtmdjhefcohcjhaaGreatDoor


/- The text of a net, as a list of bytes. (Plain.) -/
namespace Go.Proofs.YtmdjhefcohcjhaaGreatDoor
open Go.RowKit Go.Shelf

/-- A text's bytes. -/
def bl (s : ByteArray) : List UInt8 := s.data.toList
/-- The text of some bytes. -/
def tx (l : List UInt8) : ByteArray := ⟨l.toArray⟩
theorem tx_bl (s : ByteArray) : tx (bl s) = s := rfl
theorem bl_tx (l : List UInt8) : bl (tx l) = l := rfl
theorem bl_app (a b : ByteArray) : bl (a ++ b) = bl a ++ bl b := by rw [bl, ByteArray.data_append]; simp [bl]
theorem tx_app (l : List UInt8) (s : ByteArray) : tx l ++ s = tx (l ++ bl s) := by rw [← tx_bl (tx l ++ s), bl_app, bl_tx]
theorem tx_size (l : List UInt8) : (tx l).size = l.length := by show l.toArray.size = _; simp
theorem bl_length (s : ByteArray) : (bl s).length = s.size := by rw [bl, Array.length_toList]; rfl
theorem app_tx (s t : ByteArray) : s ++ t = tx (bl s ++ bl t) := by rw [← tx_bl (s ++ t), bl_app]
/-- Texts, a blank ahead of each. -/
def spL (xs : List ByteArray) : List UInt8 := xs.flatMap fun s => 32 :: bl s
theorem spL_app (a b : List ByteArray) : spL (a ++ b) = spL a ++ spL b := by simp [spL]
theorem spL_one (s : ByteArray) : spL [s] = 32 :: bl s := by simp [spL]
theorem spL_snoc (a : List ByteArray) (s : ByteArray) : spL (a ++ [s]) = spL a ++ [32] ++ bl s := by rw [spL_app, spL_one]; simp
theorem joinTail_sp (r : List ByteArray) : Lib.joinTail [32] (r.map (·.data.toList)) = spL r := by
  induction r with
  | nil => rfl
  | cons x r ih =>
    simp only [Lib.joinTail, List.map_cons, List.flatten_cons] at ih ⊢
    rw [ih]
    simp [spL, bl]
theorem spL_join (xs : List ByteArray) (h : xs ≠ []) : [32] ++ Lib.join (xs.map (·.data.toList)) [32] = spL xs := by
  match xs, h with
  | x :: r, _ =>
    rw [List.map_cons, Lib.join_cons, joinTail_sp]
    simp [spL, bl]
theorem join_nil_sep (xs : List (List UInt8)) : Lib.join xs [] = xs.flatten := by
  match xs with
  | [] => rfl
  | x :: r =>
    rw [Lib.join_cons, Lib.joinTail]
    simp
/-- All of them are at most so long. -/
theorem spL_le {xs : List ByteArray} {m : Nat} (h : ∀ s ∈ xs, s.size ≤ m) : (spL xs).length ≤ (m + 1) * xs.length := by
  induction xs with
  | nil => simp [spL]
  | cons x r ih =>
    have h1 := ih fun s hs => h s (List.mem_cons_of_mem _ hs)
    have h2 := h x List.mem_cons_self
    have e : spL (x :: r) = 32 :: bl x ++ spL r := by simp [spL]
    rw [e, List.length_append, List.length_cons, bl_length, List.length_cons, Nat.mul_succ]
    omega
theorem flat_le {α : Type} {l : List α} {f : α → List UInt8} {m : Nat} (h : ∀ x ∈ l, (f x).length ≤ m) : (l.flatMap f).length ≤ m * l.length := by
  induction l with
  | nil => simp
  | cons x r ih =>
    have h1 := ih fun s hs => h s (List.mem_cons_of_mem _ hs)
    have h2 := h x List.mem_cons_self
    rw [List.flatMap_cons, List.length_append, List.length_cons, Nat.mul_succ]
    omega
theorem flat_take {α : Type} (l : List α) (f : α → List UInt8) {i : Nat} (h : i < l.length) : (l.take (i + 1)).flatMap f = (l.take i).flatMap f ++ f l[i] := by
  rw [List.take_succ_eq_append_getElem h, List.flatMap_append]
  simp
theorem flat_range (f : Nat → List UInt8) (i : Nat) : (List.range (i + 1)).flatMap f = (List.range i).flatMap f ++ f i := by
  rw [List.range_succ, List.flatMap_append]
  simp
theorem flat_more (f : Nat → List UInt8) {i n : Nat} (h : i ≤ n) : ((List.range i).flatMap f).length ≤ ((List.range n).flatMap f).length := by
  induction n with
  | zero => obtain rfl : i = 0 := by omega
            exact Nat.le_refl _
  | succ n ih =>
    rcases Nat.lt_or_ge i (n + 1) with h1 | h1
    · have := ih (by omega)
      rw [flat_range, List.length_append]
      omega
    · obtain rfl : i = n + 1 := by omega
      exact Nat.le_refl _
/-- A fraction in digits. -/
def ftF (f : Fr) : ByteArray := ftxt (val f.1 f.2.1 f.2.2)
/-- The line that declares a variable. -/
def lineL (x : Vr) : List UInt8 := [118, 97, 114, 32] ++ bl x.1 ++ [32, 123] ++ spL x.2 ++ [32, 125, 10]
/-- A row's numbers. -/
def rowL (l : List Fr) : List UInt8 := [32, 58] ++ spL (l.map ftF) ++ [32, 59]
/-- A variable's name, a value's. -/
def nmV (V : List Vr) (v : Nat) : ByteArray := (V.getD v (⟨#[]⟩, [])).1
def vlV (V : List Vr) (v k : Nat) : ByteArray := (V.getD v (⟨#[]⟩, [])).2.getD k ⟨#[]⟩
/-- The names of the values that variables have, from the first on. -/
def valsL (V : List Vr) (P D : List Nat) (n : Nat) : List ByteArray := (List.range n).map fun j => vlV V (P.getD j 0) (D.getD j 0)
/-- A line of a variable that has parents. -/
def blockL (V : List Vr) (L : List (List Int)) (R : List (List Fr)) (v i : Nat) : List UInt8 :=
  spL (valsL V (toN (L.getD v [])) (digs (sizesN V) (toN (L.getD v [])) i) (L.getD v []).length) ++ rowL (chunkF (R.getD v []) (sz (sizesN V) v) i) ++ [10]
def headL (V : List Vr) (L : List (List Int)) (v : Nat) : List UInt8 := bl (nmV V v) ++ [32, 124] ++ spL ((toN (L.getD v [])).map (nmV V)) ++ [32, 123, 10]
/-- The lines of a variable. -/
def varL (V : List Vr) (L : List (List Int)) (R : List (List Fr)) (v : Nat) : List UInt8 :=
  if (L.getD v []).length = 0 then bl (nmV V v) ++ rowL (R.getD v []) ++ [10]
  else headL V L v ++ (List.range (cnt (sizesN V) (toN (L.getD v [])))).flatMap (blockL V L R v) ++ [125, 10]
/-- The text of a net. -/
def netL (V : List Vr) (L : List (List Int)) (R : List (List Fr)) : List UInt8 := V.flatMap lineL ++ (List.range V.length).flatMap (varL V L R)
/-- What is wrong with a net that is to be printed, and its text. -/
def prE (V : List Vr) (L : List (List Int)) (R : List (List Fr)) : Int := if netE V L R = 0 then (if (netL V L R).length ≤ 20000 then 0 else 2) else netE V L R
def prT (V : List Vr) (L : List (List Int)) (R : List (List Fr)) : ByteArray := if netE V L R = 0 ∧ (netL V L R).length ≤ 20000 then tx (netL V L R) else ⟨#[]⟩
theorem ftF_size {f : Fr} (h : f.2.1.size + f.2.2.size ≤ 10000) : (ftF f).size ≤ 100000 := by
  have z := own_size (val f.1 f.2.1 f.2.2)
  have hq := qw_val f.1 f.2.1 f.2.2
  have d1 := dtx_size (val f.1 f.2.1 f.2.2).num.natAbs
  have d2 := dtx_size (val f.1 f.2.1 f.2.2).den
  have e1 : (B (val f.1 f.2.1 f.2.2).num.natAbs).size = (nu (val f.1 f.2.1 f.2.2)).size := rfl
  have e2 : (B (val f.1 f.2.1 f.2.2).den).size = (de (val f.1 f.2.1 f.2.2)).size := rfl
  have a1 : (⟨#[45]⟩ : ByteArray).size = 1 := rfl
  have a2 : (⟨#[47]⟩ : ByteArray).size = 1 := rfl
  have a3 : (⟨#[]⟩ : ByteArray).size = 0 := rfl
  rw [ftF, ftxt, ByteArray.size_append]
  split <;> split <;> (try simp only [ByteArray.size_append]) <;> omega
theorem digs_lt {S : List Nat} (hp : Pos S) (vs : List Nat) (k i : Nat) (hk : k < cnt S vs) (h : i < vs.length) : (digs S vs k)[i]'(by rw [digs_length]; exact h) < sz S vs[i] := by
  rw [digs_get hp vs k i hk h]
  have e := cnt_drop S vs h
  have p1 := cnt_pos hp (vs.drop (i + 1))
  have p2 := cnt_pos hp (vs.drop i)
  rw [Nat.div_lt_iff_lt_mul (by omega), ← e]
  exact Nat.mod_lt _ (by omega)
theorem nm_size {V : List Vr} (hs : VSm V) (v : Nat) : (nmV V v).size ≤ 5000 := by
  by_cases h : v < V.length
  · rw [nmV, getV h]; exact (hs.2 _ (List.getElem_mem h)).1
  · rw [nmV, List.getD_eq_getElem?_getD, List.getElem?_eq_none (by omega)]; exact Nat.zero_le _
theorem vl_size {V : List Vr} (hs : VSm V) (v k : Nat) : (vlV V v k).size ≤ 5000 := by
  by_cases h : v < V.length
  · rw [vlV, getV h]
    by_cases h2 : k < V[v].2.length
    · rw [List.getD_eq_getElem?_getD, List.getElem?_eq_getElem h2]; exact (hs.2 _ (List.getElem_mem h)).2.2 _ (List.getElem_mem h2)
    · rw [List.getD_eq_getElem?_getD, List.getElem?_eq_none (by omega)]; exact Nat.zero_le _
  · rw [vlV, List.getD_eq_getElem?_getD (l := V), List.getElem?_eq_none (by omega)]
    exact Nat.zero_le _
theorem vals_le {V : List Vr} (hs : VSm V) (P D : List Nat) (n : Nat) : (spL (valsL V P D n)).length ≤ 5001 * n := by
  have := spL_le (xs := valsL V P D n) (m := 5000) fun s h => by
    obtain ⟨j, _, rfl⟩ := List.mem_map.1 h
    exact vl_size hs _ _
  simpa [valsL] using this
theorem valsL_succ (V : List Vr) (P D : List Nat) (n : Nat) : valsL V P D (n + 1) = valsL V P D n ++ [vlV V (P.getD n 0) (D.getD n 0)] := by simp [valsL, List.range_succ]
theorem nms_le {V : List Vr} (hs : VSm V) (l : List Nat) : (spL (l.map (nmV V))).length ≤ 5001 * l.length := by
  have := spL_le (xs := l.map (nmV V)) (m := 5000) fun s h => by
    obtain ⟨j, _, rfl⟩ := List.mem_map.1 h
    exact nm_size hs _
  simpa using this
theorem row_le {l : List Fr} (h : fw l ≤ 10000) : (rowL l).length ≤ 4 + 100001 * l.length := by
  have := spL_le (xs := l.map ftF) (m := 100000) fun s hs => by
    obtain ⟨f, hf, rfl⟩ := List.mem_map.1 hs
    have := fw_mem hf
    exact ftF_size (by omega)
  rw [List.length_map] at this
  simp only [rowL, List.length_append, List.length_cons, List.length_nil]
  omega
theorem line_le {V : List Vr} (hs : VSm V) {x : Vr} (h : x ∈ V) (h4 : x.2.length ≤ 4) : (lineL x).length ≤ 26000 := by
  have h1 := (hs.2 x h).1
  have h2 := spL_le (xs := x.2) (m := 5000) (hs.2 x h).2.2
  simp only [lineL, List.length_append, List.length_cons, List.length_nil, bl_length]
  omega
theorem block_le {V : List Vr} {L : List (List Int)} {R : List (List Fr)} (hs : NSm V L R) {v i : Nat} (hv : v < R.length) (h8 : (L.getD v []).length ≤ 8) (h4 : sz (sizesN V) v ≤ 4) : (blockL V L R v i).length ≤ 500000 := by
  have e : R.getD v [] = R[v] := by rw [List.getD_eq_getElem?_getD, List.getElem?_eq_getElem hv]; rfl
  have h1 := vals_le hs.vars (toN (L.getD v [])) (digs (sizesN V) (toN (L.getD v [])) i) (L.getD v []).length
  have h2 := fw_chunk R[v] (sz (sizesN V) v) i
  have h3 := (hs.rows.2 _ (List.getElem_mem hv)).2
  have h5 := row_le (l := chunkF R[v] (sz (sizesN V) v) i) (by omega)
  have h6 : (chunkF R[v] (sz (sizesN V) v) i).length ≤ 4 := by rw [chunkF, List.length_take]; omega
  rw [blockL, e, List.length_append, List.length_append, List.length_cons, List.length_nil]
  omega
theorem head_le {V : List Vr} {L : List (List Int)} {R : List (List Fr)} (hs : NSm V L R) {v : Nat} (h8 : (L.getD v []).length ≤ 8) : (headL V L v).length ≤ 60000 := by
  have h1 := nm_size hs.vars v
  have h2 := nms_le hs.vars (toN (L.getD v []))
  rw [toN_length] at h2
  simp only [headL, List.length_append, List.length_cons, List.length_nil, bl_length]
  omega
/-- A row, as package net writes it. -/
def rowP (l : List Fr) : List UInt8 := Lib.join ((l.map ftF).map (·.data.toList)) [32] ++ [32, 59, 10]
theorem rowP_eq {l : List Fr} (h : l ≠ []) : [32, 58, 32] ++ rowP l = rowL l ++ [10] := by
  have e := spL_join (l.map ftF) (by simpa using h)
  rw [rowL, rowP, ← e]
  simp
theorem line_eq {x : Vr} (h : x.2 ≠ []) : [118, 97, 114, 32] ++ bl x.1 ++ [32, 123, 32] ++ Lib.join (x.2.map (·.data.toList)) [32] ++ [32, 125, 10] = lineL x := by
  rw [lineL, ← spL_join x.2 h]
  simp
end Go.Proofs.YtmdjhefcohcjhaaGreatDoor


/- Rows of numbers as texts: numbersText of the document's answer. -/
namespace Go.Proofs.YtmdjhefcohcjhaaGreatDoor
open Go.RowKit Go.Shelf

theorem sp_step (l : List Fr) {i : Nat} (h : i < l.length) : spL ((l.take (i + 1)).map ftF) = spL ((l.take i).map ftF) ++ [32] ++ bl (ftF l[i]) := by
  rw [List.take_succ_eq_append_getElem h, List.map_append, List.map_cons, List.map_nil, spL_snoc]
theorem sp_small {l : List Fr} (h : fw l ≤ 10000) (i : Nat) : (spL ((l.take i).map ftF)).length ≤ 100001 * l.length := by
  have := spL_le (xs := (l.take i).map ftF) (m := 100000) fun s hs => by
    obtain ⟨f, hf, rfl⟩ := List.mem_map.1 hs
    have := fw_mem (List.mem_of_mem_take hf)
    exact ftF_size (by omega)
  rw [List.length_map, List.length_take] at this
  have h2 : 100001 * min i l.length ≤ 100001 * l.length := Nat.mul_le_mul_left _ (Nat.min_le_right _ _)
  omega
set_option maxRecDepth 100000 in
set_option maxHeartbeats 1000000 in
theorem rNumbersText_any (a : Option Addr) (ca : Nat) (l : List Fr) (w : World) (h : FrS w a l) (hw : fw l ≤ 10000) (hn : l.length ≤ 10000) :
    Calls Tryz.prog 12 #[.slice a l.length ca] w fun e w' => e = .returned (.string (tx (rowL l))) ∧ Below w.heap.size w w' := by
  have HF := hid h
  have HW := hid hw
  have HT := hid (fun (f : Fr) (hf : f.2.1.size + f.2.2.size ≤ 10000) (U : World) => rTextF_any f.1 f.2.1 f.2.2 U (by omega))
  have HST := hid (fun i (h : i < l.length) => sp_step l h)
  have HLE := hid (fun i => sp_small hw i)
  have z1 : (⟨#[32]⟩ : ByteArray).size = 1 := rfl
  have z2 : (⟨#[32, 59]⟩ : ByteArray).size = 2 := rfl
  clear h hw
  go_enter Tryz.func12, Tryz.ntmps12
  go_wp2_with fail
  go_loopw [3, 4] (fun sv iv wr => ∃ i : Nat, i ≤ l.length ∧ sv = .string (tx ([32, 58] ++ spL ((l.take i).map ftF))) ∧ iv = .int .i64 i ∧ Hid (Below w.heap.size w wr)) (fun _ iv _ => l.length - (intOf iv).toNat)
  case atStart => exact ⟨0, Nat.zero_le _, rfl, rfl, Below.refl _ _⟩
  case round =>
    obtain ⟨i, hi, rfl, rfl, HB⟩ := hrel
    have hle := HLE.out i
    have hs : (tx ([32, 58] ++ spL ((l.take i).map ftF))).size = (spL ((l.take i).map ftF)).length + 2 := by rw [tx_size, List.length_append, List.length_cons, List.length_cons, List.length_nil]; omega
    by_cases hlt : i < l.length
    · obtain ⟨g, o, rfl, hg, c0, c1, c2⟩ := (HF.out.below HB.out) i hlt
      have hfe := fw_each hlt HW.out
      have HTi := hid (HT.out l[i] hfe)
      have hts := ftF_size hfe
      have HX : Hid (tx ([32, 58] ++ spL ((l.take i).map ftF)) ++ ⟨#[32]⟩ ++ ftF l[i] = tx ([32, 58] ++ spL ((l.take (i + 1)).map ftF))) := by
        show _ = _
        rw [tx_app, tx_app, HST.out i hlt]
        simp [bl]
      have HTi' : Hid (∀ U : World, Calls Tryz.prog 24 #[.agg #[.bool l[i].1, .string l[i].2.1, .string l[i].2.2]] U fun e w' => e = .returned (.string (ftF l[i])) ∧ Below U.heap.size U w') := HTi.out
      clear HTi
      generalize tx ([32, 58] ++ spL ((l.take i).map ftF)) = S at *
      generalize ftF l[i] = T at *
      generalize (spL ((l.take i).map ftF)).length = n at *
      generalize l[i] = f at *
      obtain ⟨fn, fx, fy⟩ := f
      simp only at c0 c1 c2 hfe HTi'
      go_wp2_with fail
      refine (HTi'.out _).mono ?_
      rintro e w1 ⟨rfl, hb⟩
      have HB1 := hid (HB.out.trans (hb.mono HB.out.size))
      clear c0 c1 c2 hb
      go_wp2
      go_roundw
      case rel => exact ⟨i + 1, by omega, by rw [← HX.out], by go_num, HB1⟩
      case measure => simp [intOf]; omega
    · obtain rfl : i = l.length := by omega
      have HX : Hid (tx ([32, 58] ++ spL ((l.take l.length).map ftF)) ++ ⟨#[32, 59]⟩ = tx (rowL l)) := by
        show _ = _
        rw [tx_app, List.take_length]
        rfl
      generalize tx ([32, 58] ++ spL ((l.take l.length).map ftF)) = S at *
      generalize (spL ((l.take l.length).map ftF)).length = n at *
      go_wp2
      go_ret
      exact ⟨by rw [← HX.out]; rfl, HB.out⟩
end Go.Proofs.YtmdjhefcohcjhaaGreatDoor

