/- strconv.FormatUint at base 10, and a strings.Builder's WriteString, at this program. -/
import Derived.Test.YtmkilmcmgdoiiaaGreatDoorCore6ToNumF
import Derived.Lib.ItoaMem
import Derived.Test.YtmkilmcmgdoiiaaGreatDoorSumAToNumC
import Derived.WalkSmall
import Derived.Test.YtmkilmcmgdoiiaaGreatDoorFracGToRefQ
import Derived.Test.YtmkilmcmgdoiiaaGreatDoorRefLToParseB
namespace Go.Proofs.YtmkilmcmgdoiiaaGreatDoor
open Go.RowKit Go.Sort Go.Lib

theorem WriteString_any (Bb b : Nat) (bs : List Value) (s : ByteArray) (w : World) (h : Lib.IsBuilder 74 5 Bb b bs w) (hlen : bs.length + s.size ≤ 140737488355328) (hBw : Bb ≤ w.heap.size) :
    Calls Tryz.prog 68 #[.pointer (some ⟨b, 0, none⟩), .string s] w fun e w' => e = .returned (.tuple #[.int .i64 s.size, .nilIface]) ∧ (Lib.BuilderAt 74 5 Bb b (.pointer (some ⟨b, 0, none⟩)) (bs ++ Lib.strCells s) w' ∧ Below Bb w w') :=
  Any.Builder_WriteString (ρ := Tryz.lays105_ren) { Tryz.lays105 with } Tryz.Builder_Extra_105 Bb b bs s w h hlen hBw

theorem holds_zero0 (w : World) (T : TypeId) (nd : Nat) (hs : nd ≤ 24) : Holds (fun (b : UInt8) => Value.int .u8 (b.toNat : Int)) (w.alloc (.cells zeros24 T)) w.heap.size 0 (Array.replicate nd (0 : UInt8)) := fun j hj => by
  rw [Array.size_replicate] at hj
  refine ⟨?_, World.frozen?_alloc_new _ _ _ _⟩
  rw [World.cell?_alloc_new, zeros24_at (0 + j) (by omega)]
  simp [hj]

theorem below_putRow {w : World} (o : Obj) (off k : Nat) (dk : Array UInt8) : Below w.heap.size w ((putRow (fun (b : UInt8) => Value.int .u8 (b.toNat : Int)) (w.alloc o) w.heap.size off dk).drewN k) := by
  refine ⟨rfl, rfl, rfl, ?_, fun i hi => ?_⟩
  · show w.heap.size ≤ ((w.heap.push o).modify _ _).size
    simp
  · show ((w.heap.push o).modify _ _)[i]? = _
    rw [Array.getElem?_modify, if_neg (by omega), Array.getElem?_push, if_neg (by omega)]

set_option maxRecDepth 100000 in
set_option maxHeartbeats 2000000 in
theorem iFormatUint_any (u : Nat) (w : World) (hu64 : u < 18446744073709551616) (htab : Lib.TabIs Tryz.prog w "internal/strconv.uint64pow10" .u64 Lib.pow10Tab) :
    Calls Tryz.prog 98 #[.int .u64 u, .int .i64 10] w fun e w' => e = .returned (.string ⟨(Lib.decDigits u).toArray⟩) ∧ Below w.heap.size w w' := by
  by_cases hs : u < 100
  · go_enter Tryz.func98, Tryz.ntmps98
    go_wp2_with (go_at_call 116; refine (Tryz.internal_strconv_small u hs _).mono ?_; rintro e w' ⟨rfl, rfl⟩)
    go_ret
    exact ⟨rfl, Below.refl _ _⟩
  · have hu1 : 1 ≤ u := by omega
    have hnd20 : Lib.nDigits u ≤ 20 := by have := Lib.numDigits_eq u hu1 hu64; split at this <;> omega
    have hal : Tryz.prog.arrayLen 129 = 24 := by simp [Program.arrayLen, Tryz.underlying129]
    have hsl1 : ∀ V, (Instr.sliceAt 129 (.pointer (some ⟨w.heap.size, 0, none⟩)) none (some (.int .i64 (Lib.nDigits u : Int))) none).run Tryz.prog V = .ok (.slice (some ⟨w.heap.size, 0, none⟩) (Lib.nDigits u) 24) V := fun V => by
      rw [run_sliceAt_array_h V 129 ⟨w.heap.size, 0, none⟩ (by simp [Program.arrayLen, Program.elem, Tryz.underlying129]) .i64 (Lib.nDigits u : Int) (by omega) (by rw [hal]; omega)]
      go_simp
    have hH0 := holds_zero0 w 129 (Lib.nDigits u) (by omega)
    have hfmt := Tryz.internal_strconv_formatBase10 w.heap.size 0 24 u (Array.replicate (Lib.nDigits u) 0) (w.alloc (.cells Lib.zeros24 129)) hH0 (by rw [Array.size_replicate]; exact Lib.lt_pow_nDigits u) hu64 (by rw [Array.size_replicate]; omega)
    rw [Array.size_replicate] at hfmt
    have HH0 := Lib.hid hH0
    clear hH0 hal
    go_enter Tryz.func98, Tryz.ntmps98
    go_wp2_with (first
      | (go_at_call 117; refine (Tryz.internal_strconv_numDigits u hu1 hu64 _ (Lib.tabIs_alloc htab _)).mono ?_; rintro e w' ⟨rfl, rfl⟩))
    refine hfmt.mono ?_
    rintro e w' ⟨rfl, k, v', dk, rfl, hF⟩
    have hcv : (convert 61 9 (.slice (some ⟨w.heap.size, 0, none⟩) (Lib.nDigits u) 24)).run Tryz.prog ((putRow (fun (b : UInt8) => Value.int .u8 (b.toNat : Int)) (w.alloc (.cells Lib.zeros24 129)) w.heap.size 0 dk).drewN k) = .ok (.string ⟨(Lib.decDigits u).toArray⟩) ((putRow (fun (b : UInt8) => Value.int .u8 (b.toNat : Int)) (w.alloc (.cells Lib.zeros24 129)) w.heap.size 0 dk).drewN k) := by
      have h := run_convert_bytes_back (P := Tryz.prog) ((putRow (fun (b : UInt8) => Value.int .u8 (b.toNat : Int)) (w.alloc (.cells Lib.zeros24 129)) w.heap.size 0 dk).drewN k) 61 9 5 ⟨w.heap.size, 0, none⟩ 24 (Lib.decDigits u) Tryz.underlying61 Tryz.underlying5 Tryz.underlying9 (fun j hj => by
        rw [Lib.row_is_numeral hF j hj, Lib.add_plain, World.cell?_drewN]
        exact cell?_putRow (fun (b : UInt8) => Value.int .u8 (b.toNat : Int)) _ w.heap.size 0 _ dk HH0.out (by rw [hF.size, Array.size_replicate]) j (by rw [hF.size]; rw [Lib.decDigits_length] at hj; exact hj))
      rw [Lib.decDigits_length] at h
      exact h
    go_wp2
    go_ret
    exact ⟨rfl, below_putRow _ _ _ _⟩

set_option maxHeartbeats 400000 in
theorem FormatUint_any (u : Nat) (w : World) (hu64 : u < 18446744073709551616) (htab : Lib.TabIs Tryz.prog w "internal/strconv.uint64pow10" .u64 Lib.pow10Tab) :
    Calls Tryz.prog 67 #[.int .u64 u, .int .i64 10] w fun e w' => e = .returned (.string ⟨(Lib.decDigits u).toArray⟩) ∧ Below w.heap.size w w' := by
  go_enter Tryz.func67, Tryz.ntmps67
  go_wp2_with (go_at_call 98; refine (iFormatUint_any u _ hu64 htab).mono ?_; rintro e w1 ⟨rfl, hb⟩)
  go_ret
  exact ⟨rfl, hb⟩
end Go.Proofs.YtmkilmcmgdoiiaaGreatDoor

/- nat.Text: the decimal numeral of the number that the string stands for. -/
namespace Go.Proofs.YtmkilmcmgdoiiaaGreatDoor
open Go.RowKit Go.Lib



theorem builder_below {T e : TypeId} {Bb b : Nat} {bs : List Value} {w w' : World} (h : IsBuilder T e Bb b bs w) (hb : Below w.heap.size w w') : IsBuilder T e Bb b bs w' := by
  have one : ∀ p, BuilderAt T e Bb b p bs w → BuilderAt T e Bb b p bs w' := by
    rintro p h
    obtain ⟨hB, v, hbk, hown, hne⟩ := id h
    exact ⟨hB, v, (hb.block b h.lt).trans hbk, own_below hown hb (Nat.le_refl _), hne⟩
  rcases h with h | h
  · exact .inl (one _ h)
  · exact .inr (one _ h)

theorem tab_below {w w' : World} (h : TabIs Tryz.prog w "internal/strconv.uint64pow10" .u64 pow10Tab) (hb : Below w.heap.size w w') : TabIs Tryz.prog w' "internal/strconv.uint64pow10" .u64 pow10Tab := by
  cases hg : Tryz.prog.globalNamed "internal/strconv.uint64pow10" with
  | none => simp [TabIs, World.var?, hg] at h
  | some g =>
    by_cases hlt : g < w.heap.size
    · exact var?_below hb hg hlt h
    · simp [TabIs, World.var?, hg, Array.getElem?_eq_none (show w.heap.size ≤ g by omega)] at h

theorem write_txt (Bb b : Nat) (l : List UInt8) (s : ByteArray) (w : World) (h : IsBuilder 74 5 Bb b (byteCells l) w) (hlen : l.length + s.size ≤ 140737488355328) (hBw : Bb ≤ w.heap.size) :
    Calls Tryz.prog 68 #[.pointer (some ⟨b, 0, none⟩), .string s] w fun e w' => e = .returned (.tuple #[.int .i64 s.size, .nilIface]) ∧ IsBuilder 74 5 Bb b (byteCells (l ++ s.data.toList)) w' ∧ Below Bb w w' := by
  refine (WriteString_any Bb b (byteCells l) s w h (by simpa [byteCells] using hlen) hBw).mono ?_
  rintro e w' ⟨rfl, h1, h2⟩
  refine ⟨rfl, .inr ?_, h2⟩
  have e1 : byteCells (l ++ s.data.toList) = byteCells l ++ strCells s := by simp [byteCells, strCells]
  rw [e1]; exact h1
theorem size_list (s : ByteArray) : s.data.toList.length = s.size := by rw [Array.length_toList]; rfl
theorem size_mk (l : List UInt8) : (⟨l.toArray⟩ : ByteArray).size = l.length := by rw [← size_list]
theorem repeat_48 (c : Nat) : repeatL [48] c = List.replicate c 48 := by
  induction c with
  | zero => rfl
  | succ c ih => rw [repeatL, ih, List.replicate_succ]; rfl

theorem dec_size (u : Nat) (h : u < 1000000000) : (decDigits u).length ≤ 9 := by
  have h1 := digs_pad 8 u (by simpa using h)
  have h2 : (digs 9 u).length = 9 := rfl
  rw [h1, List.length_append] at h2
  omega

set_option maxRecDepth 100000 in
set_option maxHeartbeats 2000000 in
theorem Text_any (s : ByteArray) (w : World) (hs : s.size ≤ 1099511627776) (htab : TabIs Tryz.prog w "internal/strconv.uint64pow10" .u64 pow10Tab) :
    Calls Tryz.prog 20 #[.string s] w fun e w' => e = .returned (.string ⟨(decDigits (N s)).toArray⟩) ∧ Below w.heap.size w w' := by
  have hwl : (words (N s)).length ≤ 1099511627776 := by
    rw [words_length, ← B_size]
    have := B_size_le s
    omega
  have hgl := grp_words (N s)
  have hsp := spread_any s w (by omega)
  generalize hm : N s = m at *
  have HM : Hid (N s = m) := hm
  have HS := hide hsp
  have HT := hide htab
  clear hm hsp htab
  go_enter Tryz.func20, Tryz.ntmps20
  go_wp2_with fail
  refine HS.out.mono ?_
  rintro e w1 ⟨v, rfl, hv, hb1⟩
  go_wp2_with fail
  refine (groupsOf_any w.heap.size v m w1 (by omega) hv hb1.size (fun k hk => (World.ownsRow.lt hv k hk).2)).mono ?_
  rintro e w2 ⟨v2, rfl, hv2, hb2⟩
  have hb02 : Below w.heap.size w w2 := hb1.trans hb2
  by_cases h0 : m = 0
  · subst h0
    rw [grp_zero] at hv2
    have hd : decDigits 0 = [48] := dec_small (by omega)
    rcases hv2.cases with ⟨rfl, _⟩ | ⟨g, cap, rfl, _, _, _⟩
    all_goals
      go_wp2
      go_ret
      exact ⟨by rw [hd]; rfl, hb02⟩
  · have hne : grp m ≠ [] := fun e => h0 ((grp_nil_iff m).1 e)
    have hpos : 0 < (grp m).length := List.length_pos_iff.2 hne
    have hpb : (((grp m).length : Int) == 0) = false := by simp; omega
    rcases hv2.cases with ⟨_, hnil⟩ | ⟨g, cap, rfl, hcap, hbg, hlg⟩
    · exact absurd hnil hne
    · go_wp2
      have hf0 := fresh_isBuilder 74 5 w2
      have hB2 : Below w2.heap.size w2 (w2.alloc (.cells #[.pointer none, .slice none 0 0] 74)) := (Below.refl _ _).alloc (Nat.le_refl _) _
      go_loopw [15] (fun i wr => ∃ k : Nat, k ≤ (grp m).length ∧ i = .int .i64 k ∧ IsBuilder 74 5 w2.heap.size w2.heap.size (byteCells (txt m k)) wr ∧ Below w2.heap.size w2 wr)
        (fun i _ => (grp m).length - (RowKit.intOf i).toNat)
      case atStart => exact ⟨0, Nat.zero_le _, rfl, hf0, hB2⟩
      case round =>
        obtain ⟨k, hk, rfl, hbr, hBr⟩ := hrel
        clear hf0 hB2
        have htl := txt_len m k hk
        by_cases hlt : k < (grp m).length
        · have hgk : (grp m).length - 1 - k < (grp m).length := by omega
          have hcell := (hBr.cell (p := ⟨g, 0 + ((grp m).length - 1 - k), none⟩) hlg.lt).trans (hlg.cell _ hgk)
          rw [Nat.zero_add] at hcell
          have hidx : (((grp m).length : Int) - 1 - (k : Int)).toNat = (grp m).length - 1 - k := by omega
          have HX := hide (txt_succ m k hlt)
          have hxb : (grp m)[(grp m).length - 1 - k]?.getD 0 < 1000000000 := by
            rw [grp_get _ m hgk]; exact Nat.mod_lt _ G_pos
          generalize (grp m)[(grp m).length - 1 - k]?.getD 0 = x at *
          have htr : TabIs Tryz.prog wr "internal/strconv.uint64pow10" .u64 pow10Tab := tab_below HT.out (hb02.trans (hBr.mono hb02.size))
          have hfu := FormatUint_any x wr (by omega) htr
          have hds : (⟨(decDigits x).toArray⟩ : ByteArray).size ≤ 9 := dec_size x hxb
          have HD : Hid ((⟨(decDigits x).toArray⟩ : ByteArray).data.toList = decDigits x) := rfl
          generalize (⟨(decDigits x).toArray⟩ : ByteArray) = D at *
          have HF := hide hfu
          clear hfu htr
          go_wp2_with fail
          refine HF.out.mono ?_
          rintro e w3 ⟨rfl, hb3⟩
          have hbr3 := builder_below hbr hb3
          have hB3 : Below w2.heap.size w2 w3 := hBr.trans (hb3.mono hBr.size)
          clear hbr hb3 hcell HF
          by_cases h0k : 0 < k
          · go_wp2_with fail
            rw [show (9 : Int) - (D.size : Int) = ((9 - D.size : Nat) : Int) by omega]
            refine (Tryz.strings_Repeat ⟨#[48]⟩ (9 - D.size) _ (by omega) (by show 1 * _ ≤ _; omega)).mono ?_
            rintro e w4 ⟨rfl, hb4⟩
            have hbr4 := builder_below hbr3 hb4
            have hB4 : Below w2.heap.size w2 w4 := hB3.trans (hb4.mono hB3.size)
            have hz4 : (⟨(repeatL [48] (9 - D.size)).toArray⟩ : ByteArray).size ≤ 9 := by rw [size_mk, repeat_48, List.length_replicate]; omega
            have HZ : Hid ((⟨(repeatL [48] (9 - D.size)).toArray⟩ : ByteArray).data.toList = List.replicate (9 - D.size) 48) := by rw [repeat_48]; rfl
            generalize (⟨(repeatL [48] (9 - D.size)).toArray⟩ : ByteArray) = Z at *
            go_wp2_with fail
            refine (write_txt w2.heap.size w2.heap.size (txt m k) Z _ hbr4 (by omega) hB4.size).mono ?_
            rintro e w5 ⟨rfl, hbr5, hb5⟩
            have hB5 : Below w2.heap.size w2 w5 := hB4.trans hb5
            have HZ2 : Hid ((txt m k ++ Z.data.toList).length ≤ 9 * k + 9) := by show _ ≤ _; rw [List.length_append, size_list]; omega
            clear hbr4 hbr3
            go_wp2_with fail
            refine (write_txt w2.heap.size w2.heap.size _ D _ hbr5 (by have := HZ2.out; omega) hB5.size).mono ?_
            rintro e w6 ⟨rfl, hbr6, hb6⟩
            have hB6 : Below w2.heap.size w2 w6 := hB5.trans hb6
            have HE : Hid (txt m k ++ Z.data.toList ++ D.data.toList = txt m (k + 1)) := by
              show _ = _
              have hdl : D.size = (decDigits x).length := by rw [← HD.out, size_list]
              rw [HX.out, if_neg (by omega), HZ.out, HD.out, hdl, List.append_assoc]
            clear hbr5
            go_wp2
            go_roundw
            case rel => exact ⟨k + 1, by omega, by go_num, by rw [HE.out] at hbr6; exact hbr6, hB6⟩
            case measure => simp [RowKit.intOf]; omega
          · go_wp2_with fail
            refine (write_txt w2.heap.size w2.heap.size (txt m k) D _ hbr3 (by omega) hB3.size).mono ?_
            rintro e w6 ⟨rfl, hbr6, hb6⟩
            have hB6 : Below w2.heap.size w2 w6 := hB3.trans hb6
            have HE : Hid (txt m k ++ D.data.toList = txt m (k + 1)) := by
              show _ = _
              rw [HX.out, if_pos (by omega), HD.out]
            clear hbr3
            go_wp2
            go_roundw
            case rel => exact ⟨k + 1, by omega, by go_num, by rw [HE.out] at hbr6; exact hbr6, hB6⟩
            case measure => simp [RowKit.intOf]; omega
        · obtain rfl : k = (grp m).length := by omega
          have HA := hide (txt_all m h0)
          go_wp2_with fail
          refine (Tryz.Builder_String_any w2.heap.size w2.heap.size (txt m (grp m).length) _ hbr hBr.size).mono ?_
          rintro e w3 ⟨rfl, hb3⟩
          go_wp2
          go_ret
          exact ⟨by rw [HA.out]; rfl, hb02.trans ((hBr.trans hb3).mono hb02.size)⟩
end Go.Proofs.YtmkilmcmgdoiiaaGreatDoor

/- A fraction in digits: package frac's and the document's answer. -/
namespace Go.Proofs.YtmkilmcmgdoiiaaGreatDoor
open Go.RowKit Go.Lib

/-- The digits of a natural number, as a text. -/
def dtx (n : Nat) : ByteArray := ⟨(decDigits n).toArray⟩
/-- A fraction in digits. -/
def ftxt (q : Rat) : ByteArray :=
  (if sgn q = true then ⟨#[45]⟩ ++ dtx q.num.natAbs else dtx q.num.natAbs) ++ (if q.den = 1 then ⟨#[]⟩ else ⟨#[47]⟩ ++ dtx q.den)
theorem app_nil (a : ByteArray) : a ++ (⟨#[]⟩ : ByteArray) = a := by
  apply ByteArray.ext; rw [ByteArray.data_append]; simp
theorem ftxt_one {q : Rat} (h1 : q.den = 1) : ftxt q = if sgn q = true then ⟨#[45]⟩ ++ dtx q.num.natAbs else dtx q.num.natAbs := by rw [ftxt, if_pos h1, app_nil]
theorem ftxt_two {q : Rat} (h1 : ¬ q.den = 1) : ftxt q = (if sgn q = true then ⟨#[45]⟩ ++ dtx q.num.natAbs else dtx q.num.natAbs) ++ (⟨#[47]⟩ ++ dtx q.den) := by rw [ftxt, if_neg h1]
theorem dtx_size (n : Nat) : (dtx n).size ≤ 3 * (B n).size + 1 := by
  have := dec_fits (B_lt n)
  show (decDigits n).toArray.size ≤ _
  simpa using this

theorem three_of {w w' : World} {g : Nat} {n : Bool} {x y : ByteArray} (h1 : Box w' g n x y) (h3 : Below w.heap.size w w') : (w'.cell? ⟨g, 1, none⟩ = some (.string x) ∧ w'.cell? ⟨g, 2, none⟩ = some (.string y)) ∧ Hid ((∃ b, Box w' g b x y) ∧ Below w.heap.size w w') :=
  ⟨⟨h1.c1, h1.c2⟩, ⟨_, h1⟩, h3⟩

set_option maxRecDepth 100000 in
set_option maxHeartbeats 2000000 in
theorem fText_any (n : Bool) (x y : ByteArray) (w : World) (hx : x.size + y.size ≤ 100000) (htab : TabIs Tryz.prog w "internal/strconv.uint64pow10" .u64 pow10Tab) :
    Calls Tryz.prog 49 #[.agg #[.bool n, .string x, .string y]] w fun e w' => e = .returned (.string (ftxt (val n x y))) ∧ Below w.heap.size w w' := by
  have hq := qw_val n x y
  have HC := hide (fun V => Canon_any n x y V (by omega) (by omega))
  generalize val n x y = q at *
  have z := own_size q
  have HTAB := hide htab
  clear htab
  have d1 := dtx_size q.num.natAbs
  have d2 := dtx_size q.den
  have e1 : (B q.num.natAbs).size = (nu q).size := rfl
  have e2 : (B q.den).size = (de q).size := rfl
  have HT1 := hide (fun (V : World) (h : TabIs Tryz.prog V "internal/strconv.uint64pow10" .u64 pow10Tab) => Text_any (nu q) V (by omega) h)
  have HT2 := hide (fun (V : World) (h : TabIs Tryz.prog V "internal/strconv.uint64pow10" .u64 pow10Tab) => Text_any (de q) V (by omega) h)
  have n1 : N (nu q) = q.num.natAbs := N_B _
  have n2 : N (de q) = q.den := N_B _
  rw [n1] at HT1
  rw [n2] at HT2
  have HCM : Hid (∀ V : World, Calls Tryz.prog 12 #[.string (de q), .string (B 1)] V fun e w' => e = .returned (.int .i64 (cmpI q.den 1)) ∧ w' = V) := fun V => by
    have := Cmp_any (de q) (B 1) V
    rwa [n2, N_B] at this
  have s1 : (dtx q.num.natAbs).size ≤ 400000 := by omega
  have s2 : (dtx q.den).size ≤ 400000 := by omega
  clear d1 d2 e1 e2 n1 n2 z hq
  have P1 := hide (fun h1 => ftxt_one (q := q) h1)
  have P2 := hide (fun h1 => ftxt_two (q := q) h1)
  generalize ftxt q = T at *
  go_enter Tryz.func49, Tryz.ntmps49
  have hbx := Box.at (w := w) rfl n x y
  have hB0 : Below w.heap.size w (w.alloc (FC n x y)) := (Below.refl _ w).alloc (Nat.le_refl _) _
  go_wp2_with fail
  refine (HC.out _).mono ?_
  rintro e w1 ⟨rfl, hb1⟩
  have hx1 := hbx.below hb1 hbx.lt
  have hB1 : Below w.heap.size w w1 := hB0.trans (hb1.mono hB0.size)
  obtain ⟨k0, k1, k2, f0, f1, f2⟩ := hx1.facts
  have hx1' := hx1.put (sgn q) (nu q) (de q)
  have hB1' := below_put hB1 (Nat.le_refl _) (.bool (sgn q)) (.string (nu q)) (.string (de q))
  clear hbx hB0 HC hb1
  rw [C_eq]
  have HTAB1 := hide (tab_below HTAB.out hB1')
  go_wp2_with fail
  refine (HT1.out _ HTAB1.out).mono ?_
  rintro e w2 ⟨rfl, hb2⟩
  have hx2 := hx1'.below hb2 hx1'.lt
  have hB2 : Below w.heap.size w w2 := hB1'.trans (hb2.mono hB1'.size)
  clear k0 k1 k2 f0 f1 f2 HTAB1 hx1' hB1' hx1 hB1 HT1 hb2
  obtain ⟨k0, k1, k2, f0, f1, f2⟩ := hx2.facts
  rw [show (⟨(decDigits q.num.natAbs).toArray⟩ : ByteArray) = dtx q.num.natAbs from rfl]
  have h1s : (⟨#[45]⟩ : ByteArray).size = 1 := rfl
  have h2s : (⟨#[47]⟩ : ByteArray).size = 1 := rfl
  have HT3 : Hid (∀ (V : World), TabIs Tryz.prog V "internal/strconv.uint64pow10" .u64 pow10Tab → Calls Tryz.prog 20 #[.string (de q)] V fun e w' => e = .returned (.string (dtx q.den)) ∧ Below V.heap.size V w') := HT2.out
  clear HT2
  have hcmp : (q.den = 1 ∧ cmpI q.den 1 = 0) ∨ (¬ q.den = 1 ∧ ¬ cmpI q.den 1 = 0) := by
    by_cases h : q.den = 1
    · exact .inl ⟨h, by rw [h]; rfl⟩
    · refine .inr ⟨h, ?_⟩
      rw [cmpI]
      have := q.den_pos
      rw [if_neg (by omega), if_neg h]
      decide
  generalize dtx q.num.natAbs = t1 at *
  generalize dtx q.den = t2 at *
  generalize cmpI q.den 1 = k at *
  generalize hsq : sgn q = sq at *
  cases sq
  all_goals
    go_upto_region 5 with fail
    go_region_held3 (fun w' => (w'.cell? ⟨w.heap.size, 1, none⟩ = some (.string (nu q)) ∧ w'.cell? ⟨w.heap.size, 2, none⟩ = some (.string (de q))) ∧ Hid ((∃ b, Box w' w.heap.size b (nu q) (de q)) ∧ Below w.heap.size w w'))
      (first | exact three_of hx3 hB3 | exact three_of hx2.drew hB2.drew)
      (first
        | (have HH := hx3; go_at_call 12; refine (HCM.out _).mono ?_; rintro e w4 ⟨rfl, hw4⟩; subst hw4)
        | (go_at_call 10; refine (Of_to 1 (Below.refl _ _) rfl (by omega)).mono ?_; rintro e w3 ⟨rfl, hb3⟩; have hx3 := hx2.drew.below hb3 hx2.lt; have hB3 : Below w.heap.size w w3 := hB2.drew.trans (hb3.mono hB2.size)))
    have HTAB3 := hide (tab_below HTAB.out hB3)
    obtain ⟨c0, c1, c2, g0, g1, g2⟩ := hx3.facts
    rcases hcmp with ⟨hd, rfl⟩ | ⟨hd, hk⟩
    · have HE := hide (P1.out hd)
      clear P1 P2 hd
      go_wp2
      go_ret
      exact ⟨by rw [HE.out]; rfl, hB3⟩
    · have HE := hide (P2.out hd)
      clear P1 P2 hd
      have hkb : (k == 0) = false := beq_eq_false_iff_ne.2 hk
      go_wp2_with fail
      refine (HT3.out _ HTAB3.out).mono ?_
      rintro e w5 ⟨rfl, hb5⟩
      have hB5 : Below w.heap.size w w5 := hB3.trans (hb5.mono hB3.size)
      go_wp2
      go_ret
      exact ⟨by rw [HE.out]; rfl, hB5⟩

set_option maxRecDepth 100000 in
set_option maxHeartbeats 2000000 in
theorem rTextF_any (n : Bool) (x y : ByteArray) (w : World) (hx : x.size + y.size ≤ 100000) :
    Calls Tryz.prog 50 #[.agg #[.bool n, .string x, .string y]] w fun e w' => e = .returned (.string (ftxt (val n x y))) ∧ Below w.heap.size w w' := by
  have hq := qw_val n x y
  have HC := hide (fun V => rCanon_any n x y V (by omega) (by omega))
  generalize val n x y = q at *
  have z := own_size q
  have d1 := dtx_size q.num.natAbs
  have d2 := dtx_size q.den
  have e1 : (B q.num.natAbs).size = (nu q).size := rfl
  have e2 : (B q.den).size = (de q).size := rfl
  have n1 : N (nu q) = q.num.natAbs := N_B _
  have n2 : N (de q) = q.den := N_B _
  have HT1 : Hid (∀ V : World, Calls Tryz.prog 21 #[.string (nu q)] V fun e w' => e = .returned (.string (dtx q.num.natAbs)) ∧ Below V.heap.size V w') := fun V => by
    have := rText_any (nu q) V (by omega)
    rwa [n1] at this
  have HT3 : Hid (∀ V : World, Calls Tryz.prog 21 #[.string (de q)] V fun e w' => e = .returned (.string (dtx q.den)) ∧ Below V.heap.size V w') := fun V => by
    have := rText_any (de q) V (by omega)
    rwa [n2] at this
  have s1 : (dtx q.num.natAbs).size ≤ 400000 := by omega
  have s2 : (dtx q.den).size ≤ 400000 := by omega
  clear d1 d2 e1 e2 n1 n2 z hq
  have P1 := hide (fun h1 => ftxt_one (q := q) h1)
  have P2 := hide (fun h1 => ftxt_two (q := q) h1)
  generalize ftxt q = T at *
  go_enter Tryz.func50, Tryz.ntmps50
  have hbx := Box.at (w := w) rfl n x y
  have hB0 : Below w.heap.size w (w.alloc (FC n x y)) := (Below.refl _ w).alloc (Nat.le_refl _) _
  go_wp2_with fail
  refine (HC.out _).mono ?_
  rintro e w1 ⟨rfl, hb1⟩
  have hx1 := hbx.below hb1 hbx.lt
  have hB1 : Below w.heap.size w w1 := hB0.trans (hb1.mono hB0.size)
  obtain ⟨k0, k1, k2, f0, f1, f2⟩ := hx1.facts
  have hx1' := hx1.put (sgn q) (nu q) (de q)
  have hB1' := below_put hB1 (Nat.le_refl _) (.bool (sgn q)) (.string (nu q)) (.string (de q))
  clear hbx hB0 HC hb1
  rw [C_eq]
  go_wp2_with fail
  refine (HT1.out _).mono ?_
  rintro e w2 ⟨rfl, hb2⟩
  have hx2 := hx1'.below hb2 hx1'.lt
  have hB2 : Below w.heap.size w w2 := hB1'.trans (hb2.mono hB1'.size)
  clear k0 k1 k2 f0 f1 f2 hx1' hB1' hx1 hB1 HT1 hb2
  obtain ⟨k0, k1, k2, f0, f1, f2⟩ := hx2.facts
  have h1s : (⟨#[45]⟩ : ByteArray).size = 1 := rfl
  have h2s : (⟨#[47]⟩ : ByteArray).size = 1 := rfl
  have hcmp : (q.den = 1 ∧ de q = ⟨#[1]⟩) ∨ (¬ q.den = 1 ∧ ((de q).toList == [1]) = false) := by
    by_cases h : q.den = 1
    · exact .inl ⟨h, by rw [de, h, B_one]⟩
    · exact .inr ⟨h, ne_one h⟩
  generalize dtx q.num.natAbs = t1 at *
  generalize dtx q.den = t2 at *
  generalize hsq : sgn q = sq at *
  generalize de q = dq at *
  cases sq
  all_goals
    rcases hcmp with ⟨hd, rfl⟩ | ⟨hd, hk⟩
    · have HE := hide (P1.out hd)
      clear P1 P2 hd
      go_wp2
      go_ret
      exact ⟨by rw [HE.out]; rfl, hB2⟩
    · have HE := hide (P2.out hd)
      clear P1 P2 hd
      go_wp2_with fail
      refine (HT3.out _).mono ?_
      rintro e w5 ⟨rfl, hb5⟩
      have hB5 : Below w.heap.size w w5 := hB2.trans (hb5.mono hB2.size)
      go_wp2
      go_ret
      exact ⟨by rw [HE.out, ← ByteArray.append_assoc]; rfl, hB5⟩
end Go.Proofs.YtmkilmcmgdoiiaaGreatDoor
