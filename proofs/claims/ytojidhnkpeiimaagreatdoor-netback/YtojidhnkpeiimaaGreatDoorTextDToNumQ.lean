/- nat.Text: the decimal numeral of the number that the string stands for. -/
import Derived.Test.YtojidhnkpeiimaaGreatDoorRowAToTextC
import Derived.WalkSmall
import Derived.Test.YtojidhnkpeiimaaGreatDoorFracAToRefS
import Derived.Lib.Join
import Derived.Test.YtojidhnkpeiimaaGreatDoorNumDToReckC
import Derived.Test.YtojidhnkpeiimaaGreatDoorRefEToNumR
import Derived.Lib.CutLaws
namespace Go.Proofs.YtojidhnkpeiimaaGreatDoor
open Go.RowKit Go.Lib
theorem builder_below {T e : TypeId} {Bb b : Nat} {bs : List Value} {w w' : World} (h : IsBuilder T e Bb b bs w) (hb : Below w.heap.size w w') : IsBuilder T e Bb b bs w' := by
  have one : ∀ p, BuilderAt T e Bb b p bs w → BuilderAt T e Bb b p bs w' := by
    rintro p h
    obtain ⟨hB, v, hbk, hown, hne⟩ := id h
    exact ⟨hB, v, (hb.block b h.lt).trans hbk, own_below hown hb (Nat.le_refl _), hne⟩
  rcases h with h | h
  · exact .inl (one _ h)
  · exact .inr (one _ h)
theorem tab_below {w w' : World} (h : TabIs Tryz.prog w "internal/strconv.uint64pow10" .u64 pow10Tab) (hb : Below w.heap.size w w') : TabIs Tryz.prog w' "internal/strconv.uint64pow10" .u64 pow10Tab := by
  cases hg : Tryz.prog.globalNamed "internal/strconv.uint64pow10" with
  | none => simp [TabIs, World.var?, hg] at h
  | some g =>
    by_cases hlt : g < w.heap.size
    · exact var?_below hb hg hlt h
    · simp [TabIs, World.var?, hg, Array.getElem?_eq_none (show w.heap.size ≤ g by omega)] at h
theorem write_txt (Bb b : Nat) (l : List UInt8) (s : ByteArray) (w : World) (h : IsBuilder 103 5 Bb b (Lib.byteCells l) w) (hlen : l.length + s.size ≤ 140737488355328) (hBw : Bb ≤ w.heap.size) :
    Calls Tryz.prog 55 #[.pointer (some ⟨b, 0, none⟩), .string s] w fun e w' => e = .returned (.tuple #[.int .i64 s.size, .nilIface]) ∧ IsBuilder 103 5 Bb b (Lib.byteCells (l ++ s.data.toList)) w' ∧ Below Bb w w' := by
  refine (WriteString_any Bb b (Lib.byteCells l) s w h (by simpa [Lib.byteCells] using hlen) hBw).mono ?_
  rintro e w' ⟨rfl, h1, h2⟩
  refine ⟨rfl, .inr ?_, h2⟩
  have e1 : Lib.byteCells (l ++ s.data.toList) = Lib.byteCells l ++ Lib.strCells s := by simp [Lib.byteCells, Lib.strCells]
  rw [e1]; exact h1
theorem size_list (s : ByteArray) : s.data.toList.length = s.size := by rw [Array.length_toList]; rfl
theorem size_mk (l : List UInt8) : (⟨l.toArray⟩ : ByteArray).size = l.length := by rw [← size_list]
theorem repeat_48 (c : Nat) : repeatL [48] c = List.replicate c 48 := by
  induction c with
  | zero => rfl
  | succ c ih => rw [repeatL, ih, List.replicate_succ]; rfl
theorem dec_size (u : Nat) (h : u < 1000000000) : (decDigits u).length ≤ 9 := by
  have h1 := decs_pad 8 u (by simpa using h)
  have h2 : (decs 9 u).length = 9 := rfl
  rw [h1, List.length_append] at h2
  omega
set_option maxRecDepth 100000 in
set_option maxHeartbeats 2000000 in
theorem Text_any (s : ByteArray) (w : World) (hs : s.size ≤ 1099511627776) (htab : TabIs Tryz.prog w "internal/strconv.uint64pow10" .u64 pow10Tab) :
    Calls Tryz.prog 81 #[.string s] w fun e w' => e = .returned (.string ⟨(decDigits (N s)).toArray⟩) ∧ Below w.heap.size w w' := by
  have hwl : (words (N s)).length ≤ 1099511627776 := by
    rw [words_length, ← B_size]
    have := B_size_le s
    omega
  have hgl := grp_words (N s)
  have hsp := spread_any s w (by omega)
  generalize hm : N s = m at *
  have HM : Hid (N s = m) := hm
  have HS := hide hsp
  have HT := hide htab
  clear hm hsp htab
  go_enter Tryz.func81, Tryz.ntmps81
  go_wp2_with fail
  refine HS.out.mono ?_
  rintro e w1 ⟨v, rfl, hv, hb1⟩
  go_wp2_with fail
  refine (groupsOf_any w.heap.size v m w1 (by omega) hv hb1.size (fun k hk => (World.ownsRow.lt hv k hk).2)).mono ?_
  rintro e w2 ⟨v2, rfl, hv2, hb2⟩
  have hb02 : Below w.heap.size w w2 := hb1.trans hb2
  by_cases h0 : m = 0
  · subst h0
    rw [grp_zero] at hv2
    have hd : decDigits 0 = [48] := dec_small (by omega)
    rcases hv2.cases with ⟨rfl, _⟩ | ⟨g, cap, rfl, _, _, _⟩
    all_goals
      go_wp2
      go_ret
      exact ⟨by rw [hd]; rfl, hb02⟩
  · have hne : grp m ≠ [] := fun e => h0 ((grp_nil_iff m).1 e)
    have hpos : 0 < (grp m).length := List.length_pos_iff.2 hne
    have hpb : (((grp m).length : Int) == 0) = false := by simp; omega
    rcases hv2.cases with ⟨_, hnil⟩ | ⟨g, cap, rfl, hcap, hbg, hlg⟩
    · exact absurd hnil hne
    · go_wp2
      have hf0 := fresh_isBuilder 103 5 w2
      have hB2 : Below w2.heap.size w2 (w2.alloc (.cells #[.pointer none, .slice none 0 0] 103)) := (Below.refl _ _).alloc (Nat.le_refl _) _
      go_loopw [15] (fun i wr => ∃ k : Nat, k ≤ (grp m).length ∧ i = .int .i64 k ∧ IsBuilder 103 5 w2.heap.size w2.heap.size (Lib.byteCells (txt m k)) wr ∧ Below w2.heap.size w2 wr)
        (fun i _ => (grp m).length - (RowKit.intOf i).toNat)
      case atStart => exact ⟨0, Nat.zero_le _, rfl, hf0, hB2⟩
      case round =>
        obtain ⟨k, hk, rfl, hbr, hBr⟩ := hrel
        clear hf0 hB2
        have htl := txt_len m k hk
        by_cases hlt : k < (grp m).length
        · have hgk : (grp m).length - 1 - k < (grp m).length := by omega
          have hcell := (hBr.cell (p := ⟨g, 0 + ((grp m).length - 1 - k), none⟩) hlg.lt).trans (hlg.cell _ hgk)
          rw [Nat.zero_add] at hcell
          have hidx : (((grp m).length : Int) - 1 - (k : Int)).toNat = (grp m).length - 1 - k := by omega
          have HX := hide (txt_succ m k hlt)
          have hxb : (grp m)[(grp m).length - 1 - k]?.getD 0 < 1000000000 := by
            rw [grp_get _ m hgk]; exact Nat.mod_lt _ G_pos
          generalize (grp m)[(grp m).length - 1 - k]?.getD 0 = x at *
          have htr : TabIs Tryz.prog wr "internal/strconv.uint64pow10" .u64 pow10Tab := tab_below HT.out (hb02.trans (hBr.mono hb02.size))
          have hfu := FormatUint_any x wr (by omega) htr
          have hds : (⟨(decDigits x).toArray⟩ : ByteArray).size ≤ 9 := dec_size x hxb
          have HD : Hid ((⟨(decDigits x).toArray⟩ : ByteArray).data.toList = decDigits x) := rfl
          generalize (⟨(decDigits x).toArray⟩ : ByteArray) = D at *
          have HF := hide hfu
          clear hfu htr
          go_wp2_with fail
          refine HF.out.mono ?_
          rintro e w3 ⟨rfl, hb3⟩
          have hbr3 := builder_below hbr hb3
          have hB3 : Below w2.heap.size w2 w3 := hBr.trans (hb3.mono hBr.size)
          clear hbr hb3 hcell HF
          by_cases h0k : 0 < k
          · go_wp2_with fail
            rw [show (9 : Int) - (D.size : Int) = ((9 - D.size : Nat) : Int) by omega]
            refine (Tryz.strings_Repeat ⟨#[48]⟩ (9 - D.size) _ (by omega) (by show 1 * _ ≤ _; omega)).mono ?_
            rintro e w4 ⟨rfl, hb4⟩
            have hbr4 := builder_below hbr3 hb4
            have hB4 : Below w2.heap.size w2 w4 := hB3.trans (hb4.mono hB3.size)
            have hz4 : (⟨(repeatL [48] (9 - D.size)).toArray⟩ : ByteArray).size ≤ 9 := by rw [size_mk, repeat_48, List.length_replicate]; omega
            have HZ : Hid ((⟨(repeatL [48] (9 - D.size)).toArray⟩ : ByteArray).data.toList = List.replicate (9 - D.size) 48) := by rw [repeat_48]; rfl
            generalize (⟨(repeatL [48] (9 - D.size)).toArray⟩ : ByteArray) = Z at *
            go_wp2_with fail
            refine (write_txt w2.heap.size w2.heap.size (txt m k) Z _ hbr4 (by omega) hB4.size).mono ?_
            rintro e w5 ⟨rfl, hbr5, hb5⟩
            have hB5 : Below w2.heap.size w2 w5 := hB4.trans hb5
            have HZ2 : Hid ((txt m k ++ Z.data.toList).length ≤ 9 * k + 9) := by show _ ≤ _; rw [List.length_append, size_list]; omega
            clear hbr4 hbr3
            go_wp2_with fail
            refine (write_txt w2.heap.size w2.heap.size _ D _ hbr5 (by have := HZ2.out; omega) hB5.size).mono ?_
            rintro e w6 ⟨rfl, hbr6, hb6⟩
            have hB6 : Below w2.heap.size w2 w6 := hB5.trans hb6
            have HE : Hid (txt m k ++ Z.data.toList ++ D.data.toList = txt m (k + 1)) := by
              show _ = _
              have hdl : D.size = (decDigits x).length := by rw [← HD.out, size_list]
              rw [HX.out, if_neg (by omega), HZ.out, HD.out, hdl, List.append_assoc]
            clear hbr5
            go_wp2
            go_roundw
            case rel => exact ⟨k + 1, by omega, by go_num, by rw [HE.out] at hbr6; exact hbr6, hB6⟩
            case measure => simp [RowKit.intOf]; omega
          · go_wp2_with fail
            refine (write_txt w2.heap.size w2.heap.size (txt m k) D _ hbr3 (by omega) hB3.size).mono ?_
            rintro e w6 ⟨rfl, hbr6, hb6⟩
            have hB6 : Below w2.heap.size w2 w6 := hB3.trans hb6
            have HE : Hid (txt m k ++ D.data.toList = txt m (k + 1)) := by
              show _ = _
              rw [HX.out, if_pos (by omega), HD.out]
            clear hbr3
            go_wp2
            go_roundw
            case rel => exact ⟨k + 1, by omega, by go_num, by rw [HE.out] at hbr6; exact hbr6, hB6⟩
            case measure => simp [RowKit.intOf]; omega
        · obtain rfl : k = (grp m).length := by omega
          have HA := hide (txt_all m h0)
          go_wp2_with fail
          refine (Tryz.Builder_String_any w2.heap.size w2.heap.size (txt m (grp m).length) _ hbr hBr.size).mono ?_
          rintro e w3 ⟨rfl, hb3⟩
          go_wp2
          go_ret
          exact ⟨by rw [HA.out]; rfl, hb02.trans ((hBr.trans hb3).mono hb02.size)⟩
end Go.Proofs.YtojidhnkpeiimaaGreatDoor

/- A fraction in digits: package frac's and the document's answer. -/
namespace Go.Proofs.YtojidhnkpeiimaaGreatDoor
open Go.RowKit Go.Lib
def dtx (n : Nat) : ByteArray := ⟨(decDigits n).toArray⟩
def ftxt (q : Rat) : ByteArray :=
  (if sgn q = true then ⟨#[45]⟩ ++ dtx q.num.natAbs else dtx q.num.natAbs) ++ (if q.den = 1 then ⟨#[]⟩ else ⟨#[47]⟩ ++ dtx q.den)
theorem app_nil (a : ByteArray) : a ++ (⟨#[]⟩ : ByteArray) = a := by
  apply ByteArray.ext; rw [ByteArray.data_append]; simp
theorem ftxt_one {q : Rat} (h1 : q.den = 1) : ftxt q = if sgn q = true then ⟨#[45]⟩ ++ dtx q.num.natAbs else dtx q.num.natAbs := by rw [ftxt, if_pos h1, app_nil]
theorem ftxt_two {q : Rat} (h1 : ¬ q.den = 1) : ftxt q = (if sgn q = true then ⟨#[45]⟩ ++ dtx q.num.natAbs else dtx q.num.natAbs) ++ (⟨#[47]⟩ ++ dtx q.den) := by rw [ftxt, if_neg h1]
theorem dtx_size (n : Nat) : (dtx n).size ≤ 3 * (B n).size + 1 := by
  have := dec_fits (B_lt n)
  show (decDigits n).toArray.size ≤ _
  simpa using this
theorem three_of {w w' : World} {g : Nat} {n : Bool} {x y : ByteArray} (h1 : Box w' g n x y) (h3 : Below w.heap.size w w') : (w'.cell? ⟨g, 1, none⟩ = some (.string x) ∧ w'.cell? ⟨g, 2, none⟩ = some (.string y)) ∧ Hid ((∃ b, Box w' g b x y) ∧ Below w.heap.size w w') :=
  ⟨⟨h1.c1, h1.c2⟩, ⟨_, h1⟩, h3⟩
set_option maxRecDepth 100000 in
set_option maxHeartbeats 2000000 in
theorem fText_any (n : Bool) (x y : ByteArray) (w : World) (hx : x.size + y.size ≤ 100000) (htab : TabIs Tryz.prog w "internal/strconv.uint64pow10" .u64 pow10Tab) :
    Calls Tryz.prog 57 #[.agg #[.bool n, .string x, .string y]] w fun e w' => e = .returned (.string (ftxt (val n x y))) ∧ Below w.heap.size w w' := by
  have hq := qw_val n x y
  have HC := hide (fun V => Canon_any n x y V (by omega) (by omega))
  generalize val n x y = q at *
  have z := own_size q
  have HTAB := hide htab
  clear htab
  have d1 := dtx_size q.num.natAbs
  have d2 := dtx_size q.den
  have e1 : (B q.num.natAbs).size = (nu q).size := rfl
  have e2 : (B q.den).size = (de q).size := rfl
  have HT1 := hide (fun (V : World) (h : TabIs Tryz.prog V "internal/strconv.uint64pow10" .u64 pow10Tab) => Text_any (nu q) V (by omega) h)
  have HT2 := hide (fun (V : World) (h : TabIs Tryz.prog V "internal/strconv.uint64pow10" .u64 pow10Tab) => Text_any (de q) V (by omega) h)
  have n1 : N (nu q) = q.num.natAbs := N_B _
  have n2 : N (de q) = q.den := N_B _
  rw [n1] at HT1
  rw [n2] at HT2
  have HCM : Hid (∀ V : World, Calls Tryz.prog 82 #[.string (de q), .string (B 1)] V fun e w' => e = .returned (.int .i64 (cmpI q.den 1)) ∧ w' = V) := fun V => by
    have := Cmp_any (de q) (B 1) V
    rwa [n2, N_B] at this
  have s1 : (dtx q.num.natAbs).size ≤ 400000 := by omega
  have s2 : (dtx q.den).size ≤ 400000 := by omega
  clear d1 d2 e1 e2 n1 n2 z hq
  have P1 := hide (fun h1 => ftxt_one (q := q) h1)
  have P2 := hide (fun h1 => ftxt_two (q := q) h1)
  generalize ftxt q = T at *
  go_enter Tryz.func57, Tryz.ntmps57
  have hbx := Box.at (w := w) rfl n x y
  have hB0 : Below w.heap.size w (w.alloc (FC n x y)) := (Below.refl _ w).alloc (Nat.le_refl _) _
  go_wp2_with fail
  refine (HC.out _).mono ?_
  rintro e w1 ⟨rfl, hb1⟩
  have hx1 := hbx.below hb1 hbx.lt
  have hB1 : Below w.heap.size w w1 := hB0.trans (hb1.mono hB0.size)
  obtain ⟨k0, k1, k2, f0, f1, f2⟩ := hx1.facts
  have hx1' := hx1.put (sgn q) (nu q) (de q)
  have hB1' := below_put hB1 (Nat.le_refl _) (.bool (sgn q)) (.string (nu q)) (.string (de q))
  clear hbx hB0 HC hb1
  rw [C_eq]
  have HTAB1 := hide (tab_below HTAB.out hB1')
  go_wp2_with fail
  refine (HT1.out _ HTAB1.out).mono ?_
  rintro e w2 ⟨rfl, hb2⟩
  have hx2 := hx1'.below hb2 hx1'.lt
  have hB2 : Below w.heap.size w w2 := hB1'.trans (hb2.mono hB1'.size)
  clear k0 k1 k2 f0 f1 f2 HTAB1 hx1' hB1' hx1 hB1 HT1 hb2
  obtain ⟨k0, k1, k2, f0, f1, f2⟩ := hx2.facts
  rw [show (⟨(decDigits q.num.natAbs).toArray⟩ : ByteArray) = dtx q.num.natAbs from rfl]
  have h1s : (⟨#[45]⟩ : ByteArray).size = 1 := rfl
  have h2s : (⟨#[47]⟩ : ByteArray).size = 1 := rfl
  have HT3 : Hid (∀ (V : World), TabIs Tryz.prog V "internal/strconv.uint64pow10" .u64 pow10Tab → Calls Tryz.prog 81 #[.string (de q)] V fun e w' => e = .returned (.string (dtx q.den)) ∧ Below V.heap.size V w') := HT2.out
  clear HT2
  have hcmp : (q.den = 1 ∧ cmpI q.den 1 = 0) ∨ (¬ q.den = 1 ∧ ¬ cmpI q.den 1 = 0) := by
    by_cases h : q.den = 1
    · exact .inl ⟨h, by rw [h]; rfl⟩
    · refine .inr ⟨h, ?_⟩
      rw [cmpI]
      have := q.den_pos
      rw [if_neg (by omega), if_neg h]
      decide
  generalize dtx q.num.natAbs = t1 at *
  generalize dtx q.den = t2 at *
  generalize cmpI q.den 1 = k at *
  generalize hsq : sgn q = sq at *
  cases sq
  all_goals
    go_upto_region 5 with fail
    go_region_held3 (fun w' => (w'.cell? ⟨w.heap.size, 1, none⟩ = some (.string (nu q)) ∧ w'.cell? ⟨w.heap.size, 2, none⟩ = some (.string (de q))) ∧ Hid ((∃ b, Box w' w.heap.size b (nu q) (de q)) ∧ Below w.heap.size w w'))
      (first | exact three_of hx3 hB3 | exact three_of hx2.drew hB2.drew)
      (first
        | (have HH := hx3; go_at_call 82; refine (HCM.out _).mono ?_; rintro e w4 ⟨rfl, hw4⟩; subst hw4)
        | (go_at_call 83; refine (Of_to 1 (Below.refl _ _) rfl (by omega)).mono ?_; rintro e w3 ⟨rfl, hb3⟩; have hx3 := hx2.drew.below hb3 hx2.lt; have hB3 : Below w.heap.size w w3 := hB2.drew.trans (hb3.mono hB2.size)))
    have HTAB3 := hide (tab_below HTAB.out hB3)
    obtain ⟨c0, c1, c2, g0, g1, g2⟩ := hx3.facts
    rcases hcmp with ⟨hd, rfl⟩ | ⟨hd, hk⟩
    · have HE := hide (P1.out hd)
      clear P1 P2 hd
      go_wp2
      go_ret
      exact ⟨by rw [HE.out]; rfl, hB3⟩
    · have HE := hide (P2.out hd)
      clear P1 P2 hd
      have hkb : (k == 0) = false := beq_eq_false_iff_ne.2 hk
      go_wp2_with fail
      refine (HT3.out _ HTAB3.out).mono ?_
      rintro e w5 ⟨rfl, hb5⟩
      have hB5 : Below w.heap.size w w5 := hB3.trans (hb5.mono hB3.size)
      go_wp2
      go_ret
      exact ⟨by rw [HE.out]; rfl, hB5⟩
end Go.Proofs.YtojidhnkpeiimaaGreatDoor

/- The text of a net, as a list of bytes. (Plain.) -/
namespace Go.Proofs.YtojidhnkpeiimaaGreatDoor
open Go.RowKit Go.Shelf
def bl (s : ByteArray) : List UInt8 := s.data.toList
def tx (l : List UInt8) : ByteArray := ⟨l.toArray⟩
theorem tx_bl (s : ByteArray) : tx (bl s) = s := rfl
theorem bl_tx (l : List UInt8) : bl (tx l) = l := rfl
theorem bl_app (a b : ByteArray) : bl (a ++ b) = bl a ++ bl b := by rw [bl, ByteArray.data_append]; simp [bl]
theorem tx_app (l : List UInt8) (s : ByteArray) : tx l ++ s = tx (l ++ bl s) := by rw [← tx_bl (tx l ++ s), bl_app, bl_tx]
theorem tx_size (l : List UInt8) : (tx l).size = l.length := by show l.toArray.size = _; simp
theorem bl_length (s : ByteArray) : (bl s).length = s.size := by rw [bl, Array.length_toList]; rfl
theorem app_tx (s t : ByteArray) : s ++ t = tx (bl s ++ bl t) := by rw [← tx_bl (s ++ t), bl_app]
def spL (xs : List ByteArray) : List UInt8 := xs.flatMap fun s => 32 :: bl s
theorem spL_app (a b : List ByteArray) : spL (a ++ b) = spL a ++ spL b := by simp [spL]
theorem spL_one (s : ByteArray) : spL [s] = 32 :: bl s := by simp [spL]
theorem spL_snoc (a : List ByteArray) (s : ByteArray) : spL (a ++ [s]) = spL a ++ [32] ++ bl s := by rw [spL_app, spL_one]; simp
theorem joinTail_sp (r : List ByteArray) : Lib.joinTail [32] (r.map (·.data.toList)) = spL r := by
  induction r with
  | nil => rfl
  | cons x r ih =>
    simp only [Lib.joinTail, List.map_cons, List.flatten_cons] at ih ⊢
    rw [ih]
    simp [spL, bl]
theorem spL_join (xs : List ByteArray) (h : xs ≠ []) : [32] ++ Lib.join (xs.map (·.data.toList)) [32] = spL xs := by
  match xs, h with
  | x :: r, _ =>
    rw [List.map_cons, Lib.join_cons, joinTail_sp]
    simp [spL, bl]
theorem join_nil_sep (xs : List (List UInt8)) : Lib.join xs [] = xs.flatten := by
  match xs with
  | [] => rfl
  | x :: r =>
    rw [Lib.join_cons, Lib.joinTail]
    simp
theorem spL_le {xs : List ByteArray} {m : Nat} (h : ∀ s ∈ xs, s.size ≤ m) : (spL xs).length ≤ (m + 1) * xs.length := by
  induction xs with
  | nil => simp [spL]
  | cons x r ih =>
    have h1 := ih fun s hs => h s (List.mem_cons_of_mem _ hs)
    have h2 := h x List.mem_cons_self
    have e : spL (x :: r) = 32 :: bl x ++ spL r := by simp [spL]
    rw [e, List.length_append, List.length_cons, bl_length, List.length_cons, Nat.mul_succ]
    omega
theorem flat_le {α : Type} {l : List α} {f : α → List UInt8} {m : Nat} (h : ∀ x ∈ l, (f x).length ≤ m) : (l.flatMap f).length ≤ m * l.length := by
  induction l with
  | nil => simp
  | cons x r ih =>
    have h1 := ih fun s hs => h s (List.mem_cons_of_mem _ hs)
    have h2 := h x List.mem_cons_self
    rw [List.flatMap_cons, List.length_append, List.length_cons, Nat.mul_succ]
    omega
theorem flat_range (f : Nat → List UInt8) (i : Nat) : (List.range (i + 1)).flatMap f = (List.range i).flatMap f ++ f i := by
  rw [List.range_succ, List.flatMap_append]
  simp
def ftF (f : Fr) : ByteArray := ftxt (val f.1 f.2.1 f.2.2)
def lineL (x : Vr) : List UInt8 := [118, 97, 114, 32] ++ bl x.1 ++ [32, 123] ++ spL x.2 ++ [32, 125, 10]
def rowL (l : List Fr) : List UInt8 := [32, 58] ++ spL (l.map ftF) ++ [32, 59]
def nmV (V : List Vr) (v : Nat) : ByteArray := (V.getD v (⟨#[]⟩, [])).1
def vlV (V : List Vr) (v k : Nat) : ByteArray := (V.getD v (⟨#[]⟩, [])).2.getD k ⟨#[]⟩
def valsL (V : List Vr) (P D : List Nat) (n : Nat) : List ByteArray := (List.range n).map fun j => vlV V (P.getD j 0) (D.getD j 0)
def blockL (V : List Vr) (L : List (List Int)) (R : List (List Fr)) (v i : Nat) : List UInt8 :=
  spL (valsL V (toN (L.getD v [])) (digs (sizesN V) (toN (L.getD v [])) i) (L.getD v []).length) ++ rowL (chunkF (R.getD v []) (sz (sizesN V) v) i) ++ [10]
def headL (V : List Vr) (L : List (List Int)) (v : Nat) : List UInt8 := bl (nmV V v) ++ [32, 124] ++ spL ((toN (L.getD v [])).map (nmV V)) ++ [32, 123, 10]
def varL (V : List Vr) (L : List (List Int)) (R : List (List Fr)) (v : Nat) : List UInt8 :=
  if (L.getD v []).length = 0 then bl (nmV V v) ++ rowL (R.getD v []) ++ [10]
  else headL V L v ++ (List.range (cnt (sizesN V) (toN (L.getD v [])))).flatMap (blockL V L R v) ++ [125, 10]
def netL (V : List Vr) (L : List (List Int)) (R : List (List Fr)) : List UInt8 := V.flatMap lineL ++ (List.range V.length).flatMap (varL V L R)
def prE (V : List Vr) (L : List (List Int)) (R : List (List Fr)) : Int := if netE V L R = 0 then (if (netL V L R).length ≤ 20000 then 0 else 2) else netE V L R
def prT (V : List Vr) (L : List (List Int)) (R : List (List Fr)) : ByteArray := if netE V L R = 0 ∧ (netL V L R).length ≤ 20000 then tx (netL V L R) else ⟨#[]⟩
theorem ftF_size {f : Fr} (h : f.2.1.size + f.2.2.size ≤ 10000) : (ftF f).size ≤ 100000 := by
  have z := own_size (val f.1 f.2.1 f.2.2)
  have hq := qw_val f.1 f.2.1 f.2.2
  have d1 := dtx_size (val f.1 f.2.1 f.2.2).num.natAbs
  have d2 := dtx_size (val f.1 f.2.1 f.2.2).den
  have e1 : (B (val f.1 f.2.1 f.2.2).num.natAbs).size = (nu (val f.1 f.2.1 f.2.2)).size := rfl
  have e2 : (B (val f.1 f.2.1 f.2.2).den).size = (de (val f.1 f.2.1 f.2.2)).size := rfl
  have a1 : (⟨#[45]⟩ : ByteArray).size = 1 := rfl
  have a2 : (⟨#[47]⟩ : ByteArray).size = 1 := rfl
  have a3 : (⟨#[]⟩ : ByteArray).size = 0 := rfl
  rw [ftF, ftxt, ByteArray.size_append]
  split <;> split <;> (try simp only [ByteArray.size_append]) <;> omega
theorem digs_lt {S : List Nat} (hp : Pos S) (vs : List Nat) (k i : Nat) (hk : k < cnt S vs) (h : i < vs.length) : (digs S vs k)[i]'(by rw [digs_length]; exact h) < sz S vs[i] := by
  rw [digs_get hp vs k i hk h]
  have e := cnt_drop S vs h
  have p1 := cnt_pos hp (vs.drop (i + 1))
  have p2 := cnt_pos hp (vs.drop i)
  rw [Nat.div_lt_iff_lt_mul (by omega), ← e]
  exact Nat.mod_lt _ (by omega)
theorem nm_size {V : List Vr} (hs : VSm V) (v : Nat) : (nmV V v).size ≤ 5000 := by
  by_cases h : v < V.length
  · rw [nmV, getV h]; exact (hs.2 _ (List.getElem_mem h)).1
  · rw [nmV, List.getD_eq_getElem?_getD, List.getElem?_eq_none (by omega)]; exact Nat.zero_le _
theorem vl_size {V : List Vr} (hs : VSm V) (v k : Nat) : (vlV V v k).size ≤ 5000 := by
  by_cases h : v < V.length
  · rw [vlV, getV h]
    by_cases h2 : k < V[v].2.length
    · rw [List.getD_eq_getElem?_getD, List.getElem?_eq_getElem h2]; exact (hs.2 _ (List.getElem_mem h)).2.2 _ (List.getElem_mem h2)
    · rw [List.getD_eq_getElem?_getD, List.getElem?_eq_none (by omega)]; exact Nat.zero_le _
  · rw [vlV, List.getD_eq_getElem?_getD (l := V), List.getElem?_eq_none (by omega)]
    exact Nat.zero_le _
theorem vals_le {V : List Vr} (hs : VSm V) (P D : List Nat) (n : Nat) : (spL (valsL V P D n)).length ≤ 5001 * n := by
  have := spL_le (xs := valsL V P D n) (m := 5000) fun s h => by
    obtain ⟨j, _, rfl⟩ := List.mem_map.1 h
    exact vl_size hs _ _
  simpa [valsL] using this
theorem valsL_succ (V : List Vr) (P D : List Nat) (n : Nat) : valsL V P D (n + 1) = valsL V P D n ++ [vlV V (P.getD n 0) (D.getD n 0)] := by simp [valsL, List.range_succ]
theorem nms_le {V : List Vr} (hs : VSm V) (l : List Nat) : (spL (l.map (nmV V))).length ≤ 5001 * l.length := by
  have := spL_le (xs := l.map (nmV V)) (m := 5000) fun s h => by
    obtain ⟨j, _, rfl⟩ := List.mem_map.1 h
    exact nm_size hs _
  simpa using this
theorem row_le {l : List Fr} (h : fw l ≤ 10000) : (rowL l).length ≤ 4 + 100001 * l.length := by
  have := spL_le (xs := l.map ftF) (m := 100000) fun s hs => by
    obtain ⟨f, hf, rfl⟩ := List.mem_map.1 hs
    have := fw_mem hf
    exact ftF_size (by omega)
  rw [List.length_map] at this
  simp only [rowL, List.length_append, List.length_cons, List.length_nil]
  omega
theorem line_le {V : List Vr} (hs : VSm V) {x : Vr} (h : x ∈ V) (h4 : x.2.length ≤ 4) : (lineL x).length ≤ 26000 := by
  have h1 := (hs.2 x h).1
  have h2 := spL_le (xs := x.2) (m := 5000) (hs.2 x h).2.2
  simp only [lineL, List.length_append, List.length_cons, List.length_nil, bl_length]
  omega
theorem block_le {V : List Vr} {L : List (List Int)} {R : List (List Fr)} (hs : NSm V L R) {v i : Nat} (hv : v < R.length) (h8 : (L.getD v []).length ≤ 8) (h4 : sz (sizesN V) v ≤ 4) : (blockL V L R v i).length ≤ 500000 := by
  have e : R.getD v [] = R[v] := by rw [List.getD_eq_getElem?_getD, List.getElem?_eq_getElem hv]; rfl
  have h1 := vals_le hs.vars (toN (L.getD v [])) (digs (sizesN V) (toN (L.getD v [])) i) (L.getD v []).length
  have h2 := fw_chunk R[v] (sz (sizesN V) v) i
  have h3 := (hs.rows.2 _ (List.getElem_mem hv)).2
  have h5 := row_le (l := chunkF R[v] (sz (sizesN V) v) i) (by omega)
  have h6 : (chunkF R[v] (sz (sizesN V) v) i).length ≤ 4 := by rw [chunkF, List.length_take]; omega
  rw [blockL, e, List.length_append, List.length_append, List.length_cons, List.length_nil]
  omega
theorem head_le {V : List Vr} {L : List (List Int)} {R : List (List Fr)} (hs : NSm V L R) {v : Nat} (h8 : (L.getD v []).length ≤ 8) : (headL V L v).length ≤ 60000 := by
  have h1 := nm_size hs.vars v
  have h2 := nms_le hs.vars (toN (L.getD v []))
  rw [toN_length] at h2
  simp only [headL, List.length_append, List.length_cons, List.length_nil, bl_length]
  omega
def rowP (l : List Fr) : List UInt8 := Lib.join ((l.map ftF).map (·.data.toList)) [32] ++ [32, 59, 10]
theorem rowP_eq {l : List Fr} (h : l ≠ []) : [32, 58, 32] ++ rowP l = rowL l ++ [10] := by
  have e := spL_join (l.map ftF) (by simpa using h)
  rw [rowL, rowP, ← e]
  simp
theorem line_eq {x : Vr} (h : x.2 ≠ []) : [118, 97, 114, 32] ++ bl x.1 ++ [32, 123, 32] ++ Lib.join (x.2.map (·.data.toList)) [32] ++ [32, 125, 10] = lineL x := by
  rw [lineL, ← spL_join x.2 h]
  simp
end Go.Proofs.YtojidhnkpeiimaaGreatDoor

/- appendDigit at the nil slice, and nat.Parse. -/
namespace Go.Proofs.YtojidhnkpeiimaaGreatDoor
open Go.RowKit
set_option maxRecDepth 100000 in
set_option maxHeartbeats 2000000 in
theorem appendDigit_nil (d : Nat) (w : World) (hd : d ≤ 9) (base : Nat) (hb : base ≤ w.heap.size) :
    Calls Tryz.prog 207 #[.slice none 0 0, .int .u8 (d : Nat)] w fun e w' => ∃ v' l', e = .returned v' ∧ Has w' base v' l' ∧ Small l' ∧ nw l' = d ∧ l'.length ≤ 1 ∧ Below base w w' := by
  obtain ⟨i0, hi, hz0, hz1, hz2⟩ := info_parts Tryz.infoU32
  by_cases h0 : d = 0
  · subst h0
    go_enter Tryz.func207, Tryz.ntmps207
    go_wp2
    refine wp_loop_rounds 1 ?_
    rw [rounds_succ]
    go_wp2
    go_ret
    exact ⟨_, [], rfl, World.ownsRow_nil _ _ _ _, fun x hx => by simp at hx, rfl, by simp, Below.refl _ _⟩
  · have hp : 0 < d := by omega
    have hn := World.ownsRow_nil w base 135 1
    go_enter Tryz.func207, Tryz.ntmps207
    go_wp2
    refine wp_loop_rounds 1 ?_
    rw [rounds_succ]
    go_wp2_with (at_builtin; refine wpList_append_own _ rfl _ _ 147 rfl base 135 i0 (.int .u32 0) 1 4 Tryz.underlying147 hi hz0 hz1 hz2 rfl (by decide) _ _ _ rfl (hn.alloc _) ⟨w.heap.size, 0, none⟩ 1 1 [.int .u32 (d : Nat)] rfl rfl (cell_one_new _ _ _) (by simp [Value.oneCell']) (by unfold maxLen; omega) (by omega) (by simp; omega) ?_; intro v' w2 hown3 hgrow2 _)
    go_ret
    refine ⟨_, [d], rfl, by simpa [Has, u32] using hown3, fun x hx => by simp at hx; subst hx; rw [W_eq]; omega, by simp [nw_cons, nw_nil], by simp, ?_⟩
    exact ((Below.refl _ _).alloc hb _).grown hgrow2 (by simp; omega) (fun k hk => by cases hk)
theorem appendDigit_any (v : Value) (l : List Nat) (d : Nat) (w : World) (hs : Small l) (hd : d ≤ 9) (hlen : l.length ≤ 8796093022208) (base : Nat) (hb : base ≤ w.heap.size) (h : Has w base v l) :
    Calls Tryz.prog 207 #[v, .int .u8 (d : Nat)] w fun e w' => ∃ v' l', e = .returned v' ∧ Has w' base v' l' ∧ Small l' ∧ nw l' = nw l * 10 + d ∧ l'.length ≤ l.length + 1 ∧ Below base w w' := by
  rcases h.cases with ⟨rfl, rfl⟩ | ⟨g, cap, rfl, hcap, hbg, hl⟩
  · refine (appendDigit_nil d w hd base hb).mono ?_
    rintro e w' ⟨v', l', rfl, h1, h2, h3, h4, h5⟩
    exact ⟨v', l', rfl, h1, h2, by rw [h3, nw_nil]; omega, h4, h5⟩
  · exact appendDigit_some g cap l d w hs hd hlen base hb h
set_option maxRecDepth 100000 in
set_option maxHeartbeats 2000000 in
theorem Parse_bad (s : ByteArray) (w : World) (hs : s.size ≤ 140737488355328) (hbad : wellDig s.data.toList = false) :
    Calls Tryz.prog 190 #[.string s] w fun e w' => e = .returned (.tuple #[.string ⟨#[]⟩, .int .i64 1]) ∧ Below w.heap.size w w' := by
  have hall := allDigits_any s w hs
  have HB : Hid (wellDig s.data.toList = false) := hbad
  clear hbad
  cases hA : allDig s.data.toList with
  | false =>
    rw [hA] at hall
    have HH := hide hall
    clear hall hA
    go_enter Tryz.func190, Tryz.ntmps190
    go_wp2_with (go_at_call 206; refine HH.out.mono ?_; rintro e w' ⟨rfl, rfl⟩)
    go_ret2
    exact ⟨rfl, Below.refl _ _⟩
  | true =>
    rw [hA] at hall
    have HH := hide hall
    have hb := HB.out
    rw [wellDig, hA] at hb
    simp only [Bool.true_and, Bool.not_eq_false', Bool.and_eq_true, decide_eq_true_eq, beq_iff_eq] at hb
    obtain ⟨h1, h2⟩ := hb
    have h1' : 1 < s.size := by simpa using h1
    have h0 : (s[0]'(by omega)).toNat = 48 := by
      have e : s.data.toList[0]?.getD 0 = s[0]'(by omega) := by rw [List.getElem?_eq_getElem (by simpa using (show 0 < s.size by omega))]; rfl
      rw [← e, h2]; rfl
    clear hall hA h1 h2
    go_enter Tryz.func190, Tryz.ntmps190
    go_wp2_with (go_at_call 206; refine HH.out.mono ?_; rintro e w' ⟨rfl, rfl⟩)
    go_ret2
    exact ⟨rfl, Below.refl _ _⟩
theorem well_all {l : List UInt8} (h : wellDig l = true) : allDig l = true := by
  rw [wellDig, Bool.and_eq_true] at h; exact h.1
theorem all_dig (s : ByteArray) (h : allDig s.data.toList = true) (k : Nat) (hk : k < s.size) : 48 ≤ s[k].toNat ∧ s[k].toNat ≤ 57 := by
  rw [allDig, Bool.and_eq_true] at h
  have := List.all_eq_true.1 h.2 s[k] (by
    have e : s.data.toList[k]'(by simpa using hk) = s[k] := rfl
    rw [← e]; exact List.getElem_mem _)
  simpa [isDig] using this
theorem all_pos (s : ByteArray) (h : allDig s.data.toList = true) : 0 < s.size := by
  rw [allDig, Bool.and_eq_true] at h
  have h1 := h.1
  rcases Nat.eq_zero_or_pos s.size with e | e
  · have : s.data.toList = [] := List.eq_nil_of_length_eq_zero (by simpa using e)
    rw [this] at h1; cases h1
  · exact e
theorem well_first (s : ByteArray) (h : wellDig s.data.toList = true) (h1 : 1 < s.size) : (((s[0]'(by omega)).toNat : Int) == 48) = false := by
  rw [wellDig, Bool.and_eq_true] at h
  have h2 := h.2
  have e : s.data.toList[0]?.getD 0 = s[0]'(by omega) := by rw [List.getElem?_eq_getElem (by simpa using (show 0 < s.size by omega))]; rfl
  rw [e] at h2
  have hl : 1 < s.data.toList.length := by simpa using h1
  simp only [hl, decide_true, Bool.true_and, Bool.not_eq_true', beq_eq_false_iff_ne, ne_eq] at h2
  refine beq_eq_false_iff_ne.2 fun e2 => h2 ?_
  have : (s[0]'(by omega)).toNat = 48 := by omega
  exact UInt8.toNat_inj.1 this
set_option maxRecDepth 100000 in
set_option maxHeartbeats 2000000 in
theorem Parse_long (s : ByteArray) (w : World) (hs : s.size ≤ 140737488355328) (hgood : wellDig s.data.toList = true) (hlong : 400 < s.size) :
    Calls Tryz.prog 190 #[.string s] w fun e w' => e = .returned (.tuple #[.string ⟨#[]⟩, .int .i64 2]) ∧ Below w.heap.size w w' := by
  have hall := allDigits_any s w hs
  rw [well_all hgood] at hall
  have hf := well_first s hgood (by omega)
  have HH := hide hall
  clear hall hgood
  go_enter Tryz.func190, Tryz.ntmps190
  go_wp2_with (go_at_call 206; refine HH.out.mono ?_; rintro e w' ⟨rfl, rfl⟩)
  go_ret2
  exact ⟨rfl, Below.refl _ _⟩
def ParseLoop (s : ByteArray) (w : World) (k : Nat) (v : Value) (wr : World) : Prop :=
  ∃ ls, Has wr w.heap.size v ls ∧ Small ls ∧ nw ls = dval (s.data.toList.take k) ∧ ls.length ≤ k ∧ Below w.heap.size w wr
set_option maxRecDepth 100000 in
set_option maxHeartbeats 2000000 in
theorem Parse_good (s : ByteArray) (w : World) (hgood : wellDig s.data.toList = true) (hlong : s.size ≤ 400) :
    Calls Tryz.prog 190 #[.string s] w fun e w' => e = .returned (.tuple #[.string (B (dval s.data.toList)), .int .i64 0]) ∧ Below w.heap.size w w' := by
  have hall := allDigits_any s w (by omega)
  have hA := well_all hgood
  rw [hA] at hall
  have hpos := all_pos s hA
  have HD := hide (all_dig s hA)
  have HH := hide hall
  have HF := hide (well_first s hgood)
  clear hall hA hgood
  have hl4 : decide (400 < (s.size : Int)) = false := by simp; omega
  rcases (show s.size = 1 ∨ 1 < s.size by omega) with h1 | h1
  · have h1a : ¬ 1 < s.size := by omega
    clear h1
    go_enter Tryz.func190, Tryz.ntmps190
    go_wp2_with (go_at_call 206; refine HH.out.mono ?_; rintro e w' ⟨rfl, rfl⟩)
    go_loopw [4, 24] (fun v i wr => ∃ k : Nat, k ≤ s.size ∧ i = .int .i64 k ∧ ParseLoop s w' k v wr) (fun _ i _ => s.size - (intOf i).toNat)
    case atStart => exact ⟨0, Nat.zero_le _, rfl, [], World.ownsRow_nil _ _ _ _, fun x hx => by simp at hx, rfl, Nat.le_refl _, Below.refl _ _⟩
    case round =>
      obtain ⟨k, hk, rfl, ls, hown, hsm, hnw, hll, hbel⟩ := hrel
      have HN := hide hnw
      have hsz := hbel.size
      clear hnw
      by_cases hlt : k < s.size
      · obtain ⟨hd1, hd2⟩ := HD.out k hlt
        have HT : Hid (dval (s.data.toList.take (k + 1)) = dval (s.data.toList.take k) * 10 + (s[k].toNat - 48)) := by show _ = _; rw [take_snoc s k hlt, dval_snoc]
        go_wp2_with fail
        rw [show (s[k].toNat : Int) - 48 = ((s[k].toNat - 48 : Nat) : Int) by omega]
        refine (appendDigit_any _ ls _ _ hsm (by omega) (by omega) w'.heap.size hsz hown).mono ?_
        rintro e w2 ⟨v2, l2, rfl, h2, h3, h4, h5, h6⟩
        have H4 := hide h4
        clear h4 hown
        go_wp2
        go_roundw
        case rel => exact ⟨k + 1, by omega, by go_num, l2, h2, h3, by rw [H4.out, HN.out, HT.out], by omega, hbel.trans h6⟩
        case measure => simp [intOf]; omega
      · obtain rfl : k = s.size := by omega
        go_wp2_with fail
        refine (gather_own w'.heap.size _ ls _ hsm (by omega) hown).mono ?_
        rintro e w2 ⟨rfl, hb2⟩
        go_wp2
        go_ret2
        exact ⟨by rw [HN.out, List.take_of_length_le (by rw [Array.length_toList]; exact Nat.le_refl _)]; rfl, hbel.trans (hb2.mono hsz)⟩
  · have hf := HF.out h1
    go_enter Tryz.func190, Tryz.ntmps190
    go_wp2_with (go_at_call 206; refine HH.out.mono ?_; rintro e w' ⟨rfl, rfl⟩)
    go_loopw [4, 24] (fun v i wr => ∃ k : Nat, k ≤ s.size ∧ i = .int .i64 k ∧ ParseLoop s w' k v wr) (fun _ i _ => s.size - (intOf i).toNat)
    case atStart => exact ⟨0, Nat.zero_le _, rfl, [], World.ownsRow_nil _ _ _ _, fun x hx => by simp at hx, rfl, Nat.le_refl _, Below.refl _ _⟩
    case round =>
      obtain ⟨k, hk, rfl, ls, hown, hsm, hnw, hll, hbel⟩ := hrel
      have HN := hide hnw
      have hsz := hbel.size
      clear hnw
      by_cases hlt : k < s.size
      · obtain ⟨hd1, hd2⟩ := HD.out k hlt
        have HT : Hid (dval (s.data.toList.take (k + 1)) = dval (s.data.toList.take k) * 10 + (s[k].toNat - 48)) := by show _ = _; rw [take_snoc s k hlt, dval_snoc]
        go_wp2_with fail
        rw [show (s[k].toNat : Int) - 48 = ((s[k].toNat - 48 : Nat) : Int) by omega]
        refine (appendDigit_any _ ls _ _ hsm (by omega) (by omega) w'.heap.size hsz hown).mono ?_
        rintro e w2 ⟨v2, l2, rfl, h2, h3, h4, h5, h6⟩
        have H4 := hide h4
        clear h4 hown
        go_wp2
        go_roundw
        case rel => exact ⟨k + 1, by omega, by go_num, l2, h2, h3, by rw [H4.out, HN.out, HT.out], by omega, hbel.trans h6⟩
        case measure => simp [intOf]; omega
      · obtain rfl : k = s.size := by omega
        go_wp2_with fail
        refine (gather_own w'.heap.size _ ls _ hsm (by omega) hown).mono ?_
        rintro e w2 ⟨rfl, hb2⟩
        go_wp2
        go_ret2
        exact ⟨by rw [HN.out, List.take_of_length_le (by rw [Array.length_toList]; exact Nat.le_refl _)]; rfl, hbel.trans (hb2.mono hsz)⟩
end Go.Proofs.YtojidhnkpeiimaaGreatDoor

/- The document's answer: NatParse; and what both parsers answer. -/
namespace Go.Proofs.YtojidhnkpeiimaaGreatDoor
open Go.RowKit
def pres (s : ByteArray) : ByteArray × Int := if wellDig s.data.toList = true then (if 400 < s.size then (⟨#[]⟩, 2) else (B (dval s.data.toList), 0)) else (⟨#[]⟩, 1)
theorem pres_bad {s : ByteArray} (h : wellDig s.data.toList = false) : pres s = (⟨#[]⟩, 1) := by rw [pres, if_neg (by rw [h]; decide)]
theorem pres_long {s : ByteArray} (h : wellDig s.data.toList = true) (h1 : 400 < s.size) : pres s = (⟨#[]⟩, 2) := by rw [pres, if_pos h, if_pos h1]
theorem pres_good {s : ByteArray} (h : wellDig s.data.toList = true) (h1 : ¬ 400 < s.size) : pres s = (B (dval s.data.toList), 0) := by rw [pres, if_pos h, if_neg h1]
theorem Parse_pres (s : ByteArray) (w : World) (hs : s.size ≤ 140737488355328) :
    Calls Tryz.prog 190 #[.string s] w fun e w' => e = .returned (.tuple #[.string (pres s).1, .int .i64 (pres s).2]) ∧ Below w.heap.size w w' := by
  cases hw : wellDig s.data.toList with
  | false => rw [pres_bad hw]; exact Parse_bad s w hs hw
  | true =>
    by_cases h : 400 < s.size
    · rw [pres_long hw h]; exact Parse_long s w hs hw h
    · rw [pres_good hw h]; exact Parse_good s w hw (by omega)
theorem dval_lt (l : List UInt8) : l.all isDig = true → dval l < 10 ^ l.length := by
  induction l using snoc_ind with
  | h0 => intro _; decide
  | h1 l c ih =>
    intro h
    rw [List.all_append, Bool.and_eq_true] at h
    have h1 := ih h.1
    have h2 : 48 ≤ c.toNat ∧ c.toNat ≤ 57 := by simpa [isDig] using h.2
    rw [dval_snoc, List.length_append, List.length_singleton, Nat.pow_succ]
    omega
theorem dval_size (l : List UInt8) (h : l.all isDig = true) : (B (dval l)).size ≤ l.length := by
  rw [B_size]
  exact bn_fits _ _ (Nat.lt_of_lt_of_le (dval_lt l h) (Nat.pow_le_pow_left (by decide) _))
end Go.Proofs.YtojidhnkpeiimaaGreatDoor

/- What a text of a fraction stands for: plain facts. -/
namespace Go.Proofs.YtojidhnkpeiimaaGreatDoor
open Go.RowKit Go.Lib
theorem idx_cons (b c : UInt8) (l : List UInt8) : index (b :: l) [c] = if b = c then 0 else if index l [c] = -1 then -1 else index l [c] + 1 := by
  rw [index]
  have : List.isPrefixOf [c] (b :: l) = (c == b) := by simp [List.isPrefixOf]
  rw [this]
  by_cases h : b = c
  · subst h; simp
  · have h' : ¬ c = b := fun e => h e.symm
    simp [h, h']
theorem idx_skip (c : UInt8) (a b : List UInt8) : (∀ x ∈ a, ¬ x = c) → index (a ++ b) [c] = if index b [c] = -1 then -1 else a.length + index b [c] := by
  induction a with
  | nil => intro _; simp
  | cons x a ih =>
    intro h
    rw [List.cons_append, idx_cons, if_neg (h x (by simp)), ih fun y hy => h y (by simp [hy])]
    have := index_ge b [c]
    by_cases e : index b [c] = -1
    · simp [e]
    · rw [if_neg e, if_neg e, if_neg (by omega)]
      simp
      omega
theorem idx_hit (c : UInt8) (a b : List UInt8) (h : ∀ x ∈ a, ¬ x = c) : index (a ++ c :: b) [c] = a.length := by
  rw [idx_skip c a _ h, idx_cons, if_pos rfl, if_neg (by decide)]; simp
theorem idx_none (c : UInt8) (a : List UInt8) (h : ∀ x ∈ a, ¬ x = c) : index a [c] = -1 := by
  have := idx_skip c a [] h
  rw [List.append_nil] at this
  rw [this]; rfl
def ix (s : ByteArray) (c : UInt8) : Int := index s.data.toList [c]
theorem ix_cases (s : ByteArray) (c : UInt8) : ix s c = -1 ∨ ∃ i : Nat, ix s c = i ∧ i + 1 ≤ s.size := indexB_cases s ⟨#[c]⟩
def pquo (a b : ByteArray) : Int × Rat :=
  if (pres a).2 ≠ 0 then ((pres a).2, 0) else if (pres b).2 ≠ 0 then ((pres b).2, 0) else if N (pres b).1 = 0 then (3, 0) else (0, val false (pres a).1 (pres b).1)
def pdec (a b : ByteArray) : Int × Rat :=
  if (pres a).2 ≠ 0 then ((pres a).2, 0) else if allDig b.data.toList = false then (1, 0) else if 400 ≤ b.size then (2, 0) else (0, val false (B (N (pres a).1 * 10 ^ b.size + dval b.data.toList)) (B (10 ^ b.size)))
def pone (a : ByteArray) : Int × Rat := if (pres a).2 ≠ 0 then ((pres a).2, 0) else (0, val false (pres a).1 (B 1))
def psz (s : ByteArray) : Int × Rat :=
  if 0 ≤ ix s 47 then pquo (s.extract 0 (ix s 47).toNat) (s.extract ((ix s 47).toNat + 1) s.size)
  else if 0 ≤ ix s 46 then pdec (s.extract 0 (ix s 46).toNat) (s.extract ((ix s 46).toNat + 1) s.size) else pone s
def fpar (s : ByteArray) : Int × Rat := if hasPrefix s.data.toList [45] = true then ((psz (s.extract 1 s.size)).1, -(psz (s.extract 1 s.size)).2) else psz s
def fval (r : Int × Rat) : Value := if r.1 = 0 then C r.2 else .agg #[.bool false, .string ⟨#[]⟩, .string ⟨#[]⟩]
theorem pres_size (s : ByteArray) : (pres s).1.size ≤ 400 := by
  rw [pres]
  split
  · split
    · show 0 ≤ _; omega
    · rename_i h1 h2
      have h3 : s.data.toList.all isDig = true := by
        have := h1
        simp only [wellDig, allDig, Bool.and_eq_true] at this
        exact this.1.2
      have := dval_size _ h3
      rw [bytes_len] at this
      show (B _).size ≤ _
      omega
  · show 0 ≤ _; omega
theorem dval_cons (c : UInt8) (l : List UInt8) : dval (c :: l) = (c.toNat - 48) * 10 ^ l.length + dval l := by
  induction l using snoc_ind with
  | h0 => simp [dval]
  | h1 l d ih =>
    rw [← List.cons_append, dval_snoc, ih, dval_snoc, List.length_append, List.length_singleton, Nat.pow_succ, Nat.add_mul, Nat.mul_assoc]
    omega
theorem dval_zeros (n : Nat) : dval (List.replicate n 48) = 0 := by
  induction n with
  | zero => rfl
  | succ n ih => rw [List.replicate_succ, dval_cons, ih]; simp
theorem cat_data (a b : ByteArray) : (a ++ b).data.toList = a.data.toList ++ b.data.toList := by rw [ByteArray.data_append, Array.toList_append]
theorem pres_mark (b : ByteArray) (hb : 0 < b.size) : pres (⟨#[49]⟩ ++ b) = if allDig b.data.toList = false then (⟨#[]⟩, 1) else if 400 ≤ b.size then (⟨#[]⟩, 2) else (B (10 ^ b.size + dval b.data.toList), 0) := by
  have hs : (⟨#[49]⟩ ++ b : ByteArray).size = b.size + 1 := by rw [ByteArray.size_append]; show 1 + _ = _; omega
  have hd : (⟨#[49]⟩ ++ b : ByteArray).data.toList = 49 :: b.data.toList := by rw [cat_data]; rfl
  have hne : b.data.toList.isEmpty = false := by
    cases hl : b.data.toList with
    | nil => rw [← bytes_len, hl] at hb; exact absurd hb (by decide)
    | cons x r => rfl
  have hw : wellDig (49 :: b.data.toList) = allDig b.data.toList := by
    simp [wellDig, allDig, hne, isDig]
  rw [pres, hd, hs, hw]
  cases h : allDig b.data.toList with
  | false => simp
  | true =>
    by_cases h4 : 400 ≤ b.size
    · rw [if_pos rfl, if_pos (show 400 < b.size + 1 by omega), if_neg (show ¬ true = false by decide), if_pos h4]
    · rw [if_pos rfl, if_neg (show ¬ 400 < b.size + 1 by omega), if_neg (show ¬ true = false by decide), if_neg h4, dval_cons, bytes_len]
      simp
theorem pres_ten (z : ByteArray) (n : Nat) (hz : z.data.toList = List.replicate n 48) (h0 : 0 < n) (h4 : n < 400) : pres (⟨#[49]⟩ ++ z) = (B (10 ^ n), 0) := by
  have hs : z.size = n := by rw [← bytes_len, hz, List.length_replicate]
  have ha : allDig z.data.toList = true := by
    rw [hz]
    simp [allDig, isDig]
    omega
  rw [pres_mark z (by omega), ha, if_neg (by decide), if_neg (by omega), hs, hz, dval_zeros, Nat.add_zero]
theorem repeat_zeros (n : Nat) : repeatL [48] n = List.replicate n 48 := by
  induction n with
  | zero => rfl
  | succ n ih => rw [repeatL, ih, List.replicate_succ]; rfl
theorem ten_size (n : Nat) : (B (10 ^ n)).size ≤ n + 1 := by
  rw [B_size]
  refine bn_fits _ _ ?_
  have : 10 ^ n ≤ 256 ^ n := Nat.pow_le_pow_left (by decide) n
  rw [Nat.pow_succ]
  have : 0 < 256 ^ n := Nat.pow_pos (by decide)
  omega
end Go.Proofs.YtojidhnkpeiimaaGreatDoor

/- Plain facts: a numeral read gives back the number, and a number written the numeral. -/
namespace Go.Proofs.YtojidhnkpeiimaaGreatDoor
open Go
theorem dig_char (d : Nat) (h : d < 10) : (UInt8.ofNat (48 + d)).toNat = 48 + d := by
  rw [UInt8.toNat_ofNat']; exact Nat.mod_eq_of_lt (by omega)
theorem dval_dec (m : Nat) : dval (Lib.decDigits m) = m := by
  induction m using Nat.strongRecOn with
  | ind m ih =>
    by_cases h : m < 10
    · rw [dec_small h]
      show 0 * 10 + _ = _
      rw [dig_char m h]; omega
    · rw [dec_big h, dval_snoc, ih _ (by omega), dig_char _ (Nat.mod_lt _ (by decide))]; omega
theorem dec_ne (m : Nat) : Lib.decDigits m ≠ [] := by
  by_cases h : m < 10
  · rw [dec_small h]; simp
  · rw [dec_big h]; simp
theorem dec_all (m : Nat) : (Lib.decDigits m).all isDig = true := by
  induction m using Nat.strongRecOn with
  | ind m ih =>
    by_cases h : m < 10
    · rw [dec_small h]; simp [isDig]; omega
    · have := Nat.mod_lt m (show 0 < 10 by decide)
      rw [dec_big h, List.all_append, ih _ (by omega)]; simp [isDig]; omega
theorem dec_first (m : Nat) (h : m ≠ 0) : (Lib.decDigits m)[0]?.getD 0 ≠ 48 := by
  induction m using Nat.strongRecOn with
  | ind m ih =>
    by_cases hs : m < 10
    · rw [dec_small hs]
      intro e
      have : (UInt8.ofNat (48 + m)).toNat = 48 := by rw [show UInt8.ofNat (48 + m) = 48 from e]; rfl
      rw [dig_char m hs] at this
      omega
    · rw [dec_big hs, List.getElem?_append_left (List.length_pos_iff.2 (dec_ne _))]
      exact ih _ (by omega) (by omega)
theorem dec_well (m : Nat) : wellDig (Lib.decDigits m) = true := by
  have hn : (Lib.decDigits m).isEmpty = false := by
    cases h : Lib.decDigits m with
    | nil => exact absurd h (dec_ne m)
    | cons => rfl
  rw [wellDig, allDig, dec_all, hn]
  by_cases h : m = 0
  · subst h; rw [dec_small (by decide)]; rfl
  · have := dec_first m h
    simp [this]
end Go.Proofs.YtojidhnkpeiimaaGreatDoor

/- The text of a fraction reads back as the fraction: plain facts. -/
namespace Go.Proofs.YtojidhnkpeiimaaGreatDoor
open Go.RowKit Go.Lib
theorem dec_not (m : Nat) (c : UInt8) (hc : c.toNat < 48) : ∀ x ∈ decDigits m, ¬ x = c := by
  intro x hx e
  have := List.all_eq_true.1 (dec_all m) x hx
  simp only [isDig, decide_eq_true_eq] at this
  rw [e] at this
  omega
theorem pres_dtx (m : Nat) (h : (decDigits m).length ≤ 400) : pres (dtx m) = (B m, 0) := by
  have h1 : (dtx m).data.toList = decDigits m := rfl
  have h2 : (dtx m).size = (decDigits m).length := by rw [← bytes_len, h1]
  rw [pres, h1, dec_well, if_pos rfl, if_neg (by omega), dval_dec]
theorem psz_one (m : Nat) (h : (decDigits m).length ≤ 400) : psz (dtx m) = (0, val false (B m) (B 1)) := by
  have h1 : (dtx m).data.toList = decDigits m := rfl
  have e1 : ix (dtx m) 47 = -1 := by rw [ix, h1]; exact idx_none _ _ (dec_not m 47 (by decide))
  have e2 : ix (dtx m) 46 = -1 := by rw [ix, h1]; exact idx_none _ _ (dec_not m 46 (by decide))
  rw [psz, e1, e2, if_neg (by decide), if_neg (by decide), pone, pres_dtx m h]
  rfl
theorem psz_two (m d : Nat) (hd : d ≠ 0) (h : (decDigits m).length ≤ 400) (h' : (decDigits d).length ≤ 400) : psz (dtx m ++ (⟨#[47]⟩ ++ dtx d)) = (0, val false (B m) (B d)) := by
  have h1 : (dtx m ++ (⟨#[47]⟩ ++ dtx d)).data.toList = decDigits m ++ 47 :: decDigits d := by rw [cat_data, cat_data]; rfl
  have hs : (dtx m).size = (decDigits m).length := by rw [← bytes_len]; rfl
  have e1 : ix (dtx m ++ (⟨#[47]⟩ ++ dtx d)) 47 = (dtx m).size := by rw [ix, h1, idx_hit _ _ _ (dec_not m 47 (by decide)), hs]
  have x1 : (dtx m ++ (⟨#[47]⟩ ++ dtx d)).extract 0 (dtx m).size = dtx m := by
    apply ByteArray.ext
    apply Array.toList_inj.1
    rw [ByteArray.data_extract, Array.toList_extract, h1, hs]
    simp
    rfl
  have x2 : (dtx m ++ (⟨#[47]⟩ ++ dtx d)).extract ((dtx m).size + 1) (dtx m ++ (⟨#[47]⟩ ++ dtx d)).size = dtx d := by
    apply ByteArray.ext
    apply Array.toList_inj.1
    rw [ByteArray.data_extract, Array.toList_extract, ← bytes_len (_ ++ _), h1, hs]
    have hz : List.drop ((decDigits m).length + 1) (decDigits m) = [] := List.drop_eq_nil_of_le (by omega)
    simp only [List.extract, List.drop_append, hz, List.nil_append, List.length_append, List.length_cons]
    rw [show (decDigits m).length + 1 - (decDigits m).length = 1 by omega]
    show List.take _ (decDigits d) = decDigits d
    exact List.take_of_length_le (by omega)
  rw [psz, e1, if_pos (by omega), Int.toNat_natCast, x1, x2, pquo, pres_dtx m h, pres_dtx d h']
  simp only [N_B]
  rw [if_neg (by decide), if_neg (by decide), if_neg hd]
theorem psz_txt (q : Rat) (h : (decDigits q.num.natAbs).length ≤ 400) (h' : (decDigits q.den).length ≤ 400) : psz (dtx q.num.natAbs ++ (if q.den = 1 then ⟨#[]⟩ else ⟨#[47]⟩ ++ dtx q.den)) = (0, val false (nu q) (de q)) := by
  by_cases h1 : q.den = 1
  · rw [if_pos h1, app_nil, psz_one _ h]
    simp only [nu, de, h1]
  · rw [if_neg h1, psz_two _ _ q.den_nz h h']
    rfl
theorem first_dig (m : Nat) (t : ByteArray) : hasPrefix (dtx m ++ t).data.toList [45] = false := by
  rw [cat_data]
  show hasPrefix (decDigits m ++ _) _ = false
  cases hl : decDigits m with
  | nil => exact absurd hl (dec_ne m)
  | cons x r =>
    have := dec_not m 45 (by decide) x (by rw [hl]; simp)
    simp [hasPrefix, List.isPrefixOf]
    exact fun e => this e.symm
theorem tail_of (t : ByteArray) : (⟨#[45]⟩ ++ t : ByteArray).extract 1 (⟨#[45]⟩ ++ t : ByteArray).size = t := by
  apply ByteArray.ext
  apply Array.toList_inj.1
  rw [ByteArray.data_extract, Array.toList_extract, ← bytes_len (_ ++ _), cat_data]
  simp [List.extract]
  exact List.take_of_length_le (by rw [bytes_len]; exact Nat.le_refl _)
theorem fpar_back (q : Rat) (h : (decDigits q.num.natAbs).length ≤ 400) (h' : (decDigits q.den).length ≤ 400) : fpar (ftxt q) = (0, q) := by
  have hp := psz_txt q h h'
  have hv := val_own q
  cases hs : sgn q with
  | false =>
    rw [ftxt, hs, if_neg (by decide), fpar, if_neg (by rw [first_dig]; decide), hp]
    rw [hs] at hv
    rw [hv]
  | true =>
    rw [ftxt, hs, if_pos rfl, ByteArray.append_assoc, fpar, if_pos (by rw [cat_data]; rfl), tail_of, hp]
    rw [hs, show true = !false from rfl, val_not] at hv
    rw [hv]
theorem dec_160 (n k : Nat) (h : n < 256 ^ k) (hk : k ≤ 160) : (decDigits n).length ≤ 400 := by
  refine dec_len 399 n (Nat.lt_of_lt_of_le h (Nat.le_trans (Nat.pow_le_pow_right (by decide) hk) ?_))
  decide +kernel
end Go.Proofs.YtojidhnkpeiimaaGreatDoor
