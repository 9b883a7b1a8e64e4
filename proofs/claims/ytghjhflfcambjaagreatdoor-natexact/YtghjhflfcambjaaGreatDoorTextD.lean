/- nat.Text: the decimal numeral of the number that the string stands for. -/
import Derived.Test.YtghjhflfcambjaaGreatDoorTextC
import Derived.Test.YtghjhflfcambjaaGreatDoorNumC
import Derived.WalkSmall
namespace Go.Proofs.YtghjhflfcambjaaGreatDoor
open Go.RowKit Go.Lib



theorem builder_below {T e : TypeId} {Bb b : Nat} {bs : List Value} {w w' : World} (h : IsBuilder T e Bb b bs w) (hb : Below w.heap.size w w') : IsBuilder T e Bb b bs w' := by
  have one : ∀ p, BuilderAt T e Bb b p bs w → BuilderAt T e Bb b p bs w' := by
    rintro p h
    obtain ⟨hB, v, hbk, hown, hne⟩ := id h
    exact ⟨hB, v, (hb.block b h.lt).trans hbk, own_below hown hb (Nat.le_refl _), hne⟩
  rcases h with h | h
  · exact .inl (one _ h)
  · exact .inr (one _ h)

theorem tab_below {w w' : World} (h : TabIs Tryz.prog w "internal/strconv.uint64pow10" .u64 pow10Tab) (hb : Below w.heap.size w w') : TabIs Tryz.prog w' "internal/strconv.uint64pow10" .u64 pow10Tab := by
  cases hg : Tryz.prog.globalNamed "internal/strconv.uint64pow10" with
  | none => simp [TabIs, World.var?, hg] at h
  | some g =>
    by_cases hlt : g < w.heap.size
    · exact var?_below hb hg hlt h
    · simp [TabIs, World.var?, hg, Array.getElem?_eq_none (show w.heap.size ≤ g by omega)] at h

theorem write_txt (Bb b : Nat) (l : List UInt8) (s : ByteArray) (w : World) (h : IsBuilder 64 5 Bb b (byteCells l) w) (hlen : l.length + s.size ≤ 140737488355328) (hBw : Bb ≤ w.heap.size) :
    Calls Tryz.prog 47 #[.pointer (some ⟨b, 0, none⟩), .string s] w fun e w' => e = .returned (.tuple #[.int .i64 s.size, .nilIface]) ∧ IsBuilder 64 5 Bb b (byteCells (l ++ s.data.toList)) w' ∧ Below Bb w w' := by
  refine (WriteString_any Bb b (byteCells l) s w h (by simpa [byteCells] using hlen) hBw).mono ?_
  rintro e w' ⟨rfl, h1, h2⟩
  refine ⟨rfl, .inr ?_, h2⟩
  have e1 : byteCells (l ++ s.data.toList) = byteCells l ++ strCells s := by simp [byteCells, strCells]
  rw [e1]; exact h1
theorem size_list (s : ByteArray) : s.data.toList.length = s.size := by rw [Array.length_toList]; rfl
theorem size_mk (l : List UInt8) : (⟨l.toArray⟩ : ByteArray).size = l.length := by rw [← size_list]
theorem repeat_48 (c : Nat) : repeatL [48] c = List.replicate c 48 := by
  induction c with
  | zero => rfl
  | succ c ih => rw [repeatL, ih, List.replicate_succ]; rfl

theorem dec_size (u : Nat) (h : u < 1000000000) : (decDigits u).length ≤ 9 := by
  have h1 := digs_pad 8 u (by simpa using h)
  have h2 : (digs 9 u).length = 9 := rfl
  rw [h1, List.length_append] at h2
  omega

set_option maxRecDepth 100000 in
set_option maxHeartbeats 2000000 in
theorem Text_any (s : ByteArray) (w : World) (hs : s.size ≤ 1099511627776) (htab : TabIs Tryz.prog w "internal/strconv.uint64pow10" .u64 pow10Tab) :
    Calls Tryz.prog 19 #[.string s] w fun e w' => e = .returned (.string ⟨(decDigits (N s)).toArray⟩) ∧ Below w.heap.size w w' := by
  have hwl : (words (N s)).length ≤ 1099511627776 := by
    rw [words_length, ← B_size]
    have := B_size_le s
    omega
  have hgl := grp_words (N s)
  have hsp := spread_any s w (by omega)
  generalize hm : N s = m at *
  have HM : Hid (N s = m) := hm
  have HS := hide hsp
  have HT := hide htab
  clear hm hsp htab
  go_enter Tryz.func19, Tryz.ntmps19
  go_wp2_with fail
  refine HS.out.mono ?_
  rintro e w1 ⟨v, rfl, hv, hb1⟩
  go_wp2_with fail
  refine (groupsOf_any w.heap.size v m w1 (by omega) hv hb1.size (fun k hk => (World.ownsRow.lt hv k hk).2)).mono ?_
  rintro e w2 ⟨v2, rfl, hv2, hb2⟩
  have hb02 : Below w.heap.size w w2 := hb1.trans hb2
  by_cases h0 : m = 0
  · subst h0
    rw [grp_zero] at hv2
    have hd : decDigits 0 = [48] := dec_small (by omega)
    rcases hv2.cases with ⟨rfl, _⟩ | ⟨g, cap, rfl, _, _, _⟩
    all_goals
      go_wp2
      go_ret
      exact ⟨by rw [hd]; rfl, hb02⟩
  · have hne : grp m ≠ [] := fun e => h0 ((grp_nil_iff m).1 e)
    have hpos : 0 < (grp m).length := List.length_pos_iff.2 hne
    have hpb : (((grp m).length : Int) == 0) = false := by simp; omega
    rcases hv2.cases with ⟨_, hnil⟩ | ⟨g, cap, rfl, hcap, hbg, hlg⟩
    · exact absurd hnil hne
    · go_wp2
      have hf0 := fresh_isBuilder 64 5 w2
      have hB2 : Below w2.heap.size w2 (w2.alloc (.cells #[.pointer none, .slice none 0 0] 64)) := (Below.refl _ _).alloc (Nat.le_refl _) _
      go_loopw [15] (fun i wr => ∃ k : Nat, k ≤ (grp m).length ∧ i = .int .i64 k ∧ IsBuilder 64 5 w2.heap.size w2.heap.size (byteCells (txt m k)) wr ∧ Below w2.heap.size w2 wr)
        (fun i _ => (grp m).length - (RowKit.intOf i).toNat)
      case atStart => exact ⟨0, Nat.zero_le _, rfl, hf0, hB2⟩
      case round =>
        obtain ⟨k, hk, rfl, hbr, hBr⟩ := hrel
        clear hf0 hB2
        have htl := txt_len m k hk
        by_cases hlt : k < (grp m).length
        · have hgk : (grp m).length - 1 - k < (grp m).length := by omega
          have hcell := (hBr.cell (p := ⟨g, 0 + ((grp m).length - 1 - k), none⟩) hlg.lt).trans (hlg.cell _ hgk)
          rw [Nat.zero_add] at hcell
          have hidx : (((grp m).length : Int) - 1 - (k : Int)).toNat = (grp m).length - 1 - k := by omega
          have HX := hide (txt_succ m k hlt)
          have hxb : (grp m)[(grp m).length - 1 - k]?.getD 0 < 1000000000 := by
            rw [grp_get _ m hgk]; exact Nat.mod_lt _ G_pos
          generalize (grp m)[(grp m).length - 1 - k]?.getD 0 = x at *
          have htr : TabIs Tryz.prog wr "internal/strconv.uint64pow10" .u64 pow10Tab := tab_below HT.out (hb02.trans (hBr.mono hb02.size))
          have hfu := FormatUint_any x wr (by omega) htr
          have hds : (⟨(decDigits x).toArray⟩ : ByteArray).size ≤ 9 := dec_size x hxb
          have HD : Hid ((⟨(decDigits x).toArray⟩ : ByteArray).data.toList = decDigits x) := rfl
          generalize (⟨(decDigits x).toArray⟩ : ByteArray) = D at *
          have HF := hide hfu
          clear hfu htr
          go_wp2_with fail
          refine HF.out.mono ?_
          rintro e w3 ⟨rfl, hb3⟩
          have hbr3 := builder_below hbr hb3
          have hB3 : Below w2.heap.size w2 w3 := hBr.trans (hb3.mono hBr.size)
          clear hbr hb3 hcell HF
          by_cases h0k : 0 < k
          · go_wp2_with fail
            rw [show (9 : Int) - (D.size : Int) = ((9 - D.size : Nat) : Int) by omega]
            refine (Tryz.strings_Repeat ⟨#[48]⟩ (9 - D.size) _ (by omega) (by show 1 * _ ≤ _; omega)).mono ?_
            rintro e w4 ⟨rfl, hb4⟩
            have hbr4 := builder_below hbr3 hb4
            have hB4 : Below w2.heap.size w2 w4 := hB3.trans (hb4.mono hB3.size)
            have hz4 : (⟨(repeatL [48] (9 - D.size)).toArray⟩ : ByteArray).size ≤ 9 := by rw [size_mk, repeat_48, List.length_replicate]; omega
            have HZ : Hid ((⟨(repeatL [48] (9 - D.size)).toArray⟩ : ByteArray).data.toList = List.replicate (9 - D.size) 48) := by rw [repeat_48]; rfl
            generalize (⟨(repeatL [48] (9 - D.size)).toArray⟩ : ByteArray) = Z at *
            go_wp2_with fail
            refine (write_txt w2.heap.size w2.heap.size (txt m k) Z _ hbr4 (by omega) hB4.size).mono ?_
            rintro e w5 ⟨rfl, hbr5, hb5⟩
            have hB5 : Below w2.heap.size w2 w5 := hB4.trans hb5
            have HZ2 : Hid ((txt m k ++ Z.data.toList).length ≤ 9 * k + 9) := by show _ ≤ _; rw [List.length_append, size_list]; omega
            clear hbr4 hbr3
            go_wp2_with fail
            refine (write_txt w2.heap.size w2.heap.size _ D _ hbr5 (by have := HZ2.out; omega) hB5.size).mono ?_
            rintro e w6 ⟨rfl, hbr6, hb6⟩
            have hB6 : Below w2.heap.size w2 w6 := hB5.trans hb6
            have HE : Hid (txt m k ++ Z.data.toList ++ D.data.toList = txt m (k + 1)) := by
              show _ = _
              have hdl : D.size = (decDigits x).length := by rw [← HD.out, size_list]
              rw [HX.out, if_neg (by omega), HZ.out, HD.out, hdl, List.append_assoc]
            clear hbr5
            go_wp2
            go_roundw
            case rel => exact ⟨k + 1, by omega, by go_num, by rw [HE.out] at hbr6; exact hbr6, hB6⟩
            case measure => simp [RowKit.intOf]; omega
          · go_wp2_with fail
            refine (write_txt w2.heap.size w2.heap.size (txt m k) D _ hbr3 (by omega) hB3.size).mono ?_
            rintro e w6 ⟨rfl, hbr6, hb6⟩
            have hB6 : Below w2.heap.size w2 w6 := hB3.trans hb6
            have HE : Hid (txt m k ++ D.data.toList = txt m (k + 1)) := by
              show _ = _
              rw [HX.out, if_pos (by omega), HD.out]
            clear hbr3
            go_wp2
            go_roundw
            case rel => exact ⟨k + 1, by omega, by go_num, by rw [HE.out] at hbr6; exact hbr6, hB6⟩
            case measure => simp [RowKit.intOf]; omega
        · obtain rfl : k = (grp m).length := by omega
          have HA := hide (txt_all m h0)
          go_wp2_with fail
          refine (Tryz.Builder_String_any w2.heap.size w2.heap.size (txt m (grp m).length) _ hbr hBr.size).mono ?_
          rintro e w3 ⟨rfl, hb3⟩
          go_wp2
          go_ret
          exact ⟨by rw [HA.out]; rfl, hb02.trans ((hBr.trans hb3).mono hb02.size)⟩
end Go.Proofs.YtghjhflfcambjaaGreatDoor
