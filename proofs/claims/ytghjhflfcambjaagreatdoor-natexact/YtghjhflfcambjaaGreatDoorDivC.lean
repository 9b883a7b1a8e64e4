/- divide, Div and Gcd of package nat. -/
import Derived.Test.YtghjhflfcambjaaGreatDoorDivB
import Derived.Test.YtghjhflfcambjaaGreatDoorWordA
namespace Go.Proofs.YtghjhflfcambjaaGreatDoor
open Go.RowKit

theorem words_some {n : Nat} (h : n ≠ 0) : 0 < (words n).length := by
  rcases Nat.eq_zero_or_pos (words n).length with e | e
  · exact absurd ((words_nil_iff n).1 (List.eq_nil_of_length_eq_zero e)) h
  · exact e
theorem lt_of_words_lt {x y : Nat} (h : (words x).length < (words y).length) : x < y := by
  have hpos : 0 < (words y).length := by omega
  have hb := getD_lt (words_small y) ((words y).length - 1)
  have h1 := (by_length (words y) 0 (words_small y) hpos (words_last_get y hpos) (by rw [Nat.pow_zero, Nat.one_mul]; exact hb)).2.1
  rw [Nat.pow_zero, Nat.one_mul, Nat.one_mul, nw_words] at h1
  have h2 := nw_lt (words x) (words_small x)
  rw [nw_words] at h2
  have h3 : W ^ (words x).length ≤ W ^ ((words y).length - 1) := Nat.pow_le_pow_right W_pos (by omega)
  omega
theorem words_len_mono {x y : Nat} (h : x ≤ y) : (words x).length ≤ (words y).length := by
  rcases Nat.lt_or_ge (words y).length (words x).length with c | c
  · have := lt_of_words_lt c; omega
  · exact c
theorem lt_of_two {x : Nat} (h : (words x).length ≤ 2) : x < 18446744073709551616 := by
  have h2 := nw_lt (words x) (words_small x)
  rw [nw_words] at h2
  have h3 : W ^ (words x).length ≤ W ^ 2 := Nat.pow_le_pow_right W_pos h
  have h4 : W ^ 2 = 18446744073709551616 := by rw [W_eq]
  omega

theorem divide_any (gx capx gy capy x y : Nat) (w : World) (hy0 : y ≠ 0) (hlx : (words x).length ≤ 4398046511104) (hcx : (words x).length ≤ capx) (hx : Lies w gx 0 (words x)) (hy : Lies w gy 0 (words y)) :
    Calls Tryz.prog 43 #[.slice (some ⟨gx, 0, none⟩) (words x).length capx, .slice (some ⟨gy, 0, none⟩) (words y).length capy] w fun e w' =>
      ∃ vq gr cr, e = .returned (.tuple #[vq, .slice (some ⟨gr, 0, none⟩) (words (x % y)).length cr]) ∧ Has w' w.heap.size vq (words (x / y)) ∧ (words (x % y)).length ≤ cr ∧ Lies w' gr 0 (words (x % y)) ∧ Below w.heap.size w w' := by
  rcases Nat.lt_or_ge (words x).length (words y).length with c | c
  · have hlt := lt_of_words_lt c
    refine (divide_small _ _ capx _ _ capy w c).mono ?_
    rintro e w' ⟨rfl, rfl⟩
    refine ⟨_, gx, capx, by rw [Nat.mod_eq_of_lt hlt], ?_, by rw [Nat.mod_eq_of_lt hlt]; exact hcx, by rw [Nat.mod_eq_of_lt hlt]; exact hx, Below.refl _ _⟩
    rw [Nat.div_eq_of_lt hlt, words_zero]
    exact ⟨rfl, .inl ⟨rfl, rfl⟩⟩
  · have hp := words_some hy0
    have := divide_big gx capx gy capy (words x) (words y) w (words_small _) (words_small _) hlx hp (words_last_get y hp) c hx hy
    rw [nw_words, nw_words] at this
    refine this.mono ?_
    rintro e w' ⟨gq, cq, gr, cr, rfl, h1, h2, h3⟩
    obtain ⟨_, h4, _, h5⟩ := own_lies h2
    exact ⟨_, gr, cr, rfl, h1, h4, h5, h3⟩

set_option maxRecDepth 100000 in
set_option maxHeartbeats 1000000 in
theorem Div_no (a b : ByteArray) (w : World) (hb : b.size ≤ 1099511627776) (h0 : N b = 0) :
    Calls Tryz.prog 23 #[.string a, .string b] w fun e w' => e = .returned (.tuple #[.string ⟨#[]⟩, .string ⟨#[]⟩, .bool false]) ∧ Below w.heap.size w w' := by
  go_enter Tryz.func23, Tryz.ntmps23
  go_wp2_with fail
  refine (spread_some b _ (by omega)).mono ?_
  rintro e w1 ⟨g1, c1, rfl, h1, hb1⟩
  rw [h0, words_zero]
  go_wp2
  go_ret3
  exact ⟨rfl, hb1⟩

set_option maxRecDepth 100000 in
set_option maxHeartbeats 1000000 in
theorem Div_yes (a b : ByteArray) (w : World) (ha : a.size ≤ 1099511627776) (hb : b.size ≤ 1099511627776) (h0 : N b ≠ 0) :
    Calls Tryz.prog 23 #[.string a, .string b] w fun e w' => e = .returned (.tuple #[.string (B (N a / N b)), .string (B (N a % N b)), .bool true]) ∧ Below w.heap.size w w' := by
  have hla := words_len_le a 274877906944 (by omega)
  have hlb := words_len_le b 274877906944 (by omega)
  have hpos := words_some h0
  have hne : ¬ (((words (N b)).length : Int) = 0) := by omega
  have hlq : (words (N a / N b)).length ≤ 274877906944 := Nat.le_trans (words_len_mono (Nat.div_le_self _ _)) hla
  have hlr : (words (N a % N b)).length ≤ 274877906944 := Nat.le_trans (words_len_mono (Nat.mod_le _ _)) hla
  go_enter Tryz.func23, Tryz.ntmps23
  go_wp2_with fail
  refine (spread_some b _ (by omega)).mono ?_
  rintro e w1 ⟨g1, c1, rfl, h1, hb1⟩
  go_wp2_with fail
  refine (spread_some a _ (by omega)).mono ?_
  rintro e w2 ⟨g2, c2, rfl, h2, hb2⟩
  have hl1 := has_lies h1 hb2
  have hl2 := has_lies h2 (Below.refl _ _)
  have hB2 : Below w.heap.size w w2 := hb1.trans (hb2.mono hb1.size)
  go_wp2_with fail
  refine (divide_any g2 c2 g1 c1 (N a) (N b) _ h0 (by omega) (own_lies h2).2.1 hl2 hl1).mono ?_
  rintro e w3 ⟨vq, gr, cr, rfl, hq, hcr, hr, hb3⟩
  have hB3 : Below w.heap.size w w3 := hB2.trans (hb3.mono hB2.size)
  go_wp2_with fail
  refine (gather_own _ _ _ _ (words_small _) (by omega) hq).mono ?_
  rintro e w4 ⟨rfl, hb4⟩
  have hr4 := hr.below hb4 hr.lt
  have hB4 : Below w.heap.size w w4 := hB3.trans (hb4.mono hB3.size)
  rw [nw_words]
  go_wp2_with fail
  refine (gather_some gr cr _ _ (words_small _) hcr (by omega) hr4.lt (fun j hj => hr4.cell j hj)).mono ?_
  rintro e w5 ⟨rfl, hb5⟩
  rw [nw_words]
  go_wp2
  go_ret3
  exact ⟨rfl, hB4.trans (hb5.mono hB4.size)⟩

set_option maxRecDepth 100000 in
set_option maxHeartbeats 1000000 in
theorem Gcd_any (a b : ByteArray) (w : World) (ha : a.size ≤ 1099511627776) (hb : b.size ≤ 1099511627776) :
    Calls Tryz.prog 17 #[.string a, .string b] w fun e w' => e = .returned (.string (B (Nat.gcd (N a) (N b)))) ∧ Below w.heap.size w w' := by
  have hla := words_len_le a 274877906944 (by omega)
  have hlb := words_len_le b 274877906944 (by omega)
  go_enter Tryz.func17, Tryz.ntmps17
  go_wp2_with fail
  refine (spread_some a _ (by omega)).mono ?_
  rintro e w1 ⟨g1, c1, rfl, h1, hb1⟩
  go_wp2_with fail
  refine (spread_some b _ (by omega)).mono ?_
  rintro e w2 ⟨g2, c2, rfl, h2, hb2⟩
  have hl1 := has_lies h1 hb2
  have hl2 := has_lies h2 (Below.refl _ _)
  have hB2 : Below w.heap.size w w2 := hb1.trans (hb2.mono hb1.size)
  have hc1 := (own_lies h1).2.1
  have hc2 := (own_lies h2).2.1
  go_wp2_with fail
  go_loopg [5, 6] (N b) (fun r vx vy wr => ∃ (x gx cx gy cy : Nat), vx = .slice (some ⟨gx, 0, none⟩) (words x).length cx ∧ vy = .slice (some ⟨gy, 0, none⟩) (words r).length cy ∧ (words x).length ≤ cx ∧ (words r).length ≤ cy ∧ (words x).length ≤ 274877906944 ∧ (words r).length ≤ 274877906944 ∧ Hid (Lies wr gx 0 (words x)) ∧ Hid (Lies wr gy 0 (words r)) ∧ Hid (Nat.gcd x r = Nat.gcd (N a) (N b)) ∧ Hid (Below w.heap.size w wr))
  case atStart => exact ⟨_, _, _, _, _, rfl, rfl, hc1, hc2, hla, hlb, hl1, hl2, rfl, hB2⟩
  case round =>
    obtain ⟨x, gx, cx, gy, cy, rfl, rfl, hcx, hcy, hxl, hyl, hxw, hyw, hg, hB⟩ := hrel
    clear hl1 hl2 hB2 hc1 hc2 h1 h2 hb1 hb2
    by_cases hy0 : gk = 0
    · subst hy0
      rw [words_zero] at *
      go_wp2_with fail
      refine (gather_some gx cx _ _ (words_small _) hcx (by omega) hxw.out.lt (fun j hj => hxw.out.cell j hj)).mono ?_
      rintro e w5 ⟨rfl, hb5⟩
      rw [nw_words]
      go_wp2
      go_ret
      exact ⟨by rw [← hg.out, Nat.gcd_zero_right]; rfl, hB.out.trans (hb5.mono hB.out.size)⟩
    · have hpos := words_some hy0
      have hne : ¬ (((words gk).length : Int) = 0) := by omega
      by_cases hbig : 2 < (words x).length
      · go_wp2_with fail
        refine (divide_any gx cx gy cy x gk _ hy0 (by omega) hcx hxw.out hyw.out).mono ?_
        rintro e w5 ⟨vq, gr, cr, rfl, _, hcr, hr, hb5⟩
        have hlr : (words (x % gk)).length ≤ 274877906944 := Nat.le_trans (words_len_mono (Nat.mod_le _ _)) hxl
        have HR := hide hr
        have HY5 := hide (hyw.out.below hb5 hyw.out.lt)
        have HB5 := hide (hB.out.trans (hb5.mono hB.out.size))
        have HG5 : Hid (Nat.gcd gk (x % gk) = Nat.gcd (N a) (N b)) := by show _ = _; rw [← hg.out, Nat.gcd_comm x gk, Nat.gcd_rec gk x, Nat.gcd_comm]
        go_wp2
        go_roundg (x % gk)
        case measure => exact Nat.mod_lt _ (Nat.pos_of_ne_zero hy0)
        case rel => exact ⟨gk, gy, cy, gr, cr, rfl, rfl, hcy, hcr, hyl, hlr, HY5, HR, HG5, HB5⟩
      · by_cases hbig2 : 2 < (words gk).length
        · go_wp2_with fail
          refine (divide_any gx cx gy cy x gk _ hy0 (by omega) hcx hxw.out hyw.out).mono ?_
          rintro e w5 ⟨vq, gr, cr, rfl, _, hcr, hr, hb5⟩
          have hlr : (words (x % gk)).length ≤ 274877906944 := Nat.le_trans (words_len_mono (Nat.mod_le _ _)) hxl
          have HR := hide hr
          have HY5 := hide (hyw.out.below hb5 hyw.out.lt)
          have HB5 := hide (hB.out.trans (hb5.mono hB.out.size))
          have HG5 : Hid (Nat.gcd gk (x % gk) = Nat.gcd (N a) (N b)) := by show _ = _; rw [← hg.out, Nat.gcd_comm x gk, Nat.gcd_rec gk x, Nat.gcd_comm]
          go_wp2
          go_roundg (x % gk)
          case measure => exact Nat.mod_lt _ (Nat.pos_of_ne_zero hy0)
          case rel => exact ⟨gk, gy, cy, gr, cr, rfl, rfl, hcy, hcr, hyl, hlr, HY5, HR, HG5, HB5⟩
        · have hx64 := lt_of_two (Nat.le_of_not_lt hbig)
          have hy64 := lt_of_two (Nat.le_of_not_lt hbig2)
          go_wp2_with fail
          refine (wordOf_any gx cx _ _ (words_small _) (Nat.le_of_not_lt hbig) hxw.out).mono ?_
          rintro e w5 ⟨rfl, hw⟩
          subst hw
          rw [nw_words]
          go_wp2_with fail
          refine (wordOf_any gy cy _ _ (words_small _) (Nat.le_of_not_lt hbig2) hyw.out).mono ?_
          rintro e w6 ⟨rfl, hw⟩
          subst hw
          rw [nw_words]
          go_wp2_with fail
          refine (gcdOfWords_any x gk _ hx64 hy64).mono ?_
          rintro e w7 ⟨rfl, hb7⟩
          have hB7 := hB.out.trans (hb7.mono hB.out.size)
          rw [hg.out]
          have hg64 : Nat.gcd (N a) (N b) < 18446744073709551616 := by rw [← hg.out]; exact Nat.lt_of_le_of_lt (Nat.gcd_le_right _ (Nat.pos_of_ne_zero hy0)) hy64
          go_wp2_with fail
          refine (ofWord_any _ _ hg64).mono ?_
          rintro e w8 ⟨rfl, hb8⟩
          go_wp2
          go_ret
          exact ⟨rfl, hB7.trans (hb8.mono hB7.size)⟩
end Go.Proofs.YtghjhflfcambjaaGreatDoor
