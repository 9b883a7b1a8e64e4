/- takeMost of package nat: as often as it goes: the quotient; what is left stands in its place. -/
import Derived.Test.YtghjhflfcambjaaGreatDoorShiftB
namespace Go.Proofs.YtghjhflfcambjaaGreatDoor
open Go.RowKit

/-- The guess is never too small. -/
theorem guess_ge (xs ys : List Nat) (hl : xs.length = ys.length + 1) (hx : Small xs) (hpos : 0 < ys.length) (hlast : ys[ys.length - 1]?.getD 0 ≠ 0) (hlt : nw xs < W * nw ys) :
    nw xs / nw ys ≤ min ((xs[ys.length]?.getD 0 * W + xs[ys.length - 1]?.getD 0) / ys[ys.length - 1]?.getD 0) (W - 1) := by
  obtain ⟨d, hd⟩ : ∃ d, ys.length = d + 1 := ⟨ys.length - 1, by omega⟩
  rw [hd, Nat.add_sub_cancel] at hlast ⊢
  have hny : 0 < nw ys := by
    have := nw_cut_le ys d (by omega)
    have h2 : ys.drop d = [ys[d]?.getD 0] := by
      rw [List.drop_eq_getElem_cons (by omega), List.drop_of_length_le (by omega), List.getElem?_eq_getElem (by omega)]; rfl
    rw [h2, nw_cons, nw_nil, Nat.mul_zero, Nat.add_zero] at this
    have : 0 < W ^ d * ys[d]?.getD 0 := Nat.mul_pos (Nat.pow_pos W_pos) (Nat.pos_of_ne_zero hlast)
    omega
  have hq : nw xs / nw ys < W := Nat.div_lt_of_lt_mul (by rw [Nat.mul_comm]; exact hlt)
  have hle := Nat.div_mul_le_self (nw xs) (nw ys)
  generalize nw xs / nw ys = q at *
  refine Nat.le_min.2 ⟨?_, by omega⟩
  rw [Nat.le_div_iff_mul_le (Nat.pos_of_ne_zero hlast)]
  have ey := nw_cut_le ys d (by omega)
  have hy2 : ys.drop d = [ys[d]?.getD 0] := by
    rw [List.drop_eq_getElem_cons (by omega), List.drop_of_length_le (by omega), List.getElem?_eq_getElem (by omega)]; rfl
  rw [hy2, nw_cons, nw_nil, Nat.mul_zero, Nat.add_zero] at ey
  have ex := nw_cut_le xs d (by omega)
  have hx2 : xs.drop d = [xs[d]?.getD 0, xs[d + 1]?.getD 0] := by
    rw [List.drop_eq_getElem_cons (by omega), List.drop_eq_getElem_cons (by omega), List.drop_of_length_le (by omega), List.getElem?_eq_getElem (by omega), List.getElem?_eq_getElem (by omega)]; rfl
  have hxlt := nw_lt (xs.take d) (small_take hx d)
  rw [List.length_take, Nat.min_eq_left (by omega)] at hxlt
  rw [hx2, nw_cons, nw_cons, nw_nil, Nat.mul_zero, Nat.add_zero] at ex
  generalize ys[d]?.getD 0 = y at *
  generalize xs[d]?.getD 0 = x0 at *
  generalize xs[d + 1]?.getD 0 = x1 at *
  have h1 : q * (W ^ d * y) ≤ q * nw ys := Nat.mul_le_mul_left _ (by omega)
  have h2 : W ^ d * (q * y) < W ^ d * (x1 * W + x0 + 1) := by
    rw [Nat.mul_left_comm] at h1
    rw [Nat.mul_add, Nat.mul_one, Nat.add_comm (x1 * W) x0, Nat.mul_comm x1 W]
    omega
  have := Nat.lt_of_mul_lt_mul_left h2
  omega

set_option maxRecDepth 100000 in
set_option maxHeartbeats 4000000 in
theorem takeMost_any (g off cap b capy : Nat) (xs ys : List Nat) (w : World) (hl : xs.length = ys.length + 1) (hsx : Small xs) (hsy : Small ys) (hlen : xs.length ≤ 35184372088832) (hpos : 0 < ys.length) (hlast : ys[ys.length - 1]?.getD 0 ≠ 0) (hlt : nw xs < W * nw ys) (hx : Lies w g off xs) (hy : Lies w b 0 ys) (hgb : b ≠ g) :
    Calls Tryz.prog 69 #[.slice (some ⟨g, off, none⟩) xs.length cap, .slice (some ⟨b, 0, none⟩) ys.length capy] w fun e w' => ∃ l', e = .returned (.int .u32 (nw xs / nw ys : Nat)) ∧ l'.length = xs.length ∧ Small l' ∧ nw l' = nw xs % nw ys ∧ Lies w' g off l' ∧ Upd g off xs.length w w' := by
  have hgg := guess_ge xs ys hl hsx hpos hlast hlt
  have hc1 := hx.cell ys.length (by omega)
  have hc2 := hx.cell (ys.length - 1) (by omega)
  have hc3 := hy.cell (ys.length - 1) (by omega)
  rw [Nat.zero_add] at hc3
  have hb1 := getD_lt hsx ys.length
  have hb2 := getD_lt hsx (ys.length - 1)
  have hb3 := getD_lt hsy (ys.length - 1)
  have HGG := hide hgg
  have HL := hide hl
  have HLT := hide hlt
  rw [W_eq] at hb1 hb2 hb3
  have hxl : ys.length < xs.length := by omega
  have hor := or_u64 (xs[ys.length]?.getD 0) (xs[ys.length - 1]?.getD 0) hb1 hb2
  rw [W_eq] at HGG
  generalize xs[ys.length]?.getD 0 = x1 at *
  generalize xs[ys.length - 1]?.getD 0 = x0 at *
  generalize ys[ys.length - 1]?.getD 0 = y1 at *
  obtain ⟨t, ht⟩ : ∃ t, t = x1 * 4294967296 + x0 := ⟨_, rfl⟩
  rw [← ht] at hor HGG
  have htb : t < 18446744073709551616 := by omega
  have hi1 : (ys.length : Int) - 1 < (xs.length : Int) := by omega
  have hi2 : (ys.length : Int) < (xs.length : Int) := by omega
  have hi3 : 0 ≤ (ys.length : Int) - 1 := by omega
  have hi4 : ((ys.length : Int) - 1).toNat = ys.length - 1 := by omega
  have hi5 : IntKind.i64.wrap ((ys.length : Int) - 1 + 1) = (ys.length : Int) := by rw [IntKind.wrap_i64]; omega
  clear ht hl hlt hgg
  go_enter Tryz.func69, Tryz.ntmps69
  go_wp2_with fail
  go_quiet (fail)
  go_wp2_with fail
  obtain ⟨gs, hgs⟩ : ∃ gs, gs = min (t / y1) 4294967295 := ⟨_, rfl⟩
  have hty : t / y1 ≤ t := Nat.div_le_self _ _
  have hgv : min (IntKind.u64.wrap ((t : Int) / (y1 : Int))) 4294967295 % 4294967296 = (gs : Int) := by
    rw [IntKind.wrap_u64, ← Int.natCast_ediv, hgs]
    generalize t / y1 = z at *
    omega
  rw [hgv]
  have hgs32 : gs < 4294967296 := by omega
  have HQ : Hid (nw xs / nw ys ≤ gs) := by show _ ≤ _; rw [hgs]; exact HGG.out
  clear hgv hgs HGG hor hc1 hc2 hc3
  refine (takeTimes_any g off cap b 0 capy xs ys gs _ hsx hsy hgs32 hlen (by omega) (hx.drewN nq) (hy.drewN nq) hgb).mono ?_
  rintro e w2 ⟨s, l, rfl, hll, hsm, hn, hlies, hu⟩
  have hu0 : Upd g off xs.length w w2 := ((Upd.refl g off xs.length w).drewN nq).trans hu
  have hltl := nw_lt l hsm
  rw [hll] at hltl
  have hfits : gs * nw ys < W ^ xs.length := by
    have h1 := nw_lt ys hsy
    have h2 : gs * nw ys ≤ (W - 1) * nw ys := Nat.mul_le_mul_right _ (by rw [W_eq]; omega)
    have h3 : W * nw ys ≤ W * W ^ ys.length := Nat.mul_le_mul_left _ (Nat.le_of_lt h1)
    have h4 : (W - 1) * nw ys ≤ W * nw ys := Nat.mul_le_mul_right _ (by omega)
    have h5 : W ^ xs.length = W * W ^ ys.length := by rw [HL.out, Nat.pow_succ, Nat.mul_comm]
    have h6 : 0 < W ^ ys.length := Nat.pow_pos W_pos
    have h7 : (W - 1) * nw ys ≤ (W - 1) * W ^ ys.length := Nat.mul_le_mul_left _ (Nat.le_of_lt h1)
    have h8 : (W - 1) * W ^ ys.length + W ^ ys.length = W * W ^ ys.length := by
      have : (W - 1 + 1) * W ^ ys.length = W * W ^ ys.length := by rw [Nat.sub_add_cancel W_pos]
      rwa [Nat.add_mul, Nat.one_mul] at this
    omega
  have hs1 : s = 0 ∨ s = 1 := by
    rcases Nat.lt_or_ge s 2 with h | h
    · omega
    · have : W ^ xs.length * 2 ≤ W ^ xs.length * s := Nat.mul_le_mul_left _ h
      omega
  have hstart : Hid ((decide (s ≠ 0) = false ∧ nw l + gs * nw ys = nw xs) ∨ (decide (s ≠ 0) = true ∧ nw l + gs * nw ys = nw xs + W ^ xs.length ∧ nw xs < gs * nw ys)) := by
    rcases hs1 with rfl | rfl
    · exact .inl ⟨rfl, by rw [hn]; omega⟩
    · refine .inr ⟨rfl, by rw [hn]; omega, ?_⟩
      omega
  generalize decide (s ≠ 0) = be at *
  clear hn hltl hfits hs1 hu
  go_wp2
  go_loopg [7, 8] gs (fun r gu be wr => ∃ (l : List Nat) (bb : Bool), gu = .int .u32 (r : Nat) ∧ be = .bool bb ∧ l.length = xs.length ∧ Small l ∧ Lies wr g off l ∧ Upd g off xs.length w wr ∧ Hid (nw xs / nw ys ≤ r) ∧ r < 4294967296 ∧ Hid ((bb = false ∧ nw l + r * nw ys = nw xs) ∨ (bb = true ∧ nw l + r * nw ys = nw xs + W ^ xs.length ∧ nw xs < r * nw ys)))
  case atStart => exact ⟨l, be, rfl, rfl, hll, hsm, hlies, hu0, HQ, hgs32, hstart⟩
  case round =>
    obtain ⟨l2, bb, rfl, rfl, hll2, hsm2, hlr, hur, hq2, hr32, hcase⟩ := hrel
    clear hstart hlies hu0 HQ
    have HLL := hide hll2
    clear hll2
    cases bb with
    | false =>
      have hc : nw l2 + gk * nw ys = nw xs := by
        rcases hcase.out with ⟨_, h⟩ | ⟨h, _⟩
        · exact h
        · cases h
      have hyp : 0 < nw ys := by
        rcases Nat.eq_zero_or_pos (nw ys) with e | e
        · have := HLT.out; rw [e, Nat.mul_zero] at this; omega
        · exact e
      have hgq : gk = nw xs / nw ys := by
        have h1 : gk ≤ nw xs / nw ys := (Nat.le_div_iff_mul_le hyp).2 (by omega)
        have := hq2.out
        omega
      have HR : Hid (nw l2 = nw xs % nw ys) := by
        show _ = _
        have h1 := Nat.div_add_mod' (nw xs) (nw ys)
        rw [← hgq] at h1
        omega
      have HG := hide hgq
      clear hc hgq hcase
      go_wp2
      go_ret
      exact ⟨l2, by rw [← HG.out]; rfl, HLL.out, hsm2, HR.out, hlr, hur⟩
    | true =>
      obtain ⟨hc1, hc2⟩ : nw l2 + gk * nw ys = nw xs + W ^ xs.length ∧ nw xs < gk * nw ys := by
        rcases hcase.out with ⟨h, _⟩ | ⟨_, h⟩
        · cases h
        · exact h
      have hr1 : 1 ≤ gk := by
        rcases Nat.eq_zero_or_pos gk with e | e
        · rw [e, Nat.zero_mul] at hc2; omega
        · exact e
      have HC1 := hide hc1
      have HC2 := hide hc2
      have hyr := (hy.apart hur hgb)
      clear hc1 hc2 hcase
      go_wp2_with fail
      have hpb := putBack_any g off cap b 0 capy l2 ys wr hsm2 hsy (by rw [HLL.out]; exact hlen) (by rw [HLL.out]; omega) hlr hyr hgb
      rw [HLL.out] at hpb
      refine hpb.mono ?_
      rintro e w3 ⟨c, l3, rfl, hll3, hsm3, hn3, hlies3, hu3⟩
      have hltl3 := nw_lt l3 hsm3
      rw [hll3] at hltl3
      have hmul : gk * nw ys = (gk - 1) * nw ys + nw ys := by
        have : (gk - 1 + 1) * nw ys = gk * nw ys := by rw [Nat.sub_add_cancel hr1]
        rw [← this, Nat.add_mul, Nat.one_mul]
      have HNX : Hid (((!c) = false ∧ nw l3 + (gk - 1) * nw ys = nw xs) ∨ ((!c) = true ∧ nw l3 + (gk - 1) * nw ys = nw xs + W ^ xs.length ∧ nw xs < (gk - 1) * nw ys)) := by
        have h1 := HC1.out
        cases c with
        | true => simp only [if_true] at hn3; exact .inl ⟨rfl, by omega⟩
        | false => simp only [Bool.false_eq_true, if_false, Nat.add_zero] at hn3; exact .inr ⟨rfl, by omega, by omega⟩
      have HQ3 : Hid (nw xs / nw ys ≤ gk - 1) := by
        show _ ≤ _
        have hyp : 0 < nw ys := by
          rcases Nat.eq_zero_or_pos (nw ys) with e | e
          · have := HLT.out; rw [e, Nat.mul_zero] at this; omega
          · exact e
        have := (Nat.div_lt_iff_lt_mul hyp).2 HC2.out
        omega
      have HL3 := hide hll3
      clear hn3 hltl3 hmul hpb hll3 hlr hyr HC1 HC2
      go_wp2
      go_roundg (gk - 1)
      case measure => omega
      case rel => exact ⟨l3, !c, int_eq (by omega), rfl, HL3.out, hsm3, hlies3, hur.trans hu3, HQ3, by omega, HNX⟩
end Go.Proofs.YtghjhflfcambjaaGreatDoor
