/- takeMost of package nat: as often as it goes: the quotient; what is left stands in its place. -/
import Derived.Test.YtnnfmfdjgdgdhaaDoorSubAToShiftB
import Derived.Test.YtnnfmfdjgdgdhaaDoorMemToReckA
import Derived.Lib.BitFns
namespace Go.Proofs.YtnnfmfdjgdgdhaaDoor
open Go.RowKit

/-- The guess is never too small. -/
theorem guess_ge (xs ys : List Nat) (hl : xs.length = ys.length + 1) (hx : Small xs) (hpos : 0 < ys.length) (hlast : ys[ys.length - 1]?.getD 0 ≠ 0) (hlt : nw xs < W * nw ys) :
    nw xs / nw ys ≤ min ((xs[ys.length]?.getD 0 * W + xs[ys.length - 1]?.getD 0) / ys[ys.length - 1]?.getD 0) (W - 1) := by
  obtain ⟨d, hd⟩ : ∃ d, ys.length = d + 1 := ⟨ys.length - 1, by omega⟩
  rw [hd, Nat.add_sub_cancel] at hlast ⊢
  have hny : 0 < nw ys := by
    have := nw_cut_le ys d (by omega)
    have h2 : ys.drop d = [ys[d]?.getD 0] := by
      rw [List.drop_eq_getElem_cons (by omega), List.drop_of_length_le (by omega), List.getElem?_eq_getElem (by omega)]; rfl
    rw [h2, nw_cons, nw_nil, Nat.mul_zero, Nat.add_zero] at this
    have : 0 < W ^ d * ys[d]?.getD 0 := Nat.mul_pos (Nat.pow_pos W_pos) (Nat.pos_of_ne_zero hlast)
    omega
  have hq : nw xs / nw ys < W := Nat.div_lt_of_lt_mul (by rw [Nat.mul_comm]; exact hlt)
  have hle := Nat.div_mul_le_self (nw xs) (nw ys)
  generalize nw xs / nw ys = q at *
  refine Nat.le_min.2 ⟨?_, by omega⟩
  rw [Nat.le_div_iff_mul_le (Nat.pos_of_ne_zero hlast)]
  have ey := nw_cut_le ys d (by omega)
  have hy2 : ys.drop d = [ys[d]?.getD 0] := by
    rw [List.drop_eq_getElem_cons (by omega), List.drop_of_length_le (by omega), List.getElem?_eq_getElem (by omega)]; rfl
  rw [hy2, nw_cons, nw_nil, Nat.mul_zero, Nat.add_zero] at ey
  have ex := nw_cut_le xs d (by omega)
  have hx2 : xs.drop d = [xs[d]?.getD 0, xs[d + 1]?.getD 0] := by
    rw [List.drop_eq_getElem_cons (by omega), List.drop_eq_getElem_cons (by omega), List.drop_of_length_le (by omega), List.getElem?_eq_getElem (by omega), List.getElem?_eq_getElem (by omega)]; rfl
  have hxlt := nw_lt (xs.take d) (small_take hx d)
  rw [List.length_take, Nat.min_eq_left (by omega)] at hxlt
  rw [hx2, nw_cons, nw_cons, nw_nil, Nat.mul_zero, Nat.add_zero] at ex
  generalize ys[d]?.getD 0 = y at *
  generalize xs[d]?.getD 0 = x0 at *
  generalize xs[d + 1]?.getD 0 = x1 at *
  have h1 : q * (W ^ d * y) ≤ q * nw ys := Nat.mul_le_mul_left _ (by omega)
  have h2 : W ^ d * (q * y) < W ^ d * (x1 * W + x0 + 1) := by
    rw [Nat.mul_left_comm] at h1
    rw [Nat.mul_add, Nat.mul_one, Nat.add_comm (x1 * W) x0, Nat.mul_comm x1 W]
    omega
  have := Nat.lt_of_mul_lt_mul_left h2
  omega

set_option maxRecDepth 100000 in
set_option maxHeartbeats 4000000 in
theorem takeMost_any (g off cap b capy : Nat) (xs ys : List Nat) (w : World) (hl : xs.length = ys.length + 1) (hsx : Small xs) (hsy : Small ys) (hlen : xs.length ≤ 35184372088832) (hpos : 0 < ys.length) (hlast : ys[ys.length - 1]?.getD 0 ≠ 0) (hlt : nw xs < W * nw ys) (hx : Lies w g off xs) (hy : Lies w b 0 ys) (hgb : b ≠ g) :
    Calls Tryd.prog 73 #[.slice (some ⟨g, off, none⟩) xs.length cap, .slice (some ⟨b, 0, none⟩) ys.length capy] w fun e w' => ∃ l', e = .returned (.int .u32 (nw xs / nw ys : Nat)) ∧ l'.length = xs.length ∧ Small l' ∧ nw l' = nw xs % nw ys ∧ Lies w' g off l' ∧ Upd g off xs.length w w' := by
  have hgg := guess_ge xs ys hl hsx hpos hlast hlt
  have hc1 := hx.cell ys.length (by omega)
  have hc2 := hx.cell (ys.length - 1) (by omega)
  have hc3 := hy.cell (ys.length - 1) (by omega)
  rw [Nat.zero_add] at hc3
  have hb1 := getD_lt hsx ys.length
  have hb2 := getD_lt hsx (ys.length - 1)
  have hb3 := getD_lt hsy (ys.length - 1)
  have HGG := hide hgg
  have HL := hide hl
  have HLT := hide hlt
  rw [W_eq] at hb1 hb2 hb3
  have hxl : ys.length < xs.length := by omega
  have hor := or_u64 (xs[ys.length]?.getD 0) (xs[ys.length - 1]?.getD 0) hb1 hb2
  rw [W_eq] at HGG
  generalize xs[ys.length]?.getD 0 = x1 at *
  generalize xs[ys.length - 1]?.getD 0 = x0 at *
  generalize ys[ys.length - 1]?.getD 0 = y1 at *
  obtain ⟨t, ht⟩ : ∃ t, t = x1 * 4294967296 + x0 := ⟨_, rfl⟩
  rw [← ht] at hor HGG
  have htb : t < 18446744073709551616 := by omega
  have hi1 : (ys.length : Int) - 1 < (xs.length : Int) := by omega
  have hi2 : (ys.length : Int) < (xs.length : Int) := by omega
  have hi3 : 0 ≤ (ys.length : Int) - 1 := by omega
  have hi4 : ((ys.length : Int) - 1).toNat = ys.length - 1 := by omega
  have hi5 : IntKind.i64.wrap ((ys.length : Int) - 1 + 1) = (ys.length : Int) := by rw [IntKind.wrap_i64]; omega
  clear ht hl hlt hgg
  go_enter Tryd.func73, Tryd.ntmps73
  go_wp2_with fail
  go_quiet (fail)
  go_wp2_with fail
  obtain ⟨gs, hgs⟩ : ∃ gs, gs = min (t / y1) 4294967295 := ⟨_, rfl⟩
  have hty : t / y1 ≤ t := Nat.div_le_self _ _
  have hgv : min (IntKind.u64.wrap ((t : Int) / (y1 : Int))) 4294967295 % 4294967296 = (gs : Int) := by
    rw [IntKind.wrap_u64, ← Int.natCast_ediv, hgs]
    generalize t / y1 = z at *
    omega
  rw [hgv]
  have hgs32 : gs < 4294967296 := by omega
  have HQ : Hid (nw xs / nw ys ≤ gs) := by show _ ≤ _; rw [hgs]; exact HGG.out
  clear hgv hgs HGG hor hc1 hc2 hc3
  refine (takeTimes_any g off cap b 0 capy xs ys gs _ hsx hsy hgs32 hlen (by omega) (hx.drewN nq) (hy.drewN nq) hgb).mono ?_
  rintro e w2 ⟨s, l, rfl, hll, hsm, hn, hlies, hu⟩
  have hu0 : Upd g off xs.length w w2 := ((Upd.refl g off xs.length w).drewN nq).trans hu
  have hltl := nw_lt l hsm
  rw [hll] at hltl
  have hfits : gs * nw ys < W ^ xs.length := by
    have h1 := nw_lt ys hsy
    have h2 : gs * nw ys ≤ (W - 1) * nw ys := Nat.mul_le_mul_right _ (by rw [W_eq]; omega)
    have h3 : W * nw ys ≤ W * W ^ ys.length := Nat.mul_le_mul_left _ (Nat.le_of_lt h1)
    have h4 : (W - 1) * nw ys ≤ W * nw ys := Nat.mul_le_mul_right _ (by omega)
    have h5 : W ^ xs.length = W * W ^ ys.length := by rw [HL.out, Nat.pow_succ, Nat.mul_comm]
    have h6 : 0 < W ^ ys.length := Nat.pow_pos W_pos
    have h7 : (W - 1) * nw ys ≤ (W - 1) * W ^ ys.length := Nat.mul_le_mul_left _ (Nat.le_of_lt h1)
    have h8 : (W - 1) * W ^ ys.length + W ^ ys.length = W * W ^ ys.length := by
      have : (W - 1 + 1) * W ^ ys.length = W * W ^ ys.length := by rw [Nat.sub_add_cancel W_pos]
      rwa [Nat.add_mul, Nat.one_mul] at this
    omega
  have hs1 : s = 0 ∨ s = 1 := by
    rcases Nat.lt_or_ge s 2 with h | h
    · omega
    · have : W ^ xs.length * 2 ≤ W ^ xs.length * s := Nat.mul_le_mul_left _ h
      omega
  have hstart : Hid ((decide (s ≠ 0) = false ∧ nw l + gs * nw ys = nw xs) ∨ (decide (s ≠ 0) = true ∧ nw l + gs * nw ys = nw xs + W ^ xs.length ∧ nw xs < gs * nw ys)) := by
    rcases hs1 with rfl | rfl
    · exact .inl ⟨rfl, by rw [hn]; omega⟩
    · refine .inr ⟨rfl, by rw [hn]; omega, ?_⟩
      omega
  generalize decide (s ≠ 0) = be at *
  clear hn hltl hfits hs1 hu
  go_wp2
  go_loopg [7, 8] gs (fun r gu be wr => ∃ (l : List Nat) (bb : Bool), gu = .int .u32 (r : Nat) ∧ be = .bool bb ∧ l.length = xs.length ∧ Small l ∧ Lies wr g off l ∧ Upd g off xs.length w wr ∧ Hid (nw xs / nw ys ≤ r) ∧ r < 4294967296 ∧ Hid ((bb = false ∧ nw l + r * nw ys = nw xs) ∨ (bb = true ∧ nw l + r * nw ys = nw xs + W ^ xs.length ∧ nw xs < r * nw ys)))
  case atStart => exact ⟨l, be, rfl, rfl, hll, hsm, hlies, hu0, HQ, hgs32, hstart⟩
  case round =>
    obtain ⟨l2, bb, rfl, rfl, hll2, hsm2, hlr, hur, hq2, hr32, hcase⟩ := hrel
    clear hstart hlies hu0 HQ
    have HLL := hide hll2
    clear hll2
    cases bb with
    | false =>
      have hc : nw l2 + gk * nw ys = nw xs := by
        rcases hcase.out with ⟨_, h⟩ | ⟨h, _⟩
        · exact h
        · cases h
      have hyp : 0 < nw ys := by
        rcases Nat.eq_zero_or_pos (nw ys) with e | e
        · have := HLT.out; rw [e, Nat.mul_zero] at this; omega
        · exact e
      have hgq : gk = nw xs / nw ys := by
        have h1 : gk ≤ nw xs / nw ys := (Nat.le_div_iff_mul_le hyp).2 (by omega)
        have := hq2.out
        omega
      have HR : Hid (nw l2 = nw xs % nw ys) := by
        show _ = _
        have h1 := Nat.div_add_mod' (nw xs) (nw ys)
        rw [← hgq] at h1
        omega
      have HG := hide hgq
      clear hc hgq hcase
      go_wp2
      go_ret
      exact ⟨l2, by rw [← HG.out]; rfl, HLL.out, hsm2, HR.out, hlr, hur⟩
    | true =>
      obtain ⟨hc1, hc2⟩ : nw l2 + gk * nw ys = nw xs + W ^ xs.length ∧ nw xs < gk * nw ys := by
        rcases hcase.out with ⟨h, _⟩ | ⟨_, h⟩
        · cases h
        · exact h
      have hr1 : 1 ≤ gk := by
        rcases Nat.eq_zero_or_pos gk with e | e
        · rw [e, Nat.zero_mul] at hc2; omega
        · exact e
      have HC1 := hide hc1
      have HC2 := hide hc2
      have hyr := (hy.apart hur hgb)
      clear hc1 hc2 hcase
      go_wp2_with fail
      have hpb := putBack_any g off cap b 0 capy l2 ys wr hsm2 hsy (by rw [HLL.out]; exact hlen) (by rw [HLL.out]; omega) hlr hyr hgb
      rw [HLL.out] at hpb
      refine hpb.mono ?_
      rintro e w3 ⟨c, l3, rfl, hll3, hsm3, hn3, hlies3, hu3⟩
      have hltl3 := nw_lt l3 hsm3
      rw [hll3] at hltl3
      have hmul : gk * nw ys = (gk - 1) * nw ys + nw ys := by
        have : (gk - 1 + 1) * nw ys = gk * nw ys := by rw [Nat.sub_add_cancel hr1]
        rw [← this, Nat.add_mul, Nat.one_mul]
      have HNX : Hid (((!c) = false ∧ nw l3 + (gk - 1) * nw ys = nw xs) ∨ ((!c) = true ∧ nw l3 + (gk - 1) * nw ys = nw xs + W ^ xs.length ∧ nw xs < (gk - 1) * nw ys)) := by
        have h1 := HC1.out
        cases c with
        | true => simp only [if_true] at hn3; exact .inl ⟨rfl, by omega⟩
        | false => simp only [Bool.false_eq_true, if_false, Nat.add_zero] at hn3; exact .inr ⟨rfl, by omega, by omega⟩
      have HQ3 : Hid (nw xs / nw ys ≤ gk - 1) := by
        show _ ≤ _
        have hyp : 0 < nw ys := by
          rcases Nat.eq_zero_or_pos (nw ys) with e | e
          · have := HLT.out; rw [e, Nat.mul_zero] at this; omega
          · exact e
        have := (Nat.div_lt_iff_lt_mul hyp).2 HC2.out
        omega
      have HL3 := hide hll3
      clear hn3 hltl3 hmul hpb hll3 hlr hyr HC1 HC2
      go_wp2
      go_roundg (gk - 1)
      case measure => omega
      case rel => exact ⟨l3, !c, int_eq (by omega), rfl, HL3.out, hsm3, hlies3, hur.trans hu3, HQ3, by omega, HNX⟩
end Go.Proofs.YtnnfmfdjgdgdhaaDoor


/- Plain facts on long division. -/
namespace Go.Proofs.YtnnfmfdjgdgdhaaDoor

theorem nw_set (l : List Nat) (i y : Nat) (hi : i < l.length) : nw (l.set i y) + W ^ i * l[i]?.getD 0 = nw l + W ^ i * y := by
  have e1 := nw_cut_le l i (by omega)
  have e2 := nw_cut_le (l.set i y) i (by rw [List.length_set]; omega)
  have e3 : (l.set i y).take i = l.take i := List.take_set_of_le (Nat.le_refl _)
  have e4 : (l.set i y).drop i = y :: l.drop (i + 1) := by
    rw [List.drop_set, if_neg (by omega), Nat.sub_self, List.drop_eq_getElem_cons hi, List.set_cons_zero]
  have e5 : l.drop i = l[i]?.getD 0 :: l.drop (i + 1) := by rw [List.drop_eq_getElem_cons hi, List.getElem?_eq_getElem hi]; rfl
  rw [e3, e4, nw_cons, Nat.mul_add] at e2
  rw [e5, nw_cons, Nat.mul_add] at e1
  omega

/-- What holds when the quotient's parts from j on are found. -/
structure DivInv (X Y L : Nat) (lf ql : List Nat) (j : Nat) : Prop where
  qlen : ql.length = L
  qs : Small ql
  ls : Small lf
  zero : ∀ t, t < j → ql[t]?.getD 0 = 0
  eq : nw ql * Y + nw lf = X
  lt : nw (lf.drop j) < Y

/-- What takeMost is handed: fewer than W times, and all that is left from there on. -/
theorem DivInv.seg {X Y L m i : Nat} {lf ql : List Nat} (h : DivInv X Y L lf ql (i + 1)) (hY : Y ≤ W ^ m) (hl : i + m + 1 ≤ lf.length) :
    nw ((lf.drop i).take (m + 1)) < W * Y ∧ nw (lf.drop i) = nw ((lf.drop i).take (m + 1)) ∧ nw (lf.drop (i + (m + 1))) = 0 := by
  have e5 : lf.drop i = lf[i]?.getD 0 :: lf.drop (i + 1) := by rw [List.drop_eq_getElem_cons (by omega), List.getElem?_eq_getElem (by omega)]; rfl
  have hd : nw (lf.drop i) < W * Y := by
    have h1 := h.lt
    have h2 := getD_lt h.ls i
    have h3 : W * (nw (lf.drop (i + 1)) + 1) ≤ W * Y := Nat.mul_le_mul_left _ h1
    rw [Nat.mul_add] at h3
    rw [e5, nw_cons]
    omega
  have hc := nw_cut_le (lf.drop i) (m + 1) (by rw [List.length_drop]; omega)
  rw [List.drop_drop] at hc
  have hz : nw (lf.drop (i + (m + 1))) = 0 := by
    rcases Nat.eq_zero_or_pos (nw (lf.drop (i + (m + 1)))) with e | e
    · exact e
    · have h4 : W ^ (m + 1) * 1 ≤ W ^ (m + 1) * nw (lf.drop (i + (m + 1))) := Nat.mul_le_mul_left _ e
      have h5 : W * Y ≤ W ^ (m + 1) := by rw [Nat.pow_succ, Nat.mul_comm]; exact Nat.mul_le_mul_right _ hY
      omega
  rw [hz, Nat.mul_zero, Nat.add_zero] at hc
  exact ⟨by omega, hc, hz⟩

theorem DivInv.step {X Y L m i : Nat} {lf ql seg : List Nat} (h : DivInv X Y L lf ql (i + 1)) (hY : Y ≤ W ^ m) (hl : i + m + 1 ≤ lf.length) (hi : i < L) (hY0 : 0 < Y)
    (hsl : seg.length = m + 1) (hss : Small seg) (hsn : nw seg = nw ((lf.drop i).take (m + 1)) % Y) :
    DivInv X Y L (lf.take i ++ seg ++ lf.drop (i + (m + 1))) (ql.set i (nw ((lf.drop i).take (m + 1)) / Y)) i := by
  obtain ⟨s1, s2, s3⟩ := h.seg hY hl
  have hti : (lf.take i).length = i := by rw [List.length_take]; omega
  generalize hS : nw ((lf.drop i).take (m + 1)) = S at *
  have hq : S / Y < W := Nat.div_lt_of_lt_mul (by rw [Nat.mul_comm]; exact s1)
  have hset := nw_set ql i (S / Y) (by rw [h.qlen]; exact hi)
  rw [h.zero i (by omega), Nat.mul_zero, Nat.add_zero] at hset
  have hdm := Nat.div_add_mod' S Y
  have hcut := nw_cut_le lf i (by omega)
  have hnl : nw (lf.take i ++ seg ++ lf.drop (i + (m + 1))) = nw (lf.take i) + W ^ i * (S % Y) := by
    rw [nw_append, s3, Nat.mul_zero, Nat.add_zero, nw_append, hti, hsn]
  refine ⟨by rw [List.length_set]; exact h.qlen, ?_, ?_, ?_, ?_, ?_⟩
  · intro x hx
    rcases List.mem_or_eq_of_mem_set hx with hx | rfl
    · exact h.qs x hx
    · exact hq
  · exact small_append (small_append (small_take h.ls i) hss) (small_drop h.ls _)
  · intro t ht
    rw [List.getElem?_set_ne (by omega)]
    exact h.zero t (by omega)
  · rw [hset, hnl, Nat.add_mul, ← h.eq, hcut, s2]
    have : W ^ i * S = W ^ i * (S / Y) * Y + W ^ i * (S % Y) := by rw [Nat.mul_assoc, ← Nat.mul_add, hdm]
    omega
  · rw [List.append_assoc, List.drop_append, hti, Nat.sub_self, List.drop_of_length_le (by omega), List.nil_append, List.drop_zero, nw_append, s3, Nat.mul_zero, Nat.add_zero, hsn]
    exact Nat.mod_lt _ hY0

theorem DivInv.start {X Y n m s : Nat} {lf xs : List Nat} (hm : 0 < m) (hmn : m ≤ n) (hs : Small lf) (hxn : xs.length = n) (hxs : Small xs) (hX : X = 2 ^ s * nw xs) (hlf : nw lf = X) (hll : lf.length = n + 1) (hY : 2 ^ s * W ^ (m - 1) ≤ Y) :
    DivInv X Y (n - m + 1) lf (List.replicate (n - m + 1) 0) (n - m + 1) := by
  refine ⟨by simp, small_zeros _, hs, fun t _ => by rw [List.getElem?_replicate]; split <;> rfl, by rw [nw_zeros, Nat.zero_mul, Nat.zero_add, hlf], ?_⟩
  have hc := nw_cut_le lf (n - m + 1) (by omega)
  have hlt : nw xs < W ^ n := by rw [← hxn]; exact nw_lt xs hxs
  have hp : 0 < 2 ^ s := Nat.pow_pos (by decide)
  have h1 : 2 ^ s * nw xs < 2 ^ s * W ^ n := Nat.mul_lt_mul_of_pos_left hlt hp
  have h2 : W ^ n = W ^ (n - m + 1) * W ^ (m - 1) := by rw [← Nat.pow_add]; congr 1; omega
  have h3 : W ^ (n - m + 1) * nw (lf.drop (n - m + 1)) < W ^ (n - m + 1) * (2 ^ s * W ^ (m - 1)) := by
    rw [Nat.mul_left_comm, ← h2]
    omega
  exact Nat.lt_of_lt_of_le (Nat.lt_of_mul_lt_mul_left h3) hY

theorem DivInv.stop {X Y L : Nat} {lf ql : List Nat} (h : DivInv X Y L lf ql 0) : nw ql = X / Y ∧ nw lf = X % Y := by
  have h1 := h.lt
  rw [List.drop_zero] at h1
  have h2 := h.eq
  have hY : 0 < Y := by omega
  constructor
  · rw [← h2, Nat.add_comm, Nat.add_mul_div_right _ _ hY, Nat.div_eq_of_lt h1, Nat.zero_add]
  · rw [← h2, Nat.add_comm, Nat.add_mul_mod_self_right, Nat.mod_eq_of_lt h1]

end Go.Proofs.YtnnfmfdjgdgdhaaDoor


/- divide of package nat: quotient and rest. -/
namespace Go.Proofs.YtnnfmfdjgdgdhaaDoor
open Go.RowKit

theorem bitLen_bounds (k : Nat) : ∀ x, x < 2 ^ k → k ≤ 32 → Lib.bitLen x ≤ k ∧ x < 2 ^ Lib.bitLen x := by
  induction k with
  | zero =>
    intro x h _
    have : x = 0 := by simpa using h
    subst this; exact ⟨Nat.le_refl _, by decide⟩
  | succ k ih =>
    intro x h hk
    by_cases h0 : x = 0
    · subst h0; exact ⟨Nat.zero_le _, by decide⟩
    · have hx64 : x < 2 ^ 64 := Nat.lt_of_lt_of_le h (Nat.pow_le_pow_right (by decide) (by omega))
      have e := Lib.bitLen_half x h0 hx64
      obtain ⟨i1, i2⟩ := ih (x / 2) (Nat.div_lt_of_lt_mul (by rw [Nat.pow_succ] at h; omega)) (by omega)
      rw [e]
      refine ⟨by omega, ?_⟩
      rw [Nat.add_comm, Nat.pow_succ]
      omega
theorem bitLen_pos (x : Nat) (h0 : x ≠ 0) (h : x < 4294967296) : 1 ≤ Lib.bitLen x := by
  have := Lib.bitLen_half x h0 (by omega)
  omega

/-- The shifted divisor has as many parts as the divisor. -/
theorem by_length (ys : List Nat) (s : Nat) (hs : Small ys) (hpos : 0 < ys.length) (hlast : ys[ys.length - 1]?.getD 0 ≠ 0) (hfit : 2 ^ s * (ys[ys.length - 1]?.getD 0 + 1) ≤ W) :
    (words (2 ^ s * nw ys)).length = ys.length ∧ 2 ^ s * W ^ (ys.length - 1) ≤ 2 ^ s * nw ys ∧ 2 ^ s * nw ys ≤ W ^ ys.length := by
  obtain ⟨d, hd⟩ : ∃ d, ys.length = d + 1 := ⟨ys.length - 1, by omega⟩
  rw [hd, Nat.add_sub_cancel] at hlast hfit ⊢
  have ey := nw_cut_le ys d (by omega)
  have hy2 : ys.drop d = [ys[d]?.getD 0] := by
    rw [List.drop_eq_getElem_cons (by omega), List.drop_of_length_le (by omega), List.getElem?_eq_getElem (by omega)]; rfl
  rw [hy2, nw_cons, nw_nil, Nat.mul_zero, Nat.add_zero] at ey
  have hlt := nw_lt (ys.take d) (small_take hs d)
  rw [List.length_take, Nat.min_eq_left (by omega)] at hlt
  generalize ys[d]?.getD 0 = y at *
  have hp : 0 < 2 ^ s := Nat.pow_pos (by decide)
  have h1 : W ^ d * 1 ≤ W ^ d * y := Nat.mul_le_mul_left _ (Nat.pos_of_ne_zero hlast)
  have hlow : W ^ d ≤ nw ys := by omega
  have hhigh : nw ys < W ^ d * (y + 1) := by rw [Nat.mul_add]; omega
  have h2 : 2 ^ s * nw ys < 2 ^ s * (W ^ d * (y + 1)) := Nat.mul_lt_mul_of_pos_left hhigh hp
  have h3 : 2 ^ s * (W ^ d * (y + 1)) ≤ W ^ d * W := by rw [Nat.mul_left_comm]; exact Nat.mul_le_mul_left _ hfit
  have h4 : 2 ^ s * nw ys < W ^ (d + 1) := by rw [Nat.pow_succ]; omega
  have h5 : W ^ d ≤ 2 ^ s * nw ys := Nat.le_trans hlow (Nat.le_mul_of_pos_left _ hp)
  refine ⟨?_, Nat.mul_le_mul_left _ hlow, by omega⟩
  have hw := nw_words (2 ^ s * nw ys)
  have hsm := words_small (2 ^ s * nw ys)
  have hub := nw_lt _ hsm
  rw [hw] at hub
  have hlb : (words (2 ^ s * nw ys)).length ≤ d + 1 := by
    obtain ⟨k, hk, e⟩ := words_prefix (words (2 ^ s * nw ys) ++ List.replicate 0 0) (by simpa using hsm)
    have hne : words (2 ^ s * nw ys) ≠ [] := fun e => by rw [words_nil_iff] at e; have : 0 < W ^ d := Nat.pow_pos W_pos; omega
    have hl := words_last _ hne
    rcases Nat.lt_or_ge (d + 1) (words (2 ^ s * nw ys)).length with c | c
    · exfalso
      generalize words (2 ^ s * nw ys) = l at *
      obtain ⟨z, hz⟩ : ∃ z, l.length = z + 1 := ⟨l.length - 1, by omega⟩
      have ec := nw_cut_le l z (by omega)
      rw [List.getLast_eq_getElem] at hl
      have hz2 : l.drop z = [l[z]'(by omega)] := by rw [List.drop_eq_getElem_cons (by omega), List.drop_of_length_le (by omega)]
      simp only [hz, Nat.add_sub_cancel] at hl
      rw [hz2, nw_cons, nw_nil, Nat.mul_zero, Nat.add_zero] at ec
      have h6 : W ^ z * 1 ≤ W ^ z * l[z]'(by omega) := Nat.mul_le_mul_left _ (Nat.pos_of_ne_zero hl)
      have h7 : W ^ (d + 1) ≤ W ^ z := Nat.pow_le_pow_right W_pos (by omega)
      omega
    · exact c
  rcases Nat.lt_or_ge (words (2 ^ s * nw ys)).length (d + 1) with c | c
  · have : W ^ (words (2 ^ s * nw ys)).length ≤ W ^ d := Nat.pow_le_pow_right W_pos (by omega)
    omega
  · omega

set_option maxHeartbeats 1000000 in
theorem divide_small (vx : Option Addr) (n capx : Nat) (vy : Option Addr) (m capy : Nat) (w : World) (h : n < m) :
    Calls Tryd.prog 57 #[.slice vx n capx, .slice vy m capy] w fun e w' => e = .returned (.tuple #[.slice none 0 0, .slice vx n capx]) ∧ w' = w := by
  go_enter Tryd.func57, Tryd.ntmps57
  go_wp2
  go_ret2
  exact ⟨rfl, rfl⟩
end Go.Proofs.YtnnfmfdjgdgdhaaDoor


/- divide of package nat, where the dividend has no fewer parts than the divisor. -/
namespace Go.Proofs.YtnnfmfdjgdgdhaaDoor
open Go.RowKit

theorem Has.slice {w : World} {base : Nat} {v : Value} {l : List Nat} (h : Has w base v l) (hl : 0 < l.length) : ∃ g cap, v = .slice (some ⟨g, 0, none⟩) l.length cap ∧ l.length ≤ cap ∧ base ≤ g ∧ Lies w g 0 l := by
  rcases h.cases with ⟨_, rfl⟩ | h
  · simp at hl
  · exact h
theorem words_last_get (n : Nat) (h : 0 < (words n).length) : (words n)[(words n).length - 1]?.getD 0 ≠ 0 := by
  have hne : words n ≠ [] := List.length_pos_iff.1 h
  have := words_last n hne
  rw [List.getLast_eq_getElem] at this
  rwa [List.getElem?_eq_getElem (by omega)]

/-- The block g, from cell 0 on, holds the parts l, and nobody else's. -/
def Owns (w : World) (base g n cap : Nat) (l : List Nat) : Prop := w.ownsRow base 78 1 (.slice (some ⟨g, 0, none⟩) n cap) n (l.map u32)
theorem Owns.lies {w : World} {base g n cap : Nat} {l : List Nat} (h : Owns w base g n cap l) : Lies w g 0 l := (own_lies h).2.2.2
theorem Owns.len {w : World} {base g n cap : Nat} {l : List Nat} (h : Owns w base g n cap l) : n = l.length := (own_lies h).1
theorem Owns.upd {w w' : World} {base g n cap off m : Nat} {l l' : List Nat} (h : Owns w base g n cap l) (hu : Upd g off m w w') (hl : Lies w' g 0 l') (hlen : l'.length = n) : Owns w' base g n cap l' :=
  own_upd h (hu.mono (off' := 0) (n' := off + m) (Nat.zero_le _) (by omega)) hl hlen
theorem Owns.apart {w w' : World} {base g g' n cap off m : Nat} {l : List Nat} (h : Owns w base g n cap l) (hu : Upd g' off m w w') (hd : g ≠ g') : Owns w' base g n cap l := by
  refine ⟨h.1, ?_⟩
  rcases h.2 with ⟨h', _⟩ | ⟨g1, cap1, cur, r1, r2, r3, r4⟩
  · cases h'
  · cases r1
    exact .inr ⟨g, cap, cur, rfl, r2, (hu.grown.block g (Array.getElem?_eq_some_iff.1 r3).1 (by simp [hd])).trans r3, r4⟩
theorem Owns.has {w : World} {base g n cap : Nat} {l : List Nat} (h : Owns w base g n cap l) : Has w base (.slice (some ⟨g, 0, none⟩) l.length cap) l := by
  have e := h.len
  subst e
  exact h
theorem Owns.lies_le {w : World} {base g n cap : Nat} {l : List Nat} (h : Owns w base g n cap l) : l.length ≤ cap := (own_lies h).2.1
theorem Owns.words {w : World} {base g n cap : Nat} {l : List Nat} (h : Owns w base g n cap l) (hs : Small l) : Has w base (.slice (some ⟨g, 0, none⟩) (words (nw l)).length cap) (words (nw l)) := by
  obtain ⟨k, hk, hw⟩ := words_prefix l hs
  have hkl : (Proofs.YtnnfmfdjgdgdhaaDoor.words (nw l)).length = k := by rw [hw]; simp; omega
  have := cut_own k hk h
  rw [← hw] at this
  rw [Has, hkl]
  exact this
/-- A piece written in its place. -/
theorem Lies.patch {w w' : World} {g at' n : Nat} {lf seg : List Nat} (h : Lies w g 0 lf) (hu : Upd g at' n w w') (hs : Lies w' g at' seg) (hn : seg.length = n) (hl : at' + n ≤ lf.length) : Lies w' g 0 (lf.take at' ++ seg ++ lf.drop (at' + n)) := by
  have h1 : Lies w g 0 (lf.take at') := by have := h.piece 0 at' (by omega); rwa [List.drop_zero] at this
  have h2 := h.piece (at' + n) (lf.length - (at' + n)) (by omega)
  rw [List.take_of_length_le (by simp)] at h2
  have hti : (lf.take at').length = at' := by rw [List.length_take]; omega
  refine ((h1.beside hu (by rw [hti]; omega)).append (by rw [hti, Nat.zero_add]; exact hs)).append ?_
  rw [List.length_append, hti, hn]
  exact h2.beside hu (by omega)

set_option maxRecDepth 100000 in
set_option maxHeartbeats 400000 in
theorem divide_big (gx capx gy capy : Nat) (xs ys : List Nat) (w : World) (hsx : Small xs) (hsy : Small ys) (hlx : xs.length ≤ 4398046511104) (hpos : 0 < ys.length) (hlast : ys[ys.length - 1]?.getD 0 ≠ 0) (hyx : ys.length ≤ xs.length) (hx : Lies w gx 0 xs) (hy : Lies w gy 0 ys) :
    Calls Tryd.prog 57 #[.slice (some ⟨gx, 0, none⟩) xs.length capx, .slice (some ⟨gy, 0, none⟩) ys.length capy] w fun e w' =>
      ∃ gq cq gr cr, e = .returned (.tuple #[.slice (some ⟨gq, 0, none⟩) (words (nw xs / nw ys)).length cq, .slice (some ⟨gr, 0, none⟩) (words (nw xs % nw ys)).length cr]) ∧
        Has w' w.heap.size (.slice (some ⟨gq, 0, none⟩) (words (nw xs / nw ys)).length cq) (words (nw xs / nw ys)) ∧ Has w' w.heap.size (.slice (some ⟨gr, 0, none⟩) (words (nw xs % nw ys)).length cr) (words (nw xs % nw ys)) ∧ Below w.heap.size w w' := by
  obtain ⟨i0, hi, hz0, hz1, hz2⟩ := info_parts Tryd.infoU32
  have hgx := hx.lt
  have hgy := hy.lt
  have hcy := hy.cell (ys.length - 1) (by omega)
  rw [Nat.zero_add] at hcy
  have hyb := getD_lt hsy (ys.length - 1)
  rw [W_eq] at hyb
  obtain ⟨bl1, bl2⟩ := bitLen_bounds 32 (ys[ys.length - 1]?.getD 0) (by simpa using hyb) (by omega)
  have bl0 := bitLen_pos _ hlast hyb
  obtain ⟨s, hs⟩ : ∃ s, s = 32 - Lib.bitLen (ys[ys.length - 1]?.getD 0) := ⟨_, rfl⟩
  have hs32 : s < 32 := by omega
  have hfit : 2 ^ s * (ys[ys.length - 1]?.getD 0 + 1) ≤ W := by
    have h1 : 2 ^ s * (ys[ys.length - 1]?.getD 0 + 1) ≤ 2 ^ s * 2 ^ Lib.bitLen (ys[ys.length - 1]?.getD 0) := Nat.mul_le_mul_left _ bl2
    rw [← Nat.pow_add, show s + Lib.bitLen (ys[ys.length - 1]?.getD 0) = 32 by omega] at h1
    exact h1
  have hbyl := by_length ys s hsy hpos hlast hfit
  have HBY := hide hbyl
  have hlz := fun V => Tryd.bits_LeadingZeros32 ((ys[ys.length - 1]?.getD 0 : Nat) : Int) V (by omega) (by omega)
  simp only [Int.toNat_natCast] at hlz
  have hsv : (32 : Int) - (Lib.bitLen (ys[ys.length - 1]?.getD 0) : Int) = (s : Int) := by omega
  simp only [hsv] at hlz
  have HLZ := hide hlz
  have HLAST := hide hlast
  generalize ys[ys.length - 1]?.getD 0 = y1 at *
  have hnl : ¬ xs.length < ys.length := by omega
  clear bl1 bl2 bl0 hs hfit hbyl hlz hsv hlast
  go_enter Tryd.func57, Tryd.ntmps57
  go_wp2_with fail
  refine (HLZ.out _).mono ?_
  rintro e w0 ⟨rfl, hw0⟩
  subst hw0
  go_wp2_with fail
  refine (shiftUp_any gx capx xs s _ hsx hs32 (by omega) hx).mono ?_
  rintro e w1 ⟨v1, l1, rfl, h1, hs1, hl1, hn1, hb1⟩
  obtain ⟨g1, c1, rfl, hc1, hbg1, hlies1⟩ := h1.slice (by omega)
  have HL1 := hide hl1
  have HN1 := hide hn1
  have hl1b : l1.length ≤ 4398046511105 := by omega
  have hc1b : xs.length + 1 ≤ c1 := by omega
  clear hl1 hn1
  have hy1 := hy.below hb1 hgy
  go_wp2_with fail
  refine (shiftUp_any gy capy ys s _ hsy hs32 (by omega) hy1).mono ?_
  rintro e w2 ⟨v2, l2, rfl, h2, hs2, hl2, hn2, hb2⟩
  obtain ⟨g2, c2, rfl, hc2, hbg2, hlies2⟩ := h2.slice (by omega)
  have HN2 := hide hn2
  have hl2b : l2.length ≤ 4398046511105 := by omega
  clear hl2 hn2
  go_wp2_with fail
  have hsh := shorten_any g2 0 c2 l2 w2 hs2 hc2 (by omega) (fun j hj => hlies2.cell j hj)
  rw [HN2.out, HBY.out.1] at hsh
  refine hsh.mono ?_
  rintro e w3 ⟨rfl, hw3⟩
  subst hw3
  have hwp : ∃ k, k ≤ l2.length ∧ words (nw l2) = l2.take k := words_prefix l2 hs2
  have hlb : Lies w3 g2 0 (words (2 ^ s * nw ys)) := by
    obtain ⟨k, hk, e⟩ := hwp
    have := hlies2.piece 0 k (by omega)
    rwa [List.drop_zero, ← e, HN2.out] at this
  have h12 := h1.below hb2 (Nat.le_refl _)
  have hB2 : Below w0.heap.size w0 w3 := hb1.trans (hb2.mono hb1.size)
  have hg1lt : g1 < w1.heap.size := hlies1.lt
  have hg2lt : g2 < w3.heap.size := hlies2.lt
  have hsz2 := hB2.size
  have hsz12 := hb2.size
  have H12 := hide h12
  have HLB := hide hlb
  clear hsh hwp hlb h12 hlies1 hlies2 h1 h2 hy1
  go_wp2_with (at_make; refine wpList_make_full _ rfl _ _ 71 rfl w0.heap.size 78 i0 (.int .u32 0) 1 Tryd.underlying71 hi hz0 hz1 .i64 .i64 _ _ (xs.length - ys.length + 1) rfl rfl (by omega) (by omega) (by rw [hz2]; omega) (by unfold maxLen; omega) (by omega) ?_; intro w4 hown4 hgrow4)
  have hb4 := block_of_own hown4
  rw [made_u32] at hb4
  have HB4 := hide hb4
  have hB4 : Below w0.heap.size w0 w4 := hB2.grown hgrow4 (by omega) (fun k e => by cases e)
  have HO1 : Hid (Owns w4 w0.heap.size g1 l1.length c1 l1) := Has.below H12.out (B := w3.heap.size) ((Below.refl _ w3).grown hgrow4 (Nat.le_refl _) (fun k e => by cases e)) (Nat.le_refl _)
  have HOQ : Hid (Owns w4 w0.heap.size w3.heap.size (xs.length - ys.length + 1) (xs.length - ys.length + 1) (List.replicate (xs.length - ys.length + 1) 0)) := by
    have := own_of_lies (base := w0.heap.size) (cap := xs.length - ys.length + 1) (l := List.replicate (xs.length - ys.length + 1) 0) _ hb4 (by simp) (by omega) (by unfold maxLen; omega) (by simp) ⟨_, hb4, by simp, fun j hj => by simp at hj; simp [hj]⟩
    rw [List.length_replicate] at this
    exact this
  have HL2 : Hid (Lies w4 g2 0 (words (2 ^ s * nw ys))) := (HLB.out).grown hgrow4 (by simp)
  have HI : Hid (DivInv (2 ^ s * nw xs) (2 ^ s * nw ys) (xs.length - ys.length + 1) l1 (List.replicate (xs.length - ys.length + 1) 0) (xs.length - ys.length + 1)) := DivInv.start hpos hyx hs1 rfl hsx rfl HN1.out HL1.out HBY.out.2.1
  have HBW := hide hB4
  clear hb4 hown4 hgrow4 H12 HLB hB2 hB4
  go_loopw [40] (fun i wr => ∃ (k : Nat) (lf ql : List Nat), k ≤ xs.length - ys.length + 1 ∧ i = .int .i64 k ∧ Hid (DivInv (2 ^ s * nw xs) (2 ^ s * nw ys) (xs.length - ys.length + 1) lf ql (xs.length - ys.length + 1 - k)) ∧ Hid (Owns wr w0.heap.size g1 l1.length c1 lf) ∧ Hid (Owns wr w0.heap.size w3.heap.size (xs.length - ys.length + 1) (xs.length - ys.length + 1) ql) ∧ Hid (Lies wr g2 0 (words (2 ^ s * nw ys))) ∧ Hid (Below w0.heap.size w0 wr))
    (fun i _ => xs.length - ys.length + 1 - (intOf i).toNat)
  case atStart => exact ⟨0, l1, _, Nat.zero_le _, rfl, HI, HO1, HOQ, HL2, HBW⟩
  case round =>
    obtain ⟨k, lf, ql, hk, rfl, HIr, HOr, HQr, HYr, HBr⟩ := hrel
    clear HI HO1 HOQ HL2 HBW
    by_cases hlt : k < xs.length - ys.length + 1
    · go_wp2_with fail
      obtain ⟨p, hp⟩ : ∃ p, p = xs.length - ys.length - k := ⟨_, rfl⟩
      have hn : xs.length - ys.length - k + ys.length + 1 - (xs.length - ys.length - k) = ys.length + 1 := by omega
      rw [hn, ← hp]
      have hlfl : lf.length = xs.length + 1 := by have := HOr.out.len; have := HL1.out; omega
      have hsl : ((lf.drop p).take (ys.length + 1)).length = ys.length + 1 := by rw [List.length_take, List.length_drop]; omega
      have HD : Hid (DivInv (2 ^ s * nw xs) (2 ^ s * nw ys) (xs.length - ys.length + 1) lf ql (p + 1)) := by
        have := HIr.out
        rwa [show xs.length - ys.length + 1 - k = p + 1 by omega] at this
      have hseg := HD.out.seg HBY.out.2.2 (by omega)
      have htm := takeMost_any g1 p (c1 - p) g2 c2 ((lf.drop p).take (ys.length + 1)) (words (2 ^ s * nw ys)) wr (by rw [hsl, HBY.out.1]) (small_take (small_drop HD.out.ls _) _) (words_small _) (by rw [hsl]; omega) (by rw [HBY.out.1]; exact hpos) (words_last_get _ (by rw [HBY.out.1]; exact hpos)) (by rw [nw_words]; exact hseg.1) (by have := HOr.out.lies.piece p (ys.length + 1) (by omega); rwa [Nat.zero_add] at this) HYr.out (by omega)
      rw [hsl, HBY.out.1, nw_words] at htm
      refine htm.mono ?_
      clear htm
      rintro e w5 ⟨seg, rfl, hsl5, hss5, hsn5, hl5, hu5⟩
      have hpL : p < xs.length - ys.length + 1 := by omega
      have HST := hide (HD.out.step HBY.out.2.2 (by omega) hpL (by have := hseg.1; rcases Nat.eq_zero_or_pos (2 ^ s * nw ys) with e | e; (rw [e, Nat.mul_zero] at this; omega); exact e) hsl5 hss5 hsn5)
      have hlp := HOr.out.lies.patch hu5 hl5 hsl5 (by omega)
      have HO5 : Hid (Owns w5 w0.heap.size g1 l1.length c1 (lf.take p ++ seg ++ lf.drop (p + (ys.length + 1)))) := HOr.out.upd hu5 hlp (by have := HL1.out; simp; omega)
      have HQ5 := hide (HQr.out.apart hu5 (by omega))
      have HY5 := hide (HYr.out.apart hu5 (by omega))
      have HB5 := hide (Upd.below HBr.out hu5 hbg1 HBr.out.size)
      have hqlen : p < ql.length := by have := HQr.out.len; omega
      have hcell := HQ5.out.lies.cell p hqlen
      have hfz := HQ5.out.lies.frozen p
      rw [Nat.zero_add] at hcell
      have hset := HQ5.out.lies.set p hqlen (nw ((lf.drop p).take (ys.length + 1)) / (2 ^ s * nw ys))
      rw [Nat.zero_add] at hset
      have HSET := hide hset
      have HLF := hide hlfl
      generalize hqv : nw ((lf.drop p).take (ys.length + 1)) / (2 ^ s * nw ys) = qv at *
      generalize ql[p]?.getD 0 = old at *
      clear hset hlp hseg hsl hsl5 hsn5 hl5 hlfl HIr HOr HQr HYr HBr HD hn hqv
      subst hp
      go_wp2
      go_roundw
      case rel =>
        have hu6 : Upd w3.heap.size (xs.length - ys.length - k) 1 w5 (w5.setCell ⟨w3.heap.size, xs.length - ys.length - k, none⟩ (.int .u32 (qv : Nat))) := Upd.setCell (Nat.le_refl _) (by omega) _
        refine ⟨k + 1, _, _, by omega, by go_num, ?_, hide (HO5.out.apart hu6 (by omega)), hide (HQ5.out.upd hu6 HSET.out (by have := HQ5.out.len; rw [List.length_set]; omega)), hide (HY5.out.apart hu6 (by omega)), hide (Upd.below HB5.out hu6 hsz2 HB5.out.size)⟩
        have e := HST.out
        show DivInv _ _ _ _ _ _
        rwa [show xs.length - ys.length + 1 - (k + 1) = xs.length - ys.length - k by omega]
      case measure => simp [intOf]; omega
    · obtain rfl : k = xs.length - ys.length + 1 := by omega
      have hD := HIr.out
      rw [Nat.sub_self] at hD
      have hp2 : 0 < 2 ^ s := Nat.pow_pos (by decide)
      obtain ⟨hq, hr⟩ := hD.stop
      rw [Nat.mul_div_mul_left _ _ hp2] at hq
      rw [Nat.mul_mod_mul_left] at hr
      have hr2 : nw (shd s lf) = nw xs % nw ys := by rw [shd_nw s (by omega) lf hD.ls, hr, Nat.mul_div_cancel_left _ hp2]
      have hls := hD.ls
      have hqs := hD.qs
      have HQN := hide hq
      have HRN := hide hr2
      have hsd := shiftDown_any g1 c1 lf s wr hls hs32 (by have := HOr.out.len; omega) HOr.out.lies
      rw [← HOr.out.len] at hsd
      have HSD := hide hsd
      clear hq hr hr2 hD HIr hsd
      go_wp2_with fail
      refine HSD.out.mono ?_
      rintro e w5 ⟨rfl, hl5, hu5⟩
      have HO5 := hide (HOr.out.upd hu5 hl5 (by rw [shd_length]; exact HOr.out.len.symm))
      have HQ5 := hide (HQr.out.apart hu5 (by omega))
      have HB5 := hide (Upd.below HBr.out hu5 hbg1 HBr.out.size)
      have hs1 := shorten_any w3.heap.size 0 (xs.length - ys.length + 1) ql w5 hqs (by rw [← HQ5.out.len]; omega) (by rw [← HQ5.out.len]; omega) (fun j hj => HQ5.out.lies.cell j hj)
      rw [← HQ5.out.len, HQN.out] at hs1
      have hs2 := shorten_any g1 0 c1 (shd s lf) w5 (shd_small s lf) HO5.out.lies_le (by rw [← HO5.out.len]; omega) (fun j hj => HO5.out.lies.cell j hj)
      rw [← HO5.out.len, HRN.out] at hs2
      have HS1 := hide hs1
      have HS2 := hide hs2
      clear hs1 hs2 hl5 hu5 HSD HOr HQr HBr
      go_wp2_with fail
      refine HS1.out.mono ?_
      rintro e w6 ⟨rfl, hw6⟩
      subst hw6
      go_wp2_with fail
      refine HS2.out.mono ?_
      rintro e w7 ⟨rfl, hw7⟩
      subst hw7
      go_wp2
      go_ret2
      have hf1 := HQ5.out.words hqs
      have hf2 := HO5.out.words (shd_small s lf)
      rw [HQN.out] at hf1
      rw [HRN.out] at hf2
      exact ⟨_, _, _, _, rfl, hf1, hf2, HB5.out⟩
end Go.Proofs.YtnnfmfdjgdgdhaaDoor

