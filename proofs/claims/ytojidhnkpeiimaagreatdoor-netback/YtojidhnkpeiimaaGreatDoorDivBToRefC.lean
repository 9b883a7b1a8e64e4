/- divide of package nat, where the dividend has no fewer parts than the divisor. -/
import Derived.Test.YtojidhnkpeiimaaGreatDoorSubAToDivA
import Derived.BigQuiet
namespace Go.Proofs.YtojidhnkpeiimaaGreatDoor
open Go.RowKit
theorem Has.slice {w : World} {base : Nat} {v : Value} {l : List Nat} (h : Has w base v l) (hl : 0 < l.length) : ∃ g cap, v = .slice (some ⟨g, 0, none⟩) l.length cap ∧ l.length ≤ cap ∧ base ≤ g ∧ Lies w g 0 l := by
  rcases h.cases with ⟨_, rfl⟩ | h
  · simp at hl
  · exact h
theorem words_last_get (n : Nat) (h : 0 < (words n).length) : (words n)[(words n).length - 1]?.getD 0 ≠ 0 := by
  have hne : words n ≠ [] := List.length_pos_iff.1 h
  have := words_last n hne
  rw [List.getLast_eq_getElem] at this
  rwa [List.getElem?_eq_getElem (by omega)]
def Owns (w : World) (base g n cap : Nat) (l : List Nat) : Prop := w.ownsRow base 135 1 (.slice (some ⟨g, 0, none⟩) n cap) n (l.map u32)
theorem Owns.lies {w : World} {base g n cap : Nat} {l : List Nat} (h : Owns w base g n cap l) : Lies w g 0 l := (own_lies h).2.2.2
theorem Owns.len {w : World} {base g n cap : Nat} {l : List Nat} (h : Owns w base g n cap l) : n = l.length := (own_lies h).1
theorem Owns.upd {w w' : World} {base g n cap off m : Nat} {l l' : List Nat} (h : Owns w base g n cap l) (hu : Upd g off m w w') (hl : Lies w' g 0 l') (hlen : l'.length = n) : Owns w' base g n cap l' :=
  own_upd h (hu.mono (off' := 0) (n' := off + m) (Nat.zero_le _) (by omega)) hl hlen
theorem Owns.apart {w w' : World} {base g g' n cap off m : Nat} {l : List Nat} (h : Owns w base g n cap l) (hu : Upd g' off m w w') (hd : g ≠ g') : Owns w' base g n cap l := by
  refine ⟨h.1, ?_⟩
  rcases h.2 with ⟨h', _⟩ | ⟨g1, cap1, cur, r1, r2, r3, r4⟩
  · cases h'
  · cases r1
    exact .inr ⟨g, cap, cur, rfl, r2, (hu.grown.block g (Array.getElem?_eq_some_iff.1 r3).1 (by simp [hd])).trans r3, r4⟩
theorem Owns.lies_le {w : World} {base g n cap : Nat} {l : List Nat} (h : Owns w base g n cap l) : l.length ≤ cap := (own_lies h).2.1
theorem Owns.words {w : World} {base g n cap : Nat} {l : List Nat} (h : Owns w base g n cap l) (hs : Small l) : Has w base (.slice (some ⟨g, 0, none⟩) (words (nw l)).length cap) (words (nw l)) := by
  obtain ⟨k, hk, hw⟩ := words_prefix l hs
  have hkl : (Proofs.YtojidhnkpeiimaaGreatDoor.words (nw l)).length = k := by rw [hw]; simp; omega
  have := cut_own k hk h
  rw [← hw] at this
  rw [Has, hkl]
  exact this
theorem Lies.patch {w w' : World} {g at' n : Nat} {lf seg : List Nat} (h : Lies w g 0 lf) (hu : Upd g at' n w w') (hs : Lies w' g at' seg) (hn : seg.length = n) (hl : at' + n ≤ lf.length) : Lies w' g 0 (lf.take at' ++ seg ++ lf.drop (at' + n)) := by
  have h1 : Lies w g 0 (lf.take at') := by have := h.piece 0 at' (by omega); rwa [List.drop_zero] at this
  have h2 := h.piece (at' + n) (lf.length - (at' + n)) (by omega)
  rw [List.take_of_length_le (by simp)] at h2
  have hti : (lf.take at').length = at' := by rw [List.length_take]; omega
  refine ((h1.beside hu (by rw [hti]; omega)).append (by rw [hti, Nat.zero_add]; exact hs)).append ?_
  rw [List.length_append, hti, hn]
  exact h2.beside hu (by omega)
set_option maxRecDepth 100000 in
set_option maxHeartbeats 400000 in
theorem divide_big (gx capx gy capy : Nat) (xs ys : List Nat) (w : World) (hsx : Small xs) (hsy : Small ys) (hlx : xs.length ≤ 4398046511104) (hpos : 0 < ys.length) (hlast : ys[ys.length - 1]?.getD 0 ≠ 0) (hyx : ys.length ≤ xs.length) (hx : Lies w gx 0 xs) (hy : Lies w gy 0 ys) :
    Calls Tryz.prog 170 #[.slice (some ⟨gx, 0, none⟩) xs.length capx, .slice (some ⟨gy, 0, none⟩) ys.length capy] w fun e w' =>
      ∃ gq cq gr cr, e = .returned (.tuple #[.slice (some ⟨gq, 0, none⟩) (words (nw xs / nw ys)).length cq, .slice (some ⟨gr, 0, none⟩) (words (nw xs % nw ys)).length cr]) ∧
        Has w' w.heap.size (.slice (some ⟨gq, 0, none⟩) (words (nw xs / nw ys)).length cq) (words (nw xs / nw ys)) ∧ Has w' w.heap.size (.slice (some ⟨gr, 0, none⟩) (words (nw xs % nw ys)).length cr) (words (nw xs % nw ys)) ∧ Below w.heap.size w w' := by
  obtain ⟨i0, hi, hz0, hz1, hz2⟩ := info_parts Tryz.infoU32
  have hgx := hx.lt
  have hgy := hy.lt
  have hcy := hy.cell (ys.length - 1) (by omega)
  rw [Nat.zero_add] at hcy
  have hyb := getD_lt hsy (ys.length - 1)
  rw [W_eq] at hyb
  obtain ⟨bl1, bl2⟩ := bitLen_bounds 32 (ys[ys.length - 1]?.getD 0) (by simpa using hyb) (by omega)
  have bl0 := bitLen_pos _ hlast hyb
  obtain ⟨s, hs⟩ : ∃ s, s = 32 - Lib.bitLen (ys[ys.length - 1]?.getD 0) := ⟨_, rfl⟩
  have hs32 : s < 32 := by omega
  have hfit : 2 ^ s * (ys[ys.length - 1]?.getD 0 + 1) ≤ W := by
    have h1 : 2 ^ s * (ys[ys.length - 1]?.getD 0 + 1) ≤ 2 ^ s * 2 ^ Lib.bitLen (ys[ys.length - 1]?.getD 0) := Nat.mul_le_mul_left _ bl2
    rw [← Nat.pow_add, show s + Lib.bitLen (ys[ys.length - 1]?.getD 0) = 32 by omega] at h1
    exact h1
  have hbyl := by_length ys s hsy hpos hlast hfit
  have HBY := hide hbyl
  have hlz := fun V => Tryz.bits_LeadingZeros32 ((ys[ys.length - 1]?.getD 0 : Nat) : Int) V (by omega) (by omega)
  simp only [Int.toNat_natCast] at hlz
  have hsv : (32 : Int) - (Lib.bitLen (ys[ys.length - 1]?.getD 0) : Int) = (s : Int) := by omega
  simp only [hsv] at hlz
  have HLZ := hide hlz
  have HLAST := hide hlast
  generalize ys[ys.length - 1]?.getD 0 = y1 at *
  have hnl : ¬ xs.length < ys.length := by omega
  clear bl1 bl2 bl0 hs hfit hbyl hlz hsv hlast
  go_enter Tryz.func170, Tryz.ntmps170
  go_wp2_with fail
  refine (HLZ.out _).mono ?_
  rintro e w0 ⟨rfl, hw0⟩
  subst hw0
  go_wp2_with fail
  refine (shiftUp_any gx capx xs s _ hsx hs32 (by omega) hx).mono ?_
  rintro e w1 ⟨v1, l1, rfl, h1, hs1, hl1, hn1, hb1⟩
  obtain ⟨g1, c1, rfl, hc1, hbg1, hlies1⟩ := h1.slice (by omega)
  have HL1 := hide hl1
  have HN1 := hide hn1
  have hl1b : l1.length ≤ 4398046511105 := by omega
  have hc1b : xs.length + 1 ≤ c1 := by omega
  clear hl1 hn1
  have hy1 := hy.below hb1 hgy
  go_wp2_with fail
  refine (shiftUp_any gy capy ys s _ hsy hs32 (by omega) hy1).mono ?_
  rintro e w2 ⟨v2, l2, rfl, h2, hs2, hl2, hn2, hb2⟩
  obtain ⟨g2, c2, rfl, hc2, hbg2, hlies2⟩ := h2.slice (by omega)
  have HN2 := hide hn2
  have hl2b : l2.length ≤ 4398046511105 := by omega
  clear hl2 hn2
  go_wp2_with fail
  have hsh := shorten_any g2 0 c2 l2 w2 hs2 hc2 (by omega) (fun j hj => hlies2.cell j hj)
  rw [HN2.out, HBY.out.1] at hsh
  refine hsh.mono ?_
  rintro e w3 ⟨rfl, hw3⟩
  subst hw3
  have hwp : ∃ k, k ≤ l2.length ∧ words (nw l2) = l2.take k := words_prefix l2 hs2
  have hlb : Lies w3 g2 0 (words (2 ^ s * nw ys)) := by
    obtain ⟨k, hk, e⟩ := hwp
    have := hlies2.piece 0 k (by omega)
    rwa [List.drop_zero, ← e, HN2.out] at this
  have h12 := h1.below hb2 (Nat.le_refl _)
  have hB2 : Below w0.heap.size w0 w3 := hb1.trans (hb2.mono hb1.size)
  have hg1lt : g1 < w1.heap.size := hlies1.lt
  have hg2lt : g2 < w3.heap.size := hlies2.lt
  have hsz2 := hB2.size
  have hsz12 := hb2.size
  have H12 := hide h12
  have HLB := hide hlb
  clear hsh hwp hlb h12 hlies1 hlies2 h1 h2 hy1
  go_wp2_with (at_make; refine wpList_make_full _ rfl _ _ 147 rfl w0.heap.size 135 i0 (.int .u32 0) 1 Tryz.underlying147 hi hz0 hz1 .i64 .i64 _ _ (xs.length - ys.length + 1) rfl rfl (by omega) (by omega) (by rw [hz2]; omega) (by unfold maxLen; omega) (by omega) ?_; intro w4 hown4 hgrow4)
  have hb4 := block_of_own hown4
  rw [made_u32] at hb4
  have HB4 := hide hb4
  have hB4 : Below w0.heap.size w0 w4 := hB2.grown hgrow4 (by omega) (fun k e => by cases e)
  have HO1 : Hid (Owns w4 w0.heap.size g1 l1.length c1 l1) := Has.below H12.out (B := w3.heap.size) ((Below.refl _ w3).grown hgrow4 (Nat.le_refl _) (fun k e => by cases e)) (Nat.le_refl _)
  have HOQ : Hid (Owns w4 w0.heap.size w3.heap.size (xs.length - ys.length + 1) (xs.length - ys.length + 1) (List.replicate (xs.length - ys.length + 1) 0)) := by
    have := own_of_lies (base := w0.heap.size) (cap := xs.length - ys.length + 1) (l := List.replicate (xs.length - ys.length + 1) 0) _ hb4 (by simp) (by omega) (by unfold maxLen; omega) (by simp) ⟨_, hb4, by simp, fun j hj => by simp at hj; simp [hj]⟩
    rw [List.length_replicate] at this
    exact this
  have HL2 : Hid (Lies w4 g2 0 (words (2 ^ s * nw ys))) := (HLB.out).grown hgrow4 (by simp)
  have HI : Hid (DivInv (2 ^ s * nw xs) (2 ^ s * nw ys) (xs.length - ys.length + 1) l1 (List.replicate (xs.length - ys.length + 1) 0) (xs.length - ys.length + 1)) := DivInv.start hpos hyx hs1 rfl hsx rfl HN1.out HL1.out HBY.out.2.1
  have HBW := hide hB4
  clear hb4 hown4 hgrow4 H12 HLB hB2 hB4
  go_loopw [40] (fun i wr => ∃ (k : Nat) (lf ql : List Nat), k ≤ xs.length - ys.length + 1 ∧ i = .int .i64 k ∧ Hid (DivInv (2 ^ s * nw xs) (2 ^ s * nw ys) (xs.length - ys.length + 1) lf ql (xs.length - ys.length + 1 - k)) ∧ Hid (Owns wr w0.heap.size g1 l1.length c1 lf) ∧ Hid (Owns wr w0.heap.size w3.heap.size (xs.length - ys.length + 1) (xs.length - ys.length + 1) ql) ∧ Hid (Lies wr g2 0 (words (2 ^ s * nw ys))) ∧ Hid (Below w0.heap.size w0 wr))
    (fun i _ => xs.length - ys.length + 1 - (intOf i).toNat)
  case atStart => exact ⟨0, l1, _, Nat.zero_le _, rfl, HI, HO1, HOQ, HL2, HBW⟩
  case round =>
    obtain ⟨k, lf, ql, hk, rfl, HIr, HOr, HQr, HYr, HBr⟩ := hrel
    clear HI HO1 HOQ HL2 HBW
    by_cases hlt : k < xs.length - ys.length + 1
    · go_wp2_with fail
      obtain ⟨p, hp⟩ : ∃ p, p = xs.length - ys.length - k := ⟨_, rfl⟩
      have hn : xs.length - ys.length - k + ys.length + 1 - (xs.length - ys.length - k) = ys.length + 1 := by omega
      rw [hn, ← hp]
      have hlfl : lf.length = xs.length + 1 := by have := HOr.out.len; have := HL1.out; omega
      have hsl : ((lf.drop p).take (ys.length + 1)).length = ys.length + 1 := by rw [List.length_take, List.length_drop]; omega
      have HD : Hid (DivInv (2 ^ s * nw xs) (2 ^ s * nw ys) (xs.length - ys.length + 1) lf ql (p + 1)) := by
        have := HIr.out
        rwa [show xs.length - ys.length + 1 - k = p + 1 by omega] at this
      have hseg := HD.out.seg HBY.out.2.2 (by omega)
      have htm := takeMost_any g1 p (c1 - p) g2 c2 ((lf.drop p).take (ys.length + 1)) (words (2 ^ s * nw ys)) wr (by rw [hsl, HBY.out.1]) (small_take (small_drop HD.out.ls _) _) (words_small _) (by rw [hsl]; omega) (by rw [HBY.out.1]; exact hpos) (words_last_get _ (by rw [HBY.out.1]; exact hpos)) (by rw [nw_words]; exact hseg.1) (by have := HOr.out.lies.piece p (ys.length + 1) (by omega); rwa [Nat.zero_add] at this) HYr.out (by omega)
      rw [hsl, HBY.out.1, nw_words] at htm
      refine htm.mono ?_
      clear htm
      rintro e w5 ⟨seg, rfl, hsl5, hss5, hsn5, hl5, hu5⟩
      have hpL : p < xs.length - ys.length + 1 := by omega
      have HST := hide (HD.out.step HBY.out.2.2 (by omega) hpL (by have := hseg.1; rcases Nat.eq_zero_or_pos (2 ^ s * nw ys) with e | e; (rw [e, Nat.mul_zero] at this; omega); exact e) hsl5 hss5 hsn5)
      have hlp := HOr.out.lies.patch hu5 hl5 hsl5 (by omega)
      have HO5 : Hid (Owns w5 w0.heap.size g1 l1.length c1 (lf.take p ++ seg ++ lf.drop (p + (ys.length + 1)))) := HOr.out.upd hu5 hlp (by have := HL1.out; simp; omega)
      have HQ5 := hide (HQr.out.apart hu5 (by omega))
      have HY5 := hide (HYr.out.apart hu5 (by omega))
      have HB5 := hide (Upd.below HBr.out hu5 hbg1 HBr.out.size)
      have hqlen : p < ql.length := by have := HQr.out.len; omega
      have hcell := HQ5.out.lies.cell p hqlen
      have hfz := HQ5.out.lies.frozen p
      rw [Nat.zero_add] at hcell
      have hset := HQ5.out.lies.set p hqlen (nw ((lf.drop p).take (ys.length + 1)) / (2 ^ s * nw ys))
      rw [Nat.zero_add] at hset
      have HSET := hide hset
      have HLF := hide hlfl
      generalize hqv : nw ((lf.drop p).take (ys.length + 1)) / (2 ^ s * nw ys) = qv at *
      generalize ql[p]?.getD 0 = old at *
      clear hset hlp hseg hsl hsl5 hsn5 hl5 hlfl HIr HOr HQr HYr HBr HD hn hqv
      subst hp
      go_wp2
      go_roundw
      case rel =>
        have hu6 : Upd w3.heap.size (xs.length - ys.length - k) 1 w5 (w5.setCell ⟨w3.heap.size, xs.length - ys.length - k, none⟩ (.int .u32 (qv : Nat))) := Upd.setCell (Nat.le_refl _) (by omega) _
        refine ⟨k + 1, _, _, by omega, by go_num, ?_, hide (HO5.out.apart hu6 (by omega)), hide (HQ5.out.upd hu6 HSET.out (by have := HQ5.out.len; rw [List.length_set]; omega)), hide (HY5.out.apart hu6 (by omega)), hide (Upd.below HB5.out hu6 hsz2 HB5.out.size)⟩
        have e := HST.out
        show DivInv _ _ _ _ _ _
        rwa [show xs.length - ys.length + 1 - (k + 1) = xs.length - ys.length - k by omega]
      case measure => simp [intOf]; omega
    · obtain rfl : k = xs.length - ys.length + 1 := by omega
      have hD := HIr.out
      rw [Nat.sub_self] at hD
      have hp2 : 0 < 2 ^ s := Nat.pow_pos (by decide)
      obtain ⟨hq, hr⟩ := hD.stop
      rw [Nat.mul_div_mul_left _ _ hp2] at hq
      rw [Nat.mul_mod_mul_left] at hr
      have hr2 : nw (shd s lf) = nw xs % nw ys := by rw [shd_nw s (by omega) lf hD.ls, hr, Nat.mul_div_cancel_left _ hp2]
      have hls := hD.ls
      have hqs := hD.qs
      have HQN := hide hq
      have HRN := hide hr2
      have hsd := shiftDown_any g1 c1 lf s wr hls hs32 (by have := HOr.out.len; omega) HOr.out.lies
      rw [← HOr.out.len] at hsd
      have HSD := hide hsd
      clear hq hr hr2 hD HIr hsd
      go_wp2_with fail
      refine HSD.out.mono ?_
      rintro e w5 ⟨rfl, hl5, hu5⟩
      have HO5 := hide (HOr.out.upd hu5 hl5 (by rw [shd_length]; exact HOr.out.len.symm))
      have HQ5 := hide (HQr.out.apart hu5 (by omega))
      have HB5 := hide (Upd.below HBr.out hu5 hbg1 HBr.out.size)
      have hs1 := shorten_any w3.heap.size 0 (xs.length - ys.length + 1) ql w5 hqs (by rw [← HQ5.out.len]; omega) (by rw [← HQ5.out.len]; omega) (fun j hj => HQ5.out.lies.cell j hj)
      rw [← HQ5.out.len, HQN.out] at hs1
      have hs2 := shorten_any g1 0 c1 (shd s lf) w5 (shd_small s lf) HO5.out.lies_le (by rw [← HO5.out.len]; omega) (fun j hj => HO5.out.lies.cell j hj)
      rw [← HO5.out.len, HRN.out] at hs2
      have HS1 := hide hs1
      have HS2 := hide hs2
      clear hs1 hs2 hl5 hu5 HSD HOr HQr HBr
      go_wp2_with fail
      refine HS1.out.mono ?_
      rintro e w6 ⟨rfl, hw6⟩
      subst hw6
      go_wp2_with fail
      refine HS2.out.mono ?_
      rintro e w7 ⟨rfl, hw7⟩
      subst hw7
      go_wp2
      go_ret2
      have hf1 := HQ5.out.words hqs
      have hf2 := HO5.out.words (shd_small s lf)
      rw [HQN.out] at hf1
      rw [HRN.out] at hf2
      exact ⟨_, _, _, _, rfl, hf1, hf2, HB5.out⟩
end Go.Proofs.YtojidhnkpeiimaaGreatDoor

/- divide, Div and Gcd of package nat. -/
namespace Go.Proofs.YtojidhnkpeiimaaGreatDoor
open Go.RowKit
theorem words_some {n : Nat} (h : n ≠ 0) : 0 < (words n).length := by
  rcases Nat.eq_zero_or_pos (words n).length with e | e
  · exact absurd ((words_nil_iff n).1 (List.eq_nil_of_length_eq_zero e)) h
  · exact e
theorem lt_of_words_lt {x y : Nat} (h : (words x).length < (words y).length) : x < y := by
  have hpos : 0 < (words y).length := by omega
  have hb := getD_lt (words_small y) ((words y).length - 1)
  have h1 := (by_length (words y) 0 (words_small y) hpos (words_last_get y hpos) (by rw [Nat.pow_zero, Nat.one_mul]; exact hb)).2.1
  rw [Nat.pow_zero, Nat.one_mul, Nat.one_mul, nw_words] at h1
  have h2 := nw_lt (words x) (words_small x)
  rw [nw_words] at h2
  have h3 : W ^ (words x).length ≤ W ^ ((words y).length - 1) := Nat.pow_le_pow_right W_pos (by omega)
  omega
theorem words_len_mono {x y : Nat} (h : x ≤ y) : (words x).length ≤ (words y).length := by
  rcases Nat.lt_or_ge (words y).length (words x).length with c | c
  · have := lt_of_words_lt c; omega
  · exact c
theorem lt_of_two {x : Nat} (h : (words x).length ≤ 2) : x < 18446744073709551616 := by
  have h2 := nw_lt (words x) (words_small x)
  rw [nw_words] at h2
  have h3 : W ^ (words x).length ≤ W ^ 2 := Nat.pow_le_pow_right W_pos h
  have h4 : W ^ 2 = 18446744073709551616 := by rw [W_eq]
  omega
theorem divide_any (gx capx gy capy x y : Nat) (w : World) (hy0 : y ≠ 0) (hlx : (words x).length ≤ 4398046511104) (hcx : (words x).length ≤ capx) (hx : Lies w gx 0 (words x)) (hy : Lies w gy 0 (words y)) :
    Calls Tryz.prog 170 #[.slice (some ⟨gx, 0, none⟩) (words x).length capx, .slice (some ⟨gy, 0, none⟩) (words y).length capy] w fun e w' =>
      ∃ vq gr cr, e = .returned (.tuple #[vq, .slice (some ⟨gr, 0, none⟩) (words (x % y)).length cr]) ∧ Has w' w.heap.size vq (words (x / y)) ∧ (words (x % y)).length ≤ cr ∧ Lies w' gr 0 (words (x % y)) ∧ Below w.heap.size w w' := by
  rcases Nat.lt_or_ge (words x).length (words y).length with c | c
  · have hlt := lt_of_words_lt c
    refine (divide_small _ _ capx _ _ capy w c).mono ?_
    rintro e w' ⟨rfl, rfl⟩
    refine ⟨_, gx, capx, by rw [Nat.mod_eq_of_lt hlt], ?_, by rw [Nat.mod_eq_of_lt hlt]; exact hcx, by rw [Nat.mod_eq_of_lt hlt]; exact hx, Below.refl _ _⟩
    rw [Nat.div_eq_of_lt hlt, words_zero]
    exact ⟨rfl, .inl ⟨rfl, rfl⟩⟩
  · have hp := words_some hy0
    have := divide_big gx capx gy capy (words x) (words y) w (words_small _) (words_small _) hlx hp (words_last_get y hp) c hx hy
    rw [nw_words, nw_words] at this
    refine this.mono ?_
    rintro e w' ⟨gq, cq, gr, cr, rfl, h1, h2, h3⟩
    obtain ⟨_, h4, _, h5⟩ := own_lies h2
    exact ⟨_, gr, cr, rfl, h1, h4, h5, h3⟩
set_option maxRecDepth 100000 in
set_option maxHeartbeats 1000000 in
theorem Div_yes (a b : ByteArray) (w : World) (ha : a.size ≤ 1099511627776) (hb : b.size ≤ 1099511627776) (h0 : N b ≠ 0) :
    Calls Tryz.prog 140 #[.string a, .string b] w fun e w' => e = .returned (.tuple #[.string (B (N a / N b)), .string (B (N a % N b)), .bool true]) ∧ Below w.heap.size w w' := by
  have hla := words_len_le a 274877906944 (by omega)
  have hlb := words_len_le b 274877906944 (by omega)
  have hpos := words_some h0
  have hne : ¬ (((words (N b)).length : Int) = 0) := by omega
  have hlq : (words (N a / N b)).length ≤ 274877906944 := Nat.le_trans (words_len_mono (Nat.div_le_self _ _)) hla
  have hlr : (words (N a % N b)).length ≤ 274877906944 := Nat.le_trans (words_len_mono (Nat.mod_le _ _)) hla
  go_enter Tryz.func140, Tryz.ntmps140
  go_wp2_with fail
  refine (spread_some b _ (by omega)).mono ?_
  rintro e w1 ⟨g1, c1, rfl, h1, hb1⟩
  go_wp2_with fail
  refine (spread_some a _ (by omega)).mono ?_
  rintro e w2 ⟨g2, c2, rfl, h2, hb2⟩
  have hl1 := has_lies h1 hb2
  have hl2 := has_lies h2 (Below.refl _ _)
  have hB2 : Below w.heap.size w w2 := hb1.trans (hb2.mono hb1.size)
  go_wp2_with fail
  refine (divide_any g2 c2 g1 c1 (N a) (N b) _ h0 (by omega) (own_lies h2).2.1 hl2 hl1).mono ?_
  rintro e w3 ⟨vq, gr, cr, rfl, hq, hcr, hr, hb3⟩
  have hB3 : Below w.heap.size w w3 := hB2.trans (hb3.mono hB2.size)
  go_wp2_with fail
  refine (gather_own _ _ _ _ (words_small _) (by omega) hq).mono ?_
  rintro e w4 ⟨rfl, hb4⟩
  have hr4 := hr.below hb4 hr.lt
  have hB4 : Below w.heap.size w w4 := hB3.trans (hb4.mono hB3.size)
  rw [nw_words]
  go_wp2_with fail
  refine (gather_some gr cr _ _ (words_small _) hcr (by omega) hr4.lt (fun j hj => hr4.cell j hj)).mono ?_
  rintro e w5 ⟨rfl, hb5⟩
  rw [nw_words]
  go_wp2
  go_ret3
  exact ⟨rfl, hB4.trans (hb5.mono hB4.size)⟩
set_option maxRecDepth 100000 in
set_option maxHeartbeats 1000000 in
theorem Gcd_any (a b : ByteArray) (w : World) (ha : a.size ≤ 1099511627776) (hb : b.size ≤ 1099511627776) :
    Calls Tryz.prog 139 #[.string a, .string b] w fun e w' => e = .returned (.string (B (Nat.gcd (N a) (N b)))) ∧ Below w.heap.size w w' := by
  have hla := words_len_le a 274877906944 (by omega)
  have hlb := words_len_le b 274877906944 (by omega)
  go_enter Tryz.func139, Tryz.ntmps139
  go_wp2_with fail
  refine (spread_some a _ (by omega)).mono ?_
  rintro e w1 ⟨g1, c1, rfl, h1, hb1⟩
  go_wp2_with fail
  refine (spread_some b _ (by omega)).mono ?_
  rintro e w2 ⟨g2, c2, rfl, h2, hb2⟩
  have hl1 := has_lies h1 hb2
  have hl2 := has_lies h2 (Below.refl _ _)
  have hB2 : Below w.heap.size w w2 := hb1.trans (hb2.mono hb1.size)
  have hc1 := (own_lies h1).2.1
  have hc2 := (own_lies h2).2.1
  go_wp2_with fail
  go_loopg [5, 6] (N b) (fun r vx vy wr => ∃ (x gx cx gy cy : Nat), vx = .slice (some ⟨gx, 0, none⟩) (words x).length cx ∧ vy = .slice (some ⟨gy, 0, none⟩) (words r).length cy ∧ (words x).length ≤ cx ∧ (words r).length ≤ cy ∧ (words x).length ≤ 274877906944 ∧ (words r).length ≤ 274877906944 ∧ Hid (Lies wr gx 0 (words x)) ∧ Hid (Lies wr gy 0 (words r)) ∧ Hid (Nat.gcd x r = Nat.gcd (N a) (N b)) ∧ Hid (Below w.heap.size w wr))
  case atStart => exact ⟨_, _, _, _, _, rfl, rfl, hc1, hc2, hla, hlb, hl1, hl2, rfl, hB2⟩
  case round =>
    obtain ⟨x, gx, cx, gy, cy, rfl, rfl, hcx, hcy, hxl, hyl, hxw, hyw, hg, hB⟩ := hrel
    clear hl1 hl2 hB2 hc1 hc2 h1 h2 hb1 hb2
    by_cases hy0 : gk = 0
    · subst hy0
      rw [words_zero] at *
      go_wp2_with fail
      refine (gather_some gx cx _ _ (words_small _) hcx (by omega) hxw.out.lt (fun j hj => hxw.out.cell j hj)).mono ?_
      rintro e w5 ⟨rfl, hb5⟩
      rw [nw_words]
      go_wp2
      go_ret
      exact ⟨by rw [← hg.out, Nat.gcd_zero_right]; rfl, hB.out.trans (hb5.mono hB.out.size)⟩
    · have hpos := words_some hy0
      have hne : ¬ (((words gk).length : Int) = 0) := by omega
      by_cases hbig : 2 < (words x).length
      · go_wp2_with fail
        refine (divide_any gx cx gy cy x gk _ hy0 (by omega) hcx hxw.out hyw.out).mono ?_
        rintro e w5 ⟨vq, gr, cr, rfl, _, hcr, hr, hb5⟩
        have hlr : (words (x % gk)).length ≤ 274877906944 := Nat.le_trans (words_len_mono (Nat.mod_le _ _)) hxl
        have HR := hide hr
        have HY5 := hide (hyw.out.below hb5 hyw.out.lt)
        have HB5 := hide (hB.out.trans (hb5.mono hB.out.size))
        have HG5 : Hid (Nat.gcd gk (x % gk) = Nat.gcd (N a) (N b)) := by show _ = _; rw [← hg.out, Nat.gcd_comm x gk, Nat.gcd_rec gk x, Nat.gcd_comm]
        go_wp2
        go_roundg (x % gk)
        case measure => exact Nat.mod_lt _ (Nat.pos_of_ne_zero hy0)
        case rel => exact ⟨gk, gy, cy, gr, cr, rfl, rfl, hcy, hcr, hyl, hlr, HY5, HR, HG5, HB5⟩
      · by_cases hbig2 : 2 < (words gk).length
        · go_wp2_with fail
          refine (divide_any gx cx gy cy x gk _ hy0 (by omega) hcx hxw.out hyw.out).mono ?_
          rintro e w5 ⟨vq, gr, cr, rfl, _, hcr, hr, hb5⟩
          have hlr : (words (x % gk)).length ≤ 274877906944 := Nat.le_trans (words_len_mono (Nat.mod_le _ _)) hxl
          have HR := hide hr
          have HY5 := hide (hyw.out.below hb5 hyw.out.lt)
          have HB5 := hide (hB.out.trans (hb5.mono hB.out.size))
          have HG5 : Hid (Nat.gcd gk (x % gk) = Nat.gcd (N a) (N b)) := by show _ = _; rw [← hg.out, Nat.gcd_comm x gk, Nat.gcd_rec gk x, Nat.gcd_comm]
          go_wp2
          go_roundg (x % gk)
          case measure => exact Nat.mod_lt _ (Nat.pos_of_ne_zero hy0)
          case rel => exact ⟨gk, gy, cy, gr, cr, rfl, rfl, hcy, hcr, hyl, hlr, HY5, HR, HG5, HB5⟩
        · have hx64 := lt_of_two (Nat.le_of_not_lt hbig)
          have hy64 := lt_of_two (Nat.le_of_not_lt hbig2)
          go_wp2_with fail
          refine (wordOf_any gx cx _ _ (words_small _) (Nat.le_of_not_lt hbig) hxw.out).mono ?_
          rintro e w5 ⟨rfl, hw⟩
          subst hw
          rw [nw_words]
          go_wp2_with fail
          refine (wordOf_any gy cy _ _ (words_small _) (Nat.le_of_not_lt hbig2) hyw.out).mono ?_
          rintro e w6 ⟨rfl, hw⟩
          subst hw
          rw [nw_words]
          go_wp2_with fail
          refine (gcdOfWords_any x gk _ hx64 hy64).mono ?_
          rintro e w7 ⟨rfl, hb7⟩
          have hB7 := hB.out.trans (hb7.mono hB.out.size)
          rw [hg.out]
          have hg64 : Nat.gcd (N a) (N b) < 18446744073709551616 := by rw [← hg.out]; exact Nat.lt_of_le_of_lt (Nat.gcd_le_right _ (Nat.pos_of_ne_zero hy0)) hy64
          go_wp2_with fail
          refine (ofWord_any _ _ hg64).mono ?_
          rintro e w8 ⟨rfl, hb8⟩
          go_wp2
          go_ret
          exact ⟨rfl, hB7.trans (hb8.mono hB7.size)⟩
end Go.Proofs.YtojidhnkpeiimaaGreatDoor

/- The face of package nat: what each call answers, told by the number that it makes. -/
namespace Go.Proofs.YtojidhnkpeiimaaGreatDoor
open Go.RowKit
theorem bn_fits (k : Nat) : ∀ n, n < 256 ^ k → (bn n).length ≤ k := by
  induction k with
  | zero =>
    intro n h
    have : n = 0 := by simpa using h
    subst this; simp [bn_zero]
  | succ k ih =>
    intro n h
    by_cases e : n = 0
    · subst e; simp [bn_zero]
    · rw [bn_pos n e, List.length_append, List.length_singleton]
      have := ih (n / 256) (Nat.div_lt_of_lt_mul (by rw [Nat.pow_succ] at h; omega))
      omega
theorem B_lt (n : Nat) : n < 256 ^ (B n).size := by
  have := nb_lt (bn n)
  rwa [nb_bn, ← B_size] at this
theorem sz_mono {m n : Nat} (h : m ≤ n) : (B m).size ≤ (B n).size := by
  rw [B_size m]
  exact bn_fits _ _ (Nat.lt_of_le_of_lt h (B_lt n))
theorem sz_mul (m n : Nat) : (B (m * n)).size ≤ (B m).size + (B n).size := by
  rw [B_size (m * n)]
  refine bn_fits _ _ ?_
  rw [Nat.pow_add]
  exact Nat.mul_lt_mul'' (B_lt m) (B_lt n)
theorem sz_add (m n : Nat) : (B (m + n)).size ≤ (B m).size + (B n).size + 1 := by
  rw [B_size (m + n)]
  refine bn_fits _ _ ?_
  have h1 := B_lt m
  have h2 := B_lt n
  have h3 : 256 ^ (B m).size ≤ 256 ^ ((B m).size + (B n).size) := Nat.pow_le_pow_right (by decide) (by omega)
  have h4 : 256 ^ (B n).size ≤ 256 ^ ((B m).size + (B n).size) := Nat.pow_le_pow_right (by decide) (by omega)
  rw [Nat.pow_succ]
  omega
theorem B_zero : B 0 = ⟨#[]⟩ := by rw [B, bn_zero]
theorem N_empty : N ⟨#[]⟩ = 0 := rfl
theorem B_inj {m n : Nat} (h : B m = B n) : m = n := by rw [← N_B m, h, N_B]
theorem B_full {n : Nat} (h : n ≠ 0) : (B n).toList.isEmpty = false := by
  cases e : (B n).toList with
  | cons => rfl
  | nil =>
    rw [Lib.toList_data] at e
    have h2 : (B n).size = 0 := by rw [ByteArray.size, ← Array.length_toList, e]; rfl
    have h3 := B_lt n
    rw [h2] at h3
    omega
theorem bytes_len (s : ByteArray) : s.data.toList.length = s.size := by rw [Array.length_toList]; rfl
theorem B_one_size : (B 1).size ≤ 1 := by rw [B_size]; exact bn_fits 1 1 (by decide)
theorem under {P : Program} {f : FuncId} {args : Array Value} {w0 w : World} {X : Ending} (hB : Below w0.heap.size w0 w) (h : Calls P f args w fun e w' => e = X ∧ Below w.heap.size w w') : Calls P f args w fun e w' => e = X ∧ Below w0.heap.size w0 w' :=
  h.mono fun _ _ ⟨h1, h2⟩ => ⟨h1, hB.trans (h2.mono hB.size)⟩
theorem Add_to {a b : ByteArray} {w0 w : World} (n : Nat) (hB : Below w0.heap.size w0 w) (h : N a + N b = n) (ha : a.size ≤ 1099511627776) (hb : b.size ≤ 1099511627776) :
    Calls Tryz.prog 104 #[.string a, .string b] w fun e w' => e = .returned (.string (B n)) ∧ Below w0.heap.size w0 w' := by
  subst h; exact under hB (Add_any a b w ha hb)
theorem Mul_to {a b : ByteArray} {w0 w : World} (n : Nat) (hB : Below w0.heap.size w0 w) (h : N a * N b = n) (ha : a.size ≤ 1099511627776) (hb : b.size ≤ 1099511627776) :
    Calls Tryz.prog 144 #[.string a, .string b] w fun e w' => e = .returned (.string (B n)) ∧ Below w0.heap.size w0 w' := by
  subst h; exact under hB (Mul_any a b w ha hb)
theorem Gcd_to {a b : ByteArray} {w0 w : World} (n : Nat) (hB : Below w0.heap.size w0 w) (h : Nat.gcd (N a) (N b) = n) (ha : a.size ≤ 1099511627776) (hb : b.size ≤ 1099511627776) :
    Calls Tryz.prog 139 #[.string a, .string b] w fun e w' => e = .returned (.string (B n)) ∧ Below w0.heap.size w0 w' := by
  subst h; exact under hB (Gcd_any a b w ha hb)
theorem Of_to {x : Int} {w0 w : World} (n : Nat) (hB : Below w0.heap.size w0 w) (h : x = (n : Int)) (hx : x ≤ 9223372036854775807) :
    Calls Tryz.prog 83 #[.int .i64 x] w fun e w' => e = .returned (.string (B n)) ∧ Below w0.heap.size w0 w' := by
  have := under hB (Of_any x w (by omega) hx)
  rwa [show x.toNat = n by omega] at this
theorem Sub_to {a b : ByteArray} {w0 w : World} (n : Nat) (hB : Below w0.heap.size w0 w) (h : N a = N b + n) (ha : a.size ≤ 1099511627776) (hb : b.size ≤ 1099511627776) :
    Calls Tryz.prog 145 #[.string a, .string b] w fun e w' => e = .returned (.tuple #[.string (B n), .bool true]) ∧ Below w0.heap.size w0 w' := by
  have := under hB (Sub_yes a b w ha hb (by omega))
  rwa [show N a - N b = n by omega] at this
theorem Sub_not {a b : ByteArray} {w0 w : World} (hB : Below w0.heap.size w0 w) (h : N a < N b) :
    Calls Tryz.prog 145 #[.string a, .string b] w fun e w' => e = .returned (.tuple #[.string ⟨#[]⟩, .bool false]) ∧ Below w0.heap.size w0 w' := under hB (Sub_no a b w h)
theorem Div_to {a b : ByteArray} {w0 w : World} (q r : Nat) (hB : Below w0.heap.size w0 w) (hq : N a / N b = q) (hr : N a % N b = r) (h0 : N b ≠ 0) (ha : a.size ≤ 1099511627776) (hb : b.size ≤ 1099511627776) :
    Calls Tryz.prog 140 #[.string a, .string b] w fun e w' => e = .returned (.tuple #[.string (B q), .string (B r), .bool true]) ∧ Below w0.heap.size w0 w' := by
  subst hq hr; exact under hB (Div_yes a b w ha hb h0)
end Go.Proofs.YtojidhnkpeiimaaGreatDoor

/- Plain facts on digits of base 256, lowest first, and on leading zeros. -/
namespace Go.Proofs.YtojidhnkpeiimaaGreatDoor
def nd : List Nat → Nat
  | [] => 0
  | x :: r => x + 256 * nd r
theorem nd_cons (x : Nat) (r : List Nat) : nd (x :: r) = x + 256 * nd r := rfl
theorem nd_zeros (n : Nat) : nd (List.replicate n 0) = 0 := by
  induction n with
  | zero => rfl
  | succ n ih => rw [List.replicate_succ, nd_cons, ih]
theorem nd_set (l : List Nat) : ∀ (j y : Nat) (h : j < l.length), nd (l.set j y) + l[j] * 256 ^ j = nd l + y * 256 ^ j := by
  induction l with
  | nil => intro j y h; exact absurd h (Nat.not_lt_zero _)
  | cons x r ih =>
    intro j y h
    cases j with
    | zero => simp only [List.set_cons_zero, nd_cons, List.getElem_cons_zero, Nat.pow_zero, Nat.mul_one]; omega
    | succ j =>
      have hj : j < r.length := by simpa using h
      have := ih j y hj
      simp only [List.set_cons_succ, nd_cons, List.getElem_cons_succ, Nat.pow_succ]
      have e1 : r[j] * (256 ^ j * 256) = 256 * (r[j] * 256 ^ j) := by rw [← Nat.mul_assoc, Nat.mul_comm]
      have e2 : y * (256 ^ j * 256) = 256 * (y * 256 ^ j) := by rw [← Nat.mul_assoc, Nat.mul_comm]
      rw [e1, e2]
      omega
def Dig (l : List Nat) : Prop := ∀ x ∈ l, x < 256
theorem dig_zeros (n : Nat) : Dig (List.replicate n 0) := fun x hx => by rw [(List.mem_replicate.1 hx).2]; decide
theorem dig_set {l : List Nat} (h : Dig l) (j y : Nat) (hy : y < 256) : Dig (l.set j y) := fun x hx => by
  rcases List.mem_or_eq_of_mem_set hx with h1 | h1
  · exact h x h1
  · rw [h1]; exact hy
theorem nd_lt (l : List Nat) (h : Dig l) : nd l < 256 ^ l.length := by
  induction l with
  | nil => decide
  | cons x r ih =>
    have h1 := ih fun y hy => h y (List.mem_cons_of_mem _ hy)
    have h2 := h x List.mem_cons_self
    rw [nd_cons, List.length_cons, Nat.pow_succ]
    omega
def rb (l : List Nat) : List UInt8 := l.reverse.map UInt8.ofNat
theorem nb_rb (l : List Nat) (h : Dig l) : nb (rb l) = nd l := by
  induction l with
  | nil => rfl
  | cons x r ih =>
    have h1 := ih fun y hy => h y (List.mem_cons_of_mem _ hy)
    have h2 := h x List.mem_cons_self
    have : rb (x :: r) = rb r ++ [UInt8.ofNat x] := by simp [rb]
    rw [this, nb_snoc, h1, nd_cons]
    have : (UInt8.ofNat x).toNat = x := by simp; omega
    omega
theorem nb_digit (l : List UInt8) (i : Nat) (h : i < l.length) : nb l / 256 ^ i % 256 = (l[l.length - 1 - i]'(by omega)).toNat := by
  have e : l = l.take (l.length - 1 - i) ++ (l[l.length - 1 - i]'(by omega) :: l.drop (l.length - i)) := by
    have h1 := List.take_append_drop (l.length - 1 - i) l
    have h2 : l.drop (l.length - 1 - i) = l[l.length - 1 - i]'(by omega) :: l.drop (l.length - 1 - i + 1) := List.drop_eq_getElem_cons (by omega)
    rw [h2, show l.length - 1 - i + 1 = l.length - i by omega] at h1
    exact h1.symm
  have hl : (l.drop (l.length - i)).length = i := by rw [List.length_drop]; omega
  have hlt := nb_lt (l.drop (l.length - i))
  rw [hl] at hlt
  have hn : nb l = (nb (l.take (l.length - 1 - i)) * 256 + (l[l.length - 1 - i]'(by omega)).toNat) * 256 ^ i + nb (l.drop (l.length - i)) := by
    conv => lhs; rw [e]
    rw [nb_append, nb_cons, List.length_cons, hl, Nat.pow_succ, Nat.add_mul, Nat.mul_assoc, Nat.mul_comm 256 (256 ^ i), Nat.add_assoc]
  generalize (l[l.length - 1 - i]'(by omega)) = c at *
  generalize nb (l.take (l.length - 1 - i)) = p at *
  have hc := c.toNat_lt
  rw [hn, Nat.mul_comm, Nat.mul_add_div (Nat.pow_pos (by decide)), Nat.div_eq_of_lt hlt, Nat.add_zero]
  omega
theorem nb_digit0 (l : List UInt8) (i : Nat) (h : l.length ≤ i) : nb l / 256 ^ i % 256 = 0 := by
  rw [Nat.div_eq_of_lt (Nat.lt_of_lt_of_le (nb_lt l) (Nat.pow_le_pow_right (by decide) h))]
theorem drop_zeros (l : List UInt8) : ∀ k, k ≤ l.length → (l.take k).all (· == 0) = true → (∀ h : k < l.length, l[k] ≠ 0) → l.dropWhile (· == 0) = l.drop k := by
  induction l with
  | nil => intro k _ _ _; simp
  | cons x r ih =>
    intro k hk h0 h1
    cases k with
    | zero =>
      have : x ≠ 0 := h1 (by simp)
      rw [List.dropWhile_cons, if_neg (by simpa using this), List.drop_zero]
    | succ k =>
      simp only [List.take_succ_cons, List.all_cons, Bool.and_eq_true] at h0
      rw [List.dropWhile_cons, if_pos h0.1, List.drop_succ_cons]
      exact ih k (by simpa using hk) h0.2 (fun h => by have := h1 (by simpa using h); simpa using this)
theorem mod_step (n k : Nat) : n % 256 ^ (k + 1) = n % 256 ^ k + 256 ^ k * (n / 256 ^ k % 256) := by
  rw [Nat.pow_succ, Nat.mod_mul]
end Go.Proofs.YtojidhnkpeiimaaGreatDoor

/- The document's answer: Trim, digit and the comparison. -/
namespace Go.Proofs.YtojidhnkpeiimaaGreatDoor
open Go.RowKit
theorem trim_at (s : ByteArray) (k : Nat) (hk : k ≤ s.size) (h0 : (s.data.toList.take k).all (· == 0) = true) (h1 : ∀ h : k < s.size, s[k].toNat ≠ 0) : s.extract k s.size = B (N s) := by
  have e : s.data.toList.dropWhile (· == 0) = s.data.toList.drop k := drop_zeros _ k (by simpa using hk) h0 (fun h hz => h1 (by simpa using h) (by
    have : s[k]'(by simpa using h) = s.data.toList[k] := rfl
    rw [this, hz]; rfl))
  apply ByteArray.ext
  apply Array.toList_inj.1
  rw [B, N, bn_nb, e]
  show (s.extract k s.size).data.toList = _
  rw [ByteArray.data_extract, Array.toList_extract]
  simp [List.take_of_length_le]
set_option maxRecDepth 100000 in
set_option maxHeartbeats 1000000 in
theorem rTrim_any (s : ByteArray) (w : World) (hs : s.size ≤ 140737488355328) :
    Calls Tryz.prog 26 #[.string s] w fun e w' => e = .returned (.string (B (N s))) ∧ w' = w := by
  go_enter Tryz.func26, Tryz.ntmps26
  go_wp2
  go_loop [3] (fun i => ∃ k : Nat, k ≤ s.size ∧ i = .int .i64 k ∧ (s.data.toList.take k).all (· == 0) = true) (fun i => s.size - (intOf i).toNat)
  case atStart => exact ⟨0, Nat.zero_le _, rfl, rfl⟩
  case round =>
    obtain ⟨k, hk, rfl, hall⟩ := hrel
    have HA : Hid ((s.data.toList.take k).all (· == 0) = true) := hall
    clear hall
    by_cases hlt : k < s.size
    · by_cases hc : s[k].toNat = 0
      · have HS : Hid ((s.data.toList.take (k + 1)).all (· == 0) = true) := by
          show _ = _
          rw [take_snoc s k hlt, List.all_append, HA.out]
          have : s[k] = 0 := UInt8.toNat_inj.1 hc
          simp [this]
        go_wp2
        go_round
        case rel => exact ⟨k + 1, by omega, by go_num, HS.out⟩
        case measure => simp [intOf]; omega
      · have HE := hide (trim_at s k hk HA.out fun _ => hc)
        go_wp2
        go_ret
        exact ⟨by rw [← HE.out]; rfl, rfl⟩
    · have HE := hide (trim_at s k hk HA.out fun h => absurd h hlt)
      go_wp2
      go_ret
      exact ⟨by rw [← HE.out]; rfl, rfl⟩
theorem wrap64_small (n : Nat) (h : n < 256) : wrap64 (n : Int) = (n : Int) := by
  rw [wrap64]
  omega
set_option maxRecDepth 100000 in
set_option maxHeartbeats 1000000 in
theorem digit_any (s : ByteArray) (i : Nat) (w : World) (hs : s.size ≤ 140737488355328) (hi : i ≤ 9223372036854775807) :
    Calls Tryz.prog 28 #[.string s, .int .i64 (i : Int)] w fun e w' => e = .returned (.int .i64 ((N s / 256 ^ i % 256 : Nat) : Int)) ∧ w' = w := by
  go_enter Tryz.func28, Tryz.ntmps28
  by_cases hlt : i < s.size
  · have HD : Hid (N s / 256 ^ i % 256 = (s[s.size - 1 - i]'(by omega)).toNat) := by
      show _ = _
      rw [N, nb_digit _ i (by simpa using hlt)]
      simp
      rfl
    have hx : 0 ≤ (s.size : Int) - 1 - i := by omega
    have hw := wrap64_small _ (s[s.size - 1 - i]'(by omega)).toNat_lt
    have HW := hide hw
    clear hw
    go_wp2
    go_ret
    exact ⟨by rw [HD.out]; exact congrArg (fun z => Ending.returned (Value.int .i64 z)) HW.out, rfl⟩
  · have HD : Hid (N s / 256 ^ i % 256 = 0) := nb_digit0 _ i (by simp; omega)
    go_wp2
    go_ret
    exact ⟨by rw [HD.out]; rfl, rfl⟩
def iv (x : Nat) : Value := .int .i64 (x : Int)
def RowI (w : World) (g : Nat) (l : List Nat) : Prop := w.heap[g]? = some (.cells (l.map iv).toArray 3 (0, 0))
theorem RowI.cell {w : World} {g : Nat} {l : List Nat} (h : RowI w g l) (j : Nat) (hj : j < l.length) : w.cell? ⟨g, j, none⟩ = some (.int .i64 (l[j] : Nat)) := by
  rw [cell_of_row w g j _ _ (0, 0) h]
  simp [iv, hj]
theorem RowI.fz {w : World} {g : Nat} {l : List Nat} (h : RowI w g l) (j : Nat) : w.frozen? ⟨g, j, none⟩ = false := frozen_of_row w g j _ _ h
theorem RowI.lt {w : World} {g : Nat} {l : List Nat} (h : RowI w g l) : g < w.heap.size := (Array.getElem?_eq_some_iff.1 h).1
theorem RowI.below {w w' : World} {g b : Nat} {l : List Nat} (h : RowI w g l) (hb : Below b w w') (hg : g < b) : RowI w' g l := (hb.block g hg).trans h
theorem RowI.set {w : World} {g : Nat} {l : List Nat} (h : RowI w g l) (j y : Nat) : RowI (w.setCell ⟨g, j, none⟩ (.int .i64 (y : Int))) g (l.set j y) := by
  have := heap_setCell_same w g j _ _ (.int .i64 (y : Int)) h
  rw [RowI, List.map_set]
  simpa [iv] using this
theorem RowI.drew {w : World} {g : Nat} {l : List Nat} (h : RowI w g l) : RowI w.drew g l := h
def packI (l : List Nat) (k : Nat) : List Int := List.replicate (l.length - k) 0 ++ ((l.take k).reverse.map Int.ofNat)
theorem packI_zero (l : List Nat) : packI l 0 = List.replicate l.length 0 := by simp [packI]
theorem packI_length (l : List Nat) (k : Nat) (hk : k ≤ l.length) : (packI l k).length = l.length := by simp [packI]; omega
theorem packI_set (l : List Nat) (k : Nat) (hk : k < l.length) : (packI l k).set (l.length - 1 - k) (l[k] : Int) = packI l (k + 1) := by
  have h1 : l.length - k = (l.length - 1 - k) + 1 := by omega
  have h2 : List.replicate (l.length - k) (0 : Int) = List.replicate (l.length - 1 - k) 0 ++ [0] := by rw [h1, List.replicate_succ']
  have h3 : l.length - (k + 1) = l.length - 1 - k := by omega
  rw [packI, packI, h2, List.append_assoc, List.set_append_right _ _ (by simp), h3]
  rw [List.length_replicate, Nat.sub_self, List.cons_append, List.nil_append, List.set_cons_zero, List.take_succ_eq_append_getElem hk, List.reverse_append, List.reverse_singleton, List.map_append]
  rfl
theorem packI_all (l : List Nat) : packI l l.length = l.reverse.map Int.ofNat := by simp [packI]
theorem N_pack (l : List Nat) (h : Dig l) : N (strOfNums (l.reverse.map Int.ofNat)) = nd l := by
  rw [N, strOfNums_data, ← nb_rb l h, rb]
  congr 1
  simp [Function.comp_def]
theorem made_ints (n : Nat) : (madeCells (Value.int .i64 0).cells (n * 1)).toList = (List.replicate n (0 : Nat)).map iv := by
  rw [show (Value.int .i64 0).cells = #[Value.int .i64 0] from rfl, toList_madeCells_one, Nat.mul_one, List.map_replicate]; rfl
theorem Tryz.infoInt : (Tryz.prog.info? 3).map (fun i => (i.zero, i.size, i.bytes)) = some (some (.int .i64 0), 1, 8) := by kernel_rfl
set_option maxRecDepth 100000 in
set_option maxHeartbeats 2000000 in
theorem pack_any (g : Nat) (l : List Nat) (w : World) (hd : Dig l) (hlen : l.length ≤ 140737488355328) (h : RowI w g l) :
    Calls Tryz.prog 76 #[.slice (some ⟨g, 0, none⟩) l.length l.length] w fun e w' => e = .returned (.string (B (nd l))) ∧ Below w.heap.size w w' := by
  obtain ⟨i0, hi, hz0, hz1, hz2⟩ := info_parts Tryz.infoByte
  have hglt := h.lt
  have HR0 : Hid (RowI w g l) := h
  have HN : Hid (N (strOfNums (l.reverse.map Int.ofNat)) = nd l) := N_pack l hd
  have HD : Hid (Dig l) := hd
  clear h hd
  go_enter Tryz.func76, Tryz.ntmps76
  go_wp2_with (first
    | (at_make; refine wpList_make_full _ rfl _ _ 66 rfl w.heap.size 5 i0 (.int .u8 0) 1 Tryz.underlying66 hi hz0 hz1 .i64 .i64 _ _ l.length rfl rfl (by omega) (by omega) (by rw [hz2]; omega) (by unfold maxLen; omega) (Nat.le_refl _) ?_; intro w2 hown2 hgrow2))
  have hb2 := block_of_own hown2
  rw [made_bytes, ← packI_zero] at hb2
  have hB2 : Below w.heap.size w w2 := (Below.refl _ w).grown hgrow2 (Nat.le_refl _) (fun k e => by cases e)
  have HI : Hid (w2.heap[w.heap.size]? = some (.cells ((packI l 0).map u8).toArray 5 (0, 0))) := hb2
  clear hown2 hgrow2 hb2
  go_loopw [4] (fun i wr => ∃ k : Nat, k ≤ l.length ∧ i = .int .i64 k ∧ Hid (wr.heap[w.heap.size]? = some (.cells ((packI l k).map u8).toArray 5 (0, 0))) ∧ Below w.heap.size w wr)
    (fun i _ => l.length - (intOf i).toNat)
  case atStart => exact ⟨0, Nat.zero_le _, rfl, HI, hB2⟩
  case round =>
    obtain ⟨k, hk, rfl, HR, hBr⟩ := hrel
    clear HI hB2
    by_cases hlt : k < l.length
    · have hck : wr.cell? ⟨g, k, none⟩ = some (.int .i64 (l[k] : Nat)) := (HR0.out.below hBr hglt).cell k hlt
      have hx := HD.out l[k] (List.getElem_mem hlt)
      have hset := hide (packI_set l k hlt)
      obtain ⟨E, hE⟩ : ∃ E, E = l.length - 1 - k := ⟨_, rfl⟩
      rw [← hE] at hset
      have f1 : (l.length : Int) - 1 - (k : Int) = (E : Int) := by omega
      have f2 : E < l.length := by omega
      have hcd : wr.cell? ⟨w.heap.size, E, none⟩ = some (.int .u8 ((packI l k)[E]?.getD 0)) := by
        rw [cell_of_row wr _ E _ _ (0, 0) HR.out]
        have : E < (packI l k).length := by rw [packI_length l k hk]; exact f2
        simp [Go.Proofs.YtojidhnkpeiimaaGreatDoor.u8, List.getElem?_eq_getElem this]
      have hfz := frozen_of_row wr w.heap.size E _ _ HR.out
      have hput := hide (fun u => heap_setCell_same wr w.heap.size E _ _ u HR.out)
      generalize l[k] = x at *
      generalize (packI l k)[E]?.getD 0 = z at *
      clear hE
      go_wp2
      have hrow := hput.out (.int .u8 (x : Int))
      go_roundw
      case rel =>
        refine ⟨k + 1, by omega, by go_num, ?_, hBr.setCell (Nat.le_refl _) _⟩
        show _ = _
        rw [hrow, ← hset.out, List.map_set]
        simp [Go.Proofs.YtojidhnkpeiimaaGreatDoor.u8]
      case measure => simp [intOf]; omega
    · obtain rfl : k = l.length := by omega
      have hpa := packI_all l
      have hml : (l.reverse.map Int.ofNat).length = l.length := by simp
      have hNm := HN.out
      clear HN HR0 HD
      generalize l.reverse.map Int.ofNat = m at *
      have HN := hide hNm
      clear hNm
      have hconv := run_convert_bytes_arg (P := Tryz.prog) wr 66 5 Tryz.underlying66 Tryz.underlying5 w.heap.size 0 l.length l.length m hml (fun i hi => by
        have e := cell_of_row wr w.heap.size (0 + i) _ _ _ HR.out
        rw [e, hpa]
        have hil : i < m.length := by omega
        simp [Go.Proofs.YtojidhnkpeiimaaGreatDoor.u8, List.getElem?_eq_getElem hil, List.getD_eq_getElem?_getD]) 42 Tryz.underlying42
      clear HR hpa
      have hsz : (strOfNums m).size ≤ 140737488355328 := by
        rw [← bytes_len, strOfNums_data, List.length_map]
        omega
      go_wp2_with (go_at_call 26; refine (rTrim_any _ _ hsz).mono ?_; rintro e w3 ⟨rfl, hw1⟩; subst hw1)
      go_ret
      exact ⟨by rw [HN.out]; rfl, hBr⟩
end Go.Proofs.YtojidhnkpeiimaaGreatDoor

/- The document's answer: NatAdd. -/
namespace Go.Proofs.YtojidhnkpeiimaaGreatDoor
open Go.RowKit
theorem carry_step (v P : Nat) : v % 256 * P + v / 256 * (P * 256) = v * P := by
  have h : v = v / 256 * 256 + v % 256 := by omega
  conv => rhs; rw [h, Nat.add_mul, Nat.mul_assoc, Nat.mul_comm 256 P]
  omega
theorem add_step {A D k c : Nat} {p : List Nat} (hk : k < p.length) (h0 : p[k]?.getD 0 = 0) (h : nd p + c * 256 ^ k = A % 256 ^ k + D % 256 ^ k) :
    nd (p.set k ((c + A / 256 ^ k % 256 + D / 256 ^ k % 256) % 256)) + (c + A / 256 ^ k % 256 + D / 256 ^ k % 256) / 256 * 256 ^ (k + 1) = A % 256 ^ (k + 1) + D % 256 ^ (k + 1) := by
  have s := nd_set p k ((c + A / 256 ^ k % 256 + D / 256 ^ k % 256) % 256) hk
  have h0' : p[k] = 0 := by rwa [List.getElem?_eq_getElem hk] at h0
  rw [h0', Nat.zero_mul, Nat.add_zero] at s
  rw [s, mod_step, mod_step D, Nat.pow_succ]
  have := carry_step (c + A / 256 ^ k % 256 + D / 256 ^ k % 256) (256 ^ k)
  have e : (c + A / 256 ^ k % 256 + D / 256 ^ k % 256) * 256 ^ k = c * 256 ^ k + 256 ^ k * (A / 256 ^ k % 256) + 256 ^ k * (D / 256 ^ k % 256) := by
    rw [Nat.add_mul, Nat.add_mul, Nat.mul_comm (A / 256 ^ k % 256), Nat.mul_comm (D / 256 ^ k % 256)]
  omega
theorem set_getD {p : List Nat} {k y : Nat} (h : ∀ j, k ≤ j → p[j]?.getD 0 = 0) : ∀ j, k + 1 ≤ j → (p.set k y)[j]?.getD 0 = 0 := fun j hj => by
  rw [List.getElem?_set_ne (by omega)]
  exact h j (by omega)
theorem add_end {A D n c : Nat} {p : List Nat} (hA : A < 256 ^ n) (hD : D < 256 ^ n) (h : nd p + c * 256 ^ (n + 1) = A % 256 ^ (n + 1) + D % 256 ^ (n + 1)) : nd p = A + D := by
  have hp : 256 ^ (n + 1) = 256 * 256 ^ n := by rw [Nat.pow_succ, Nat.mul_comm]
  rw [Nat.mod_eq_of_lt (by omega), Nat.mod_eq_of_lt (by omega)] at h
  have hc : c = 0 := by
    rcases Nat.eq_zero_or_pos c with h0 | h0
    · exact h0
    · have : 1 * 256 ^ (n + 1) ≤ c * 256 ^ (n + 1) := Nat.mul_le_mul_right _ h0
      omega
  rw [hc] at h
  omega
theorem N_lt (s : ByteArray) : N s < 256 ^ s.size := by
  have := nb_lt s.data.toList
  rwa [bytes_len] at this
set_option maxRecDepth 100000 in
set_option maxHeartbeats 2000000 in
theorem rAdd_any (a b : ByteArray) (w : World) (ha : a.size ≤ 1000000) (hb : b.size ≤ 1000000) :
    Calls Tryz.prog 53 #[.string a, .string b] w fun e w' => e = .returned (.string (B (N a + N b))) ∧ Below w.heap.size w w' := by
  obtain ⟨i0, hi, hz0, hz1, hz2⟩ := info_parts Tryz.infoInt
  obtain ⟨n, hn⟩ : ∃ n, n = max a.size b.size := ⟨_, rfl⟩
  have hna : a.size ≤ n := by omega
  have hnb : b.size ≤ n := by omega
  have hn1 : n ≤ 1000000 := by omega
  have hcase : (b.size ≤ a.size ∧ a.size = n) ∨ (a.size < b.size ∧ b.size = n) := by omega
  clear hn
  have HLA : Hid (N a < 256 ^ n) := Nat.lt_of_lt_of_le (N_lt a) (Nat.pow_le_pow_right (by decide) hna)
  have HLB : Hid (N b < 256 ^ n) := Nat.lt_of_lt_of_le (N_lt b) (Nat.pow_le_pow_right (by decide) hnb)
  have HDA := hide (fun (k : Nat) (V : World) (h : k ≤ 9223372036854775807) => digit_any a k V (by omega) h)
  have HDB := hide (fun (k : Nat) (V : World) (h : k ≤ 9223372036854775807) => digit_any b k V (by omega) h)
  generalize hA : N a = A at *
  generalize hD : N b = D at *
  clear hA hD
  go_enter Tryz.func53, Tryz.ntmps53
  rcases hcase with ⟨hc1, hc2⟩ | ⟨hc1, hc2⟩
  all_goals
    go_wp2_with (first
      | (at_make; refine wpList_make_full _ rfl _ _ 22 rfl w.heap.size 3 i0 (.int .i64 0) 1 Tryz.underlying22 hi hz0 hz1 .i64 .i64 _ _ (n + 1) rfl rfl (by go_num) (by go_num) (by rw [hz2]; omega) (by unfold maxLen; omega) (Nat.le_refl _) ?_; intro w2 hown2 hgrow2))
    have hb2 := block_of_own hown2
    rw [made_ints] at hb2
    have hB2 : Below w.heap.size w w2 := (Below.refl _ w).grown hgrow2 (Nat.le_refl _) (fun k e => by cases e)
    have HI : Hid (RowI w2 w.heap.size (List.replicate (n + 1) 0)) := hb2
    clear hown2 hgrow2 hb2 hc1 hc2
    go_loopw [7, 8] (fun cv iv wr => ∃ (k c : Nat) (p : List Nat), k ≤ n + 1 ∧ iv = .int .i64 k ∧ cv = .int .i64 c ∧ c ≤ 1 ∧ p.length = n + 1 ∧ Hid (Dig p) ∧ Hid (∀ j, k ≤ j → p[j]?.getD 0 = 0) ∧ Hid (nd p + c * 256 ^ k = A % 256 ^ k + D % 256 ^ k) ∧ Hid (RowI wr w.heap.size p) ∧ Below w.heap.size w wr)
      (fun _ i _ => n + 1 - (intOf i).toNat)
    case atStart => exact ⟨0, 0, List.replicate (n + 1) 0, Nat.zero_le _, rfl, rfl, Nat.zero_le _, by simp, dig_zeros _, (fun j _ => by rw [List.getElem?_replicate]; split <;> rfl), (show _ = _ by rw [nd_zeros]; simp [Nat.mod_one]), HI, hB2⟩
    case round =>
      obtain ⟨k, c, p, hk, rfl, rfl, hc, hpl, HDg, HZ, HE, HR, hBr⟩ := hrel
      clear HI hB2
      by_cases hlt : k < n + 1
      · have hkp : k < p.length := by omega
        have hstep := hide (add_step hkp (HZ.out k (Nat.le_refl _)) HE.out)
        have HX := hide (fun V => HDA.out k V (by omega))
        have HY := hide (fun V => HDB.out k V (by omega))
        have hx : A / 256 ^ k % 256 < 256 := Nat.mod_lt _ (by decide)
        have hy : D / 256 ^ k % 256 < 256 := Nat.mod_lt _ (by decide)
        generalize A / 256 ^ k % 256 = x at *
        generalize D / 256 ^ k % 256 = y at *
        have hcell := HR.out.cell k hkp
        have hfz := HR.out.fz k
        have hset := hide (fun z => HR.out.set k z)
        generalize p[k] = pk at *
        clear HE
        go_wp2_with (first
          | (have hdone := hx1; go_at_call 28; refine (HY.out _).mono ?_; rintro e w3 ⟨rfl, hw3⟩; subst hw3)
          | (go_at_call 28; refine (HX.out _).mono ?_; rintro e w3 ⟨rfl, hw3⟩; subst hw3; have hx1 : True := trivial))
        have hv : Value.int .i64 (((c : Int) + (x : Int) + (y : Int)) % 256) = .int .i64 (((c + x + y) % 256 : Nat) : Int) := int_eq (by omega)
        have hv2 : Value.int .i64 (((c : Int) + (x : Int) + (y : Int)) / 256) = .int .i64 (((c + x + y) / 256 : Nat) : Int) := int_eq (by omega)
        rw [hv, hv2]
        go_roundw
        case rel => exact ⟨k + 1, (c + x + y) / 256, p.set k ((c + x + y) % 256), by omega, by go_num, rfl, by omega, by rw [List.length_set]; exact hpl, dig_set HDg.out _ _ (Nat.mod_lt _ (by decide)), set_getD HZ.out, hstep.out, hset.out _, hBr.setCell (Nat.le_refl _) _⟩
        case measure => simp [intOf]; omega
      · obtain rfl : k = n + 1 := by omega
        have hpk := pack_any w.heap.size p wr HDg.out (by omega) HR.out
        rw [hpl, add_end HLA.out HLB.out HE.out] at hpk
        have HPK := hide hpk
        clear hpk
        go_wp2_with (go_at_call 76; refine (HPK.out).mono ?_; rintro e w3 ⟨rfl, hb3⟩)
        go_ret
        exact ⟨rfl, hBr.trans (hb3.mono hBr.size)⟩
theorem below_dr {b : Nat} {v u : World} (h : Below b v u) (k : Nat) : Below b v (u.drewN k) := ⟨h.os, h.tape, h.output, h.size, h.block⟩
theorem lt_of_digit (a b : ByteArray) (k : Nat) (ha : k < a.size) (hb : k < b.size) (hl : a.size = b.size) (hp : a.data.toList.take k = b.data.toList.take k) (h : a[k].toNat < b[k].toNat) : N a < N b := by
  have ea : a.data.toList = a.data.toList.take k ++ (a[k] :: a.data.toList.drop (k + 1)) := by
    have hd : a.data.toList.drop k = a[k] :: a.data.toList.drop (k + 1) := List.drop_eq_getElem_cons (l := a.data.toList) (i := k) (by simpa using ha)
    rw [← hd, List.take_append_drop]
  have eb : b.data.toList = b.data.toList.take k ++ (b[k] :: b.data.toList.drop (k + 1)) := by
    have hd : b.data.toList.drop k = b[k] :: b.data.toList.drop (k + 1) := List.drop_eq_getElem_cons (l := b.data.toList) (i := k) (by simpa using hb)
    rw [← hd, List.take_append_drop]
  rw [N, N, ea, eb, hp, nb_append, nb_append, nb_cons, nb_cons]
  have l1 : (a.data.toList.drop (k + 1)).length = a.size - (k + 1) := by rw [List.length_drop, bytes_len]
  have l2 : (b.data.toList.drop (k + 1)).length = a.size - (k + 1) := by rw [List.length_drop, bytes_len, hl]
  have b1 := nb_lt (a.data.toList.drop (k + 1))
  rw [l1] at b1
  rw [List.length_cons, List.length_cons, l1, l2]
  have hm : (a[k].toNat + 1) * 256 ^ (a.size - (k + 1)) ≤ b[k].toNat * 256 ^ (a.size - (k + 1)) := Nat.mul_le_mul_right _ h
  rw [Nat.add_mul, Nat.one_mul] at hm
  omega
theorem lt_of_size {m n : Nat} (h : (B m).size < (B n).size) : m < n := by
  rcases Nat.lt_or_ge m n with h1 | h1
  · exact h1
  · have := sz_mono h1; omega
theorem cmpI_lt {m n : Nat} (h : m < n) : cmpI m n = -1 := if_pos h
theorem cmpI_gt {m n : Nat} (h : n < m) : cmpI m n = 1 := by rw [cmpI, if_neg (by omega), if_neg (by omega)]
theorem cmpI_eq {m n : Nat} (h : m = n) : cmpI m n = 0 := by rw [cmpI, if_neg (by omega), if_pos h]
theorem eq_of_all {m n : Nat} (hl : (B m).size = (B n).size) (hp : (B m).data.toList.take (B m).size = (B n).data.toList.take (B m).size) : m = n := by
  rw [List.take_of_length_le (by rw [bytes_len]; exact Nat.le_refl _), List.take_of_length_le (by rw [bytes_len, hl]; exact Nat.le_refl _)] at hp
  exact B_inj (ByteArray.ext (Array.toList_inj.1 hp))
set_option maxRecDepth 100000 in
set_option maxHeartbeats 2000000 in
theorem rCmp_any (a b : ByteArray) (w : World) (ha : a.size ≤ 1000000) (hb : b.size ≤ 1000000) :
    Calls Tryz.prog 75 #[.string a, .string b] w fun e w' => e = .returned (.int .i64 (cmpI (N a) (N b))) ∧ Below w.heap.size w w' := by
  have HTA := hide (rTrim_any a w (by omega))
  have HTB := hide (rTrim_any b w (by omega))
  have sa := Nat.le_trans (B_size_le a) ha
  have sb := Nat.le_trans (B_size_le b) hb
  have HL1 := hide (fun h => cmpI_lt (lt_of_size (m := N a) (n := N b) h))
  have HL2 := hide (fun h => cmpI_gt (lt_of_size (m := N b) (n := N a) h))
  have HL3 := hide (fun hl hp => cmpI_eq (eq_of_all (m := N a) (n := N b) hl hp))
  have HL4 := hide (fun k h1 h2 hl hp h => cmpI_lt (m := N a) (n := N b) (by have := lt_of_digit (B (N a)) (B (N b)) k h1 h2 hl hp h; rwa [N_B, N_B] at this))
  have HL5 := hide (fun k h1 h2 hl hp h => cmpI_gt (m := N a) (n := N b) (by have := lt_of_digit (B (N b)) (B (N a)) k h1 h2 hl hp h; rwa [N_B, N_B] at this))
  generalize cmpI (N a) (N b) = r at *
  generalize B (N a) = x at *
  generalize B (N b) = y at *
  go_enter Tryz.func75, Tryz.ntmps75
  go_wp2_with fail
  refine (HTA.out).mono ?_
  rintro e w1 ⟨rfl, hw⟩
  subst hw
  go_wp2_with fail
  refine (HTB.out).mono ?_
  rintro e w1 ⟨rfl, hw⟩
  subst hw
  clear HTA HTB
  rcases (show x.size < y.size ∨ y.size < x.size ∨ x.size = y.size by omega) with hs | hs | hs
  · go_wp2
    go_ret
    exact ⟨by rw [HL1.out hs]; rfl, Below.refl _ _⟩
  · go_wp2
    go_ret
    exact ⟨by rw [HL2.out hs]; rfl, Below.refl _ _⟩
  · clear HL1 HL2
    go_wp2
    go_loopw [5] (fun i wr => ∃ k : Nat, k ≤ x.size ∧ i = .int .i64 k ∧ Hid (x.data.toList.take k = y.data.toList.take k) ∧ Below w1.heap.size w1 wr) (fun i _ => x.size - (intOf i).toNat)
    case atStart => exact ⟨0, Nat.zero_le _, rfl, rfl, Below.refl _ _⟩
    case round =>
      obtain ⟨k, hk, rfl, HP, hBr⟩ := hrel
      by_cases hlt : k < x.size
      · have hlt' : k < y.size := by omega
        rcases (show x[k].toNat < y[k].toNat ∨ y[k].toNat < x[k].toNat ∨ x[k].toNat = y[k].toNat by omega) with hc | hc | hc
        · have HF := hide (HL4.out k hlt hlt' hs HP.out hc)
          go_wp2_with fail
          go_quiet (fail)
          go_wp2
          go_ret
          exact ⟨by rw [HF.out]; rfl, below_dr hBr _⟩
        · have HF := hide (HL5.out k hlt' hlt hs.symm HP.out.symm hc)
          go_wp2_with fail
          go_quiet (fail)
          go_wp2_with fail
          go_quiet (fail)
          go_wp2
          go_ret
          exact ⟨by rw [HF.out]; rfl, below_dr (below_dr hBr _) _⟩
        · have HS : Hid (x.data.toList.take (k + 1) = y.data.toList.take (k + 1)) := by
            show _ = _
            rw [take_snoc x k hlt, take_snoc y k hlt', HP.out, UInt8.toNat_inj.1 hc]
          go_wp2_with fail
          go_quiet (fail)
          go_wp2_with fail
          go_quiet (fail)
          go_wp2
          go_roundw
          case rel => exact ⟨k + 1, by omega, by go_num, HS.out, below_dr hBr _⟩
          case measure => simp [intOf]; omega
      · obtain rfl : k = x.size := by omega
        have HF := hide (HL3.out hs HP.out)
        go_wp2
        go_ret
        exact ⟨by rw [HF.out]; rfl, hBr⟩
end Go.Proofs.YtojidhnkpeiimaaGreatDoor
