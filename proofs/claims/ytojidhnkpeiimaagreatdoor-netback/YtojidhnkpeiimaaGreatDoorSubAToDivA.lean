/- nat.Sub. -/
import Derived.Test.YtojidhnkpeiimaaGreatDoorNumDToReckC
import Derived.Deep.QuietTactic
import Derived.BigQuiet
import Derived.Lib.BitFns
namespace Go.Proofs.YtojidhnkpeiimaaGreatDoor
open Go.RowKit
theorem words_mono {m n : Nat} (h : m ≤ n) : (words m).length ≤ (words n).length := by
  rw [words_length, words_length]
  have := bn_length_mono h
  omega
set_option maxHeartbeats 1000000 in
theorem Sub_no (a b : ByteArray) (w : World) (h : N a < N b) :
    Calls Tryz.prog 145 #[.string a, .string b] w fun e w' => e = .returned (.tuple #[.string ⟨#[]⟩, .bool false]) ∧ Below w.heap.size w w' := by
  have hc : cmpI (N a) (N b) = -1 := by rw [cmpI, if_pos h]
  have hC := fun V => Cmp_any a b V
  simp only [hc] at hC
  have HC := hide hC
  clear hC hc
  go_enter Tryz.func145, Tryz.ntmps145
  go_wp2_with fail
  refine (HC.out _).mono ?_
  rintro e w1 ⟨rfl, hw⟩
  subst hw
  go_wp2
  go_ret2
  exact ⟨rfl, Below.refl _ _⟩
set_option maxRecDepth 100000 in
set_option maxHeartbeats 2000000 in
theorem Sub_yes (a b : ByteArray) (w : World) (ha : a.size ≤ 1099511627776) (hb : b.size ≤ 1099511627776) (h : N b ≤ N a) :
    Calls Tryz.prog 145 #[.string a, .string b] w fun e w' => e = .returned (.tuple #[.string (B (N a - N b)), .bool true]) ∧ Below w.heap.size w w' := by
  have hc : 0 ≤ cmpI (N a) (N b) := by
    rw [cmpI, if_neg (by omega)]
    split <;> omega
  have hC := fun V => Cmp_any a b V
  generalize cmpI (N a) (N b) = ci at *
  have HC := hide hC
  clear hC
  have hla := words_len_le a 274877906944 (by omega)
  have hlb := words_len_le b 274877906944 (by omega)
  go_enter Tryz.func145, Tryz.ntmps145
  go_wp2_with fail
  refine (HC.out _).mono ?_
  rintro e w0 ⟨rfl, hw⟩
  subst hw
  go_wp2_with fail
  refine (spread_some a _ (by omega)).mono ?_
  rintro e w1 ⟨g1, c1, rfl, h1, hb1⟩
  go_wp2_with fail
  refine (spread_some b _ (by omega)).mono ?_
  rintro e w2 ⟨g2, c2, rfl, h2, hb2⟩
  have hl1 := has_lies h1 hb2
  have hl2 := has_lies h2 (Below.refl _ _)
  have h12 := h1.below hb2 (Nat.le_refl _)
  have hg1 : g1 < w1.heap.size := (has_lies h1 (Below.refl _ _)).lt
  have hg2 : w1.heap.size ≤ g2 := by
    rcases h2.cases with ⟨e, _⟩ | ⟨g', cap', e, _, hbg, _⟩
    · cases e
    · cases e; exact hbg
  have hg0 : w0.heap.size ≤ g1 := by
    rcases h1.cases with ⟨e, _⟩ | ⟨g', cap', e, _, hbg, _⟩
    · cases e
    · cases e; exact hbg
  have hB2 : Below w0.heap.size w0 w2 := hb1.trans (hb2.mono hb1.size)
  go_wp2_with fail
  refine (takeTimes_any g1 0 c1 g2 0 c2 _ _ 1 _ (words_small _) (words_small _) (by decide) (by omega) (words_mono h) hl1 hl2 (by omega)).mono ?_
  rintro e w3 ⟨s, l, rfl, hll, hsm, hn, hlies, hu⟩
  have hs0 : s = 0 := by
    have hlt := nw_lt l hsm
    rw [hll] at hlt
    rw [nw_words, nw_words] at hn
    rcases Nat.eq_zero_or_pos s with e | e
    · exact e
    · have : W ^ (words (N a)).length * 1 ≤ W ^ (words (N a)).length * s := Nat.mul_le_mul_left _ e
      omega
  have HN : Hid (nw l = N a - N b) := by
    show _ = _
    rw [nw_words, nw_words, hs0] at hn
    omega
  have hH := h12.upd hu hlies hll
  have hB3 : Below w0.heap.size w0 w3 := Upd.below hB2 hu hg0 hB2.size
  have HLL := hide hll
  clear hn hll hl1 hl2 h12 hlies hu h1 h2 hs0
  go_wp2_with fail
  refine (gather_own _ _ _ _ hsm (by rw [HLL.out]; omega) hH).mono ?_
  rintro e w4 ⟨rfl, hb4⟩
  go_wp2
  go_ret2
  exact ⟨by rw [HN.out]; rfl, hB3.trans (hb4.mono hB3.size)⟩
end Go.Proofs.YtojidhnkpeiimaaGreatDoor

/- Plain facts on long multiplication. -/
namespace Go.Proofs.YtojidhnkpeiimaaGreatDoor
def rowF (x : Nat) (ys p : List Nat) (i j : Nat) : Nat := x * ys[j]?.getD 0 + p[i + j]?.getD 0
theorem rowF_carry (x : Nat) (ys p : List Nat) (i : Nat) (hx : x < W) (hy : Small ys) (hp : Small p) (k : Nat) : (acc (rowF x ys p i) k).2 < W := by
  have h := acc_carry (rowF x ys p i) (W - 1) k fun j _ => by
    have h1 := getD_lt hy j
    have h2 := getD_lt hp (i + j)
    have h3 : x * ys[j]?.getD 0 ≤ (W - 1) * (W - 1) := Nat.mul_le_mul (by omega) (by omega)
    have h4 : (W - 1) * (W - 1) + W + W ≤ W * W + 1 := by decide
    unfold rowF
    rw [Nat.sub_add_cancel W_pos]
    omega
  have := W_pos
  omega
theorem rowF_nw (x : Nat) (ys p : List Nat) (i : Nat) : nwF (rowF x ys p i) ys.length = x * nw ys + nw ((p.drop i).take ys.length) := by
  rw [show rowF x ys p i = fun j => (fun j => x * (fun j => ys[j]?.getD 0) j) j + (fun j => p[i + j]?.getD 0) j from rfl, nwF_add, nwF_mul, nwF_list ys _ (Nat.le_refl _)]
  congr 1
  rw [← nwF_take]
  exact nwF_congr fun j _ => by rw [List.getElem?_drop]
def mulRow (x : Nat) (ys p : List Nat) (i : Nat) : List Nat := p.take i ++ ((acc (rowF x ys p i) ys.length).1 ++ [(acc (rowF x ys p i) ys.length).2]) ++ p.drop (i + (ys.length + 1))
theorem nw_drop_zero (p : List Nat) (k : Nat) (h : ∀ j, k ≤ j → p[j]?.getD 0 = 0) : nw (p.drop k) = 0 := by
  have : p.drop k = List.replicate (p.drop k).length 0 := by
    apply List.ext_getElem
    · simp
    · intro j h1 h2
      have := h (k + j) (by omega)
      rw [List.length_drop] at h1
      rw [List.getElem?_eq_getElem (by omega)] at this
      simpa using this
  rw [this, nw_zeros]
theorem mulRow_spec (x : Nat) (ys p : List Nat) (i : Nat) (hx : x < W) (hy : Small ys) (hp : Small p) (hi : i + ys.length < p.length) (hz : ∀ j, i + ys.length ≤ j → p[j]?.getD 0 = 0) :
    (mulRow x ys p i).length = p.length ∧ Small (mulRow x ys p i) ∧ nw (mulRow x ys p i) = nw p + W ^ i * (x * nw ys) ∧ ∀ j, i + 1 + ys.length ≤ j → (mulRow x ys p i)[j]?.getD 0 = 0 := by
  have hl := acc_length (rowF x ys p i) ys.length
  have hti : (p.take i).length = i := by rw [List.length_take]; omega
  have hmid : (p.take i ++ ((acc (rowF x ys p i) ys.length).1 ++ [(acc (rowF x ys p i) ys.length).2])).length = i + (ys.length + 1) := by
    rw [List.length_append, List.length_append, hti, hl]; rfl
  refine ⟨?_, ?_, ?_, ?_⟩
  · rw [mulRow, List.length_append, hmid, List.length_drop]; omega
  · refine small_append (small_append (small_take hp i) (small_append (acc_small _ _) ?_)) (small_drop hp _)
    intro z hz'
    simp only [List.mem_singleton] at hz'
    subst hz'
    exact rowF_carry x ys p i hx hy hp _
  · have e1 := acc_eq (rowF x ys p i) ys.length
    rw [rowF_nw] at e1
    have e2 := nw_cut_le p i (by omega)
    have e3 := nw_cut_le (p.drop i) ys.length (by rw [List.length_drop]; omega)
    rw [List.drop_drop, nw_drop_zero p (i + ys.length) hz, Nat.mul_zero, Nat.add_zero] at e3
    have e4 := nw_drop_zero p (i + (ys.length + 1)) (fun j hj => hz j (by omega))
    rw [mulRow, nw_append, e4, Nat.mul_zero, Nat.add_zero, nw_append, hti, nw_snoc, hl, e1, e2, e3, Nat.mul_add]
    omega
  · intro j hj
    rw [mulRow, List.getElem?_append_right (by omega), hmid, List.getElem?_drop]
    exact hz _ (by omega)
end Go.Proofs.YtojidhnkpeiimaaGreatDoor

/- times of package nat, and nat.Mul. -/
namespace Go.Proofs.YtojidhnkpeiimaaGreatDoor
open Go.RowKit
theorem Upd.drewN {g off n : Nat} {a b : World} (h : Upd g off n a b) (k : Nat) : Upd g off n a (b.drewN k) := ⟨⟨h.grown.os, h.grown.tape, h.grown.output, h.grown.size, h.grown.block⟩, h.inside⟩
theorem Lies.drewN {w : World} {g off : Nat} {l : List Nat} (h : Lies w g off l) (k : Nat) : Lies (w.drewN k) g off l := h
set_option maxRecDepth 100000 in
set_option maxHeartbeats 4000000 in
theorem times_any (gx capx gy capy : Nat) (xs ys : List Nat) (w : World) (hsx : Small xs) (hsy : Small ys) (hlx : xs.length ≤ 8796093022208) (hly : ys.length ≤ 8796093022208) (hx : Lies w gx 0 xs) (hy : Lies w gy 0 ys) :
    Calls Tryz.prog 174 #[.slice (some ⟨gx, 0, none⟩) xs.length capx, .slice (some ⟨gy, 0, none⟩) ys.length capy] w fun e w' => ∃ v l, e = .returned v ∧ Has w' w.heap.size v l ∧ Small l ∧ l.length = xs.length + ys.length ∧ nw l = nw xs * nw ys ∧ Below w.heap.size w w' := by
  obtain ⟨i0, hi, hz0, hz1, hz2⟩ := info_parts Tryz.infoU32
  have hgx := hx.lt
  have hgy := hy.lt
  go_enter Tryz.func174, Tryz.ntmps174
  go_wp2_with (first
    | (at_make; refine wpList_make_full _ rfl _ _ 147 rfl w.heap.size 135 i0 (.int .u32 0) 1 Tryz.underlying147 hi hz0 hz1 .i64 .i64 _ _ (xs.length + ys.length) rfl rfl (by omega) (by omega) (by rw [hz2]; omega) (by unfold maxLen; omega) (Nat.le_refl _) ?_; intro w2 hown2 hgrow2; have hb2 := block_of_own hown2; rw [made_u32] at hb2; have HB2 := hide hb2; have hB2 : Below w.heap.size w w2 := (Below.refl _ w).grown hgrow2 (Nat.le_refl _) (fun k e => by cases e); have hx2 := hx.below hB2 hgx; have hy2 := hy.below hB2 hgy; clear hown2 hgrow2 hb2))
  have hl2 := lies_of_block HB2.out
  go_loopw [17] (fun i wr => ∃ (k : Nat) (p : List Nat), k ≤ xs.length ∧ i = .int .i64 k ∧ p.length = xs.length + ys.length ∧ Small p ∧ Hid (nw p = nw (xs.take k) * nw ys) ∧ Hid (∀ j, k + ys.length ≤ j → p[j]?.getD 0 = 0) ∧ Lies wr w.heap.size 0 p ∧ Upd w.heap.size 0 (xs.length + ys.length) w2 wr)
    (fun i _ => xs.length - (intOf i).toNat)
  case atStart => exact ⟨0, _, Nat.zero_le _, rfl, by simp, small_zeros _, by show _ = _; rw [nw_zeros]; simp [nw_nil], fun j _ => by rw [List.getElem?_replicate]; split <;> rfl, hl2, Upd.refl _ _ _ _⟩
  case round =>
    obtain ⟨k, p, hk, rfl, hpl, hps, hpn, hpz, hlr, hur⟩ := hrel
    obtain ⟨wo, rfl⟩ : ∃ wo : World, wo = wr := ⟨_, rfl⟩
    by_cases hlt : k < xs.length
    · have hcx := fun V (hV : Upd w.heap.size 0 (xs.length + ys.length) w2 V) => (hx2.apart hV (by omega)).cell k hlt
      have hxk := getD_lt hsx k
      have hspec := mulRow_spec (xs[k]?.getD 0) ys p k hxk hsy hps (by omega) hpz.out
      have HX : Hid (nw (xs.take (k + 1)) = nw (xs.take k) + W ^ k * xs[k]?.getD 0) := by
        show _ = _
        rw [nw_take_succ xs k hlt, List.getElem?_eq_getElem hlt]; rfl
      generalize xs[k]?.getD 0 = x at *
      have HXC := hide hcx
      have HSP := hide hspec
      have hfr : Lies wo w.heap.size 0 (p.take k ++ (acc (rowF x ys p k) 0).1 ++ p.drop (k + 0)) := by simpa [acc] using hlr
      clear hcx hspec
      go_wp2
      go_loopw [7, 22] (fun c j wr => ∃ m : Nat, m ≤ ys.length ∧ j = .int .i64 m ∧ c = .int .u64 ((acc (rowF x ys p k) m).2 : Nat) ∧ Lies wr w.heap.size 0 (p.take k ++ (acc (rowF x ys p k) m).1 ++ p.drop (k + m)) ∧ Upd w.heap.size 0 (xs.length + ys.length) w2 wr)
        (fun _ j _ => ys.length - (intOf j).toNat)
      case atStart => exact ⟨0, Nat.zero_le _, rfl, rfl, hfr, hur⟩
      case round =>
        obtain ⟨m, hm, rfl, rfl, hlr2, hur2⟩ := hrel
        have hcy := rowF_carry x ys p k hxk hsy hps m
        have hql := acc_length (rowF x ys p k) m
        have htk : (p.take k).length = k := by rw [List.length_take]; omega
        rw [W_eq] at hcy
        by_cases hmt : m < ys.length
        · have hlen2 : k + m < (p.take k ++ (acc (rowF x ys p k) m).1 ++ p.drop (k + m)).length := by rw [List.length_append, List.length_append, htk, hql, List.length_drop]; omega
          have hcell := hlr2.cell (k + m) hlen2
          have hfz := hlr2.frozen (k + m)
          rw [seg_get _ _ _ k m htk hql, Nat.zero_add] at hcell
          have hset := fun z n => (hlr2.drewN n).set (k + m) hlen2 z
          simp only [seg_set _ _ p k m _ htk hql (by omega), Nat.zero_add] at hset
          have hcxk := HXC.out wr hur2
          rw [Nat.zero_add] at hcxk
          have hcyk := (hy2.apart hur2 (by omega)).cell m hmt
          rw [Nat.zero_add] at hcyk
          have hyk := getD_lt hsy m
          have hpk := getD_lt hps (k + m)
          have HG : Hid (acc (rowF x ys p k) (m + 1) = ((acc (rowF x ys p k) m).1 ++ [((acc (rowF x ys p k) m).2 + rowF x ys p k m) % W], ((acc (rowF x ys p k) m).2 + rowF x ys p k m) / W)) := rfl
          have HF : Hid (rowF x ys p k m = x * ys[m]?.getD 0 + p[k + m]?.getD 0) := rfl
          have hprod : x * ys[m]?.getD 0 ≤ 4294967295 * 4294967295 := Nat.mul_le_mul (by rw [W_eq] at hxk; omega) (by rw [W_eq] at hyk; omega)
          rw [W_eq] at hyk hpk
          have hx32 : x < 4294967296 := hxk
          generalize (acc (rowF x ys p k) m).2 = c at *
          generalize (acc (rowF x ys p k) m).1 = q at *
          generalize rowF x ys p k m = s at *
          generalize ys[m]?.getD 0 = y at *
          generalize p[k + m]?.getD 0 = z at *
          have hp1 : (x : Int) * (y : Int) ≤ 18446744065119617025 := by rw [← Int.natCast_mul]; omega
          have hp0 : 0 ≤ (x : Int) * (y : Int) := by rw [← Int.natCast_mul]; omega
          have hkI : (k : Int) < (xs.length : Int) := by omega
          have hmI : (m : Int) < (ys.length : Int) := by omega
          have hkmI : (k : Int) + (m : Int) < (xs.length : Int) + (ys.length : Int) := by omega
          have hkmT : ((k : Int) + (m : Int)).toNat = k + m := by omega
          have HSET := hide hset
          clear hset hlen2 hlr2 hprod
          go_wp2_with fail
          go_quiet (fail)
          go_wp2
          have hv : Value.int .u32 (((c : Int) + ((x : Int) * (y : Int) + (z : Int))) % 4294967296) = .int .u32 (((c + s) % W : Nat) : Int) := int_eq (by rw [W_eq, HF.out, Int.natCast_emod, Int.natCast_add, Int.natCast_add, Int.natCast_mul]; rfl)
          have hv2 : Value.int .u64 (((c : Int) + ((x : Int) * (y : Int) + (z : Int))) / 4294967296) = .int .u64 (((c + s) / W : Nat) : Int) := int_eq (by rw [W_eq, HF.out, Int.natCast_ediv, Int.natCast_add, Int.natCast_add, Int.natCast_mul]; rfl)
          rw [hv, hv2]
          have hq := HSET.out ((c + s) % W) nq
          go_roundw
          case rel => exact ⟨m + 1, by omega, by go_num, by rw [HG.out], by rw [HG.out]; exact hq, (hur2.drewN nq).trans (Upd.setCell (Nat.zero_le _) (by omega) _)⟩
          case measure => simp [intOf]; omega
        · obtain rfl : m = ys.length := by omega
          have hlen2 : k + ys.length < (p.take k ++ (acc (rowF x ys p k) ys.length).1 ++ p.drop (k + ys.length)).length := by rw [List.length_append, List.length_append, htk, hql, List.length_drop]; omega
          have hcell := hlr2.cell (k + ys.length) hlen2
          have hfz := hlr2.frozen (k + ys.length)
          rw [Nat.zero_add] at hcell
          have hset := hlr2.set (k + ys.length) hlen2 (acc (rowF x ys p k) ys.length).2
          rw [seg_set _ _ p k ys.length _ htk hql (by omega), Nat.zero_add] at hset
          change Lies _ _ _ (mulRow x ys p k) at hset
          have HSET := hide hset
          have hkT : ((k : Int) + (ys.length : Int)).toNat = k + ys.length := by omega
          generalize (p.take k ++ (acc (rowF x ys p k) ys.length).1 ++ p.drop (k + ys.length))[k + ys.length]?.getD 0 = old at *
          generalize (acc (rowF x ys p k) ys.length).2 = c at *
          obtain ⟨s1, s2, s3, s4⟩ := HSP.out
          have HS3 : Hid (nw (mulRow x ys p k) = nw (xs.take (k + 1)) * nw ys) := by
            show _ = _
            rw [s3, hpn.out, HX.out, Nat.add_mul, Nat.mul_assoc]
          have HS1 := hide s1
          have HS2 := hide s2
          have HS4 := hide s4
          generalize mulRow x ys p k = p2 at *
          clear hset hlen2 hlr2 HSP s1 s2 s3 s4 HX hfr hlr
          go_wp2
          go_roundw
          case rel => exact ⟨k + 1, p2, by omega, by go_num, by rw [HS1.out, hpl], HS2.out, HS3, fun j hj => HS4.out j (by omega), HSET.out, hur2.trans (Upd.setCell (Nat.zero_le _) (by omega) _)⟩
          case measure => simp [intOf]; omega
    · obtain rfl : k = xs.length := by omega
      obtain ⟨cur, hc4, hcs, _⟩ := hur.inside _ HB2.out
      have hown4 := own_of_lies (base := w.heap.size) (cap := xs.length + ys.length) cur hc4 (by rw [hcs]; simp) (Nat.le_refl _) (by unfold maxLen; omega) (by omega) hlr
      have hB4 : Below w.heap.size w wo := Upd.below hB2 hur (Nat.le_refl _) hB2.size
      have HPL := hide hpl
      rw [hpl] at hown4
      clear hpl hc4 hcs hlr hur
      go_wp2
      go_ret
      exact ⟨_, p, rfl, by rw [Has, HPL.out]; exact hown4, hps, HPL.out, by have := hpn.out; rwa [List.take_length] at this, hB4⟩
set_option maxRecDepth 100000 in
set_option maxHeartbeats 1000000 in
theorem Mul_any (a b : ByteArray) (w : World) (ha : a.size ≤ 1099511627776) (hb : b.size ≤ 1099511627776) :
    Calls Tryz.prog 144 #[.string a, .string b] w fun e w' => e = .returned (.string (B (N a * N b))) ∧ Below w.heap.size w w' := by
  have hla := words_len_le a 274877906944 (by omega)
  have hlb := words_len_le b 274877906944 (by omega)
  go_enter Tryz.func144, Tryz.ntmps144
  go_wp2_with fail
  refine (spread_some a _ (by omega)).mono ?_
  rintro e w1 ⟨g1, c1, rfl, h1, hb1⟩
  go_wp2_with fail
  refine (spread_some b _ (by omega)).mono ?_
  rintro e w2 ⟨g2, c2, rfl, h2, hb2⟩
  have hl1 := has_lies h1 hb2
  have hl2 := has_lies h2 (Below.refl _ _)
  have hB2 : Below w.heap.size w w2 := hb1.trans (hb2.mono hb1.size)
  go_wp2_with fail
  refine (times_any g1 c1 g2 c2 _ _ _ (words_small _) (words_small _) (by omega) (by omega) hl1 hl2).mono ?_
  rintro e w3 ⟨v, l, rfl, h3, hs3, hn3, hv3, hb3⟩
  have hB3 : Below w.heap.size w w3 := hB2.trans (hb3.mono hB2.size)
  have HV := hide hv3
  have HN := hide hn3
  clear hv3 hn3
  go_wp2_with fail
  refine (gather_own _ _ _ _ hs3 (by rw [HN.out]; omega) h3).mono ?_
  rintro e w4 ⟨rfl, hb4⟩
  go_wp2
  go_ret
  exact ⟨by rw [HV.out, nw_words, nw_words]; rfl, hB3.trans (hb4.mono hB3.size)⟩
end Go.Proofs.YtojidhnkpeiimaaGreatDoor

/- nat.Of, wordOf and gcdOfWords of package nat. -/
namespace Go.Proofs.YtojidhnkpeiimaaGreatDoor
open Go.RowKit
set_option maxHeartbeats 1000000 in
theorem Of_any (n : Int) (w : World) (h0 : -9223372036854775808 ≤ n) (h1 : n ≤ 9223372036854775807) :
    Calls Tryz.prog 83 #[.int .i64 n] w fun e w' => e = .returned (.string (B n.toNat)) ∧ Below w.heap.size w w' := by
  have hO := fun V => ofWord_any n.toNat V (by omega)
  by_cases hn : 0 ≤ n
  · obtain ⟨m, rfl⟩ := Int.eq_ofNat_of_zero_le hn
    rw [Int.toNat_natCast] at hO ⊢
    have HO := hide hO
    have hmx : max (m : Int) 0 = (m : Int) := by omega
    clear hO
    go_enter Tryz.func83, Tryz.ntmps83
    go_wp2_with fail
    refine (HO.out _).mono ?_
    rintro e w1 ⟨rfl, hb⟩
    go_wp2
    go_ret
    exact ⟨rfl, hb⟩
  · have e0 : n.toNat = 0 := by omega
    rw [e0] at hO ⊢
    have HO := hide hO
    have hmx : max n 0 = 0 := by omega
    clear hO e0
    go_enter Tryz.func83, Tryz.ntmps83
    go_wp2_with fail
    refine (HO.out _).mono ?_
    rintro e w1 ⟨rfl, hb⟩
    go_wp2
    go_ret
    exact ⟨rfl, hb⟩
set_option maxRecDepth 100000 in
set_option maxHeartbeats 1000000 in
theorem gcdOfWords_any (a b : Nat) (w : World) (ha : a < 18446744073709551616) (hb : b < 18446744073709551616) :
    Calls Tryz.prog 171 #[.int .u64 (a : Nat), .int .u64 (b : Nat)] w fun e w' => e = .returned (.int .u64 (Nat.gcd a b : Nat)) ∧ Below w.heap.size w w' := by
  go_enter Tryz.func171, Tryz.ntmps171
  go_wp2
  go_loopw [0, 1] (fun x y wr => ∃ m n : Nat, x = .int .u64 m ∧ y = .int .u64 n ∧ m < 18446744073709551616 ∧ n < 18446744073709551616 ∧ Hid (Nat.gcd m n = Nat.gcd a b) ∧ Below w.heap.size w wr) (fun _ y _ => (intOf y).toNat)
  case atStart => exact ⟨a, b, rfl, rfl, ha, hb, rfl, Below.refl _ _⟩
  case round =>
    obtain ⟨m, n, rfl, rfl, hm, hn, hg, hbr⟩ := hrel
    by_cases h0 : n = 0
    · subst h0
      go_wp2
      go_ret
      exact ⟨ret_int (by rw [← hg.out, Nat.gcd_zero_right]), hbr⟩
    · have hnb : ((n : Int) != 0) = true := by rw [bne_iff_ne]; omega
      have hne : ((n : Int) == 0) = false := by rw [beq_eq_false_iff_ne]; omega
      have hn0 : ¬ (n : Int) = 0 := by omega
      have hpos : 0 < n := by omega
      have hr : m % n < n := Nat.mod_lt _ hpos
      have HG : Hid (Nat.gcd n (m % n) = Nat.gcd a b) := by show _ = _; rw [← hg.out, ← Nat.gcd_comm (m % n) n, ← Nat.gcd_rec, Nat.gcd_comm]
      go_wp2_with fail
      go_region
      all_goals go_wp2
      rw [show ((m : Int) % (n : Int)) = ((m % n : Nat) : Int) from (Int.natCast_emod m n).symm]
      go_roundw
      case rel => exact ⟨n, m % n, rfl, rfl, hn, by omega, HG, hbr.drew⟩
      case measure => simp [intOf]; omega
theorem or_high (a b : Nat) (ha : a < 4294967296) (hb : b < 4294967296) : bits .or .u64 (a : Int) ((b : Int) * 4294967296) = ((a + b * 4294967296 : Nat) : Int) := by
  have e1 : (b : Int) * 4294967296 = ((b * 4294967296 : Nat) : Int) := by omega
  rw [e1, u64_or_nat _ _ (by omega) (by omega)]
  congr 1
  have := nat_join 32 (b * 4294967296) a (by omega) (by omega)
  have e2 : a ||| b * 4294967296 = b * 4294967296 ||| a := Nat.or_comm _ _
  omega
theorem or_zero (a : Nat) (ha : a < 4294967296) : bits .or .u64 0 (a : Int) = (a : Int) := by
  have := u64_or_nat 0 a (by omega) (by omega)
  rw [show ((0 : Nat) : Int) = 0 from rfl] at this
  rw [this, Nat.zero_or]
set_option maxRecDepth 100000 in
set_option maxHeartbeats 1000000 in
theorem wordOf_any (g cap : Nat) (l : List Nat) (w : World) (hs : Small l) (hlen : l.length ≤ 2) (hl : Lies w g 0 l) :
    Calls Tryz.prog 172 #[.slice (some ⟨g, 0, none⟩) l.length cap] w fun e w' => e = .returned (.int .u64 (nw l : Nat)) ∧ w' = w := by
  match l, hlen with
  | [], _ =>
    go_enter Tryz.func172, Tryz.ntmps172
    go_wp2
    refine wp_loop_rounds 1 ?_
    rw [rounds_succ]
    go_wp2
    go_ret
    exact ⟨rfl, rfl⟩
  | [a], _ =>
    have h0 := hl.cell 0 (by simp)
    have ha : a < 4294967296 := hs a (by simp)
    have ho := or_zero a ha
    simp only [Nat.zero_add, List.getElem?_cons_zero, Option.getD_some] at h0
    go_enter Tryz.func172, Tryz.ntmps172
    go_wp2
    refine wp_loop_rounds 2 ?_
    rw [rounds_succ]
    go_wp2
    rw [rounds_succ]
    go_wp2
    go_ret
    exact ⟨ret_int (by simp [nw_cons, nw_nil]), rfl⟩
  | [a, b], _ =>
    have h0 := hl.cell 0 (by simp)
    have h1 := hl.cell 1 (by simp)
    have ha : a < 4294967296 := hs a (by simp)
    have hb : b < 4294967296 := hs b (by simp)
    have ho := or_zero a ha
    have ho2 := or_high a b ha hb
    simp only [Nat.zero_add, List.getElem?_cons_zero, List.getElem?_cons_succ, Option.getD_some] at h0 h1
    go_enter Tryz.func172, Tryz.ntmps172
    go_wp2
    refine wp_loop_rounds 3 ?_
    rw [rounds_succ]
    go_wp2
    rw [rounds_succ]
    go_wp2
    rw [rounds_succ]
    go_wp2
    go_ret
    exact ⟨ret_int (by simp only [nw_cons, nw_nil, W_eq]; omega), rfl⟩
end Go.Proofs.YtojidhnkpeiimaaGreatDoor

/- shiftUp and shiftDown of package nat. -/
namespace Go.Proofs.YtojidhnkpeiimaaGreatDoor
open Go.RowKit
def shF (xs : List Nat) (s j : Nat) : Nat := 2 ^ s * xs[j]?.getD 0
theorem shF_nw (xs : List Nat) (s : Nat) : nwF (shF xs s) xs.length = 2 ^ s * nw xs := by
  rw [show shF xs s = fun j => 2 ^ s * (fun j => xs[j]?.getD 0) j from rfl, nwF_mul, nwF_list xs _ (Nat.le_refl _)]
theorem shF_carry (xs : List Nat) (hx : Small xs) (s k : Nat) : (acc (shF xs s) k).2 < 2 ^ s := by
  have hp : 0 < 2 ^ s := Nat.pow_pos (by decide)
  have h := acc_carry (shF xs s) (2 ^ s - 1) k fun j _ => by
    have h1 := getD_lt hx j
    have h2 : 2 ^ s * (xs[j]?.getD 0 + 1) ≤ 2 ^ s * W := Nat.mul_le_mul_left _ h1
    rw [Nat.mul_add] at h2
    unfold shF
    rw [Nat.sub_add_cancel hp]
    omega
  omega
theorem pow_lt_W {s : Nat} (hs : s < 32) : 2 ^ s ≤ 2147483648 := by
  have : 2 ^ s ≤ 2 ^ 31 := Nat.pow_le_pow_right (by decide) (by omega)
  simpa using this
theorem shl_or (c x s : Nat) (hs : s < 32) (hc : c < 2 ^ s) (hx : x < 4294967296) : bits .or .u64 (c : Int) (IntKind.u64.wrap ((x : Int) * 2 ^ s)) = ((c + 2 ^ s * x : Nat) : Int) := by
  have hp := pow_lt_W hs
  have hm : x * 2 ^ s ≤ 4294967295 * 2147483648 := Nat.mul_le_mul (by omega) hp
  have e1 : IntKind.u64.wrap ((x : Int) * 2 ^ s) = ((x * 2 ^ s : Nat) : Int) := by
    rw [IntKind.wrap_u64, show ((x : Int) * 2 ^ s) = ((x * 2 ^ s : Nat) : Int) by simp]
    omega
  rw [e1, u64_or_nat _ _ (by omega) (by omega), Nat.or_comm, nat_join s _ _ (Nat.mul_mod_left _ _) hc]
  congr 1
  rw [Nat.mul_comm]; omega
set_option maxRecDepth 100000 in
set_option maxHeartbeats 4000000 in
theorem shiftUp_any (gx capx : Nat) (xs : List Nat) (s : Nat) (w : World) (hsx : Small xs) (hs : s < 32) (hlx : xs.length ≤ 8796093022208) (hx : Lies w gx 0 xs) :
    Calls Tryz.prog 197 #[.slice (some ⟨gx, 0, none⟩) xs.length capx, .int .i64 (s : Nat)] w fun e w' => ∃ v l, e = .returned v ∧ Has w' w.heap.size v l ∧ Small l ∧ l.length = xs.length + 1 ∧ nw l = 2 ^ s * nw xs ∧ Below w.heap.size w w' := by
  obtain ⟨i0, hi, hz0, hz1, hz2⟩ := info_parts Tryz.infoU32
  have hgx := hx.lt
  go_enter Tryz.func197, Tryz.ntmps197
  go_wp2_with (first
    | (at_make; refine wpList_make_full _ rfl _ _ 147 rfl w.heap.size 135 i0 (.int .u32 0) 1 Tryz.underlying147 hi hz0 hz1 .i64 .i64 _ _ (xs.length + 1) rfl rfl (by omega) (by omega) (by rw [hz2]; omega) (by unfold maxLen; omega) (Nat.le_refl _) ?_; intro w2 hown2 hgrow2; have hb2 := block_of_own hown2; rw [made_u32] at hb2; have HB2 := hide hb2; have hB2 : Below w.heap.size w w2 := (Below.refl _ w).grown hgrow2 (Nat.le_refl _) (fun k e => by cases e); have hx2 := hx.below hB2 hgx; clear hown2 hgrow2 hb2))
  have hl2 := lies_of_block HB2.out
  go_loopw [6, 15] (fun c i wr => ∃ k : Nat, k ≤ xs.length ∧ i = .int .i64 k ∧ c = .int .u64 ((acc (shF xs s) k).2 : Nat) ∧ Lies wr w.heap.size 0 ((acc (shF xs s) k).1 ++ (List.replicate (xs.length + 1) 0).drop k) ∧ Upd w.heap.size 0 (xs.length + 1) w2 wr)
    (fun _ i _ => xs.length - (intOf i).toNat)
  case atStart => exact ⟨0, Nat.zero_le _, rfl, rfl, by simpa [acc] using hl2, Upd.refl _ _ _ _⟩
  case round =>
    obtain ⟨k, hk, rfl, rfl, hlr, hur⟩ := hrel
    have hql := acc_length (shF xs s) k
    by_cases hlt : k < xs.length
    · have hcx := (hx2.apart hur (by omega)).cell k hlt
      rw [Nat.zero_add] at hcx
      have hlen2 : k < ((acc (shF xs s) k).1 ++ (List.replicate (xs.length + 1) 0).drop k).length := by rw [List.length_append, hql, List.length_drop, List.length_replicate]; omega
      have hcell := hlr.cell k hlen2
      have hfz := hlr.frozen k
      have hset := fun y => hlr.set k hlen2 y
      rw [Nat.zero_add] at hcell
      simp only [drop_set_append _ (List.replicate (xs.length + 1) 0) k _ hql (by simp; omega), Nat.zero_add] at hset
      have hxb := getD_lt hsx k
      have hcs := shF_carry xs hsx s k
      have HG : Hid (acc (shF xs s) (k + 1) = ((acc (shF xs s) k).1 ++ [((acc (shF xs s) k).2 + shF xs s k) % W], ((acc (shF xs s) k).2 + shF xs s k) / W)) := rfl
      have HF : Hid (shF xs s k = 2 ^ s * xs[k]?.getD 0) := rfl
      rw [W_eq] at hxb
      have hor := shl_or (acc (shF xs s) k).2 (xs[k]?.getD 0) s hs hcs hxb
      have hm : 2 ^ s * xs[k]?.getD 0 ≤ 2147483648 * 4294967295 := Nat.mul_le_mul (pow_lt_W hs) (by omega)
      have hp := pow_lt_W hs
      rw [← HF.out] at hor hm
      generalize shF xs s k = f at *
      generalize (acc (shF xs s) k).2 = c at *
      generalize (acc (shF xs s) k).1 = q at *
      generalize xs[k]?.getD 0 = x at *
      generalize (q ++ (List.replicate (xs.length + 1) 0).drop k)[k]?.getD 0 = old at *
      obtain ⟨t, ht⟩ : ∃ t, t = c + f := ⟨_, rfl⟩
      rw [← ht] at hor
      have htb : t < 18446744073709551615 := by omega
      have HT := hide ht
      have HSET := hide hset
      have hc32 : c < 4294967296 := by omega
      clear hset hlen2 hlr ht hm hp hcs HF
      go_wp2
      have hv : Value.int .u32 ((t : Int) % 4294967296) = .int .u32 (((c + f) % W : Nat) : Int) := int_eq (by rw [W_eq, ← HT.out]; omega)
      have hv2 : Value.int .u64 ((t : Int) / 4294967296) = .int .u64 (((c + f) / W : Nat) : Int) := int_eq (by rw [W_eq, ← HT.out]; omega)
      rw [hv, hv2]
      have hq := HSET.out ((c + f) % W)
      go_roundw
      case rel => exact ⟨k + 1, by omega, by go_num, by rw [HG.out], by rw [HG.out]; exact hq, hur.trans (Upd.setCell (Nat.zero_le _) (by omega) _)⟩
      case measure => simp [intOf]; omega
    · obtain rfl : k = xs.length := by omega
      have hlen2 : xs.length < ((acc (shF xs s) xs.length).1 ++ (List.replicate (xs.length + 1) 0).drop xs.length).length := by rw [List.length_append, hql, List.length_drop, List.length_replicate]; omega
      have hcell := hlr.cell xs.length hlen2
      have hfz := hlr.frozen xs.length
      have hset := hlr.set xs.length hlen2 (acc (shF xs s) xs.length).2
      rw [drop_set_append _ (List.replicate (xs.length + 1) 0) xs.length _ hql (by simp), List.drop_of_length_le (by simp), List.append_nil, Nat.zero_add] at hset
      rw [Nat.zero_add] at hcell
      have hcs := shF_carry xs hsx s xs.length
      have hp := pow_lt_W hs
      have HE := hide (acc_eq (shF xs s) xs.length)
      have hqs := acc_small (shF xs s) xs.length
      have HF := hide (shF_nw xs s)
      obtain ⟨cur, hc4, hcz, _⟩ := hur.inside _ HB2.out
      generalize ((acc (shF xs s) xs.length).1 ++ (List.replicate (xs.length + 1) 0).drop xs.length)[xs.length]?.getD 0 = old at *
      generalize (acc (shF xs s) xs.length).2 = c at *
      generalize (acc (shF xs s) xs.length).1 = q at *
      have hc32 : c < 4294967296 := by omega
      have hur4 : Upd w.heap.size 0 (xs.length + 1) w2 (wr.setCell ⟨w.heap.size, xs.length, none⟩ (.int .u32 (c : Nat))) := hur.trans (Upd.setCell (Nat.zero_le _) (by omega) _)
      obtain ⟨cur2, hc5, hcz2, _⟩ := hur4.inside _ HB2.out
      have hql2 : (q ++ [c]).length = xs.length + 1 := by rw [List.length_append, hql]; rfl
      have hown4 := own_of_lies (base := w.heap.size) (cap := xs.length + 1) cur2 hc5 (by rw [hcz2]; simp) (Nat.le_refl _) (by unfold maxLen; omega) (by omega) hset
      have hB4 := Upd.below hB2 hur4 (Nat.le_refl _) hB2.size
      have HO := hide hown4
      have HQL := hide hql2
      have HQ0 := hide hql
      clear hset hlen2 hlr hc4 hcz hc5 hcz2 hown4 hur4 hql2 hql hp hcs
      go_wp2
      go_ret
      refine ⟨_, q ++ [c], rfl, ?_, ?_, HQL.out, ?_, hB4⟩
      · rw [Has, HQL.out]; have := HO.out; rwa [HQL.out] at this
      · exact small_append hqs (fun z hz => by simp at hz; subst hz; exact hc32)
      · rw [nw_snoc, HQ0.out, HE.out, HF.out]
end Go.Proofs.YtojidhnkpeiimaaGreatDoor

/- Plain facts on shifting parts down. -/
namespace Go.Proofs.YtojidhnkpeiimaaGreatDoor
def shd (s : Nat) : List Nat → List Nat
  | [] => []
  | x :: r => (x + W * r[0]?.getD 0) / 2 ^ s % W :: shd s r
theorem shd_length (s : Nat) (l : List Nat) : (shd s l).length = l.length := by
  induction l with
  | nil => rfl
  | cons x r ih => rw [shd, List.length_cons, ih, List.length_cons]
theorem shd_small (s : Nat) (l : List Nat) : Small (shd s l) := by
  induction l with
  | nil => intro x hx; simp [shd] at hx
  | cons x r ih =>
    intro y hy
    rw [shd] at hy
    rcases List.mem_cons.1 hy with rfl | hy
    · exact Nat.mod_lt _ W_pos
    · exact ih y hy
theorem nw_head (l : List Nat) (h : Small l) : nw l % W = l[0]?.getD 0 := by
  cases l with
  | nil => rfl
  | cons x r => rw [nw_cons, Nat.add_mul_mod_self_left]; exact Nat.mod_eq_of_lt (h x List.mem_cons_self)
theorem W_split {s : Nat} (hs : s ≤ 32) : W = 2 ^ s * 2 ^ (32 - s) := by rw [← Nat.pow_add, show s + (32 - s) = 32 by omega]; rfl
theorem shd_nw (s : Nat) (hs : s ≤ 32) (l : List Nat) (hl : Small l) : nw (shd s l) = nw l / 2 ^ s := by
  induction l with
  | nil => simp [shd, nw_nil]
  | cons x r ih =>
    have hr : Small r := fun y hy => hl y (List.mem_cons_of_mem _ hy)
    have hx := hl x List.mem_cons_self
    have hp : 0 < 2 ^ s := Nat.pow_pos (by decide)
    rw [shd, nw_cons, nw_cons, ih hr, ← nw_head r hr]
    generalize nw r = n
    have e1 := Nat.div_add_mod n (2 ^ s)
    have hb := Nat.mod_lt n hp
    generalize hq : n / 2 ^ s = a at *
    generalize hbb : n % 2 ^ s = b at *
    have hdig : (x + W * b) / 2 ^ s < W := by
      refine Nat.div_lt_of_lt_mul ?_
      have : W * (b + 1) ≤ W * 2 ^ s := Nat.mul_le_mul_left _ hb
      rw [Nat.mul_add, Nat.mul_comm W (2 ^ s)] at this
      omega
    have e2 : (x + W * n) / 2 ^ s = (x + W * b) / 2 ^ s + W * a := by
      rw [← e1, Nat.mul_add, ← Nat.add_assoc, Nat.add_right_comm, show W * (2 ^ s * a) = 2 ^ s * (W * a) by rw [Nat.mul_left_comm], Nat.add_mul_div_left _ _ hp]
    have e3 : (x + W * (n % W)) / 2 ^ s % W = (x + W * b) / 2 ^ s := by
      have hW := W_split hs
      have hmm : n % W % 2 ^ s = b := by rw [← hbb, hW, Nat.mod_mul_right_mod]
      have e4 := Nat.div_add_mod (n % W) (2 ^ s)
      rw [hmm] at e4
      generalize n % W / 2 ^ s = c at *
      rw [← e4, Nat.mul_add, ← Nat.add_assoc, Nat.add_right_comm, show W * (2 ^ s * c) = 2 ^ s * (W * c) by rw [Nat.mul_left_comm], Nat.add_mul_div_left _ _ hp, Nat.add_mul_mod_self_left]
      exact Nat.mod_eq_of_lt hdig
    rw [e2, e3]
end Go.Proofs.YtojidhnkpeiimaaGreatDoor

/- shiftDown of package nat. -/
namespace Go.Proofs.YtojidhnkpeiimaaGreatDoor
open Go.RowKit
theorem shl_full (a x : Nat) (hx : x < 4294967296) : bits .or .u64 (IntKind.u64.wrap ((a : Int) * 4294967296)) (x : Int) = ((a % 4294967296 * 4294967296 + x : Nat) : Int) := by
  have e : IntKind.u64.wrap ((a : Int) * 4294967296) = ((a % 4294967296 : Nat) : Int) * 4294967296 := by rw [IntKind.wrap_u64]; omega
  rw [e]
  exact or_u64 (a % 4294967296) x (by omega) hx
set_option maxRecDepth 100000 in
set_option maxHeartbeats 4000000 in
theorem shiftDown_any (g cap : Nat) (l : List Nat) (s : Nat) (w : World) (hsl : Small l) (hs : s < 32) (hlen : l.length ≤ 35184372088832) (hl : Lies w g 0 l) :
    Calls Tryz.prog 199 #[.slice (some ⟨g, 0, none⟩) l.length cap, .int .i64 (s : Nat)] w fun e w' => e = .returned (.tuple #[]) ∧ Lies w' g 0 (shd s l) ∧ Upd g 0 l.length w w' := by
  go_enter Tryz.func199, Tryz.ntmps199
  go_wp2
  go_loopw [4, 9] (fun a i wr => ∃ k ab : Nat, k ≤ l.length ∧ i = .int .i64 k ∧ a = .int .u64 (ab : Nat) ∧ ab < 18446744073709551616 ∧ Hid (ab % 4294967296 = (l.drop (l.length - k))[0]?.getD 0) ∧ Lies wr g 0 (l.take (l.length - k) ++ shd s (l.drop (l.length - k))) ∧ Upd g 0 l.length w wr)
    (fun _ i _ => l.length - (intOf i).toNat)
  case atStart => exact ⟨0, 0, Nat.zero_le _, rfl, rfl, by omega, by show _ = _; simp, by simpa [shd] using hl, Upd.refl _ _ _ _⟩
  case round =>
    obtain ⟨k, ab, hk, rfl, rfl, hab, hah, hlr, hur⟩ := hrel
    by_cases hlt : k < l.length
    · obtain ⟨m, hm⟩ : ∃ m, m + 1 = l.length - k := ⟨l.length - k - 1, by omega⟩
      have hml : m < l.length := by omega
      have e1 : l.length - (k + 1) = m := by omega
      have hd : l.drop m = l[m] :: l.drop (m + 1) := List.drop_eq_getElem_cons hml
      have hx := hsl _ (List.getElem_mem hml)
      rw [← hm] at hlr hah
      have hlen2 : m < (l.take (m + 1) ++ shd s (l.drop (m + 1))).length := by simp; omega
      have hcell := hlr.cell m hlen2
      have hfz := hlr.frozen (0 + m)
      have hset := fun y => hlr.set m hlen2 y
      simp only [take_set_append l _ m _ hml] at hset
      have hgm : (l.take (m + 1) ++ shd s (l.drop (m + 1)))[m]?.getD 0 = l[m] := by
        rw [List.getElem?_append_left (by simp; omega), List.getElem?_take, if_pos (by omega), List.getElem?_eq_getElem hml]; rfl
      rw [hgm] at hcell
      rw [Nat.zero_add] at hcell hfz
      have HG : Hid (shd s (l.drop m) = (l[m] + W * (l.drop (m + 1))[0]?.getD 0) / 2 ^ s % W :: shd s (l.drop (m + 1))) := by show _ = _; rw [hd]; rfl
      have HH : Hid ((l.drop m)[0]?.getD 0 = l[m]) := by show _ = _; rw [hd]; rfl
      rw [W_eq] at hx
      rw [← hah.out] at HG
      generalize shd s (l.drop (m + 1)) = q at *
      generalize l[m] = x at *
      obtain ⟨t, ht⟩ : ∃ t, t = ab % 4294967296 * 4294967296 + x := ⟨_, rfl⟩
      have hor : bits .or .u64 (IntKind.u64.wrap ((ab : Int) * 4294967296)) (x : Int) = (t : Int) := by rw [ht]; exact shl_full ab x hx
      have htb : t < 18446744073709551616 := by omega
      have htm : t % 4294967296 = x := by omega
      have HTM := hide htm
      have HT := hide ht
      have hmk : (l.length : Int) - 1 - (k : Int) = (m : Int) := by omega
      have HSET := hide hset
      clear ht hgm hset hd hlen2 hlr hah htm
      go_wp2
      have hv : Value.int .u32 ((t : Int) / 2 ^ s % 4294967296) = .int .u32 (((x + W * (ab % 4294967296)) / 2 ^ s % W : Nat) : Int) := int_eq (by
        have e : x + W * (ab % 4294967296) = t := by rw [HT.out, W_eq, Nat.mul_comm]; omega
        rw [e, W_eq, Int.natCast_emod, Int.natCast_ediv, Int.natCast_pow]; rfl)
      rw [hv]
      have hq := HSET.out ((x + W * (ab % 4294967296)) / 2 ^ s % W)
      rw [Nat.zero_add] at hq
      go_roundw
      case rel => exact ⟨k + 1, t, by omega, by go_num, rfl, htb, by show _ = _; rw [e1, HH.out]; exact HTM.out, by rw [e1, HG.out]; exact hq, hur.trans (Upd.setCell (Nat.zero_le _) (by omega) _)⟩
      case measure => simp [intOf]; omega
    · obtain rfl : k = l.length := by omega
      go_wp2
      go_end0
      refine ⟨rfl, ?_, hur⟩
      simpa using hlr
end Go.Proofs.YtojidhnkpeiimaaGreatDoor

/- takeMost of package nat: as often as it goes: the quotient; what is left stands in its place. -/
namespace Go.Proofs.YtojidhnkpeiimaaGreatDoor
open Go.RowKit
theorem guess_ge (xs ys : List Nat) (hl : xs.length = ys.length + 1) (hx : Small xs) (hpos : 0 < ys.length) (hlast : ys[ys.length - 1]?.getD 0 ≠ 0) (hlt : nw xs < W * nw ys) :
    nw xs / nw ys ≤ min ((xs[ys.length]?.getD 0 * W + xs[ys.length - 1]?.getD 0) / ys[ys.length - 1]?.getD 0) (W - 1) := by
  obtain ⟨d, hd⟩ : ∃ d, ys.length = d + 1 := ⟨ys.length - 1, by omega⟩
  rw [hd, Nat.add_sub_cancel] at hlast ⊢
  have hny : 0 < nw ys := by
    have := nw_cut_le ys d (by omega)
    have h2 : ys.drop d = [ys[d]?.getD 0] := by
      rw [List.drop_eq_getElem_cons (by omega), List.drop_of_length_le (by omega), List.getElem?_eq_getElem (by omega)]; rfl
    rw [h2, nw_cons, nw_nil, Nat.mul_zero, Nat.add_zero] at this
    have : 0 < W ^ d * ys[d]?.getD 0 := Nat.mul_pos (Nat.pow_pos W_pos) (Nat.pos_of_ne_zero hlast)
    omega
  have hq : nw xs / nw ys < W := Nat.div_lt_of_lt_mul (by rw [Nat.mul_comm]; exact hlt)
  have hle := Nat.div_mul_le_self (nw xs) (nw ys)
  generalize nw xs / nw ys = q at *
  refine Nat.le_min.2 ⟨?_, by omega⟩
  rw [Nat.le_div_iff_mul_le (Nat.pos_of_ne_zero hlast)]
  have ey := nw_cut_le ys d (by omega)
  have hy2 : ys.drop d = [ys[d]?.getD 0] := by
    rw [List.drop_eq_getElem_cons (by omega), List.drop_of_length_le (by omega), List.getElem?_eq_getElem (by omega)]; rfl
  rw [hy2, nw_cons, nw_nil, Nat.mul_zero, Nat.add_zero] at ey
  have ex := nw_cut_le xs d (by omega)
  have hx2 : xs.drop d = [xs[d]?.getD 0, xs[d + 1]?.getD 0] := by
    rw [List.drop_eq_getElem_cons (by omega), List.drop_eq_getElem_cons (by omega), List.drop_of_length_le (by omega), List.getElem?_eq_getElem (by omega), List.getElem?_eq_getElem (by omega)]; rfl
  have hxlt := nw_lt (xs.take d) (small_take hx d)
  rw [List.length_take, Nat.min_eq_left (by omega)] at hxlt
  rw [hx2, nw_cons, nw_cons, nw_nil, Nat.mul_zero, Nat.add_zero] at ex
  generalize ys[d]?.getD 0 = y at *
  generalize xs[d]?.getD 0 = x0 at *
  generalize xs[d + 1]?.getD 0 = x1 at *
  have h1 : q * (W ^ d * y) ≤ q * nw ys := Nat.mul_le_mul_left _ (by omega)
  have h2 : W ^ d * (q * y) < W ^ d * (x1 * W + x0 + 1) := by
    rw [Nat.mul_left_comm] at h1
    rw [Nat.mul_add, Nat.mul_one, Nat.add_comm (x1 * W) x0, Nat.mul_comm x1 W]
    omega
  have := Nat.lt_of_mul_lt_mul_left h2
  omega
set_option maxRecDepth 100000 in
set_option maxHeartbeats 4000000 in
theorem takeMost_any (g off cap b capy : Nat) (xs ys : List Nat) (w : World) (hl : xs.length = ys.length + 1) (hsx : Small xs) (hsy : Small ys) (hlen : xs.length ≤ 35184372088832) (hpos : 0 < ys.length) (hlast : ys[ys.length - 1]?.getD 0 ≠ 0) (hlt : nw xs < W * nw ys) (hx : Lies w g off xs) (hy : Lies w b 0 ys) (hgb : b ≠ g) :
    Calls Tryz.prog 198 #[.slice (some ⟨g, off, none⟩) xs.length cap, .slice (some ⟨b, 0, none⟩) ys.length capy] w fun e w' => ∃ l', e = .returned (.int .u32 (nw xs / nw ys : Nat)) ∧ l'.length = xs.length ∧ Small l' ∧ nw l' = nw xs % nw ys ∧ Lies w' g off l' ∧ Upd g off xs.length w w' := by
  have hgg := guess_ge xs ys hl hsx hpos hlast hlt
  have hc1 := hx.cell ys.length (by omega)
  have hc2 := hx.cell (ys.length - 1) (by omega)
  have hc3 := hy.cell (ys.length - 1) (by omega)
  rw [Nat.zero_add] at hc3
  have hb1 := getD_lt hsx ys.length
  have hb2 := getD_lt hsx (ys.length - 1)
  have hb3 := getD_lt hsy (ys.length - 1)
  have HGG := hide hgg
  have HL := hide hl
  have HLT := hide hlt
  rw [W_eq] at hb1 hb2 hb3
  have hxl : ys.length < xs.length := by omega
  have hor := or_u64 (xs[ys.length]?.getD 0) (xs[ys.length - 1]?.getD 0) hb1 hb2
  rw [W_eq] at HGG
  generalize xs[ys.length]?.getD 0 = x1 at *
  generalize xs[ys.length - 1]?.getD 0 = x0 at *
  generalize ys[ys.length - 1]?.getD 0 = y1 at *
  obtain ⟨t, ht⟩ : ∃ t, t = x1 * 4294967296 + x0 := ⟨_, rfl⟩
  rw [← ht] at hor HGG
  have htb : t < 18446744073709551616 := by omega
  have hi1 : (ys.length : Int) - 1 < (xs.length : Int) := by omega
  have hi2 : (ys.length : Int) < (xs.length : Int) := by omega
  have hi3 : 0 ≤ (ys.length : Int) - 1 := by omega
  have hi4 : ((ys.length : Int) - 1).toNat = ys.length - 1 := by omega
  have hi5 : IntKind.i64.wrap ((ys.length : Int) - 1 + 1) = (ys.length : Int) := by rw [IntKind.wrap_i64]; omega
  clear ht hl hlt hgg
  go_enter Tryz.func198, Tryz.ntmps198
  go_wp2_with fail
  go_quiet (fail)
  go_wp2_with fail
  obtain ⟨gs, hgs⟩ : ∃ gs, gs = min (t / y1) 4294967295 := ⟨_, rfl⟩
  have hty : t / y1 ≤ t := Nat.div_le_self _ _
  have hgv : min (IntKind.u64.wrap ((t : Int) / (y1 : Int))) 4294967295 % 4294967296 = (gs : Int) := by
    rw [IntKind.wrap_u64, ← Int.natCast_ediv, hgs]
    generalize t / y1 = z at *
    omega
  rw [hgv]
  have hgs32 : gs < 4294967296 := by omega
  have HQ : Hid (nw xs / nw ys ≤ gs) := by show _ ≤ _; rw [hgs]; exact HGG.out
  clear hgv hgs HGG hor hc1 hc2 hc3
  refine (takeTimes_any g off cap b 0 capy xs ys gs _ hsx hsy hgs32 hlen (by omega) (hx.drewN nq) (hy.drewN nq) hgb).mono ?_
  rintro e w2 ⟨s, l, rfl, hll, hsm, hn, hlies, hu⟩
  have hu0 : Upd g off xs.length w w2 := ((Upd.refl g off xs.length w).drewN nq).trans hu
  have hltl := nw_lt l hsm
  rw [hll] at hltl
  have hfits : gs * nw ys < W ^ xs.length := by
    have h1 := nw_lt ys hsy
    have h2 : gs * nw ys ≤ (W - 1) * nw ys := Nat.mul_le_mul_right _ (by rw [W_eq]; omega)
    have h3 : W * nw ys ≤ W * W ^ ys.length := Nat.mul_le_mul_left _ (Nat.le_of_lt h1)
    have h4 : (W - 1) * nw ys ≤ W * nw ys := Nat.mul_le_mul_right _ (by omega)
    have h5 : W ^ xs.length = W * W ^ ys.length := by rw [HL.out, Nat.pow_succ, Nat.mul_comm]
    have h6 : 0 < W ^ ys.length := Nat.pow_pos W_pos
    have h7 : (W - 1) * nw ys ≤ (W - 1) * W ^ ys.length := Nat.mul_le_mul_left _ (Nat.le_of_lt h1)
    have h8 : (W - 1) * W ^ ys.length + W ^ ys.length = W * W ^ ys.length := by
      have : (W - 1 + 1) * W ^ ys.length = W * W ^ ys.length := by rw [Nat.sub_add_cancel W_pos]
      rwa [Nat.add_mul, Nat.one_mul] at this
    omega
  have hs1 : s = 0 ∨ s = 1 := by
    rcases Nat.lt_or_ge s 2 with h | h
    · omega
    · have : W ^ xs.length * 2 ≤ W ^ xs.length * s := Nat.mul_le_mul_left _ h
      omega
  have hstart : Hid ((decide (s ≠ 0) = false ∧ nw l + gs * nw ys = nw xs) ∨ (decide (s ≠ 0) = true ∧ nw l + gs * nw ys = nw xs + W ^ xs.length ∧ nw xs < gs * nw ys)) := by
    rcases hs1 with rfl | rfl
    · exact .inl ⟨rfl, by rw [hn]; omega⟩
    · refine .inr ⟨rfl, by rw [hn]; omega, ?_⟩
      omega
  generalize decide (s ≠ 0) = be at *
  clear hn hltl hfits hs1 hu
  go_wp2
  go_loopg [7, 8] gs (fun r gu be wr => ∃ (l : List Nat) (bb : Bool), gu = .int .u32 (r : Nat) ∧ be = .bool bb ∧ l.length = xs.length ∧ Small l ∧ Lies wr g off l ∧ Upd g off xs.length w wr ∧ Hid (nw xs / nw ys ≤ r) ∧ r < 4294967296 ∧ Hid ((bb = false ∧ nw l + r * nw ys = nw xs) ∨ (bb = true ∧ nw l + r * nw ys = nw xs + W ^ xs.length ∧ nw xs < r * nw ys)))
  case atStart => exact ⟨l, be, rfl, rfl, hll, hsm, hlies, hu0, HQ, hgs32, hstart⟩
  case round =>
    obtain ⟨l2, bb, rfl, rfl, hll2, hsm2, hlr, hur, hq2, hr32, hcase⟩ := hrel
    clear hstart hlies hu0 HQ
    have HLL := hide hll2
    clear hll2
    cases bb with
    | false =>
      have hc : nw l2 + gk * nw ys = nw xs := by
        rcases hcase.out with ⟨_, h⟩ | ⟨h, _⟩
        · exact h
        · cases h
      have hyp : 0 < nw ys := by
        rcases Nat.eq_zero_or_pos (nw ys) with e | e
        · have := HLT.out; rw [e, Nat.mul_zero] at this; omega
        · exact e
      have hgq : gk = nw xs / nw ys := by
        have h1 : gk ≤ nw xs / nw ys := (Nat.le_div_iff_mul_le hyp).2 (by omega)
        have := hq2.out
        omega
      have HR : Hid (nw l2 = nw xs % nw ys) := by
        show _ = _
        have h1 := Nat.div_add_mod' (nw xs) (nw ys)
        rw [← hgq] at h1
        omega
      have HG := hide hgq
      clear hc hgq hcase
      go_wp2
      go_ret
      exact ⟨l2, by rw [← HG.out]; rfl, HLL.out, hsm2, HR.out, hlr, hur⟩
    | true =>
      obtain ⟨hc1, hc2⟩ : nw l2 + gk * nw ys = nw xs + W ^ xs.length ∧ nw xs < gk * nw ys := by
        rcases hcase.out with ⟨h, _⟩ | ⟨_, h⟩
        · cases h
        · exact h
      have hr1 : 1 ≤ gk := by
        rcases Nat.eq_zero_or_pos gk with e | e
        · rw [e, Nat.zero_mul] at hc2; omega
        · exact e
      have HC1 := hide hc1
      have HC2 := hide hc2
      have hyr := (hy.apart hur hgb)
      clear hc1 hc2 hcase
      go_wp2_with fail
      have hpb := putBack_any g off cap b 0 capy l2 ys wr hsm2 hsy (by rw [HLL.out]; exact hlen) (by rw [HLL.out]; omega) hlr hyr hgb
      rw [HLL.out] at hpb
      refine hpb.mono ?_
      rintro e w3 ⟨c, l3, rfl, hll3, hsm3, hn3, hlies3, hu3⟩
      have hltl3 := nw_lt l3 hsm3
      rw [hll3] at hltl3
      have hmul : gk * nw ys = (gk - 1) * nw ys + nw ys := by
        have : (gk - 1 + 1) * nw ys = gk * nw ys := by rw [Nat.sub_add_cancel hr1]
        rw [← this, Nat.add_mul, Nat.one_mul]
      have HNX : Hid (((!c) = false ∧ nw l3 + (gk - 1) * nw ys = nw xs) ∨ ((!c) = true ∧ nw l3 + (gk - 1) * nw ys = nw xs + W ^ xs.length ∧ nw xs < (gk - 1) * nw ys)) := by
        have h1 := HC1.out
        cases c with
        | true => simp only [if_true] at hn3; exact .inl ⟨rfl, by omega⟩
        | false => simp only [Bool.false_eq_true, if_false, Nat.add_zero] at hn3; exact .inr ⟨rfl, by omega, by omega⟩
      have HQ3 : Hid (nw xs / nw ys ≤ gk - 1) := by
        show _ ≤ _
        have hyp : 0 < nw ys := by
          rcases Nat.eq_zero_or_pos (nw ys) with e | e
          · have := HLT.out; rw [e, Nat.mul_zero] at this; omega
          · exact e
        have := (Nat.div_lt_iff_lt_mul hyp).2 HC2.out
        omega
      have HL3 := hide hll3
      clear hn3 hltl3 hmul hpb hll3 hlr hyr HC1 HC2
      go_wp2
      go_roundg (gk - 1)
      case measure => omega
      case rel => exact ⟨l3, !c, int_eq (by omega), rfl, HL3.out, hsm3, hlies3, hur.trans hu3, HQ3, by omega, HNX⟩
end Go.Proofs.YtojidhnkpeiimaaGreatDoor

/- Plain facts on long division. -/
namespace Go.Proofs.YtojidhnkpeiimaaGreatDoor
theorem nw_set (l : List Nat) (i y : Nat) (hi : i < l.length) : nw (l.set i y) + W ^ i * l[i]?.getD 0 = nw l + W ^ i * y := by
  have e1 := nw_cut_le l i (by omega)
  have e2 := nw_cut_le (l.set i y) i (by rw [List.length_set]; omega)
  have e3 : (l.set i y).take i = l.take i := List.take_set_of_le (Nat.le_refl _)
  have e4 : (l.set i y).drop i = y :: l.drop (i + 1) := by
    rw [List.drop_set, if_neg (by omega), Nat.sub_self, List.drop_eq_getElem_cons hi, List.set_cons_zero]
  have e5 : l.drop i = l[i]?.getD 0 :: l.drop (i + 1) := by rw [List.drop_eq_getElem_cons hi, List.getElem?_eq_getElem hi]; rfl
  rw [e3, e4, nw_cons, Nat.mul_add] at e2
  rw [e5, nw_cons, Nat.mul_add] at e1
  omega
structure DivInv (X Y L : Nat) (lf ql : List Nat) (j : Nat) : Prop where
  qlen : ql.length = L
  qs : Small ql
  ls : Small lf
  zero : ∀ t, t < j → ql[t]?.getD 0 = 0
  eq : nw ql * Y + nw lf = X
  lt : nw (lf.drop j) < Y
theorem DivInv.seg {X Y L m i : Nat} {lf ql : List Nat} (h : DivInv X Y L lf ql (i + 1)) (hY : Y ≤ W ^ m) (hl : i + m + 1 ≤ lf.length) :
    nw ((lf.drop i).take (m + 1)) < W * Y ∧ nw (lf.drop i) = nw ((lf.drop i).take (m + 1)) ∧ nw (lf.drop (i + (m + 1))) = 0 := by
  have e5 : lf.drop i = lf[i]?.getD 0 :: lf.drop (i + 1) := by rw [List.drop_eq_getElem_cons (by omega), List.getElem?_eq_getElem (by omega)]; rfl
  have hd : nw (lf.drop i) < W * Y := by
    have h1 := h.lt
    have h2 := getD_lt h.ls i
    have h3 : W * (nw (lf.drop (i + 1)) + 1) ≤ W * Y := Nat.mul_le_mul_left _ h1
    rw [Nat.mul_add] at h3
    rw [e5, nw_cons]
    omega
  have hc := nw_cut_le (lf.drop i) (m + 1) (by rw [List.length_drop]; omega)
  rw [List.drop_drop] at hc
  have hz : nw (lf.drop (i + (m + 1))) = 0 := by
    rcases Nat.eq_zero_or_pos (nw (lf.drop (i + (m + 1)))) with e | e
    · exact e
    · have h4 : W ^ (m + 1) * 1 ≤ W ^ (m + 1) * nw (lf.drop (i + (m + 1))) := Nat.mul_le_mul_left _ e
      have h5 : W * Y ≤ W ^ (m + 1) := by rw [Nat.pow_succ, Nat.mul_comm]; exact Nat.mul_le_mul_right _ hY
      omega
  rw [hz, Nat.mul_zero, Nat.add_zero] at hc
  exact ⟨by omega, hc, hz⟩
theorem DivInv.step {X Y L m i : Nat} {lf ql seg : List Nat} (h : DivInv X Y L lf ql (i + 1)) (hY : Y ≤ W ^ m) (hl : i + m + 1 ≤ lf.length) (hi : i < L) (hY0 : 0 < Y)
    (hsl : seg.length = m + 1) (hss : Small seg) (hsn : nw seg = nw ((lf.drop i).take (m + 1)) % Y) :
    DivInv X Y L (lf.take i ++ seg ++ lf.drop (i + (m + 1))) (ql.set i (nw ((lf.drop i).take (m + 1)) / Y)) i := by
  obtain ⟨s1, s2, s3⟩ := h.seg hY hl
  have hti : (lf.take i).length = i := by rw [List.length_take]; omega
  generalize hS : nw ((lf.drop i).take (m + 1)) = S at *
  have hq : S / Y < W := Nat.div_lt_of_lt_mul (by rw [Nat.mul_comm]; exact s1)
  have hset := nw_set ql i (S / Y) (by rw [h.qlen]; exact hi)
  rw [h.zero i (by omega), Nat.mul_zero, Nat.add_zero] at hset
  have hdm := Nat.div_add_mod' S Y
  have hcut := nw_cut_le lf i (by omega)
  have hnl : nw (lf.take i ++ seg ++ lf.drop (i + (m + 1))) = nw (lf.take i) + W ^ i * (S % Y) := by
    rw [nw_append, s3, Nat.mul_zero, Nat.add_zero, nw_append, hti, hsn]
  refine ⟨by rw [List.length_set]; exact h.qlen, ?_, ?_, ?_, ?_, ?_⟩
  · intro x hx
    rcases List.mem_or_eq_of_mem_set hx with hx | rfl
    · exact h.qs x hx
    · exact hq
  · exact small_append (small_append (small_take h.ls i) hss) (small_drop h.ls _)
  · intro t ht
    rw [List.getElem?_set_ne (by omega)]
    exact h.zero t (by omega)
  · rw [hset, hnl, Nat.add_mul, ← h.eq, hcut, s2]
    have : W ^ i * S = W ^ i * (S / Y) * Y + W ^ i * (S % Y) := by rw [Nat.mul_assoc, ← Nat.mul_add, hdm]
    omega
  · rw [List.append_assoc, List.drop_append, hti, Nat.sub_self, List.drop_of_length_le (by omega), List.nil_append, List.drop_zero, nw_append, s3, Nat.mul_zero, Nat.add_zero, hsn]
    exact Nat.mod_lt _ hY0
theorem DivInv.start {X Y n m s : Nat} {lf xs : List Nat} (hm : 0 < m) (hmn : m ≤ n) (hs : Small lf) (hxn : xs.length = n) (hxs : Small xs) (hX : X = 2 ^ s * nw xs) (hlf : nw lf = X) (hll : lf.length = n + 1) (hY : 2 ^ s * W ^ (m - 1) ≤ Y) :
    DivInv X Y (n - m + 1) lf (List.replicate (n - m + 1) 0) (n - m + 1) := by
  refine ⟨by simp, small_zeros _, hs, fun t _ => by rw [List.getElem?_replicate]; split <;> rfl, by rw [nw_zeros, Nat.zero_mul, Nat.zero_add, hlf], ?_⟩
  have hc := nw_cut_le lf (n - m + 1) (by omega)
  have hlt : nw xs < W ^ n := by rw [← hxn]; exact nw_lt xs hxs
  have hp : 0 < 2 ^ s := Nat.pow_pos (by decide)
  have h1 : 2 ^ s * nw xs < 2 ^ s * W ^ n := Nat.mul_lt_mul_of_pos_left hlt hp
  have h2 : W ^ n = W ^ (n - m + 1) * W ^ (m - 1) := by rw [← Nat.pow_add]; congr 1; omega
  have h3 : W ^ (n - m + 1) * nw (lf.drop (n - m + 1)) < W ^ (n - m + 1) * (2 ^ s * W ^ (m - 1)) := by
    rw [Nat.mul_left_comm, ← h2]
    omega
  exact Nat.lt_of_lt_of_le (Nat.lt_of_mul_lt_mul_left h3) hY
theorem DivInv.stop {X Y L : Nat} {lf ql : List Nat} (h : DivInv X Y L lf ql 0) : nw ql = X / Y ∧ nw lf = X % Y := by
  have h1 := h.lt
  rw [List.drop_zero] at h1
  have h2 := h.eq
  have hY : 0 < Y := by omega
  constructor
  · rw [← h2, Nat.add_comm, Nat.add_mul_div_right _ _ hY, Nat.div_eq_of_lt h1, Nat.zero_add]
  · rw [← h2, Nat.add_comm, Nat.add_mul_mod_self_right, Nat.mod_eq_of_lt h1]
end Go.Proofs.YtojidhnkpeiimaaGreatDoor

/- divide of package nat: quotient and rest. -/
namespace Go.Proofs.YtojidhnkpeiimaaGreatDoor
open Go.RowKit
theorem bitLen_bounds (k : Nat) : ∀ x, x < 2 ^ k → k ≤ 32 → Lib.bitLen x ≤ k ∧ x < 2 ^ Lib.bitLen x := by
  induction k with
  | zero =>
    intro x h _
    have : x = 0 := by simpa using h
    subst this; exact ⟨Nat.le_refl _, by decide⟩
  | succ k ih =>
    intro x h hk
    by_cases h0 : x = 0
    · subst h0; exact ⟨Nat.zero_le _, by decide⟩
    · have hx64 : x < 2 ^ 64 := Nat.lt_of_lt_of_le h (Nat.pow_le_pow_right (by decide) (by omega))
      have e := Lib.bitLen_half x h0 hx64
      obtain ⟨i1, i2⟩ := ih (x / 2) (Nat.div_lt_of_lt_mul (by rw [Nat.pow_succ] at h; omega)) (by omega)
      rw [e]
      refine ⟨by omega, ?_⟩
      rw [Nat.add_comm, Nat.pow_succ]
      omega
theorem bitLen_pos (x : Nat) (h0 : x ≠ 0) (h : x < 4294967296) : 1 ≤ Lib.bitLen x := by
  have := Lib.bitLen_half x h0 (by omega)
  omega
theorem by_length (ys : List Nat) (s : Nat) (hs : Small ys) (hpos : 0 < ys.length) (hlast : ys[ys.length - 1]?.getD 0 ≠ 0) (hfit : 2 ^ s * (ys[ys.length - 1]?.getD 0 + 1) ≤ W) :
    (words (2 ^ s * nw ys)).length = ys.length ∧ 2 ^ s * W ^ (ys.length - 1) ≤ 2 ^ s * nw ys ∧ 2 ^ s * nw ys ≤ W ^ ys.length := by
  obtain ⟨d, hd⟩ : ∃ d, ys.length = d + 1 := ⟨ys.length - 1, by omega⟩
  rw [hd, Nat.add_sub_cancel] at hlast hfit ⊢
  have ey := nw_cut_le ys d (by omega)
  have hy2 : ys.drop d = [ys[d]?.getD 0] := by
    rw [List.drop_eq_getElem_cons (by omega), List.drop_of_length_le (by omega), List.getElem?_eq_getElem (by omega)]; rfl
  rw [hy2, nw_cons, nw_nil, Nat.mul_zero, Nat.add_zero] at ey
  have hlt := nw_lt (ys.take d) (small_take hs d)
  rw [List.length_take, Nat.min_eq_left (by omega)] at hlt
  generalize ys[d]?.getD 0 = y at *
  have hp : 0 < 2 ^ s := Nat.pow_pos (by decide)
  have h1 : W ^ d * 1 ≤ W ^ d * y := Nat.mul_le_mul_left _ (Nat.pos_of_ne_zero hlast)
  have hlow : W ^ d ≤ nw ys := by omega
  have hhigh : nw ys < W ^ d * (y + 1) := by rw [Nat.mul_add]; omega
  have h2 : 2 ^ s * nw ys < 2 ^ s * (W ^ d * (y + 1)) := Nat.mul_lt_mul_of_pos_left hhigh hp
  have h3 : 2 ^ s * (W ^ d * (y + 1)) ≤ W ^ d * W := by rw [Nat.mul_left_comm]; exact Nat.mul_le_mul_left _ hfit
  have h4 : 2 ^ s * nw ys < W ^ (d + 1) := by rw [Nat.pow_succ]; omega
  have h5 : W ^ d ≤ 2 ^ s * nw ys := Nat.le_trans hlow (Nat.le_mul_of_pos_left _ hp)
  refine ⟨?_, Nat.mul_le_mul_left _ hlow, by omega⟩
  have hw := nw_words (2 ^ s * nw ys)
  have hsm := words_small (2 ^ s * nw ys)
  have hub := nw_lt _ hsm
  rw [hw] at hub
  have hlb : (words (2 ^ s * nw ys)).length ≤ d + 1 := by
    obtain ⟨k, hk, e⟩ := words_prefix (words (2 ^ s * nw ys) ++ List.replicate 0 0) (by simpa using hsm)
    have hne : words (2 ^ s * nw ys) ≠ [] := fun e => by rw [words_nil_iff] at e; have : 0 < W ^ d := Nat.pow_pos W_pos; omega
    have hl := words_last _ hne
    rcases Nat.lt_or_ge (d + 1) (words (2 ^ s * nw ys)).length with c | c
    · exfalso
      generalize words (2 ^ s * nw ys) = l at *
      obtain ⟨z, hz⟩ : ∃ z, l.length = z + 1 := ⟨l.length - 1, by omega⟩
      have ec := nw_cut_le l z (by omega)
      rw [List.getLast_eq_getElem] at hl
      have hz2 : l.drop z = [l[z]'(by omega)] := by rw [List.drop_eq_getElem_cons (by omega), List.drop_of_length_le (by omega)]
      simp only [hz, Nat.add_sub_cancel] at hl
      rw [hz2, nw_cons, nw_nil, Nat.mul_zero, Nat.add_zero] at ec
      have h6 : W ^ z * 1 ≤ W ^ z * l[z]'(by omega) := Nat.mul_le_mul_left _ (Nat.pos_of_ne_zero hl)
      have h7 : W ^ (d + 1) ≤ W ^ z := Nat.pow_le_pow_right W_pos (by omega)
      omega
    · exact c
  rcases Nat.lt_or_ge (words (2 ^ s * nw ys)).length (d + 1) with c | c
  · have : W ^ (words (2 ^ s * nw ys)).length ≤ W ^ d := Nat.pow_le_pow_right W_pos (by omega)
    omega
  · omega
set_option maxHeartbeats 1000000 in
theorem divide_small (vx : Option Addr) (n capx : Nat) (vy : Option Addr) (m capy : Nat) (w : World) (h : n < m) :
    Calls Tryz.prog 170 #[.slice vx n capx, .slice vy m capy] w fun e w' => e = .returned (.tuple #[.slice none 0 0, .slice vx n capx]) ∧ w' = w := by
  go_enter Tryz.func170, Tryz.ntmps170
  go_wp2
  go_ret2
  exact ⟨rfl, rfl⟩
end Go.Proofs.YtojidhnkpeiimaaGreatDoor
