/- times of package nat, and nat.Mul. -/
import Derived.Test.YtghjhflfcambjaaGreatDoorSubA
import Derived.Test.YtghjhflfcambjaaGreatDoorNumH
import Derived.Deep.QuietTactic
import Derived.BigQuiet
namespace Go.Proofs.YtghjhflfcambjaaGreatDoor
open Go.RowKit

theorem Upd.drewN {g off n : Nat} {a b : World} (h : Upd g off n a b) (k : Nat) : Upd g off n a (b.drewN k) := ⟨⟨h.grown.os, h.grown.tape, h.grown.output, h.grown.size, h.grown.block⟩, h.inside⟩
theorem Lies.drewN {w : World} {g off : Nat} {l : List Nat} (h : Lies w g off l) (k : Nat) : Lies (w.drewN k) g off l := h

set_option maxRecDepth 100000 in
set_option maxHeartbeats 4000000 in
theorem times_any (gx capx gy capy : Nat) (xs ys : List Nat) (w : World) (hsx : Small xs) (hsy : Small ys) (hlx : xs.length ≤ 8796093022208) (hly : ys.length ≤ 8796093022208) (hx : Lies w gx 0 xs) (hy : Lies w gy 0 ys) :
    Calls Tryz.prog 41 #[.slice (some ⟨gx, 0, none⟩) xs.length capx, .slice (some ⟨gy, 0, none⟩) ys.length capy] w fun e w' => ∃ v l, e = .returned v ∧ Has w' w.heap.size v l ∧ Small l ∧ l.length = xs.length + ys.length ∧ nw l = nw xs * nw ys ∧ Below w.heap.size w w' := by
  obtain ⟨i0, hi, hz0, hz1, hz2⟩ := info_parts Tryz.infoU32
  have hgx := hx.lt
  have hgy := hy.lt
  go_enter Tryz.func41, Tryz.ntmps41
  go_wp2_with (first
    | (at_make; refine wpList_make_full _ rfl _ _ 47 rfl w.heap.size 66 i0 (.int .u32 0) 1 Tryz.underlying47 hi hz0 hz1 .i64 .i64 _ _ (xs.length + ys.length) rfl rfl (by omega) (by omega) (by rw [hz2]; omega) (by unfold maxLen; omega) (Nat.le_refl _) ?_; intro w2 hown2 hgrow2; have hb2 := block_of_own hown2; rw [made_u32] at hb2; have HB2 := hide hb2; have hB2 : Below w.heap.size w w2 := (Below.refl _ w).grown hgrow2 (Nat.le_refl _) (fun k e => by cases e); have hx2 := hx.below hB2 hgx; have hy2 := hy.below hB2 hgy; clear hown2 hgrow2 hb2))
  have hl2 := lies_of_block HB2.out
  go_loopw [17] (fun i wr => ∃ (k : Nat) (p : List Nat), k ≤ xs.length ∧ i = .int .i64 k ∧ p.length = xs.length + ys.length ∧ Small p ∧ Hid (nw p = nw (xs.take k) * nw ys) ∧ Hid (∀ j, k + ys.length ≤ j → p[j]?.getD 0 = 0) ∧ Lies wr w.heap.size 0 p ∧ Upd w.heap.size 0 (xs.length + ys.length) w2 wr)
    (fun i _ => xs.length - (intOf i).toNat)
  case atStart => exact ⟨0, _, Nat.zero_le _, rfl, by simp, small_zeros _, by show _ = _; rw [nw_zeros]; simp [nw_nil], fun j _ => by rw [List.getElem?_replicate]; split <;> rfl, hl2, Upd.refl _ _ _ _⟩
  case round =>
    obtain ⟨k, p, hk, rfl, hpl, hps, hpn, hpz, hlr, hur⟩ := hrel
    obtain ⟨wo, rfl⟩ : ∃ wo : World, wo = wr := ⟨_, rfl⟩
    by_cases hlt : k < xs.length
    · have hcx := fun V (hV : Upd w.heap.size 0 (xs.length + ys.length) w2 V) => (hx2.apart hV (by omega)).cell k hlt
      have hxk := getD_lt hsx k
      have hspec := mulRow_spec (xs[k]?.getD 0) ys p k hxk hsy hps (by omega) hpz.out
      have HX : Hid (nw (xs.take (k + 1)) = nw (xs.take k) + W ^ k * xs[k]?.getD 0) := by
        show _ = _
        rw [nw_take_succ xs k hlt, List.getElem?_eq_getElem hlt]; rfl
      generalize xs[k]?.getD 0 = x at *
      have HXC := hide hcx
      have HSP := hide hspec
      have hfr : Lies wo w.heap.size 0 (p.take k ++ (acc (rowF x ys p k) 0).1 ++ p.drop (k + 0)) := by simpa [acc] using hlr
      clear hcx hspec
      go_wp2
      go_loopw [7, 22] (fun c j wr => ∃ m : Nat, m ≤ ys.length ∧ j = .int .i64 m ∧ c = .int .u64 ((acc (rowF x ys p k) m).2 : Nat) ∧ Lies wr w.heap.size 0 (p.take k ++ (acc (rowF x ys p k) m).1 ++ p.drop (k + m)) ∧ Upd w.heap.size 0 (xs.length + ys.length) w2 wr)
        (fun _ j _ => ys.length - (intOf j).toNat)
      case atStart => exact ⟨0, Nat.zero_le _, rfl, rfl, hfr, hur⟩
      case round =>
        obtain ⟨m, hm, rfl, rfl, hlr2, hur2⟩ := hrel
        have hcy := rowF_carry x ys p k hxk hsy hps m
        have hql := acc_length (rowF x ys p k) m
        have htk : (p.take k).length = k := by rw [List.length_take]; omega
        rw [W_eq] at hcy
        by_cases hmt : m < ys.length
        · have hlen2 : k + m < (p.take k ++ (acc (rowF x ys p k) m).1 ++ p.drop (k + m)).length := by rw [List.length_append, List.length_append, htk, hql, List.length_drop]; omega
          have hcell := hlr2.cell (k + m) hlen2
          have hfz := hlr2.frozen (k + m)
          rw [seg_get _ _ _ k m htk hql, Nat.zero_add] at hcell
          have hset := fun z n => (hlr2.drewN n).set (k + m) hlen2 z
          simp only [seg_set _ _ p k m _ htk hql (by omega), Nat.zero_add] at hset
          have hcxk := HXC.out wr hur2
          rw [Nat.zero_add] at hcxk
          have hcyk := (hy2.apart hur2 (by omega)).cell m hmt
          rw [Nat.zero_add] at hcyk
          have hyk := getD_lt hsy m
          have hpk := getD_lt hps (k + m)
          have HG : Hid (acc (rowF x ys p k) (m + 1) = ((acc (rowF x ys p k) m).1 ++ [((acc (rowF x ys p k) m).2 + rowF x ys p k m) % W], ((acc (rowF x ys p k) m).2 + rowF x ys p k m) / W)) := rfl
          have HF : Hid (rowF x ys p k m = x * ys[m]?.getD 0 + p[k + m]?.getD 0) := rfl
          have hprod : x * ys[m]?.getD 0 ≤ 4294967295 * 4294967295 := Nat.mul_le_mul (by rw [W_eq] at hxk; omega) (by rw [W_eq] at hyk; omega)
          rw [W_eq] at hyk hpk
          have hx32 : x < 4294967296 := hxk
          generalize (acc (rowF x ys p k) m).2 = c at *
          generalize (acc (rowF x ys p k) m).1 = q at *
          generalize rowF x ys p k m = s at *
          generalize ys[m]?.getD 0 = y at *
          generalize p[k + m]?.getD 0 = z at *
          have hp1 : (x : Int) * (y : Int) ≤ 18446744065119617025 := by rw [← Int.natCast_mul]; omega
          have hp0 : 0 ≤ (x : Int) * (y : Int) := by rw [← Int.natCast_mul]; omega
          have hkI : (k : Int) < (xs.length : Int) := by omega
          have hmI : (m : Int) < (ys.length : Int) := by omega
          have hkmI : (k : Int) + (m : Int) < (xs.length : Int) + (ys.length : Int) := by omega
          have hkmT : ((k : Int) + (m : Int)).toNat = k + m := by omega
          have HSET := hide hset
          clear hset hlen2 hlr2 hprod
          go_wp2_with fail
          go_quiet (fail)
          go_wp2
          have hv : Value.int .u32 (((c : Int) + ((x : Int) * (y : Int) + (z : Int))) % 4294967296) = .int .u32 (((c + s) % W : Nat) : Int) := int_eq (by rw [W_eq, HF.out, Int.natCast_emod, Int.natCast_add, Int.natCast_add, Int.natCast_mul]; rfl)
          have hv2 : Value.int .u64 (((c : Int) + ((x : Int) * (y : Int) + (z : Int))) / 4294967296) = .int .u64 (((c + s) / W : Nat) : Int) := int_eq (by rw [W_eq, HF.out, Int.natCast_ediv, Int.natCast_add, Int.natCast_add, Int.natCast_mul]; rfl)
          rw [hv, hv2]
          have hq := HSET.out ((c + s) % W) nq
          go_roundw
          case rel => exact ⟨m + 1, by omega, by go_num, by rw [HG.out], by rw [HG.out]; exact hq, (hur2.drewN nq).trans (Upd.setCell (Nat.zero_le _) (by omega) _)⟩
          case measure => simp [intOf]; omega
        · obtain rfl : m = ys.length := by omega
          have hlen2 : k + ys.length < (p.take k ++ (acc (rowF x ys p k) ys.length).1 ++ p.drop (k + ys.length)).length := by rw [List.length_append, List.length_append, htk, hql, List.length_drop]; omega
          have hcell := hlr2.cell (k + ys.length) hlen2
          have hfz := hlr2.frozen (k + ys.length)
          rw [Nat.zero_add] at hcell
          have hset := hlr2.set (k + ys.length) hlen2 (acc (rowF x ys p k) ys.length).2
          rw [seg_set _ _ p k ys.length _ htk hql (by omega), Nat.zero_add] at hset
          change Lies _ _ _ (mulRow x ys p k) at hset
          have HSET := hide hset
          have hkT : ((k : Int) + (ys.length : Int)).toNat = k + ys.length := by omega
          generalize (p.take k ++ (acc (rowF x ys p k) ys.length).1 ++ p.drop (k + ys.length))[k + ys.length]?.getD 0 = old at *
          generalize (acc (rowF x ys p k) ys.length).2 = c at *
          obtain ⟨s1, s2, s3, s4⟩ := HSP.out
          have HS3 : Hid (nw (mulRow x ys p k) = nw (xs.take (k + 1)) * nw ys) := by
            show _ = _
            rw [s3, hpn.out, HX.out, Nat.add_mul, Nat.mul_assoc]
          have HS1 := hide s1
          have HS2 := hide s2
          have HS4 := hide s4
          generalize mulRow x ys p k = p2 at *
          clear hset hlen2 hlr2 HSP s1 s2 s3 s4 HX hfr hlr
          go_wp2
          go_roundw
          case rel => exact ⟨k + 1, p2, by omega, by go_num, by rw [HS1.out, hpl], HS2.out, HS3, fun j hj => HS4.out j (by omega), HSET.out, hur2.trans (Upd.setCell (Nat.zero_le _) (by omega) _)⟩
          case measure => simp [intOf]; omega
    · obtain rfl : k = xs.length := by omega
      obtain ⟨cur, hc4, hcs, _⟩ := hur.inside _ HB2.out
      have hown4 := own_of_lies (base := w.heap.size) (cap := xs.length + ys.length) cur hc4 (by rw [hcs]; simp) (Nat.le_refl _) (by unfold maxLen; omega) (by omega) hlr
      have hB4 : Below w.heap.size w wo := Upd.below hB2 hur (Nat.le_refl _) hB2.size
      have HPL := hide hpl
      rw [hpl] at hown4
      clear hpl hc4 hcs hlr hur
      go_wp2
      go_ret
      exact ⟨_, p, rfl, by rw [Has, HPL.out]; exact hown4, hps, HPL.out, by have := hpn.out; rwa [List.take_length] at this, hB4⟩

set_option maxRecDepth 100000 in
set_option maxHeartbeats 1000000 in
theorem Mul_any (a b : ByteArray) (w : World) (ha : a.size ≤ 1099511627776) (hb : b.size ≤ 1099511627776) :
    Calls Tryz.prog 15 #[.string a, .string b] w fun e w' => e = .returned (.string (B (N a * N b))) ∧ Below w.heap.size w w' := by
  have hla := words_len_le a 274877906944 (by omega)
  have hlb := words_len_le b 274877906944 (by omega)
  go_enter Tryz.func15, Tryz.ntmps15
  go_wp2_with fail
  refine (spread_some a _ (by omega)).mono ?_
  rintro e w1 ⟨g1, c1, rfl, h1, hb1⟩
  go_wp2_with fail
  refine (spread_some b _ (by omega)).mono ?_
  rintro e w2 ⟨g2, c2, rfl, h2, hb2⟩
  have hl1 := has_lies h1 hb2
  have hl2 := has_lies h2 (Below.refl _ _)
  have hB2 : Below w.heap.size w w2 := hb1.trans (hb2.mono hb1.size)
  go_wp2_with fail
  refine (times_any g1 c1 g2 c2 _ _ _ (words_small _) (words_small _) (by omega) (by omega) hl1 hl2).mono ?_
  rintro e w3 ⟨v, l, rfl, h3, hs3, hn3, hv3, hb3⟩
  have hB3 : Below w.heap.size w w3 := hB2.trans (hb3.mono hB2.size)
  have HV := hide hv3
  have HN := hide hn3
  clear hv3 hn3
  go_wp2_with fail
  refine (gather_own _ _ _ _ hs3 (by rw [HN.out]; omega) h3).mono ?_
  rintro e w4 ⟨rfl, hb4⟩
  go_wp2
  go_ret
  exact ⟨by rw [HV.out, nw_words, nw_words]; rfl, hB3.trans (hb4.mono hB3.size)⟩
end Go.Proofs.YtghjhflfcambjaaGreatDoor
