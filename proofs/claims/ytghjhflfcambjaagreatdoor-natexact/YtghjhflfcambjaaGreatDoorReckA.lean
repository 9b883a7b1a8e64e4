/- putBack of package nat: the sum, in the place of its first argument; does it run over its end? -/
import Derived.Test.YtghjhflfcambjaaGreatDoorTextB
import Derived.Test.YtghjhflfcambjaaGreatDoorNumD
import Derived.Test.YtghjhflfcambjaaGreatDoorNumF
namespace Go.Proofs.YtghjhflfcambjaaGreatDoor
open Go.RowKit

/-- What stands at place j of a sum that is not yet brought to parts. -/
def sumF (xs ys : List Nat) (j : Nat) : Nat := xs[j]?.getD 0 + ys[j]?.getD 0
theorem sumF_nw (xs ys : List Nat) (k : Nat) : nwF (sumF xs ys) k = nw (xs.take k) + nw (ys.take k) := by
  rw [show sumF xs ys = fun j => (fun j => xs[j]?.getD 0) j + (fun j => ys[j]?.getD 0) j from rfl, nwF_add, nwF_take, nwF_take]
theorem sumF_carry (xs ys : List Nat) (hx : Small xs) (hy : Small ys) (k : Nat) : (acc (sumF xs ys) k).2 ≤ 1 := by
  refine acc_carry _ 1 k fun j _ => ?_
  have h1 := getD_lt hx j
  have h2 := getD_lt hy j
  unfold sumF
  omega

set_option maxRecDepth 100000 in
set_option maxHeartbeats 4000000 in
theorem putBack_any (g off cap b offy capy : Nat) (xs ys : List Nat) (w : World) (hsx : Small xs) (hsy : Small ys) (hlen : xs.length ≤ 35184372088832) (hyx : ys.length ≤ xs.length) (hx : Lies w g off xs) (hy : Lies w b offy ys) (hgb : b ≠ g) :
    Calls Tryz.prog 66 #[.slice (some ⟨g, off, none⟩) xs.length cap, .slice (some ⟨b, offy, none⟩) ys.length capy] w fun e w' => ∃ (c : Bool) (l' : List Nat), e = .returned (.bool c) ∧ l'.length = xs.length ∧ Small l' ∧ nw l' + (if c then W ^ xs.length else 0) = nw xs + nw ys ∧ Lies w' g off l' ∧ Upd g off xs.length w w' := by
  go_enter Tryz.func66, Tryz.ntmps66
  go_wp2
  go_loopw [5, 9] (fun c i wr => ∃ k : Nat, k ≤ xs.length ∧ i = .int .i64 k ∧ c = .int .u64 ((acc (sumF xs ys) k).2 : Nat) ∧ Lies wr g off ((acc (sumF xs ys) k).1 ++ xs.drop k) ∧ Upd g off xs.length w wr)
    (fun _ i _ => xs.length - (intOf i).toNat)
  case atStart => exact ⟨0, Nat.zero_le _, rfl, rfl, by simpa [acc] using hx, Upd.refl _ _ _ _⟩
  case round =>
    obtain ⟨k, hk, rfl, rfl, hlr, hur⟩ := hrel
    have hcy := sumF_carry xs ys hsx hsy k
    have hql := acc_length (sumF xs ys) k
    have hqs := acc_small (sumF xs ys) k
    have HQ := hide (acc_eq (sumF xs ys) k)
    by_cases hlt : k < xs.length
    · have hlen2 : k < ((acc (sumF xs ys) k).1 ++ xs.drop k).length := by rw [List.length_append, hql, List.length_drop]; omega
      have hcell := hlr.cell k hlen2
      have hfz := hlr.frozen (off + k)
      have hset := fun y => hlr.set k hlen2 y
      simp only [drop_set_append _ xs k _ hql hlt] at hset
      have hgm : ((acc (sumF xs ys) k).1 ++ xs.drop k)[k]?.getD 0 = xs[k]?.getD 0 := by
        rw [List.getElem?_append_right (by omega), hql, Nat.sub_self, List.getElem?_drop, Nat.add_zero]
      rw [hgm] at hcell
      have HG : Hid (acc (sumF xs ys) (k + 1) = ((acc (sumF xs ys) k).1 ++ [((acc (sumF xs ys) k).2 + sumF xs ys k) % W], ((acc (sumF xs ys) k).2 + sumF xs ys k) / W)) := rfl
      have hxk := getD_lt hsx k
      have hyk := getD_lt hsy k
      rw [W_eq] at hxk hyk
      by_cases hky : k < ys.length
      · have hcy2 := (hy.apart hur hgb).cell k hky
        have HF : Hid (sumF xs ys k = xs[k]?.getD 0 + ys[k]?.getD 0) := rfl
        generalize (acc (sumF xs ys) k).2 = c at *
        generalize (acc (sumF xs ys) k).1 = q at *
        generalize sumF xs ys k = s at *
        generalize xs[k]?.getD 0 = x at *
        generalize ys[k]?.getD 0 = y at *
        have HSET := hide hset
        clear hset hgm hlen2 hlr HQ
        go_wp2
        have hv : Value.int .u32 (((c : Int) + (x : Int) + (y : Int)) % 4294967296) = .int .u32 (((c + s) % W : Nat) : Int) := int_eq (by rw [W_eq, HF.out]; omega)
        have hv2 : Value.int .u64 (((c : Int) + (x : Int) + (y : Int)) / 4294967296) = .int .u64 (((c + s) / W : Nat) : Int) := int_eq (by rw [W_eq, HF.out]; omega)
        rw [hv, hv2]
        have hq := HSET.out ((c + s) % W)
        go_roundw
        case rel => exact ⟨k + 1, by omega, by go_num, by rw [HG.out], by rw [HG.out]; exact hq, hur.trans (Upd.setCell (Nat.le_add_right _ _) (by omega) _)⟩
        case measure => simp [intOf]; omega
      · have hyk0 : ys[k]?.getD 0 = 0 := by rw [List.getElem?_eq_none (by omega)]; rfl
        by_cases hc0 : (acc (sumF xs ys) k).2 = 0
        · have HE : Hid (nw ((acc (sumF xs ys) k).1 ++ xs.drop k) = nw xs + nw ys) := by
            show _ = _
            have e := HQ.out
            rw [hc0, Nat.mul_zero, Nat.add_zero, sumF_nw, List.take_of_length_le (show ys.length ≤ k by omega)] at e
            rw [nw_append, hql, e, nw_cut_le xs k hk]; omega
          have hsm := small_append hqs (small_drop hsx k)
          have hll : ((acc (sumF xs ys) k).1 ++ xs.drop k).length = xs.length := by rw [List.length_append, hql, List.length_drop]; omega
          rw [hc0]
          generalize (acc (sumF xs ys) k).1 ++ xs.drop k = q at *
          clear hset hcell hfz HG hgm hlen2 HQ
          go_wp2
          go_ret
          exact ⟨false, q, rfl, hll, hsm, by rw [HE.out]; rfl, hlr, hur⟩
        · have HF : Hid (sumF xs ys k = xs[k]?.getD 0) := by show _ = _; rw [sumF, hyk0, Nat.add_zero]
          have hcb : (((acc (sumF xs ys) k).2 : Int) == 0) = false := by rw [beq_eq_false_iff_ne]; omega
          generalize (acc (sumF xs ys) k).2 = c at *
          generalize (acc (sumF xs ys) k).1 = q at *
          generalize sumF xs ys k = s at *
          generalize xs[k]?.getD 0 = x at *
          have HSET := hide hset
          clear hset hgm hlen2 hlr HQ hyk0 hc0
          go_wp2
          have hv : Value.int .u32 (((c : Int) + (x : Int)) % 4294967296) = .int .u32 (((c + s) % W : Nat) : Int) := int_eq (by rw [W_eq, HF.out]; omega)
          have hv2 : Value.int .u64 (((c : Int) + (x : Int)) / 4294967296) = .int .u64 (((c + s) / W : Nat) : Int) := int_eq (by rw [W_eq, HF.out]; omega)
          rw [hv, hv2]
          have hq := HSET.out ((c + s) % W)
          go_roundw
          case rel => exact ⟨k + 1, by omega, by go_num, by rw [HG.out], by rw [HG.out]; exact hq, hur.trans (Upd.setCell (Nat.le_add_right _ _) (by omega) _)⟩
          case measure => simp [intOf]; omega
    · obtain rfl : k = xs.length := by omega
      rw [List.drop_length, List.append_nil] at hlr
      have HE : Hid (nw (acc (sumF xs ys) xs.length).1 + W ^ xs.length * (acc (sumF xs ys) xs.length).2 = nw xs + nw ys) := by
        show _ = _
        rw [HQ.out, sumF_nw, List.take_length, List.take_of_length_le hyx]
      generalize (acc (sumF xs ys) xs.length).1 = q at *
      generalize (acc (sumF xs ys) xs.length).2 = c at *
      clear HQ
      rcases (show c = 0 ∨ c = 1 by omega) with rfl | rfl
      · go_wp2
        go_ret
        exact ⟨false, q, rfl, hql, hqs, by have := HE.out; simpa using this, hlr, hur⟩
      · go_wp2
        go_ret
        exact ⟨true, q, rfl, hql, hqs, by have := HE.out; simpa using this, hlr, hur⟩
end Go.Proofs.YtghjhflfcambjaaGreatDoor
