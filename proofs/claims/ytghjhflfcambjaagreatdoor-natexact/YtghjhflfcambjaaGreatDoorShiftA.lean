/- shiftUp and shiftDown of package nat. -/
import Derived.Test.YtghjhflfcambjaaGreatDoorWordA
namespace Go.Proofs.YtghjhflfcambjaaGreatDoor
open Go.RowKit

/-- What stands at place j of a shifted number, not yet brought to parts. -/
def shF (xs : List Nat) (s j : Nat) : Nat := 2 ^ s * xs[j]?.getD 0
theorem shF_nw (xs : List Nat) (s : Nat) : nwF (shF xs s) xs.length = 2 ^ s * nw xs := by
  rw [show shF xs s = fun j => 2 ^ s * (fun j => xs[j]?.getD 0) j from rfl, nwF_mul, nwF_list xs _ (Nat.le_refl _)]
theorem shF_carry (xs : List Nat) (hx : Small xs) (s k : Nat) : (acc (shF xs s) k).2 < 2 ^ s := by
  have hp : 0 < 2 ^ s := Nat.pow_pos (by decide)
  have h := acc_carry (shF xs s) (2 ^ s - 1) k fun j _ => by
    have h1 := getD_lt hx j
    have h2 : 2 ^ s * (xs[j]?.getD 0 + 1) ≤ 2 ^ s * W := Nat.mul_le_mul_left _ h1
    rw [Nat.mul_add] at h2
    unfold shF
    rw [Nat.sub_add_cancel hp]
    omega
  omega
theorem pow_lt_W {s : Nat} (hs : s < 32) : 2 ^ s ≤ 2147483648 := by
  have : 2 ^ s ≤ 2 ^ 31 := Nat.pow_le_pow_right (by decide) (by omega)
  simpa using this
theorem shl_or (c x s : Nat) (hs : s < 32) (hc : c < 2 ^ s) (hx : x < 4294967296) : bits .or .u64 (c : Int) (IntKind.u64.wrap ((x : Int) * 2 ^ s)) = ((c + 2 ^ s * x : Nat) : Int) := by
  have hp := pow_lt_W hs
  have hm : x * 2 ^ s ≤ 4294967295 * 2147483648 := Nat.mul_le_mul (by omega) hp
  have e1 : IntKind.u64.wrap ((x : Int) * 2 ^ s) = ((x * 2 ^ s : Nat) : Int) := by
    rw [IntKind.wrap_u64, show ((x : Int) * 2 ^ s) = ((x * 2 ^ s : Nat) : Int) by simp]
    omega
  rw [e1, u64_or_nat _ _ (by omega) (by omega), Nat.or_comm, nat_join s _ _ (Nat.mul_mod_left _ _) hc]
  congr 1
  rw [Nat.mul_comm]; omega

set_option maxRecDepth 100000 in
set_option maxHeartbeats 4000000 in
theorem shiftUp_any (gx capx : Nat) (xs : List Nat) (s : Nat) (w : World) (hsx : Small xs) (hs : s < 32) (hlx : xs.length ≤ 8796093022208) (hx : Lies w gx 0 xs) :
    Calls Tryz.prog 68 #[.slice (some ⟨gx, 0, none⟩) xs.length capx, .int .i64 (s : Nat)] w fun e w' => ∃ v l, e = .returned v ∧ Has w' w.heap.size v l ∧ Small l ∧ l.length = xs.length + 1 ∧ nw l = 2 ^ s * nw xs ∧ Below w.heap.size w w' := by
  obtain ⟨i0, hi, hz0, hz1, hz2⟩ := info_parts Tryz.infoU32
  have hgx := hx.lt
  go_enter Tryz.func68, Tryz.ntmps68
  go_wp2_with (first
    | (at_make; refine wpList_make_full _ rfl _ _ 47 rfl w.heap.size 66 i0 (.int .u32 0) 1 Tryz.underlying47 hi hz0 hz1 .i64 .i64 _ _ (xs.length + 1) rfl rfl (by omega) (by omega) (by rw [hz2]; omega) (by unfold maxLen; omega) (Nat.le_refl _) ?_; intro w2 hown2 hgrow2; have hb2 := block_of_own hown2; rw [made_u32] at hb2; have HB2 := hide hb2; have hB2 : Below w.heap.size w w2 := (Below.refl _ w).grown hgrow2 (Nat.le_refl _) (fun k e => by cases e); have hx2 := hx.below hB2 hgx; clear hown2 hgrow2 hb2))
  have hl2 := lies_of_block HB2.out
  go_loopw [6, 15] (fun c i wr => ∃ k : Nat, k ≤ xs.length ∧ i = .int .i64 k ∧ c = .int .u64 ((acc (shF xs s) k).2 : Nat) ∧ Lies wr w.heap.size 0 ((acc (shF xs s) k).1 ++ (List.replicate (xs.length + 1) 0).drop k) ∧ Upd w.heap.size 0 (xs.length + 1) w2 wr)
    (fun _ i _ => xs.length - (intOf i).toNat)
  case atStart => exact ⟨0, Nat.zero_le _, rfl, rfl, by simpa [acc] using hl2, Upd.refl _ _ _ _⟩
  case round =>
    obtain ⟨k, hk, rfl, rfl, hlr, hur⟩ := hrel
    have hql := acc_length (shF xs s) k
    by_cases hlt : k < xs.length
    · have hcx := (hx2.apart hur (by omega)).cell k hlt
      rw [Nat.zero_add] at hcx
      have hlen2 : k < ((acc (shF xs s) k).1 ++ (List.replicate (xs.length + 1) 0).drop k).length := by rw [List.length_append, hql, List.length_drop, List.length_replicate]; omega
      have hcell := hlr.cell k hlen2
      have hfz := hlr.frozen k
      have hset := fun y => hlr.set k hlen2 y
      rw [Nat.zero_add] at hcell
      simp only [drop_set_append _ (List.replicate (xs.length + 1) 0) k _ hql (by simp; omega), Nat.zero_add] at hset
      have hxb := getD_lt hsx k
      have hcs := shF_carry xs hsx s k
      have HG : Hid (acc (shF xs s) (k + 1) = ((acc (shF xs s) k).1 ++ [((acc (shF xs s) k).2 + shF xs s k) % W], ((acc (shF xs s) k).2 + shF xs s k) / W)) := rfl
      have HF : Hid (shF xs s k = 2 ^ s * xs[k]?.getD 0) := rfl
      rw [W_eq] at hxb
      have hor := shl_or (acc (shF xs s) k).2 (xs[k]?.getD 0) s hs hcs hxb
      have hm : 2 ^ s * xs[k]?.getD 0 ≤ 2147483648 * 4294967295 := Nat.mul_le_mul (pow_lt_W hs) (by omega)
      have hp := pow_lt_W hs
      rw [← HF.out] at hor hm
      generalize shF xs s k = f at *
      generalize (acc (shF xs s) k).2 = c at *
      generalize (acc (shF xs s) k).1 = q at *
      generalize xs[k]?.getD 0 = x at *
      generalize (q ++ (List.replicate (xs.length + 1) 0).drop k)[k]?.getD 0 = old at *
      obtain ⟨t, ht⟩ : ∃ t, t = c + f := ⟨_, rfl⟩
      rw [← ht] at hor
      have htb : t < 18446744073709551615 := by omega
      have HT := hide ht
      have HSET := hide hset
      have hc32 : c < 4294967296 := by omega
      clear hset hlen2 hlr ht hm hp hcs HF
      go_wp2
      have hv : Value.int .u32 ((t : Int) % 4294967296) = .int .u32 (((c + f) % W : Nat) : Int) := int_eq (by rw [W_eq, ← HT.out]; omega)
      have hv2 : Value.int .u64 ((t : Int) / 4294967296) = .int .u64 (((c + f) / W : Nat) : Int) := int_eq (by rw [W_eq, ← HT.out]; omega)
      rw [hv, hv2]
      have hq := HSET.out ((c + f) % W)
      go_roundw
      case rel => exact ⟨k + 1, by omega, by go_num, by rw [HG.out], by rw [HG.out]; exact hq, hur.trans (Upd.setCell (Nat.zero_le _) (by omega) _)⟩
      case measure => simp [intOf]; omega
    · obtain rfl : k = xs.length := by omega
      have hlen2 : xs.length < ((acc (shF xs s) xs.length).1 ++ (List.replicate (xs.length + 1) 0).drop xs.length).length := by rw [List.length_append, hql, List.length_drop, List.length_replicate]; omega
      have hcell := hlr.cell xs.length hlen2
      have hfz := hlr.frozen xs.length
      have hset := hlr.set xs.length hlen2 (acc (shF xs s) xs.length).2
      rw [drop_set_append _ (List.replicate (xs.length + 1) 0) xs.length _ hql (by simp), List.drop_of_length_le (by simp), List.append_nil, Nat.zero_add] at hset
      rw [Nat.zero_add] at hcell
      have hcs := shF_carry xs hsx s xs.length
      have hp := pow_lt_W hs
      have HE := hide (acc_eq (shF xs s) xs.length)
      have hqs := acc_small (shF xs s) xs.length
      have HF := hide (shF_nw xs s)
      obtain ⟨cur, hc4, hcz, _⟩ := hur.inside _ HB2.out
      generalize ((acc (shF xs s) xs.length).1 ++ (List.replicate (xs.length + 1) 0).drop xs.length)[xs.length]?.getD 0 = old at *
      generalize (acc (shF xs s) xs.length).2 = c at *
      generalize (acc (shF xs s) xs.length).1 = q at *
      have hc32 : c < 4294967296 := by omega
      have hur4 : Upd w.heap.size 0 (xs.length + 1) w2 (wr.setCell ⟨w.heap.size, xs.length, none⟩ (.int .u32 (c : Nat))) := hur.trans (Upd.setCell (Nat.zero_le _) (by omega) _)
      obtain ⟨cur2, hc5, hcz2, _⟩ := hur4.inside _ HB2.out
      have hql2 : (q ++ [c]).length = xs.length + 1 := by rw [List.length_append, hql]; rfl
      have hown4 := own_of_lies (base := w.heap.size) (cap := xs.length + 1) cur2 hc5 (by rw [hcz2]; simp) (Nat.le_refl _) (by unfold maxLen; omega) (by omega) hset
      have hB4 := Upd.below hB2 hur4 (Nat.le_refl _) hB2.size
      have HO := hide hown4
      have HQL := hide hql2
      have HQ0 := hide hql
      clear hset hlen2 hlr hc4 hcz hc5 hcz2 hown4 hur4 hql2 hql hp hcs
      go_wp2
      go_ret
      refine ⟨_, q ++ [c], rfl, ?_, ?_, HQL.out, ?_, hB4⟩
      · rw [Has, HQL.out]; have := HO.out; rwa [HQL.out] at this
      · exact small_append hqs (fun z hz => by simp at hz; subst hz; exact hc32)
      · rw [nw_snoc, HQ0.out, HE.out, HF.out]
end Go.Proofs.YtghjhflfcambjaaGreatDoor
