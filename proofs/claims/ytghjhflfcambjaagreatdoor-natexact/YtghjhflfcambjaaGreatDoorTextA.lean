/- divideByGroup and groupsOf of package nat. -/
import Derived.Test.YtghjhflfcambjaaGreatDoorCore6
namespace Go.Proofs.YtghjhflfcambjaaGreatDoor
open Go.RowKit

theorem or_u64 (r x : Nat) (hr : r < 4294967296) (hx : x < 4294967296) : bits .or .u64 ((r : Int) * 4294967296) (x : Int) = ((r * 4294967296 + x : Nat) : Int) := by
  have e1 : (r : Int) * 4294967296 = ((r * 4294967296 : Nat) : Int) := by omega
  rw [e1, u64_or_nat _ _ (by omega) (by omega), nat_join 32 _ _ (by omega) (by omega)]

set_option maxRecDepth 100000 in
set_option maxHeartbeats 2000000 in
theorem divideByGroup_any (g cap : Nat) (l : List Nat) (w : World) (hs : Small l) (hlen : l.length ≤ 35184372088832) (hl : Lies w g 0 l) :
    Calls Tryz.prog 71 #[.slice (some ⟨g, 0, none⟩) l.length cap] w fun e w' => e = .returned (.int .u32 (nw l % 1000000000 : Nat)) ∧ Lies w' g 0 (divG 1000000000 l).1 ∧ Upd g 0 l.length w w' := by
  go_enter Tryz.func71, Tryz.ntmps71
  go_wp2
  go_loopw [3, 8] (fun r i wr => ∃ k : Nat, k ≤ l.length ∧ i = .int .i64 k ∧ r = .int .u64 ((divG 1000000000 (l.drop (l.length - k))).2 : Nat) ∧ Lies wr g 0 (l.take (l.length - k) ++ (divG 1000000000 (l.drop (l.length - k))).1) ∧ Upd g 0 l.length w wr)
    (fun _ i _ => l.length - (intOf i).toNat)
  case atStart => exact ⟨0, Nat.zero_le _, rfl, by simp [divG], by simpa [divG] using hl, Upd.refl _ _ _ _⟩
  case round =>
    obtain ⟨k, hk, rfl, rfl, hlr, hur⟩ := hrel
    by_cases hlt : k < l.length
    · obtain ⟨m, hm⟩ : ∃ m, m + 1 = l.length - k := ⟨l.length - k - 1, by omega⟩
      have hml : m < l.length := by omega
      have e1 : l.length - (k + 1) = m := by omega
      have hd : l.drop m = l[m] :: l.drop (m + 1) := List.drop_eq_getElem_cons hml
      have hrest := divG_lt 1000000000 (by omega) (l.drop (m + 1))
      have hx := hs _ (List.getElem_mem hml)
      rw [← hm] at hlr ⊢
      have hlen2 : m < (l.take (m + 1) ++ (divG 1000000000 (l.drop (m + 1))).1).length := by simp; omega
      have hcell := hlr.cell m hlen2
      have hfz := hlr.frozen (0 + m)
      have hset := fun y => hlr.set m hlen2 y
      simp only [take_set_append l _ m _ hml] at hset
      have hgm : (l.take (m + 1) ++ (divG 1000000000 (l.drop (m + 1))).1)[m]?.getD 0 = l[m] := by
        rw [List.getElem?_append_left (by simp; omega), List.getElem?_take, if_pos (by omega), List.getElem?_eq_getElem hml]; rfl
      rw [hgm] at hcell
      rw [Nat.zero_add] at hcell hfz
      have HG : Hid ((divG 1000000000 (l.drop m)) = (((divG 1000000000 (l.drop (m + 1))).2 * W + l[m]) / 1000000000 :: (divG 1000000000 (l.drop (m + 1))).1, ((divG 1000000000 (l.drop (m + 1))).2 * W + l[m]) % 1000000000)) := by rw [hd]; rfl
      rw [W_eq] at hx
      generalize (divG 1000000000 (l.drop (m + 1))).2 = r at *
      generalize (divG 1000000000 (l.drop (m + 1))).1 = q at *
      generalize l[m] = x at *
      obtain ⟨t, ht⟩ : ∃ t, t = r * 4294967296 + x := ⟨_, rfl⟩
      have hor : bits .or .u64 ((r : Int) * 4294967296) (x : Int) = (t : Int) := by rw [ht]; exact or_u64 r x (by omega) hx
      have htb : t < 4294967296000000000 := by omega
      have HT : Hid (t = r * 4294967296 + x) := ht
      have hmk : (l.length : Int) - 1 - (k : Int) = (m : Int) := by omega
      have HSET : Hid (∀ y, Lies (wr.setCell ⟨g, 0 + m, none⟩ (.int .u32 (y : Nat))) g 0 (l.take m ++ y :: q)) := hset
      clear ht hgm hset hd hlen2 hlr
      go_wp2
      have hv : Value.int .u32 ((t : Int) / 1000000000) = .int .u32 (((r * W + x) / 1000000000 : Nat) : Int) := int_eq (by rw [W_eq, ← HT.out]; omega)
      have hv2 : Value.int .u64 ((t : Int) % 1000000000) = .int .u64 (((r * W + x) % 1000000000 : Nat) : Int) := int_eq (by rw [W_eq, ← HT.out]; omega)
      rw [hv, hv2]
      have hq := HSET.out ((r * W + x) / 1000000000)
      rw [Nat.zero_add] at hq
      go_roundw
      case rel => exact ⟨k + 1, by omega, by go_num, by rw [e1, HG.out], by rw [e1, HG.out]; exact hq, hur.trans (Upd.setCell (Nat.zero_le _) (by omega) _)⟩
      case measure => simp [intOf]; omega
    · obtain rfl : k = l.length := by omega
      go_wp2
      go_ret
      refine ⟨ret_int ?_, ?_, hur⟩
      · rw [divG_rest _ (by omega)]
        have := Nat.mod_lt (nw l) (show 0 < 1000000000 by omega)
        omega
      · simpa using hlr
end Go.Proofs.YtghjhflfcambjaaGreatDoor
