/- shiftDown of package nat. -/
import Derived.Test.YtghjhflfcambjaaGreatDoorShiftA
import Derived.Test.YtghjhflfcambjaaGreatDoorNumI
namespace Go.Proofs.YtghjhflfcambjaaGreatDoor
open Go.RowKit

theorem shl_full (a x : Nat) (hx : x < 4294967296) : bits .or .u64 (IntKind.u64.wrap ((a : Int) * 4294967296)) (x : Int) = ((a % 4294967296 * 4294967296 + x : Nat) : Int) := by
  have e : IntKind.u64.wrap ((a : Int) * 4294967296) = ((a % 4294967296 : Nat) : Int) * 4294967296 := by rw [IntKind.wrap_u64]; omega
  rw [e]
  exact or_u64 (a % 4294967296) x (by omega) hx

set_option maxRecDepth 100000 in
set_option maxHeartbeats 4000000 in
theorem shiftDown_any (g cap : Nat) (l : List Nat) (s : Nat) (w : World) (hsl : Small l) (hs : s < 32) (hlen : l.length ≤ 35184372088832) (hl : Lies w g 0 l) :
    Calls Tryz.prog 70 #[.slice (some ⟨g, 0, none⟩) l.length cap, .int .i64 (s : Nat)] w fun e w' => e = .returned (.tuple #[]) ∧ Lies w' g 0 (shd s l) ∧ Upd g 0 l.length w w' := by
  go_enter Tryz.func70, Tryz.ntmps70
  go_wp2
  go_loopw [4, 9] (fun a i wr => ∃ k ab : Nat, k ≤ l.length ∧ i = .int .i64 k ∧ a = .int .u64 (ab : Nat) ∧ ab < 18446744073709551616 ∧ Hid (ab % 4294967296 = (l.drop (l.length - k))[0]?.getD 0) ∧ Lies wr g 0 (l.take (l.length - k) ++ shd s (l.drop (l.length - k))) ∧ Upd g 0 l.length w wr)
    (fun _ i _ => l.length - (intOf i).toNat)
  case atStart => exact ⟨0, 0, Nat.zero_le _, rfl, rfl, by omega, by show _ = _; simp, by simpa [shd] using hl, Upd.refl _ _ _ _⟩
  case round =>
    obtain ⟨k, ab, hk, rfl, rfl, hab, hah, hlr, hur⟩ := hrel
    by_cases hlt : k < l.length
    · obtain ⟨m, hm⟩ : ∃ m, m + 1 = l.length - k := ⟨l.length - k - 1, by omega⟩
      have hml : m < l.length := by omega
      have e1 : l.length - (k + 1) = m := by omega
      have hd : l.drop m = l[m] :: l.drop (m + 1) := List.drop_eq_getElem_cons hml
      have hx := hsl _ (List.getElem_mem hml)
      rw [← hm] at hlr hah
      have hlen2 : m < (l.take (m + 1) ++ shd s (l.drop (m + 1))).length := by simp; omega
      have hcell := hlr.cell m hlen2
      have hfz := hlr.frozen (0 + m)
      have hset := fun y => hlr.set m hlen2 y
      simp only [take_set_append l _ m _ hml] at hset
      have hgm : (l.take (m + 1) ++ shd s (l.drop (m + 1)))[m]?.getD 0 = l[m] := by
        rw [List.getElem?_append_left (by simp; omega), List.getElem?_take, if_pos (by omega), List.getElem?_eq_getElem hml]; rfl
      rw [hgm] at hcell
      rw [Nat.zero_add] at hcell hfz
      have HG : Hid (shd s (l.drop m) = (l[m] + W * (l.drop (m + 1))[0]?.getD 0) / 2 ^ s % W :: shd s (l.drop (m + 1))) := by show _ = _; rw [hd]; rfl
      have HH : Hid ((l.drop m)[0]?.getD 0 = l[m]) := by show _ = _; rw [hd]; rfl
      rw [W_eq] at hx
      rw [← hah.out] at HG
      generalize shd s (l.drop (m + 1)) = q at *
      generalize l[m] = x at *
      obtain ⟨t, ht⟩ : ∃ t, t = ab % 4294967296 * 4294967296 + x := ⟨_, rfl⟩
      have hor : bits .or .u64 (IntKind.u64.wrap ((ab : Int) * 4294967296)) (x : Int) = (t : Int) := by rw [ht]; exact shl_full ab x hx
      have htb : t < 18446744073709551616 := by omega
      have htm : t % 4294967296 = x := by omega
      have HTM := hide htm
      have HT := hide ht
      have hmk : (l.length : Int) - 1 - (k : Int) = (m : Int) := by omega
      have HSET := hide hset
      clear ht hgm hset hd hlen2 hlr hah htm
      go_wp2
      have hv : Value.int .u32 ((t : Int) / 2 ^ s % 4294967296) = .int .u32 (((x + W * (ab % 4294967296)) / 2 ^ s % W : Nat) : Int) := int_eq (by
        have e : x + W * (ab % 4294967296) = t := by rw [HT.out, W_eq, Nat.mul_comm]; omega
        rw [e, W_eq, Int.natCast_emod, Int.natCast_ediv, Int.natCast_pow]; rfl)
      rw [hv]
      have hq := HSET.out ((x + W * (ab % 4294967296)) / 2 ^ s % W)
      rw [Nat.zero_add] at hq
      go_roundw
      case rel => exact ⟨k + 1, t, by omega, by go_num, rfl, htb, by show _ = _; rw [e1, HH.out]; exact HTM.out, by rw [e1, HG.out]; exact hq, hur.trans (Upd.setCell (Nat.zero_le _) (by omega) _)⟩
      case measure => simp [intOf]; omega
    · obtain rfl : k = l.length := by omega
      go_wp2
      go_end0
      refine ⟨rfl, ?_, hur⟩
      simpa using hlr
end Go.Proofs.YtghjhflfcambjaaGreatDoor
