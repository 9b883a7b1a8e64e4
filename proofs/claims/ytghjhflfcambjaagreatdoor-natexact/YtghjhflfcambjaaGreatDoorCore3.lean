/- What shorten of package nat hands back. -/
import Derived.Test.YtghjhflfcambjaaGreatDoorCore2
namespace Go.Proofs.YtghjhflfcambjaaGreatDoor
open Go.RowKit

/-- How many elements a slice value has. -/
def lenOf : Value → Nat | .slice _ n _ => n | _ => 0

set_option maxHeartbeats 400000 in
theorem shorten_any (b off cap : Nat) (l : List Nat) (w : World) (hs : Small l) (hcap : l.length ≤ cap) (hlen : l.length ≤ 140737488355328)
    (hc : ∀ j, j < l.length → w.cell? ⟨b, off + j, none⟩ = some (.int .u32 (l[j]?.getD 0 : Nat))) :
    Calls Tryz.prog 65 #[.slice (some ⟨b, off, none⟩) l.length cap] w fun e w' => e = .returned (.slice (some ⟨b, off, none⟩) (words (nw l)).length cap) ∧ w' = w := by
  go_enter Tryz.func65, Tryz.ntmps65
  go_wp2
  go_loop [0] (fun v => ∃ k : Nat, k ≤ l.length ∧ v = .slice (some ⟨b, off, none⟩) k cap ∧ nw (l.take k) = nw l) (fun v => lenOf v)
  case atStart => exact ⟨l.length, Nat.le_refl _, rfl, by rw [List.take_length]⟩
  case round =>
    obtain ⟨k, hk, rfl, hn⟩ := hrel
    have HN : Hid (nw (l.take k) = nw l) := hn
    clear hn
    by_cases h0 : k = 0
    · subst h0
      have e := words_take l hs 0 (Nat.zero_le _) HN.out (Or.inl rfl)
      have HE : Hid ((words (nw l)).length = 0) := by rw [e]; rfl
      clear e
      go_wp2
      go_ret
      exact ⟨by rw [HE.out]; rfl, rfl⟩
    · have hck := hc (k - 1) (by omega)
      by_cases hz : l[k - 1]?.getD 0 = 0
      · have HN2 : Hid (nw (l.take (k - 1)) = nw l) := by
          have e := nw_take_succ l (k - 1) (by omega)
          rw [show k - 1 + 1 = k by omega, HN.out] at e
          rw [List.getElem?_eq_getElem (by omega)] at hz
          simp only [Option.getD_some] at hz
          rw [hz, Nat.mul_zero, Nat.add_zero] at e
          exact e.symm
        rw [hz] at hck
        go_wp2
        go_round
        case rel => exact ⟨k - 1, by omega, rfl, HN2.out⟩
        case measure => simp [lenOf]; omega
      · have e := words_take l hs k hk HN.out (Or.inr hz)
        have HE : Hid ((words (nw l)).length = k) := by rw [e, List.length_take]; exact Nat.min_eq_left hk
        clear e
        go_wp2
        go_ret
        exact ⟨by rw [HE.out]; rfl, rfl⟩

set_option maxHeartbeats 400000 in
theorem shorten_nil (w : World) :
    Calls Tryz.prog 65 #[.slice none 0 0] w fun e w' => e = .returned (.slice none 0 0) ∧ w' = w := by
  go_enter Tryz.func65, Tryz.ntmps65
  go_wp2
  refine wp_loop_rounds 1 ?_
  rw [rounds_succ]
  go_wp2
  go_ret
  exact ⟨rfl, rfl⟩
end Go.Proofs.YtghjhflfcambjaaGreatDoor
