/- nat.Sub. -/
import Derived.Test.YtghjhflfcambjaaGreatDoorReckC
namespace Go.Proofs.YtghjhflfcambjaaGreatDoor
open Go.RowKit

theorem words_mono {m n : Nat} (h : m ≤ n) : (words m).length ≤ (words n).length := by
  rw [words_length, words_length]
  have := bn_length_mono h
  omega

set_option maxHeartbeats 1000000 in
theorem Sub_no (a b : ByteArray) (w : World) (h : N a < N b) :
    Calls Tryz.prog 21 #[.string a, .string b] w fun e w' => e = .returned (.tuple #[.string ⟨#[]⟩, .bool false]) ∧ Below w.heap.size w w' := by
  have hc : cmpI (N a) (N b) = -1 := by rw [cmpI, if_pos h]
  have hC := fun V => Cmp_any a b V
  simp only [hc] at hC
  have HC := hide hC
  clear hC hc
  go_enter Tryz.func21, Tryz.ntmps21
  go_wp2_with fail
  refine (HC.out _).mono ?_
  rintro e w1 ⟨rfl, hw⟩
  subst hw
  go_wp2
  go_ret2
  exact ⟨rfl, Below.refl _ _⟩

set_option maxRecDepth 100000 in
set_option maxHeartbeats 2000000 in
theorem Sub_yes (a b : ByteArray) (w : World) (ha : a.size ≤ 1099511627776) (hb : b.size ≤ 1099511627776) (h : N b ≤ N a) :
    Calls Tryz.prog 21 #[.string a, .string b] w fun e w' => e = .returned (.tuple #[.string (B (N a - N b)), .bool true]) ∧ Below w.heap.size w w' := by
  have hc : 0 ≤ cmpI (N a) (N b) := by
    rw [cmpI, if_neg (by omega)]
    split <;> omega
  have hC := fun V => Cmp_any a b V
  generalize cmpI (N a) (N b) = ci at *
  have HC := hide hC
  clear hC
  have hla := words_len_le a 274877906944 (by omega)
  have hlb := words_len_le b 274877906944 (by omega)
  go_enter Tryz.func21, Tryz.ntmps21
  go_wp2_with fail
  refine (HC.out _).mono ?_
  rintro e w0 ⟨rfl, hw⟩
  subst hw
  go_wp2_with fail
  refine (spread_some a _ (by omega)).mono ?_
  rintro e w1 ⟨g1, c1, rfl, h1, hb1⟩
  go_wp2_with fail
  refine (spread_some b _ (by omega)).mono ?_
  rintro e w2 ⟨g2, c2, rfl, h2, hb2⟩
  have hl1 := has_lies h1 hb2
  have hl2 := has_lies h2 (Below.refl _ _)
  have h12 := h1.below hb2 (Nat.le_refl _)
  have hg1 : g1 < w1.heap.size := (has_lies h1 (Below.refl _ _)).lt
  have hg2 : w1.heap.size ≤ g2 := by
    rcases h2.cases with ⟨e, _⟩ | ⟨g', cap', e, _, hbg, _⟩
    · cases e
    · cases e; exact hbg
  have hg0 : w0.heap.size ≤ g1 := by
    rcases h1.cases with ⟨e, _⟩ | ⟨g', cap', e, _, hbg, _⟩
    · cases e
    · cases e; exact hbg
  have hB2 : Below w0.heap.size w0 w2 := hb1.trans (hb2.mono hb1.size)
  go_wp2_with fail
  refine (takeTimes_any g1 0 c1 g2 0 c2 _ _ 1 _ (words_small _) (words_small _) (by decide) (by omega) (words_mono h) hl1 hl2 (by omega)).mono ?_
  rintro e w3 ⟨s, l, rfl, hll, hsm, hn, hlies, hu⟩
  have hs0 : s = 0 := by
    have hlt := nw_lt l hsm
    rw [hll] at hlt
    rw [nw_words, nw_words] at hn
    rcases Nat.eq_zero_or_pos s with e | e
    · exact e
    · have : W ^ (words (N a)).length * 1 ≤ W ^ (words (N a)).length * s := Nat.mul_le_mul_left _ e
      omega
  have HN : Hid (nw l = N a - N b) := by
    show _ = _
    rw [nw_words, nw_words, hs0] at hn
    omega
  have hH := h12.upd hu hlies hll
  have hB3 : Below w0.heap.size w0 w3 := Upd.below hB2 hu hg0 hB2.size
  have HLL := hide hll
  clear hn hll hl1 hl2 h12 hlies hu h1 h2 hs0
  go_wp2_with fail
  refine (gather_own _ _ _ _ hsm (by rw [HLL.out]; omega) hH).mono ?_
  rintro e w4 ⟨rfl, hb4⟩
  go_wp2
  go_ret2
  exact ⟨by rw [HN.out]; rfl, hB3.trans (hb4.mono hB3.size)⟩
end Go.Proofs.YtghjhflfcambjaaGreatDoor
