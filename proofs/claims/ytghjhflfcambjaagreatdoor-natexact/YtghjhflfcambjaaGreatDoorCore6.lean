/- shorten and gather of package nat, of a slice that the caller owns, nil or not. -/
import Derived.Test.YtghjhflfcambjaaGreatDoorMem
namespace Go.Proofs.YtghjhflfcambjaaGreatDoor
open Go.RowKit

/-- The slice value v, in a block from base on, holds the parts l, and nobody else's; or it is nil and there are none. -/
def Has (w : World) (base : Nat) (v : Value) (l : List Nat) : Prop := w.ownsRow base 66 1 v l.length (l.map u32)

theorem Has.cases {w : World} {base : Nat} {v : Value} {l : List Nat} (h : Has w base v l) : (v = .slice none 0 0 ∧ l = []) ∨ ∃ g cap, v = .slice (some ⟨g, 0, none⟩) l.length cap ∧ l.length ≤ cap ∧ base ≤ g ∧ Lies w g 0 l := by
  rcases h.2 with ⟨hv, hn⟩ | ⟨g, cap, cur, hv, r⟩
  · exact .inl ⟨hv, List.eq_nil_of_length_eq_zero hn⟩
  · subst hv
    obtain ⟨_, h1, h2, h3⟩ := own_lies h
    exact .inr ⟨g, cap, rfl, h1, h2, h3⟩
theorem Has.mono {w : World} {base base' : Nat} {v : Value} {l : List Nat} (h : Has w base v l) (hb : base' ≤ base) : Has w base' v l := own_base h hb
theorem Has.below {w w' : World} {base B : Nat} {v : Value} {l : List Nat} (h : Has w base v l) (hb : Below B w w') (hB : w.heap.size ≤ B) : Has w' base v l := own_below h hb hB

theorem cut_own {w : World} {base g n cap : Nat} {l : List Nat} (k : Nat) (hk : k ≤ l.length) (h : w.ownsRow base 66 1 (.slice (some ⟨g, 0, none⟩) n cap) n (l.map u32)) : w.ownsRow base 66 1 (.slice (some ⟨g, 0, none⟩) k cap) k ((l.take k).map u32) := by
  have hn := own_len h
  refine ⟨by simp; omega, ?_⟩
  rcases h.2 with ⟨h', _⟩ | ⟨g', cap', cur, h', hb, hg, hnc, hm, hsz, htk⟩
  · cases h'
  · cases h'
    refine .inr ⟨g, cap, cur, rfl, hb, hg, by omega, hm, hsz, ?_⟩
    rw [List.map_take, ← htk, List.take_take, Nat.min_eq_left (by omega), Nat.mul_one]

theorem shorten_own (base : Nat) (v : Value) (l : List Nat) (w : World) (hs : Small l) (hlen : l.length ≤ 35184372088832) (h : Has w base v l) :
    Calls Tryz.prog 65 #[v] w fun e w' => ∃ v', e = .returned v' ∧ Has w base v' (words (nw l)) ∧ v'.ownBlock = v.ownBlock ∧ w' = w := by
  rcases h.cases with ⟨rfl, rfl⟩ | ⟨g, cap, rfl, hcap, hb, hl⟩
  · refine (shorten_nil w).mono ?_
    rintro e w' ⟨rfl, rfl⟩
    exact ⟨_, rfl, by rw [nw_nil, words_zero]; exact h, rfl, rfl⟩
  · refine (shorten_any g 0 cap l w hs hcap (by omega) (fun j hj => hl.cell j hj)).mono ?_
    rintro e w' ⟨rfl, rfl⟩
    obtain ⟨k, hk, hw⟩ := words_prefix l hs
    have hkl : (words (nw l)).length = k := by rw [hw]; simp; omega
    have := cut_own k hk h
    rw [← hw] at this
    exact ⟨_, rfl, by rw [Has, hkl]; exact this, rfl, rfl⟩

set_option maxRecDepth 100000 in
set_option maxHeartbeats 1000000 in
theorem gather_nil (w : World) : Calls Tryz.prog 37 #[.slice none 0 0] w fun e w' => e = .returned (.string (B 0)) ∧ Below w.heap.size w w' := by
  obtain ⟨i0, hi, hz0, hz1, hz2⟩ := info_parts Tryz.infoByte
  have hconv := fun (w2 : World) => run_convert_bytes_arg (P := Tryz.prog) w2 51 5 Tryz.underlying51 Tryz.underlying5 w.heap.size 0 0 0 [] rfl (fun i hi => absurd hi (Nat.not_lt_zero _)) 22 Tryz.underlying22
  have HB : Hid (N (strOfNums []) = 0) := rfl
  go_enter Tryz.func37, Tryz.ntmps37
  go_wp2_with (first
    | (go_at_call 65; refine (shorten_nil _).mono ?_; rintro e w1 ⟨rfl, hw1⟩; subst hw1)
    | (at_make; refine wpList_make_full _ rfl _ _ 51 rfl w1.heap.size 5 i0 (.int .u8 0) 1 Tryz.underlying51 hi hz0 hz1 .i64 .i64 _ _ 0 rfl rfl rfl rfl (by omega) (by unfold maxLen; omega) (Nat.le_refl _) ?_; intro w2 hown2 hgrow2))
  refine wp_loop_rounds 1 ?_
  rw [rounds_succ]
  go_wp2_with (go_at_call 33; refine (bare_any _ _).mono ?_; rintro e w3 ⟨rfl, hw1⟩; subst hw1)
  go_ret
  exact ⟨by rw [HB.out]; rfl, (Below.refl _ w1).grown hgrow2 (Nat.le_refl _) (fun k e => by cases e)⟩

theorem gather_own (base : Nat) (v : Value) (l : List Nat) (w : World) (hs : Small l) (hlen : l.length ≤ 35184372088832) (h : Has w base v l) :
    Calls Tryz.prog 37 #[v] w fun e w' => e = .returned (.string (B (nw l))) ∧ Below w.heap.size w w' := by
  rcases h.cases with ⟨rfl, rfl⟩ | ⟨g, cap, rfl, hcap, hb, hl⟩
  · rw [nw_nil]; exact gather_nil w
  · exact gather_some g cap l w hs hcap hlen hl.lt (fun j hj => hl.cell j hj)

set_option maxHeartbeats 400000 in
theorem Clone_any (s : ByteArray) (w : World) (hs : s.size ≤ 140737488355328) : Calls Tryz.prog 32 #[.string s] w fun e w' => e = .returned (.string s) ∧ Below w.heap.size w w' := by
  go_enter Tryz.func32, Tryz.ntmps32
  go_wp2_with (go_at_call 60; refine (Tryz.stringslite_Clone _ _ (by omega)).mono ?_; rintro e w1 ⟨rfl, hb⟩)
  go_ret
  exact ⟨rfl, hb⟩

set_option maxHeartbeats 400000 in
theorem Trim_any (s : ByteArray) (w : World) (hs : s.size ≤ 140737488355328) : Calls Tryz.prog 7 #[.string s] w fun e w' => e = .returned (.string (B (N s))) ∧ Below w.heap.size w w' := by
  have hb := Nat.le_trans (B_size_le s) hs
  go_enter Tryz.func7, Tryz.ntmps7
  go_wp2_with (first
    | (go_at_call 33; refine (bare_any _ _).mono ?_; rintro e w1 ⟨rfl, rfl⟩)
    | (go_at_call 32; refine (Clone_any _ _ hb).mono ?_; rintro e w2 ⟨rfl, hb2⟩))
  go_ret
  exact ⟨rfl, hb2⟩
end Go.Proofs.YtghjhflfcambjaaGreatDoor
