/- groupsOf of package nat: the groups of nine digits of the number that the slice holds; the slice is used up. -/
import Derived.Test.YtghjhflfcambjaaGreatDoorTextA
import Derived.Test.YtghjhflfcambjaaGreatDoorNumB
import Derived.Deep.LoopGhost
namespace Go.Proofs.YtghjhflfcambjaaGreatDoor
open Go.RowKit

theorem hide {p : Prop} (h : p) : Hid p := h
theorem Has.kept {w w' : World} {base : Nat} {v : Value} {l : List Nat} {row : Option Nat} (h : Has w base v l) (hg : w.grownBy w' row) (hne : v.ownBlock = none ∨ v.ownBlock ≠ row) : Has w' base v l := World.ownsRow.kept h hg hne
theorem Has.far {w : World} {base g : Nat} {v : Value} {l : List Nat} (h : Has w base v l) (hg : g < base) : v.ownBlock = none ∨ v.ownBlock ≠ some g := by
  cases hc : v.ownBlock with
  | none => exact .inl rfl
  | some k =>
    refine .inr fun e => ?_
    cases e
    have := (World.ownsRow.lt h g hc).1
    omega
theorem far_symm {a : Option Nat} {g : Nat} (h : a = none ∨ a ≠ some g) : some g ≠ a := by
  rcases h with rfl | h
  · simp
  · exact fun e => h e.symm
theorem Has.upd {w w' : World} {base g n cap m : Nat} {l l' : List Nat} (h : Has w base (.slice (some ⟨g, 0, none⟩) n cap) l) (hu : Upd g 0 m w w') (hl : Lies w' g 0 l') (hlen : l'.length = l.length) : Has w' base (.slice (some ⟨g, 0, none⟩) n cap) l' := by
  have hn : n = l.length := by
    rcases h.2 with ⟨h', _⟩ | ⟨g', cap', cur, h', _⟩
    · cases h'
    · cases h'; rfl
  subst hn
  have := own_upd h hu hl hlen
  rw [Has, hlen]; exact this

set_option maxRecDepth 100000 in
set_option maxHeartbeats 2000000 in
theorem groupsOf_any (base : Nat) (v : Value) (m : Nat) (w : World) (hlen : (words m).length ≤ 8796093022208) (h : Has w base v (words m)) (hb : base ≤ w.heap.size) (hv : ∀ k, v.ownBlock = some k → k < w.heap.size) :
    Calls Tryz.prog 45 #[v] w fun e w' => ∃ v', e = .returned v' ∧ Has w' base v' (grp m) ∧ Below base w w' := by
  obtain ⟨i0, hi, hz0, hz1, hz2⟩ := info_parts Tryz.infoU32
  have hgm := grp_words m
  go_enter Tryz.func45, Tryz.ntmps45
  go_wp2
  go_loopg [0, 3] m (fun n v gv wr => ∃ gl, Has wr base v (words n) ∧ (∀ k, v.ownBlock = some k → k < w.heap.size) ∧ Has wr w.heap.size gv gl ∧ gl ++ grp n = grp m ∧ n ≤ m ∧ Below base w wr)
  case atStart => exact ⟨[], h, hv, World.ownsRow_nil _ _ _ _, rfl, Nat.le_refl _, Below.refl _ _⟩
  case round =>
    obtain ⟨gl, hvr, hvk, hgr, hgl, hnm, hbr⟩ := hrel
    by_cases h0 : gk = 0
    · subst h0
      rw [words_zero] at hvr
      rw [grp_zero, List.append_nil] at hgl
      have HG : Hid (gl = grp m) := hgl
      clear hgl
      rcases hvr.cases with ⟨rfl, _⟩ | ⟨g, cap, rfl, _, _, _⟩
      all_goals
        go_wp2
        go_ret
        exact ⟨_, rfl, by rw [← HG.out]; exact hgr.mono hb, hbr⟩
    · have hne : words gk ≠ [] := fun e => h0 ((words_nil_iff gk).1 e)
      have hwl : (words gk).length ≤ (words m).length := by
        rw [words_length, words_length]
        have := bn_length_mono hnm
        omega
      have hpos : 0 < (words gk).length := List.length_pos_iff.2 hne
      rcases hvr.cases with ⟨_, hnil⟩ | ⟨g, cap, rfl, hcap, hbg, hlg⟩
      · exact absurd hnil hne
      · have hgw : g < w.heap.size := hvk g rfl
        have HE : Hid (gl ++ grp gk = grp m) := hgl
        have hgl2 : gl.length + 1 ≤ (grp m).length := by rw [← hgl, grp_pos gk h0]; simp
        clear hgl
        have hnG := hgr.far hgw
        have HV : Hid (Has wr base (.slice (some ⟨g, 0, none⟩) (words gk).length cap) (words gk)) := hvr
        have hbw := hbr.size
        clear hvr hvk
        go_wp2_with fail
        refine (divideByGroup_any g cap (words gk) _ (words_small gk) (by omega) hlg).mono ?_
        rintro e w1 ⟨rfl, hl1, hu1⟩
        have hrow1 := World.ownsRow.kept hgr hu1.grown hnG
        have hV1 := HV.out.upd hu1 hl1 (divG_length _ _)
        have hs1 := hu1.grown.size
        go_wp2_with (at_builtin; refine wpList_append_own _ rfl _ _ 47 rfl w.heap.size 66 i0 (.int .u32 0) 1 4 Tryz.underlying47 hi hz0 hz1 hz2 rfl (by decide) _ _ _ rfl (hrow1.alloc _) ⟨w1.heap.size, 0, none⟩ 1 1 [.int .u32 (nw (words gk) % 1000000000 : Nat)] rfl rfl (cell_one_new _ _ _) (by simp [Value.oneCell']) (by unfold maxLen; omega) (by omega) (by simp; omega) ?_; intro v' w2 hown2 hgrow2 _)
        have hV2 := (World.ownsRow.alloc hV1 _).kept hgrow2 (.inr (far_symm hnG))
        have hbel2 : Below base w w2 := ((Upd.below hbr hu1 hbg (by omega)).alloc (by omega) _).grown hgrow2 (by simp; omega) (fun k hk => by have := (World.ownsRow.lt hrow1 k hk).1; omega)
        refine (shorten_own base _ _ _ (divG_small _ (by omega) _ (words_small gk)) (by rw [divG_length]; omega) hV2).mono ?_
        rintro e w3 ⟨v3, rfl, hV3, hob, rfl⟩
        rw [divG_quot _ (by omega), nw_words] at hV3
        rw [nw_words] at hown2
        clear hV2 hV1 hrow1 hgrow2 hl1 hu1 hlg HV
        go_wp2
        go_roundg (gk / G)
        case measure => exact div_G_lt h0
        case rel => exact ⟨gl ++ [gk % G], hV3, fun k hk => by rw [hob] at hk; cases hk; exact hgw, by simpa [Has, u32, G] using hown2, by rw [List.append_assoc, ← HE.out, grp_pos gk h0]; rfl, Nat.le_trans (Nat.div_le_self _ _) hnm, hbel2⟩
end Go.Proofs.YtghjhflfcambjaaGreatDoor
