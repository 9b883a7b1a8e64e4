/- plus of package nat, and nat.Add. -/
import Derived.Test.YtghjhflfcambjaaGreatDoorReckA
import Derived.Test.YtghjhflfcambjaaGreatDoorCore2b
import Derived.Lib.ItoaMem
namespace Go.Proofs.YtghjhflfcambjaaGreatDoor
open Go.RowKit

theorem made_u32 (n : Nat) : (madeCells (Value.int .u32 0).cells (n * 1)).toList = (List.replicate n 0).map u32 := by
  rw [show (Value.int .u32 0).cells = #[Value.int .u32 0] from rfl, toList_madeCells_one, Nat.mul_one, List.map_replicate]; rfl
theorem lies_of_block {w : World} {g : Nat} {l : List Nat} (h : w.heap[g]? = some (.cells (l.map u32).toArray 66 (0, 0))) : Lies w g 0 l :=
  ⟨_, h, by simp, fun j hj => by simp [List.getElem?_eq_getElem hj]⟩
theorem splice_front (l : List Nat) : splice ((List.replicate (l.length + 1) 0).map u32) 0 (l.map u32) = (l ++ [0]).map u32 := by
  rw [splice_map, splice, List.take_zero, List.nil_append, Nat.zero_add, List.drop_replicate]; simp
theorem cells_of_lies {w : World} {g : Nat} {l : List Nat} (h : Lies w g 0 l) : ∀ j v, (l.map u32)[j]? = some v → w.cell? ((⟨g, 0, none⟩ : Addr).add j) = some v := by
  intro j v hj
  have hjl : j < l.length := by
    rcases Nat.lt_or_ge j l.length with h | h
    · exact h
    · rw [List.getElem?_eq_none (by simpa using h)] at hj; cases hj
  rw [Lib.add_plain, h.cell j hjl]
  rw [List.getElem?_map, List.getElem?_eq_getElem hjl] at hj
  rw [List.getElem?_eq_getElem hjl]
  exact hj
theorem ones_u32 (l : List Nat) : ∀ v ∈ l.map u32, v.oneCell' = true := by
  intro v hv
  obtain ⟨x, _, rfl⟩ := List.mem_map.1 hv
  rfl

theorem sum_fits {xs ys : List Nat} (hx : Small xs) (hy : Small ys) (h : ys.length ≤ xs.length) : nw xs + nw ys < W ^ (xs.length + 1) := by
  have h1 := nw_lt xs hx
  have h2 := nw_lt ys hy
  have h3 : W ^ ys.length ≤ W ^ xs.length := Nat.pow_le_pow_right W_pos h
  have h4 : W ^ (xs.length + 1) = W ^ xs.length * W := Nat.pow_succ ..
  have h5 : W ^ xs.length * 2 ≤ W ^ xs.length * W := Nat.mul_le_mul_left _ (by decide)
  omega

set_option maxRecDepth 100000 in
set_option maxHeartbeats 2000000 in
theorem plus_ge (gx capx gy capy : Nat) (xs ys : List Nat) (w : World) (hsx : Small xs) (hsy : Small ys) (hlen : xs.length ≤ 17592186044416) (hyx : ys.length ≤ xs.length) (hx : Lies w gx 0 xs) (hy : Lies w gy 0 ys) :
    Calls Tryz.prog 38 #[.slice (some ⟨gx, 0, none⟩) xs.length capx, .slice (some ⟨gy, 0, none⟩) ys.length capy] w fun e w' => ∃ v l, e = .returned v ∧ Has w' w.heap.size v l ∧ Small l ∧ l.length = xs.length + 1 ∧ nw l = nw xs + nw ys ∧ Below w.heap.size w w' := by
  obtain ⟨i0, hi, hz0, hz1, hz2⟩ := info_parts Tryz.infoU32
  have hnl : ¬ xs.length < ys.length := by omega
  have hgx := hx.lt
  have hgy := hy.lt
  go_enter Tryz.func38, Tryz.ntmps38
  go_wp2_with (first
    | (at_make; refine wpList_make_full _ rfl _ _ 47 rfl w.heap.size 66 i0 (.int .u32 0) 1 Tryz.underlying47 hi hz0 hz1 .i64 .i64 _ _ (xs.length + 1) rfl rfl (by omega) (by omega) (by rw [hz2]; omega) (by unfold maxLen; omega) (Nat.le_refl _) ?_; intro w2 hown2 hgrow2; have hb2 := block_of_own hown2; rw [made_u32] at hb2; have HB2 := hide hb2; have hB2 : Below w.heap.size w w2 := (Below.refl _ w).grown hgrow2 (Nat.le_refl _) (fun k e => by cases e); have hx2 := hx.below hB2 hgx; clear hown2 hgrow2 hb2)
    | (refine wpList_copy_splice rfl (.tmp 17) (.tmp 18) 47 47 rfl 66 Tryz.underlying47 (by kernel_rfl) _ _ _ _ _ _ rfl rfl w.heap.size 0 ((List.replicate (xs.length + 1) 0).map u32) 66 (by exact HB2.out) (xs.map u32) (by rw [List.length_map]; exact (Nat.min_eq_left (Nat.le_succ _)).symm) (fun _ => ⟨rfl, _, rfl, cells_of_lies hx2⟩) (by simp) (ones_u32 xs) w.heap.size w hB2 (Nat.le_refl _) ?_; intro w3 hg3 hB3))
  rw [splice_front] at hg3
  have hl3 := lies_of_block hg3.out
  have hy3 := hy.below hB3 hgy
  have e1 : (xs ++ [0]).length = xs.length + 1 := by simp
  have hs1 : Small (xs ++ [0]) := small_append hsx (fun x hx => by simp at hx; subst hx; exact W_pos)
  have hpb := putBack_any w.heap.size 0 (xs.length + 1) gy 0 capy (xs ++ [0]) ys w3 hs1 hsy (by omega) (by omega) hl3 hy3 (by omega)
  rw [e1, nw_snoc, Nat.mul_zero, Nat.add_zero] at hpb
  refine hpb.mono ?_
  rintro e w4 ⟨c, l4, rfl, hl4, hs4, hn4, hlies4, hu4⟩
  have hB4 : Below w.heap.size w w4 := Upd.below hB3 hu4 (Nat.le_refl _) hB3.size
  obtain ⟨cur, hc4, hcs, _⟩ := hu4.inside _ hg3.out
  have hown4 := own_of_lies (base := w.heap.size) (cap := xs.length + 1) cur hc4 (by rw [hcs]; simp) (Nat.le_refl _) (by unfold maxLen; omega) (by omega) hlies4
  have HN : Hid (nw l4 = nw xs + nw ys) := by
    show _ = _
    cases c with
    | false => simpa using hn4
    | true =>
      have hf := sum_fits hsx hsy hyx
      simp only [if_true] at hn4
      omega
  have HL := hide hl4
  rw [hl4] at hown4
  clear hn4 hl4 hc4 hcs hpb hg3 hlies4 hu4
  go_wp2
  go_ret
  exact ⟨_, l4, rfl, by rw [Has, HL.out]; exact hown4, hs4, HL.out, HN.out, hB4⟩

set_option maxRecDepth 100000 in
set_option maxHeartbeats 2000000 in
theorem plus_lt (gx capx gy capy : Nat) (xs ys : List Nat) (w : World) (hsx : Small xs) (hsy : Small ys) (hlen : xs.length ≤ 17592186044416) (hlt : ys.length < xs.length) (hx : Lies w gx 0 xs) (hy : Lies w gy 0 ys) :
    Calls Tryz.prog 38 #[.slice (some ⟨gy, 0, none⟩) ys.length capy, .slice (some ⟨gx, 0, none⟩) xs.length capx] w fun e w' => ∃ v l, e = .returned v ∧ Has w' w.heap.size v l ∧ Small l ∧ l.length = xs.length + 1 ∧ nw l = nw xs + nw ys ∧ Below w.heap.size w w' := by
  obtain ⟨i0, hi, hz0, hz1, hz2⟩ := info_parts Tryz.infoU32
  have hyx : ys.length ≤ xs.length := by omega
  have hgx := hx.lt
  have hgy := hy.lt
  go_enter Tryz.func38, Tryz.ntmps38
  go_wp2_with (first
    | (at_make; refine wpList_make_full _ rfl _ _ 47 rfl w.heap.size 66 i0 (.int .u32 0) 1 Tryz.underlying47 hi hz0 hz1 .i64 .i64 _ _ (xs.length + 1) rfl rfl (by omega) (by omega) (by rw [hz2]; omega) (by unfold maxLen; omega) (Nat.le_refl _) ?_; intro w2 hown2 hgrow2; have hb2 := block_of_own hown2; rw [made_u32] at hb2; have HB2 := hide hb2; have hB2 : Below w.heap.size w w2 := (Below.refl _ w).grown hgrow2 (Nat.le_refl _) (fun k e => by cases e); have hx2 := hx.below hB2 hgx; clear hown2 hgrow2 hb2)
    | (refine wpList_copy_splice rfl (.tmp 17) (.tmp 18) 47 47 rfl 66 Tryz.underlying47 (by kernel_rfl) _ _ _ _ _ _ rfl rfl w.heap.size 0 ((List.replicate (xs.length + 1) 0).map u32) 66 (by exact HB2.out) (xs.map u32) (by rw [List.length_map]; exact (Nat.min_eq_left (Nat.le_succ _)).symm) (fun _ => ⟨rfl, _, rfl, cells_of_lies hx2⟩) (by simp) (ones_u32 xs) w.heap.size w hB2 (Nat.le_refl _) ?_; intro w3 hg3 hB3))
  rw [splice_front] at hg3
  have hl3 := lies_of_block hg3.out
  have hy3 := hy.below hB3 hgy
  have e1 : (xs ++ [0]).length = xs.length + 1 := by simp
  have hs1 : Small (xs ++ [0]) := small_append hsx (fun x hx => by simp at hx; subst hx; exact W_pos)
  have hpb := putBack_any w.heap.size 0 (xs.length + 1) gy 0 capy (xs ++ [0]) ys w3 hs1 hsy (by omega) (by omega) hl3 hy3 (by omega)
  rw [e1, nw_snoc, Nat.mul_zero, Nat.add_zero] at hpb
  refine hpb.mono ?_
  rintro e w4 ⟨c, l4, rfl, hl4, hs4, hn4, hlies4, hu4⟩
  have hB4 : Below w.heap.size w w4 := Upd.below hB3 hu4 (Nat.le_refl _) hB3.size
  obtain ⟨cur, hc4, hcs, _⟩ := hu4.inside _ hg3.out
  have hown4 := own_of_lies (base := w.heap.size) (cap := xs.length + 1) cur hc4 (by rw [hcs]; simp) (Nat.le_refl _) (by unfold maxLen; omega) (by omega) hlies4
  have HN : Hid (nw l4 = nw xs + nw ys) := by
    show _ = _
    cases c with
    | false => simpa using hn4
    | true =>
      have hf := sum_fits hsx hsy hyx
      simp only [if_true] at hn4
      omega
  have HL := hide hl4
  rw [hl4] at hown4
  clear hn4 hl4 hc4 hcs hpb hg3 hlies4 hu4
  go_wp2
  go_ret
  exact ⟨_, l4, rfl, by rw [Has, HL.out]; exact hown4, hs4, HL.out, HN.out, hB4⟩

theorem plus_any (gx capx gy capy : Nat) (xs ys : List Nat) (w : World) (hsx : Small xs) (hsy : Small ys) (hlx : xs.length ≤ 17592186044416) (hly : ys.length ≤ 17592186044416) (hx : Lies w gx 0 xs) (hy : Lies w gy 0 ys) :
    Calls Tryz.prog 38 #[.slice (some ⟨gx, 0, none⟩) xs.length capx, .slice (some ⟨gy, 0, none⟩) ys.length capy] w fun e w' => ∃ v l, e = .returned v ∧ Has w' w.heap.size v l ∧ Small l ∧ l.length ≤ 17592186044417 ∧ nw l = nw xs + nw ys ∧ Below w.heap.size w w' := by
  by_cases h : ys.length ≤ xs.length
  · refine (plus_ge gx capx gy capy xs ys w hsx hsy hlx h hx hy).mono ?_
    rintro e w' ⟨v, l, rfl, h1, h2, h3, h4, h5⟩
    exact ⟨v, l, rfl, h1, h2, by omega, h4, h5⟩
  · refine (plus_lt gy capy gx capx ys xs w hsy hsx hly (by omega) hy hx).mono ?_
    rintro e w' ⟨v, l, rfl, h1, h2, h3, h4, h5⟩
    exact ⟨v, l, rfl, h1, h2, by omega, by omega, h5⟩

/-- The slice that spread hands back lies on while nothing below its world's end turns. -/
theorem has_lies {w w' : World} {base g cap n : Nat} {l : List Nat} (h : Has w base (.slice (some ⟨g, 0, none⟩) n cap) l) (hb : Below w.heap.size w w') : Lies w' g 0 l := by
  rcases h.cases with ⟨e, _⟩ | ⟨g', cap', e, _, _, hl⟩
  · cases e
  · cases e; exact hl.below hb hl.lt
theorem words_len_le (s : ByteArray) (k : Nat) (h : s.size ≤ 4 * k) : (words (N s)).length ≤ k := by
  rw [words_length, ← B_size]
  have := B_size_le s
  omega

set_option maxRecDepth 100000 in
set_option maxHeartbeats 1000000 in
theorem Add_any (a b : ByteArray) (w : World) (ha : a.size ≤ 1099511627776) (hb : b.size ≤ 1099511627776) :
    Calls Tryz.prog 13 #[.string a, .string b] w fun e w' => e = .returned (.string (B (N a + N b))) ∧ Below w.heap.size w w' := by
  have hla := words_len_le a 274877906944 (by omega)
  have hlb := words_len_le b 274877906944 (by omega)
  go_enter Tryz.func13, Tryz.ntmps13
  go_wp2_with fail
  refine (spread_some a _ (by omega)).mono ?_
  rintro e w1 ⟨g1, c1, rfl, h1, hb1⟩
  go_wp2_with fail
  refine (spread_some b _ (by omega)).mono ?_
  rintro e w2 ⟨g2, c2, rfl, h2, hb2⟩
  have hl1 := has_lies h1 hb2
  have hl2 := has_lies h2 (Below.refl _ _)
  have hB2 : Below w.heap.size w w2 := hb1.trans (hb2.mono hb1.size)
  go_wp2_with fail
  refine (plus_any g1 c1 g2 c2 _ _ _ (words_small _) (words_small _) (by omega) (by omega) hl1 hl2).mono ?_
  rintro e w3 ⟨v, l, rfl, h3, hs3, hn3, hv3, hb3⟩
  have hB3 : Below w.heap.size w w3 := hB2.trans (hb3.mono hB2.size)
  have HV := hide hv3
  clear hv3
  go_wp2_with fail
  refine (gather_own _ _ _ _ hs3 (by omega) h3).mono ?_
  rintro e w4 ⟨rfl, hb4⟩
  go_wp2
  go_ret
  exact ⟨by rw [HV.out, nw_words, nw_words]; rfl, hB3.trans (hb4.mono hB3.size)⟩
end Go.Proofs.YtghjhflfcambjaaGreatDoor
