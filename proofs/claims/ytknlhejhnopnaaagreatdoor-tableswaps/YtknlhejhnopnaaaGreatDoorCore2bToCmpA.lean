/- spread of package nat once more: besides, the slice is not nil. -/
import Derived.Test.YtknlhejhnopnaaaGreatDoorCore6ToReckA
import Derived.Lib.ItoaMem
namespace Go.Proofs.YtknlhejhnopnaaaGreatDoor
open Go.RowKit Go.Shelf

attribute [local go_sem] Oper.semAt_some

set_option maxRecDepth 100000 in
set_option maxHeartbeats 2000000 in
theorem spread_some (s : ByteArray) (w : World) (hs : s.size ≤ 140737488355328) :
    Calls Tryz.prog 141 #[.string s] w fun e w' => ∃ g cap, e = .returned (.slice (some ⟨g, 0, none⟩) (words (N s)).length cap) ∧ Has w' w.heap.size (.slice (some ⟨g, 0, none⟩) (words (N s)).length cap) (words (N s)) ∧ Below w.heap.size w w' := by
  refine (callsIn_wide (n := 6)).1 ?_
  have hbs : (B (N s)).size ≤ 140737488355328 := Nat.le_trans (B_size_le s) hs
  have hup := upto_words (N s)
  have hN := N_B (N s)
  generalize hm : N s = m at *
  obtain ⟨i0, hi, hz0, hz1, hz2⟩ := info_parts Tryz.infoU32
  refine callsIn_of_wp_marks Tryz.func141 rfl trivial ?_ rfl
  simp only [Tryz.ntmps141, List.size_toArray, List.length_cons, List.length_nil, Nat.reduceAdd, Nat.reduceSub, Array.replicate_succ, Array.replicate_zero, List.push_toArray, List.append_toArray, List.nil_append, List.cons_append]
  have HM : Hid (N s = m) := hm
  have HN : Hid (N (B m) = m) := hN
  have HU : Hid (upto m (((B m).size + 3) / 4) = words m) := hup
  clear hm hN hup
  gi_wp2_with (first
    | (refine ⟨trivial, ?_⟩; gi_at_call 178; refine (callsIn_wide.2 (bare_any _ _)).mono ?_; rintro e w' ⟨rfl, rfl⟩; rw [HM.out])
    | (refine ⟨trivial, ?_⟩; gi_at_call 179; refine (callsIn_wide.2 (countParts_any _ _ hbs)).mono ?_; rintro e w' ⟨rfl, rfl⟩)
    | (gi_at_make; refine wpListIn_make_own _ rfl _ _ 137 rfl w'.heap.size 164 i0 (.int .u32 0) 1 Tryz.underlying137 hi hz0 hz1 .i64 .i64 _ (((B m).size + 3) / 4) rfl rfl (by omega) (by rw [hz2]; omega) (by unfold maxLen; omega) (Nat.le_refl _) ?_; intro w1 hown1 hgrow1)
    | (refine ⟨trivial, ?_⟩; gi_at_call 180; refine (fromEnd_in _ _ _).mono ?_; rintro e w2 ⟨rfl, rfl⟩))
  have hsz1 := hgrow1.size
  have hB1 : Below w'.heap.size w' w1 := (Below.refl _ w').grown hgrow1 (Nat.le_refl _) (fun k e => by cases e)
  have bO := Boxed.new w1 137 (.slice (some ⟨w'.heap.size, 0, none⟩) 0 (((B m).size + 3) / 4))
  have bN := Boxed.new (w1.alloc (.cells #[.slice (some ⟨w'.heap.size, 0, none⟩) 0 (((B m).size + 3) / 4)] 137)) 42 (.string (B m))
  rw [World.size_alloc] at bN
  have hB0 : Below w'.heap.size w' ((w1.alloc (.cells #[.slice (some ⟨w'.heap.size, 0, none⟩) 0 (((B m).size + 3) / 4)] 137)).alloc (.cells #[.string (B m)] 42)) := (hB1.alloc hsz1 _).alloc (by simp; omega) _
  refine wpIn_rangeFunc_ownG (α := Nat) rfl (by omega) (gf := 207) (lb := #[.pointer (some ⟨w1.heap.size + 1, 0, none⟩)]) rfl trivial (enters_of Tryz.func207 (by kernel_rfl) rfl)
    (fromEnd_stops 5 (by omega) (w1.heap.size + 1) (B m) hbs _ (by simp) bN.cell) KeepsBox.t (KeepsBox.b (by simp)) (Below.refl _ _) (fun _ => rfl)
    (fun (pre : List Nat) V => ((∃ v, Boxed V w1.heap.size 137 v ∧ V.ownsRow w'.heap.size 164 1 v pre.length (pre.map u32) ∧ v ≠ .slice none 0 0) ∧ Below w'.heap.size w' V) ∧ Boxed V (w1.heap.size + 1) 42 (.string (B m)))
    (fun _ _ _ => False)
    (OwnFrom.and (OwnFrom.and (Own.from (holdsRow_own w'.heap.size w1.heap.size 137 164 1 (fun pre : List Nat => pre.length) (fun pre => pre.map u32) (fun _ v => v ≠ .slice none 0 0)) _) (ownFrom_below (Nat.le_refl _) (by simp; omega))) (Own.from (boxed_own _ _ (fun _ => .string (B m))) _))
    (fun _ _ _ _ _ hs _ _ => hs)
    ⟨⟨⟨_, bO.alloc _, (hown1.alloc _).alloc _, by simp⟩, hB0⟩, bN⟩
    (fun x => { tmps := #[.string (B m), undef, .slice none 0 0, .pointer (some ⟨w1.heap.size, 0, none⟩), .int .u32 (x : Nat), .string s, .string (B m), .string (B m), .int .i64 (((B m).size + 3) / 4), .slice (some ⟨w'.heap.size, 0, none⟩) 0 (((B m).size + 3) / 4), .string (B m), .func (.func 207) #[] #[.pointer (some ⟨w1.heap.size + 1, 0, none⟩)], .int .u32 (x : Nat), undef, undef, undef, undef, undef], defers := [] }) ?assign ?body ?done ?stop
  case assign =>
    intro l x V K hK
    gi_wp2
    exact hK
  case body =>
    rintro l pre x V ⟨⟨⟨v, hv, hrow, _⟩, hB⟩, hb⟩ hlt
    have hc := hv.cell
    gi_wp2_with (gi_at_builtin; refine wpListIn_append_own _ rfl _ _ 137 rfl w'.heap.size 164 i0 (.int .u32 0) 1 4 Tryz.underlying137 hi hz0 hz1 hz2 rfl (by decide) _ _ _ rfl (hrow.alloc _) ⟨V.heap.size, 0, none⟩ 1 1 [.int .u32 (x : Nat)] rfl rfl (cell_one_new _ _ _) (by simp [Value.oneCell']) (by unfold maxLen; omega) (by omega) (by have := hB.size; simp; omega) ?_; intro v' w3 hown' hgrow _; obtain ⟨g', cap', rfl⟩ := ownsRow_succ hown'; obtain ⟨hv1, hv2, hr2, hk2, hb2⟩ := hv.appended (by decide) hrow hB.size hsz1 hown' hgrow; have hb3 := (hb.alloc _).kept hgrow (hb.not_row (by decide) hrow); have hc1 := hv1.cell; have hf1 := hv1.frozen)
    have hb4 := hb3.other (B' := w1.heap.size) (by omega) (.slice (some ⟨g', 0, none⟩) (pre.length + 1) cap')
    exact ⟨hk2.from _, hb4.cell.trans hb.cell.symm, ⟨⟨_, hv2, by simpa [u32] using hr2, by simp⟩, hB.trans hb2⟩, hb4⟩
  case done =>
    rintro D ys V hD rfl ⟨⟨⟨v, hv, hrow, hnn⟩, hB⟩, hb⟩ hK
    have hc := hv.cell
    rw [HN.out, HU.out] at hrow
    gi_wp2
    refine ⟨by simp, .inl ⟨_, _, rfl, run_takeDeferred hK, ?_⟩⟩
    obtain ⟨g, cap, rfl⟩ : ∃ g cap, v = .slice (some ⟨g, 0, none⟩) (words m).length cap := by
      rcases hrow.2 with ⟨e, _⟩ | ⟨g, cap, _, e, _⟩
      · exact absurd e hnn
      · exact ⟨g, cap, e⟩
    refine ⟨_, results_tmp rfl _ _ _, g, cap, rfl, ?_, hB.trans (belowK_b (w := w') (Nat.le_refl _) V D _ _ (by simp at hD; omega) hK rfl rfl)⟩
    exact ownsRow_putObj hrow _ hK rfl
  case stop =>
    rintro D c pre V _ _ h _
    exact h.elim

end Go.Proofs.YtknlhejhnopnaaaGreatDoor

/- plus of package nat, and nat.Add. -/
namespace Go.Proofs.YtknlhejhnopnaaaGreatDoor
open Go.RowKit

theorem made_u32 (n : Nat) : (madeCells (Value.int .u32 0).cells (n * 1)).toList = (List.replicate n 0).map u32 := by
  rw [show (Value.int .u32 0).cells = #[Value.int .u32 0] from rfl, toList_madeCells_one, Nat.mul_one, List.map_replicate]; rfl
theorem lies_of_block {w : World} {g : Nat} {l : List Nat} (h : w.heap[g]? = some (.cells (l.map u32).toArray 164 (0, 0))) : Lies w g 0 l :=
  ⟨_, h, by simp, fun j hj => by simp [List.getElem?_eq_getElem hj]⟩
theorem splice_front (l : List Nat) : splice ((List.replicate (l.length + 1) 0).map u32) 0 (l.map u32) = (l ++ [0]).map u32 := by
  rw [splice_map, splice, List.take_zero, List.nil_append, Nat.zero_add, List.drop_replicate]; simp
theorem cells_of_lies {w : World} {g : Nat} {l : List Nat} (h : Lies w g 0 l) : ∀ j v, (l.map u32)[j]? = some v → w.cell? ((⟨g, 0, none⟩ : Addr).add j) = some v := by
  intro j v hj
  have hjl : j < l.length := by
    rcases Nat.lt_or_ge j l.length with h | h
    · exact h
    · rw [List.getElem?_eq_none (by simpa using h)] at hj; cases hj
  rw [Lib.add_plain, h.cell j hjl]
  rw [List.getElem?_map, List.getElem?_eq_getElem hjl] at hj
  rw [List.getElem?_eq_getElem hjl]
  exact hj
theorem ones_u32 (l : List Nat) : ∀ v ∈ l.map u32, v.oneCell' = true := by
  intro v hv
  obtain ⟨x, _, rfl⟩ := List.mem_map.1 hv
  rfl

theorem sum_fits {xs ys : List Nat} (hx : Small xs) (hy : Small ys) (h : ys.length ≤ xs.length) : nw xs + nw ys < W ^ (xs.length + 1) := by
  have h1 := nw_lt xs hx
  have h2 := nw_lt ys hy
  have h3 : W ^ ys.length ≤ W ^ xs.length := Nat.pow_le_pow_right W_pos h
  have h4 : W ^ (xs.length + 1) = W ^ xs.length * W := Nat.pow_succ ..
  have h5 : W ^ xs.length * 2 ≤ W ^ xs.length * W := Nat.mul_le_mul_left _ (by decide)
  omega

set_option maxRecDepth 100000 in
set_option maxHeartbeats 2000000 in
theorem plus_ge (gx capx gy capy : Nat) (xs ys : List Nat) (w : World) (hsx : Small xs) (hsy : Small ys) (hlen : xs.length ≤ 17592186044416) (hyx : ys.length ≤ xs.length) (hx : Lies w gx 0 xs) (hy : Lies w gy 0 ys) :
    Calls Tryz.prog 153 #[.slice (some ⟨gx, 0, none⟩) xs.length capx, .slice (some ⟨gy, 0, none⟩) ys.length capy] w fun e w' => ∃ v l, e = .returned v ∧ Has w' w.heap.size v l ∧ Small l ∧ l.length = xs.length + 1 ∧ nw l = nw xs + nw ys ∧ Below w.heap.size w w' := by
  obtain ⟨i0, hi, hz0, hz1, hz2⟩ := info_parts Tryz.infoU32
  have hnl : ¬ xs.length < ys.length := by omega
  have hgx := hx.lt
  have hgy := hy.lt
  go_enter Tryz.func153, Tryz.ntmps153
  go_wp2_with (first
    | (at_make; refine wpList_make_full _ rfl _ _ 137 rfl w.heap.size 164 i0 (.int .u32 0) 1 Tryz.underlying137 hi hz0 hz1 .i64 .i64 _ _ (xs.length + 1) rfl rfl (by omega) (by omega) (by rw [hz2]; omega) (by unfold maxLen; omega) (Nat.le_refl _) ?_; intro w2 hown2 hgrow2; have hb2 := block_of_own hown2; rw [made_u32] at hb2; have HB2 := hide hb2; have hB2 : Below w.heap.size w w2 := (Below.refl _ w).grown hgrow2 (Nat.le_refl _) (fun k e => by cases e); have hx2 := hx.below hB2 hgx; clear hown2 hgrow2 hb2)
    | (refine wpList_copy_splice rfl (.tmp 17) (.tmp 18) 137 137 rfl 164 Tryz.underlying137 (by kernel_rfl) _ _ _ _ _ _ rfl rfl w.heap.size 0 ((List.replicate (xs.length + 1) 0).map u32) 164 (by exact HB2.out) (xs.map u32) (by rw [List.length_map]; exact (Nat.min_eq_left (Nat.le_succ _)).symm) (fun _ => ⟨rfl, _, rfl, cells_of_lies hx2⟩) (by simp) (ones_u32 xs) w.heap.size w hB2 (Nat.le_refl _) ?_; intro w3 hg3 hB3))
  rw [splice_front] at hg3
  have hl3 := lies_of_block hg3.out
  have hy3 := hy.below hB3 hgy
  have e1 : (xs ++ [0]).length = xs.length + 1 := by simp
  have hs1 : Small (xs ++ [0]) := small_append hsx (fun x hx => by simp at hx; subst hx; exact W_pos)
  have hpb := putBack_any w.heap.size 0 (xs.length + 1) gy 0 capy (xs ++ [0]) ys w3 hs1 hsy (by omega) (by omega) hl3 hy3 (by omega)
  rw [e1, nw_snoc, Nat.mul_zero, Nat.add_zero] at hpb
  refine hpb.mono ?_
  rintro e w4 ⟨c, l4, rfl, hl4, hs4, hn4, hlies4, hu4⟩
  have hB4 : Below w.heap.size w w4 := Upd.below hB3 hu4 (Nat.le_refl _) hB3.size
  obtain ⟨cur, hc4, hcs, _⟩ := hu4.inside _ hg3.out
  have hown4 := own_of_lies (base := w.heap.size) (cap := xs.length + 1) cur hc4 (by rw [hcs]; simp) (Nat.le_refl _) (by unfold maxLen; omega) (by omega) hlies4
  have HN : Hid (nw l4 = nw xs + nw ys) := by
    show _ = _
    cases c with
    | false => simpa using hn4
    | true =>
      have hf := sum_fits hsx hsy hyx
      simp only [if_true] at hn4
      omega
  have HL := hide hl4
  rw [hl4] at hown4
  clear hn4 hl4 hc4 hcs hpb hg3 hlies4 hu4
  go_wp2
  go_ret
  exact ⟨_, l4, rfl, by rw [Has, HL.out]; exact hown4, hs4, HL.out, HN.out, hB4⟩

set_option maxRecDepth 100000 in
set_option maxHeartbeats 2000000 in
theorem plus_lt (gx capx gy capy : Nat) (xs ys : List Nat) (w : World) (hsx : Small xs) (hsy : Small ys) (hlen : xs.length ≤ 17592186044416) (hlt : ys.length < xs.length) (hx : Lies w gx 0 xs) (hy : Lies w gy 0 ys) :
    Calls Tryz.prog 153 #[.slice (some ⟨gy, 0, none⟩) ys.length capy, .slice (some ⟨gx, 0, none⟩) xs.length capx] w fun e w' => ∃ v l, e = .returned v ∧ Has w' w.heap.size v l ∧ Small l ∧ l.length = xs.length + 1 ∧ nw l = nw xs + nw ys ∧ Below w.heap.size w w' := by
  obtain ⟨i0, hi, hz0, hz1, hz2⟩ := info_parts Tryz.infoU32
  have hyx : ys.length ≤ xs.length := by omega
  have hgx := hx.lt
  have hgy := hy.lt
  go_enter Tryz.func153, Tryz.ntmps153
  go_wp2_with (first
    | (at_make; refine wpList_make_full _ rfl _ _ 137 rfl w.heap.size 164 i0 (.int .u32 0) 1 Tryz.underlying137 hi hz0 hz1 .i64 .i64 _ _ (xs.length + 1) rfl rfl (by omega) (by omega) (by rw [hz2]; omega) (by unfold maxLen; omega) (Nat.le_refl _) ?_; intro w2 hown2 hgrow2; have hb2 := block_of_own hown2; rw [made_u32] at hb2; have HB2 := hide hb2; have hB2 : Below w.heap.size w w2 := (Below.refl _ w).grown hgrow2 (Nat.le_refl _) (fun k e => by cases e); have hx2 := hx.below hB2 hgx; clear hown2 hgrow2 hb2)
    | (refine wpList_copy_splice rfl (.tmp 17) (.tmp 18) 137 137 rfl 164 Tryz.underlying137 (by kernel_rfl) _ _ _ _ _ _ rfl rfl w.heap.size 0 ((List.replicate (xs.length + 1) 0).map u32) 164 (by exact HB2.out) (xs.map u32) (by rw [List.length_map]; exact (Nat.min_eq_left (Nat.le_succ _)).symm) (fun _ => ⟨rfl, _, rfl, cells_of_lies hx2⟩) (by simp) (ones_u32 xs) w.heap.size w hB2 (Nat.le_refl _) ?_; intro w3 hg3 hB3))
  rw [splice_front] at hg3
  have hl3 := lies_of_block hg3.out
  have hy3 := hy.below hB3 hgy
  have e1 : (xs ++ [0]).length = xs.length + 1 := by simp
  have hs1 : Small (xs ++ [0]) := small_append hsx (fun x hx => by simp at hx; subst hx; exact W_pos)
  have hpb := putBack_any w.heap.size 0 (xs.length + 1) gy 0 capy (xs ++ [0]) ys w3 hs1 hsy (by omega) (by omega) hl3 hy3 (by omega)
  rw [e1, nw_snoc, Nat.mul_zero, Nat.add_zero] at hpb
  refine hpb.mono ?_
  rintro e w4 ⟨c, l4, rfl, hl4, hs4, hn4, hlies4, hu4⟩
  have hB4 : Below w.heap.size w w4 := Upd.below hB3 hu4 (Nat.le_refl _) hB3.size
  obtain ⟨cur, hc4, hcs, _⟩ := hu4.inside _ hg3.out
  have hown4 := own_of_lies (base := w.heap.size) (cap := xs.length + 1) cur hc4 (by rw [hcs]; simp) (Nat.le_refl _) (by unfold maxLen; omega) (by omega) hlies4
  have HN : Hid (nw l4 = nw xs + nw ys) := by
    show _ = _
    cases c with
    | false => simpa using hn4
    | true =>
      have hf := sum_fits hsx hsy hyx
      simp only [if_true] at hn4
      omega
  have HL := hide hl4
  rw [hl4] at hown4
  clear hn4 hl4 hc4 hcs hpb hg3 hlies4 hu4
  go_wp2
  go_ret
  exact ⟨_, l4, rfl, by rw [Has, HL.out]; exact hown4, hs4, HL.out, HN.out, hB4⟩

theorem plus_any (gx capx gy capy : Nat) (xs ys : List Nat) (w : World) (hsx : Small xs) (hsy : Small ys) (hlx : xs.length ≤ 17592186044416) (hly : ys.length ≤ 17592186044416) (hx : Lies w gx 0 xs) (hy : Lies w gy 0 ys) :
    Calls Tryz.prog 153 #[.slice (some ⟨gx, 0, none⟩) xs.length capx, .slice (some ⟨gy, 0, none⟩) ys.length capy] w fun e w' => ∃ v l, e = .returned v ∧ Has w' w.heap.size v l ∧ Small l ∧ l.length ≤ 17592186044417 ∧ nw l = nw xs + nw ys ∧ Below w.heap.size w w' := by
  by_cases h : ys.length ≤ xs.length
  · refine (plus_ge gx capx gy capy xs ys w hsx hsy hlx h hx hy).mono ?_
    rintro e w' ⟨v, l, rfl, h1, h2, h3, h4, h5⟩
    exact ⟨v, l, rfl, h1, h2, by omega, h4, h5⟩
  · refine (plus_lt gy capy gx capx ys xs w hsy hsx hly (by omega) hy hx).mono ?_
    rintro e w' ⟨v, l, rfl, h1, h2, h3, h4, h5⟩
    exact ⟨v, l, rfl, h1, h2, by omega, by omega, h5⟩

/-- The slice that spread hands back lies on while nothing below its world's end turns. -/
theorem has_lies {w w' : World} {base g cap n : Nat} {l : List Nat} (h : Has w base (.slice (some ⟨g, 0, none⟩) n cap) l) (hb : Below w.heap.size w w') : Lies w' g 0 l := by
  rcases h.cases with ⟨e, _⟩ | ⟨g', cap', e, _, _, hl⟩
  · cases e
  · cases e; exact hl.below hb hl.lt
theorem words_len_le (s : ByteArray) (k : Nat) (h : s.size ≤ 4 * k) : (words (N s)).length ≤ k := by
  rw [words_length, ← B_size]
  have := B_size_le s
  omega

set_option maxRecDepth 100000 in
set_option maxHeartbeats 1000000 in
theorem Add_any (a b : ByteArray) (w : World) (ha : a.size ≤ 1099511627776) (hb : b.size ≤ 1099511627776) :
    Calls Tryz.prog 119 #[.string a, .string b] w fun e w' => e = .returned (.string (B (N a + N b))) ∧ Below w.heap.size w w' := by
  have hla := words_len_le a 274877906944 (by omega)
  have hlb := words_len_le b 274877906944 (by omega)
  go_enter Tryz.func119, Tryz.ntmps119
  go_wp2_with fail
  refine (spread_some a _ (by omega)).mono ?_
  rintro e w1 ⟨g1, c1, rfl, h1, hb1⟩
  go_wp2_with fail
  refine (spread_some b _ (by omega)).mono ?_
  rintro e w2 ⟨g2, c2, rfl, h2, hb2⟩
  have hl1 := has_lies h1 hb2
  have hl2 := has_lies h2 (Below.refl _ _)
  have hB2 : Below w.heap.size w w2 := hb1.trans (hb2.mono hb1.size)
  go_wp2_with fail
  refine (plus_any g1 c1 g2 c2 _ _ _ (words_small _) (words_small _) (by omega) (by omega) hl1 hl2).mono ?_
  rintro e w3 ⟨v, l, rfl, h3, hs3, hn3, hv3, hb3⟩
  have hB3 : Below w.heap.size w w3 := hB2.trans (hb3.mono hB2.size)
  have HV := hide hv3
  clear hv3
  go_wp2_with fail
  refine (gather_own _ _ _ _ hs3 (by omega) h3).mono ?_
  rintro e w4 ⟨rfl, hb4⟩
  go_wp2
  go_ret
  exact ⟨by rw [HV.out, nw_words, nw_words]; rfl, hB3.trans (hb4.mono hB3.size)⟩
end Go.Proofs.YtknlhejhnopnaaaGreatDoor

/- allDigits and appendDigit of package nat. -/
namespace Go.Proofs.YtknlhejhnopnaaaGreatDoor
open Go.RowKit

theorem toList_data (s : ByteArray) : s.toList = s.data.toList := by
  obtain ⟨⟨l⟩⟩ := s
  simp
theorem allDig_false (s : ByteArray) (k : Nat) (h : k < s.size) (hd : isDig s[k] = false) : allDig s.data.toList = false := by
  have hm : s[k] ∈ s.data.toList := by
    have : s.data.toList[k]'(by simpa using h) = s[k] := rfl
    rw [← this]; exact List.getElem_mem _
  have : s.data.toList.all isDig = false := by
    rw [List.all_eq_false]; exact ⟨_, hm, by simp [hd]⟩
  simp [allDig, this]

theorem ret_bool {a b : Bool} (h : a = b) : Ending.returned (.bool a) = .returned (.bool b) := by rw [h]

end Go.Proofs.YtknlhejhnopnaaaGreatDoor

/- cmp.Compare at api.Nat, and nat.Cmp. -/
namespace Go.Proofs.YtknlhejhnopnaaaGreatDoor
open Go.RowKit

/-- How two numbers compare. -/
def cmpI (m n : Nat) : Int := if m < n then -1 else if m = n then 0 else 1

theorem less_nb : ∀ (l m : List UInt8), l.length = m.length → Op.bytesLess l m = decide (nb l < nb m)
  | [], [], _ => rfl
  | x :: l, y :: m, h => by
    have hl : l.length = m.length := by simpa using h
    have ih := less_nb l m hl
    have h1 := nb_lt l
    have h2 := nb_lt m
    rw [nb_cons, nb_cons, ← hl]
    rw [← hl] at h2
    rw [Op.bytesLess]
    rcases Nat.lt_trichotomy x.toNat y.toNat with e | e | e
    · have hxy : (decide (x < y)) = true := by simpa [UInt8.lt_iff_toNat_lt] using e
      have : (x.toNat + 1) * 256 ^ l.length ≤ y.toNat * 256 ^ l.length := Nat.mul_le_mul_right _ e
      rw [Nat.add_mul] at this
      rw [hxy, Bool.true_or]
      symm; rw [decide_eq_true_eq]; omega
    · have hxy : x = y := UInt8.toNat_inj.1 e
      subst hxy
      have h3 : (decide (x < x)) = false := by simp
      rw [h3, Bool.false_or, beq_self_eq_true, Bool.true_and, ih]
      congr 1
      apply propext
      omega
    · have h3 : (decide (x < y)) = false := by simp [UInt8.lt_iff_toNat_lt]; omega
      have h4 : (x == y) = false := by rw [beq_eq_false_iff_ne]; rintro rfl; omega
      have : (y.toNat + 1) * 256 ^ l.length ≤ x.toNat * 256 ^ l.length := Nat.mul_le_mul_right _ e
      rw [Nat.add_mul] at this
      rw [h3, h4, Bool.false_or, Bool.false_and]
      symm; rw [decide_eq_false_iff_not]; omega
theorem nb_inj : ∀ (l m : List UInt8), l.length = m.length → nb l = nb m → l = m
  | [], [], _, _ => rfl
  | x :: l, y :: m, h, e => by
    have hl : l.length = m.length := by simpa using h
    have h1 := nb_lt l
    have h2 := nb_lt m
    rw [nb_cons, nb_cons, ← hl] at e
    rw [← hl] at h2
    have hp : 0 < 256 ^ l.length := Nat.pow_pos (by decide)
    have hx : x.toNat = y.toNat := by
      rcases Nat.lt_trichotomy x.toNat y.toNat with c | c | c
      · have : (x.toNat + 1) * 256 ^ l.length ≤ y.toNat * 256 ^ l.length := Nat.mul_le_mul_right _ c
        rw [Nat.add_mul] at this
        omega
      · exact c
      · have : (y.toNat + 1) * 256 ^ l.length ≤ x.toNat * 256 ^ l.length := Nat.mul_le_mul_right _ c
        rw [Nat.add_mul] at this
        omega
    rw [hx] at e
    rw [UInt8.toNat_inj.1 hx, nb_inj l m hl (by omega)]

set_option maxHeartbeats 1000000 in
theorem CompareNat_any (a b : ByteArray) (w : World) (h : a.size = b.size) :
    Calls Tryz.prog 184 #[.string a, .string b] w fun e w' => e = .returned (.int .i64 (cmpI (N a) (N b))) ∧ w' = w := by
  have hlt := less_nb a.data.toList b.data.toList (by rw [Array.length_toList, Array.length_toList]; exact h)
  rcases Nat.lt_trichotomy (N a) (N b) with h1 | h1 | h1
  · have hL : Op.bytesLess a.toList b.toList = true := by rw [toList_data, toList_data, hlt]; simpa [N] using h1
    have HR : Hid (cmpI (N a) (N b) = -1) := by show _ = _; rw [cmpI, if_pos h1]
    clear hlt h1
    go_enter Tryz.func184, Tryz.ntmps184
    go_wp2
    go_ret
    exact ⟨ret_int HR.out.symm, rfl⟩
  · have hL : Op.bytesLess a.toList b.toList = false := by rw [toList_data, toList_data, hlt]; simp only [N] at h1; rw [decide_eq_false_iff_not]; omega
    have hE : (a.toList == b.toList) = true := by
      rw [toList_data, toList_data, nb_inj a.data.toList b.data.toList (by rw [Array.length_toList, Array.length_toList]; exact h) h1]
      simp
    have HR : Hid (cmpI (N a) (N b) = 0) := by show _ = _; rw [cmpI, if_neg (by omega), if_pos h1]
    clear hlt h1
    go_enter Tryz.func184, Tryz.ntmps184
    go_wp2
    go_ret
    exact ⟨ret_int HR.out.symm, rfl⟩
  · have hL : Op.bytesLess a.toList b.toList = false := by rw [toList_data, toList_data, hlt]; simp only [N] at h1; rw [decide_eq_false_iff_not]; omega
    have hE : (a.toList == b.toList) = false := by
      rw [toList_data, toList_data, beq_eq_false_iff_ne]
      intro e
      rw [N, N, e] at h1
      omega
    have HR : Hid (cmpI (N a) (N b) = 1) := by show _ = _; rw [cmpI, if_neg (by omega), if_neg (by omega)]
    clear hlt h1
    go_enter Tryz.func184, Tryz.ntmps184
    go_wp2
    go_ret
    exact ⟨ret_int HR.out.symm, rfl⟩

set_option maxHeartbeats 1000000 in
theorem Cmp_any (a b : ByteArray) (w : World) :
    Calls Tryz.prog 151 #[.string a, .string b] w fun e w' => e = .returned (.int .i64 (cmpI (N a) (N b))) ∧ w' = w := by
  by_cases h : (B (N a)).size = (B (N b)).size
  · have hc := fun V => CompareNat_any (B (N a)) (B (N b)) V h
    simp only [N_B] at hc
    have HC := hide hc
    have hne : (((B (N a)).size : Int) != ((B (N b)).size : Int)) = false := by rw [h]; simp
    clear hc h
    go_enter Tryz.func151, Tryz.ntmps151
    go_wp2_with fail
    refine (bare_any _ _).mono ?_
    rintro e w1 ⟨rfl, hw⟩
    subst hw
    go_wp2_with fail
    refine (bare_any _ _).mono ?_
    rintro e w2 ⟨rfl, hw⟩
    subst hw
    go_wp2_with fail
    refine (HC.out _).mono ?_
    rintro e w3 ⟨rfl, hw⟩
    subst hw
    go_wp2
    go_ret
    exact ⟨rfl, rfl⟩
  · have hne : (((B (N a)).size : Int) != ((B (N b)).size : Int)) = true := by rw [bne_iff_ne]; omega
    have HR : Hid (Lib.compareInt (((B (N a)).size : Nat) : Int) (((B (N b)).size : Nat) : Int) = cmpI (N a) (N b)) := by
      show _ = _
      rw [B_size, B_size] at h ⊢
      unfold Lib.compareInt cmpI
      rcases Nat.lt_or_ge (N a) (N b) with c | c
      · have := bn_length_mono (Nat.le_of_lt c)
        rw [if_pos (by omega), if_pos c]
      · have := bn_length_mono c
        rw [if_neg (by omega), if_pos (by omega), if_neg (by omega), if_neg (by intro e; rw [e] at h; exact h rfl)]
    clear h
    go_enter Tryz.func151, Tryz.ntmps151
    go_wp2_with fail
    refine (bare_any _ _).mono ?_
    rintro e w1 ⟨rfl, hw⟩
    subst hw
    go_wp2_with fail
    refine (bare_any _ _).mono ?_
    rintro e w2 ⟨rfl, hw⟩
    subst hw
    go_wp2_with fail
    refine (Tryz.cmp_Compare_int _ _ _).mono ?_
    rintro e w3 ⟨rfl, hw⟩
    subst hw
    go_wp2
    go_ret
    exact ⟨ret_int HR.out, rfl⟩
end Go.Proofs.YtknlhejhnopnaaaGreatDoor
