/- What spread of package nat hands back, for every string within the model's reach: the number's parts, the lowest first, in a slice of its own. -/
import Derived.Test.YtghjhflfcambjaaGreatDoorCore1
namespace Go.Proofs.YtghjhflfcambjaaGreatDoor
open Go.RowKit Go.Shelf

attribute [local go_sem] Oper.semAt_some

theorem B_size_le (s : ByteArray) : (B (N s)).size ≤ s.size := by
  rw [B_size, N, bn_nb]
  have : (s.data.toList.dropWhile (· == 0)).length ≤ s.data.toList.length := (List.dropWhile_sublist _).length_le
  simpa using this

set_option maxRecDepth 100000 in
set_option maxHeartbeats 2000000 in
theorem spread_any (s : ByteArray) (w : World) (hs : s.size ≤ 140737488355328) :
    Calls Tryz.prog 31 #[.string s] w fun e w' => ∃ v, e = .returned v ∧ w'.ownsRow w.heap.size 66 1 v (words (N s)).length ((words (N s)).map u32) ∧ Below w.heap.size w w' := by
  refine (callsIn_wide (n := 6)).1 ?_
  have hbs : (B (N s)).size ≤ 140737488355328 := Nat.le_trans (B_size_le s) hs
  have hup := upto_words (N s)
  have hN := N_B (N s)
  generalize hm : N s = m at *
  obtain ⟨i0, hi, hz0, hz1, hz2⟩ := info_parts Tryz.infoU32
  refine callsIn_of_wp_marks Tryz.func31 rfl trivial ?_ rfl
  simp only [Tryz.ntmps31, List.size_toArray, List.length_cons, List.length_nil, Nat.reduceAdd, Nat.reduceSub, Array.replicate_succ, Array.replicate_zero, List.push_toArray, List.append_toArray, List.nil_append, List.cons_append]
  have HM : Hid (N s = m) := hm
  have HN : Hid (N (B m) = m) := hN
  have HU : Hid (upto m (((B m).size + 3) / 4) = words m) := hup
  clear hm hN hup
  gi_wp2_with (first
    | (refine ⟨trivial, ?_⟩; gi_at_call 33; refine (callsIn_wide.2 (bare_any _ _)).mono ?_; rintro e w' ⟨rfl, rfl⟩; rw [HM.out])
    | (refine ⟨trivial, ?_⟩; gi_at_call 58; refine (callsIn_wide.2 (countParts_any _ _ hbs)).mono ?_; rintro e w' ⟨rfl, rfl⟩)
    | (gi_at_make; refine wpListIn_make_own _ rfl _ _ 47 rfl w'.heap.size 66 i0 (.int .u32 0) 1 Tryz.underlying47 hi hz0 hz1 .i64 .i64 _ (((B m).size + 3) / 4) rfl rfl (by omega) (by rw [hz2]; omega) (by unfold maxLen; omega) (Nat.le_refl _) ?_; intro w1 hown1 hgrow1)
    | (refine ⟨trivial, ?_⟩; gi_at_call 59; refine (fromEnd_in _ _ _).mono ?_; rintro e w2 ⟨rfl, rfl⟩))
  have hsz1 := hgrow1.size
  have hB1 : Below w'.heap.size w' w1 := (Below.refl _ w').grown hgrow1 (Nat.le_refl _) (fun k e => by cases e)
  have bO := Boxed.new w1 47 (.slice (some ⟨w'.heap.size, 0, none⟩) 0 (((B m).size + 3) / 4))
  have bN := Boxed.new (w1.alloc (.cells #[.slice (some ⟨w'.heap.size, 0, none⟩) 0 (((B m).size + 3) / 4)] 47)) 22 (.string (B m))
  rw [World.size_alloc] at bN
  have hB0 : Below w'.heap.size w' ((w1.alloc (.cells #[.slice (some ⟨w'.heap.size, 0, none⟩) 0 (((B m).size + 3) / 4)] 47)).alloc (.cells #[.string (B m)] 22)) := (hB1.alloc hsz1 _).alloc (by simp; omega) _
  refine wpIn_rangeFunc_ownG (α := Nat) rfl (by omega) (gf := 84) (lb := #[.pointer (some ⟨w1.heap.size + 1, 0, none⟩)]) rfl trivial (enters_of Tryz.func84 (by kernel_rfl) rfl)
    (fromEnd_stops 5 (by omega) (w1.heap.size + 1) (B m) hbs _ (by simp) bN.cell) KeepsBox.t (KeepsBox.b (by simp)) (Below.refl _ _) (fun _ => rfl)
    (fun (pre : List Nat) V => ((∃ v, Boxed V w1.heap.size 47 v ∧ V.ownsRow w'.heap.size 66 1 v pre.length (pre.map u32) ∧ True) ∧ Below w'.heap.size w' V) ∧ Boxed V (w1.heap.size + 1) 22 (.string (B m)))
    (fun _ _ _ => False)
    (OwnFrom.and (OwnFrom.and (Own.from (holdsRow_own w'.heap.size w1.heap.size 47 66 1 (fun pre : List Nat => pre.length) (fun pre => pre.map u32) (fun _ _ => True)) _) (ownFrom_below (Nat.le_refl _) (by simp; omega))) (Own.from (boxed_own _ _ (fun _ => .string (B m))) _))
    (fun _ _ _ _ _ hs _ _ => hs)
    ⟨⟨⟨_, bO.alloc _, (hown1.alloc _).alloc _, trivial⟩, hB0⟩, bN⟩
    (fun x => { tmps := #[.string (B m), undef, .slice none 0 0, .pointer (some ⟨w1.heap.size, 0, none⟩), .int .u32 (x : Nat), .string s, .string (B m), .string (B m), .int .i64 (((B m).size + 3) / 4), .slice (some ⟨w'.heap.size, 0, none⟩) 0 (((B m).size + 3) / 4), .string (B m), .func (.func 84) #[] #[.pointer (some ⟨w1.heap.size + 1, 0, none⟩)], .int .u32 (x : Nat), undef, undef, undef, undef, undef], defers := [] }) ?assign ?body ?done ?stop
  case assign =>
    intro l x V K hK
    gi_wp2
    exact hK
  case body =>
    rintro l pre x V ⟨⟨⟨v, hv, hrow, _⟩, hB⟩, hb⟩ hlt
    have hc := hv.cell
    gi_wp2_with (gi_at_builtin; refine wpListIn_append_own _ rfl _ _ 47 rfl w'.heap.size 66 i0 (.int .u32 0) 1 4 Tryz.underlying47 hi hz0 hz1 hz2 rfl (by decide) _ _ _ rfl (hrow.alloc _) ⟨V.heap.size, 0, none⟩ 1 1 [.int .u32 (x : Nat)] rfl rfl (cell_one_new _ _ _) (by simp [Value.oneCell']) (by unfold maxLen; omega) (by omega) (by have := hB.size; simp; omega) ?_; intro v' w3 hown' hgrow _; obtain ⟨g', cap', rfl⟩ := ownsRow_succ hown'; obtain ⟨hv1, hv2, hr2, hk2, hb2⟩ := hv.appended (by decide) hrow hB.size hsz1 hown' hgrow; have hb3 := (hb.alloc _).kept hgrow (hb.not_row (by decide) hrow); have hc1 := hv1.cell; have hf1 := hv1.frozen)
    have hb4 := hb3.other (B' := w1.heap.size) (by omega) (.slice (some ⟨g', 0, none⟩) (pre.length + 1) cap')
    exact ⟨hk2.from _, hb4.cell.trans hb.cell.symm, ⟨⟨_, hv2, by simpa [u32] using hr2, trivial⟩, hB.trans hb2⟩, hb4⟩
  case done =>
    rintro D ys V hD rfl ⟨⟨⟨v, hv, hrow, _⟩, hB⟩, hb⟩ hK
    have hc := hv.cell
    rw [HN.out, HU.out] at hrow
    gi_wp2
    refine ⟨by simp, .inl ⟨_, _, rfl, run_takeDeferred hK, ?_⟩⟩
    refine ⟨_, results_tmp rfl _ _ _, v, rfl, ?_, hB.trans (belowK_b (w := w') (Nat.le_refl _) V D _ _ (by simp at hD; omega) hK rfl rfl)⟩
    exact ownsRow_putObj hrow _ hK rfl
  case stop =>
    rintro D c pre V _ _ h _
    exact h.elim

end Go.Proofs.YtghjhflfcambjaaGreatDoor
