/- What bare, countParts, readPart, fromEnd and spread of package nat hand back, for every string within the model's reach. -/
import Derived.Test.YtojidhnkpeiimaaGreatDoorNumOwn
import Derived.Test.YtojidhnkpeiimaaGreatDoorShelfOwn
import Derived.WalkKit
import Derived.WalkSpells
import Derived.WalkLawsBesides
import Derived.Laws.BitsAllLaws
import Derived.RangeFuncNested
import Derived.RangeFuncBound
import Derived.RangeFuncCalls
import Derived.RangeFuncLeaves
import Derived.RangeFuncBox
import Derived.Shelf.Abstract
import Derived.Shelf.RegionOpen
import Derived.OwnWalkIn
import Derived.TacticsInMore
import Derived.LoopNIn
import Derived.LoopIn
import Derived.Maps.AppendAt
import Derived.Laws.BytesArg
import Derived.Laws.CopyOwn
import Derived.Deep.RegionLaw
import Derived.Deep.LoopGhost
namespace Go.Proofs.YtojidhnkpeiimaaGreatDoor
open Go.RowKit Go.Shelf
attribute [local go_sem] Oper.semAt_some
def N (s : ByteArray) : Nat := nb s.data.toList
def B (n : Nat) : ByteArray := ⟨(bn n).toArray⟩
theorem N_B (n : Nat) : N (B n) = n := nb_bn n
theorem B_size (n : Nat) : (B n).size = (bn n).length := by simp [B, ByteArray.size]
theorem trim_B (s : ByteArray) : (⟨(Lib.trimLeftB s.data.toList 0).toArray⟩ : ByteArray) = B (N s) := by
  rw [B, N, bn_nb]; rfl
theorem ret_int {k : IntKind} {a b : Int} (h : a = b) : Ending.returned (.int k a) = .returned (.int k b) := by rw [h]
theorem int_eq {k : IntKind} {a b : Int} (h : a = b) : Value.int k a = .int k b := by rw [h]
set_option maxHeartbeats 400000 in
theorem bare_any (s : ByteArray) (w : World) :
    Calls Tryz.prog 116 #[.string s] w fun e w' => e = .returned (.string (B (N s))) ∧ w' = w := by
  rw [← trim_B]
  go_enter Tryz.func116, Tryz.ntmps116
  go_wp2_with (go_at_call 91; refine (Tryz.strings_TrimLeft_one _ 0 (by decide) _).mono ?_; rintro e w' ⟨rfl, rfl⟩)
  go_ret
  exact ⟨rfl, rfl⟩
set_option maxHeartbeats 400000 in
theorem countParts_any (s : ByteArray) (w : World) (hs : s.size ≤ 140737488355328) :
    Calls Tryz.prog 148 #[.string s] w fun e w' => e = .returned (.int .i64 ((s.size + 3) / 4 : Nat)) ∧ w' = w := by
  go_enter Tryz.func148, Tryz.ntmps148
  go_wp2
  go_ret
  exact ⟨ret_int (by omega), rfl⟩
theorem or_step (p c : Nat) (hp : p < 16777216) (hc : c < 256) : bits .or .u32 ((p : Int) * 256) (c : Int) = ((p * 256 + c : Nat) : Int) := by
  have e1 : (p : Int) * 256 = ((p * 256 : Nat) : Int) := by omega
  rw [e1, u32_or_nat _ _ (by omega) (by omega), nat_join 8 _ _ (by omega) hc]
theorem take_snoc (s : ByteArray) (k : Nat) (h : k < s.size) : s.data.toList.take (k + 1) = s.data.toList.take k ++ [s[k]] := by
  rw [List.take_succ_eq_append_getElem (by simpa using h)]; rfl
theorem nb_lt_of (l : List UInt8) (k : Nat) (h : l.length ≤ k) : nb l < 256 ^ k :=
  Nat.lt_of_lt_of_le (nb_lt l) (Nat.pow_le_pow_right (by decide) h)
set_option maxHeartbeats 400000 in
theorem readPart_any (s : ByteArray) (w : World) (hs : s.size ≤ 4) :
    Calls Tryz.prog 177 #[.string s] w fun e w' => e = .returned (.int .u32 (N s)) ∧ w' = w := by
  go_enter Tryz.func177, Tryz.ntmps177
  go_wp2
  go_loop [3, 7] (fun n i => ∃ k : Nat, k ≤ s.size ∧ i = .int .i64 k ∧ n = .int .u32 (nb (s.data.toList.take k))) (fun _ i => s.size - (intOf i).toNat)
  case atStart => exact ⟨0, Nat.zero_le _, rfl, rfl⟩
  case round =>
    obtain ⟨k, hk, rfl, rfl⟩ := hrel
    by_cases hlt : k < s.size
    · have hb : nb (s.data.toList.take k) < 16777216 := nb_lt_of _ 3 (by simp; omega)
      have hc := s[k].toNat_lt
      have HS : Hid (nb (s.data.toList.take (k + 1)) = nb (s.data.toList.take k) * 256 + s[k].toNat) := by rw [take_snoc s k hlt, nb_snoc]; rfl
      have HO : Hid (bits .or .u32 ((nb (s.data.toList.take k) : Int) * 256) (s[k].toNat : Int) = ((nb (s.data.toList.take k) * 256 + s[k].toNat : Nat) : Int)) := or_step _ _ hb hc
      generalize nb (s.data.toList.take k) = p at *
      go_wp2
      go_round
      case rel => exact ⟨k + 1, by omega, by go_num, by rw [HS.out]; exact int_eq HO.out⟩
      case measure => simp [intOf]; omega
    · go_wp2
      go_ret
      exact ⟨ret_int (by rw [N, List.take_of_length_le (by simp; omega)]), rfl⟩
def KeepsBox (Bn : Nat) (V V' : World) : Prop := V'.cell? ⟨Bn, 0, none⟩ = V.cell? ⟨Bn, 0, none⟩
theorem KeepsBox.t {Bn : Nat} {A B C : World} (h : KeepsBox Bn A B) (k : KeepsBox Bn B C) : KeepsBox Bn A C := Eq.trans k h
theorem KeepsBox.b {Bn : Nat} {w : World} (hn : Bn < w.heap.size) (V : World) (l : Nat) (o o' : Obj) (hl : w.heap.size ≤ l) (_ : V.heap[l]? = some o) (_ : o.isCells = false) (_ : o.isWalk = false) : KeepsBox Bn V (V.putObj l o') :=
  World.cell?_of_block (World.putObj_heap_other (show Bn ≠ l by omega))
def upto (n k : Nat) : List Nat := (List.range k).map (part n)
theorem upto_succ (n k : Nat) : upto n (k + 1) = upto n k ++ [part n k] := by simp [upto, List.range_succ]
theorem upto_length (n k : Nat) : (upto n k).length = k := by simp [upto]
theorem piece_N (s : ByteArray) (k : Nat) (h : 4 * k ≤ s.size) : N (s.extract (s.size - 4 * k - 4) (s.size - 4 * k)) = part (N s) k := by
  rw [N, N, ← part_of_bytes _ _ (by simpa using h)]
  congr 1
  rw [ByteArray.data_extract]; simp [List.drop_take]
theorem readPiece (s : ByteArray) (k : Nat) (w : World) (h : 4 * k ≤ s.size) :
    Calls Tryz.prog 177 #[.string (s.extract (max 0 ((s.size : Int) - (k : Int) * 4 - 4)).toNat (s.size - k * 4))] w fun e w' => e = .returned (.int .u32 (part (N s) k : Nat)) ∧ w' = w := by
  have e1 : (max 0 ((s.size : Int) - (k : Int) * 4 - 4)).toNat = s.size - 4 * k - 4 := by omega
  have e2 : s.size - k * 4 = s.size - 4 * k := by omega
  rw [e1, e2, ← piece_N s k h]
  exact readPart_any _ w (by rw [ByteArray.size_extract]; omega)
set_option maxRecDepth 100000 in
set_option maxHeartbeats 1000000 in
theorem fromEnd1_in (n : Nat) (hn : 1 ≤ n) (l Bn : Nat) (s : ByteArray) (hs : s.size ≤ 140737488355328) (J Jx : List Nat → World → Prop)
    (hY : ∀ pre x V, J pre V → pre.length < (s.size + 3) / 4 → YieldAt Fence.wide (n - 1) Tryz.prog l #[.int .u32 (x : Nat)] V fun e V' =>
      (e = .returned (.bool true) ∧ J (pre ++ [x]) V' ∧ KeepsBox Bn V V') ∨ (e = .returned (.bool false) ∧ Jx (pre ++ [x]) V'))
    (V : World) (hBn : V.cell? ⟨Bn, 0, none⟩ = some (.string s)) (h0 : J [] V) :
    CallsIn Fence.wide n Tryz.prog 176 #[.func (.yield l) #[] #[], .pointer (some ⟨Bn, 0, none⟩)] V fun e V' => (∃ v, e = .returned v) ∧
      ((∃ ys, ys = upto (N s) ((s.size + 3) / 4) ∧ J ys V') ∨ (∃ pre, (∃ k, k ≤ (s.size + 3) / 4 ∧ pre = upto (N s) k) ∧ Jx pre V')) := by
  refine callsIn_of_wp Tryz.func176 rfl trivial ?_ rfl
  simp only [Tryz.ntmps176, List.size_toArray, List.length_cons, List.length_nil, Nat.reduceAdd, Nat.reduceSub, Array.replicate_succ, Array.replicate_zero, List.push_toArray, List.append_toArray, List.nil_append, List.cons_append]
  gi_wp2_with (refine ⟨trivial, ?_⟩; gi_at_call 148; refine (callsIn_wide.2 (countParts_any _ _ hs)).mono ?_; rintro e w' ⟨rfl, rfl⟩)
  gi_loopw [7] (fun i wr => ∃ k : Nat, k ≤ (s.size + 3) / 4 ∧ i = .int .i64 k ∧ J (upto (N s) k) wr ∧ wr.cell? ⟨Bn, 0, none⟩ = some (.string s))
    (fun i _ => (s.size + 3) / 4 - (intOf i).toNat)
  case atStart => exact ⟨0, Nat.zero_le _, rfl, h0, hBn⟩
  case round =>
    obtain ⟨k, hk, rfl, hJs, hbx⟩ := hrel
    by_cases hlt : k < (s.size + 3) / 4
    · obtain ⟨fn, tmps, assign, body, hy, hR⟩ := hY _ (part (N s) k) wr hJs (by rw [upto_length]; exact hlt)
      gi_wp2_with (refine ⟨trivial, ?_⟩; gi_at_call 177; refine (callsIn_wide.2 (readPiece s k _ (by omega))).mono ?_; rintro e w' ⟨rfl, rfl⟩)
      refine hR.mono ?_
      rintro e W3 (⟨rfl, hJ3, hk3⟩ | ⟨rfl, hJx3⟩)
      · have hbx3 : W3.cell? ⟨Bn, 0, none⟩ = some (.string s) := Eq.trans hk3 hbx
        gi_wp2
        go_roundw
        case rel => exact ⟨k + 1, by omega, by simp, by rw [upto_succ]; exact hJ3, hbx3⟩
        case measure => simp [intOf]; omega
      · gi_wp2
        refine bodyPost_ret (results_none rfl _ _ _) rfl ?_
        exact ⟨⟨_, rfl⟩, .inr ⟨_, ⟨k + 1, by omega, (upto_succ _ _).symm⟩, hJx3⟩⟩
    · obtain rfl : k = (s.size + 3) / 4 := by omega
      gi_wp2
      go_end0
      exact ⟨⟨_, rfl⟩, .inl ⟨_, rfl, hJs⟩⟩
set_option maxHeartbeats 1000000 in
theorem fromEnd_in (n : Nat) (s : ByteArray) (w : World) :
    CallsIn Fence.wide n Tryz.prog 149 #[.string s] w fun e w' => e = .returned (.func (.func 176) #[] #[.pointer (some ⟨w.heap.size, 0, none⟩)]) ∧ w' = w.alloc (.cells #[.string s] 42) := by
  refine callsIn_of_wp Tryz.func149 rfl trivial ?_ rfl
  simp only [Tryz.ntmps149, List.size_toArray, List.length_cons, List.length_nil, Nat.reduceAdd, Nat.reduceSub, Array.replicate_succ, Array.replicate_zero, List.push_toArray, List.append_toArray, List.nil_append, List.cons_append]
  gi_wp2
  go_ret
  exact ⟨rfl, rfl⟩
theorem fromEnd_stops (n : Nat) (hn : 1 ≤ n) (Bn : Nat) (s : ByteArray) (hs : s.size ≤ 140737488355328) (w : World) (hBn : Bn < w.heap.size) (hc : w.cell? ⟨Bn, 0, none⟩ = some (.string s)) :
    SeqStopsK Fence.wide n Tryz.prog 176 #[.pointer (some ⟨Bn, 0, none⟩)] (fun x : Nat => #[Value.int .u32 (x : Nat)]) (KeepsBox Bn) (fun ys => ys = upto (N s) ((s.size + 3) / 4)) (fun pre => ∃ k, k ≤ (s.size + 3) / 4 ∧ pre = upto (N s) k) ((s.size + 3) / 4) w := fun l J Jx V hV _ _ hY h0 =>
  fromEnd1_in n hn l Bn s hs J Jx hY V ((hV.cell (p := ⟨Bn, 0, none⟩) hBn).trans hc) h0
theorem Tryz.infoU32 : (Tryz.prog.info? 135).map (fun i => (i.zero, i.size, i.bytes)) = some (some (.int .u32 0), 1, 4) := by kernel_rfl
def u32 (x : Nat) : Value := .int .u32 (x : Nat)
theorem upto_words (n : Nat) : upto n (((B n).size + 3) / 4) = words n := by
  rw [B_size, ← words_length, upto, ← words_eq_parts]
end Go.Proofs.YtojidhnkpeiimaaGreatDoor

/- What spread of package nat hands back, for every string within the model's reach: the number's parts, the lowest first, in a slice of its own. -/
namespace Go.Proofs.YtojidhnkpeiimaaGreatDoor
open Go.RowKit Go.Shelf
attribute [local go_sem] Oper.semAt_some
theorem B_size_le (s : ByteArray) : (B (N s)).size ≤ s.size := by
  rw [B_size, N, bn_nb]
  have : (s.data.toList.dropWhile (· == 0)).length ≤ s.data.toList.length := (List.dropWhile_sublist _).length_le
  simpa using this
set_option maxRecDepth 100000 in
set_option maxHeartbeats 2000000 in
theorem spread_any (s : ByteArray) (w : World) (hs : s.size ≤ 140737488355328) :
    Calls Tryz.prog 113 #[.string s] w fun e w' => ∃ v, e = .returned v ∧ w'.ownsRow w.heap.size 135 1 v (words (N s)).length ((words (N s)).map u32) ∧ Below w.heap.size w w' := by
  refine (callsIn_wide (n := 6)).1 ?_
  have hbs : (B (N s)).size ≤ 140737488355328 := Nat.le_trans (B_size_le s) hs
  have hup := upto_words (N s)
  have hN := N_B (N s)
  generalize hm : N s = m at *
  obtain ⟨i0, hi, hz0, hz1, hz2⟩ := info_parts Tryz.infoU32
  refine callsIn_of_wp_marks Tryz.func113 rfl trivial ?_ rfl
  simp only [Tryz.ntmps113, List.size_toArray, List.length_cons, List.length_nil, Nat.reduceAdd, Nat.reduceSub, Array.replicate_succ, Array.replicate_zero, List.push_toArray, List.append_toArray, List.nil_append, List.cons_append]
  have HM : Hid (N s = m) := hm
  have HN : Hid (N (B m) = m) := hN
  have HU : Hid (upto m (((B m).size + 3) / 4) = words m) := hup
  clear hm hN hup
  gi_wp2_with (first
    | (refine ⟨trivial, ?_⟩; gi_at_call 116; refine (callsIn_wide.2 (bare_any _ _)).mono ?_; rintro e w' ⟨rfl, rfl⟩; rw [HM.out])
    | (refine ⟨trivial, ?_⟩; gi_at_call 148; refine (callsIn_wide.2 (countParts_any _ _ hbs)).mono ?_; rintro e w' ⟨rfl, rfl⟩)
    | (gi_at_make; refine wpListIn_make_own _ rfl _ _ 147 rfl w'.heap.size 135 i0 (.int .u32 0) 1 Tryz.underlying147 hi hz0 hz1 .i64 .i64 _ (((B m).size + 3) / 4) rfl rfl (by omega) (by rw [hz2]; omega) (by unfold maxLen; omega) (Nat.le_refl _) ?_; intro w1 hown1 hgrow1)
    | (refine ⟨trivial, ?_⟩; gi_at_call 149; refine (fromEnd_in _ _ _).mono ?_; rintro e w2 ⟨rfl, rfl⟩))
  have hsz1 := hgrow1.size
  have hB1 : Below w'.heap.size w' w1 := (Below.refl _ w').grown hgrow1 (Nat.le_refl _) (fun k e => by cases e)
  have bO := Boxed.new w1 147 (.slice (some ⟨w'.heap.size, 0, none⟩) 0 (((B m).size + 3) / 4))
  have bN := Boxed.new (w1.alloc (.cells #[.slice (some ⟨w'.heap.size, 0, none⟩) 0 (((B m).size + 3) / 4)] 147)) 42 (.string (B m))
  rw [World.size_alloc] at bN
  have hB0 : Below w'.heap.size w' ((w1.alloc (.cells #[.slice (some ⟨w'.heap.size, 0, none⟩) 0 (((B m).size + 3) / 4)] 147)).alloc (.cells #[.string (B m)] 42)) := (hB1.alloc hsz1 _).alloc (by simp; omega) _
  refine wpIn_rangeFunc_ownG (α := Nat) rfl (by omega) (gf := 176) (lb := #[.pointer (some ⟨w1.heap.size + 1, 0, none⟩)]) rfl trivial (enters_of Tryz.func176 (by kernel_rfl) rfl)
    (fromEnd_stops 5 (by omega) (w1.heap.size + 1) (B m) hbs _ (by simp) bN.cell) KeepsBox.t (KeepsBox.b (by simp)) (Below.refl _ _) (fun _ => rfl)
    (fun (pre : List Nat) V => ((∃ v, Boxed V w1.heap.size 147 v ∧ V.ownsRow w'.heap.size 135 1 v pre.length (pre.map u32) ∧ True) ∧ Below w'.heap.size w' V) ∧ Boxed V (w1.heap.size + 1) 42 (.string (B m)))
    (fun _ _ _ => False)
    (OwnFrom.and (OwnFrom.and (Own.from (holdsRow_own w'.heap.size w1.heap.size 147 135 1 (fun pre : List Nat => pre.length) (fun pre => pre.map u32) (fun _ _ => True)) _) (ownFrom_below (Nat.le_refl _) (by simp; omega))) (Own.from (boxed_own _ _ (fun _ => .string (B m))) _))
    (fun _ _ _ _ _ hs _ _ => hs)
    ⟨⟨⟨_, bO.alloc _, (hown1.alloc _).alloc _, trivial⟩, hB0⟩, bN⟩
    (fun x => { tmps := #[.string (B m), undef, .slice none 0 0, .pointer (some ⟨w1.heap.size, 0, none⟩), .int .u32 (x : Nat), .string s, .string (B m), .string (B m), .int .i64 (((B m).size + 3) / 4), .slice (some ⟨w'.heap.size, 0, none⟩) 0 (((B m).size + 3) / 4), .string (B m), .func (.func 176) #[] #[.pointer (some ⟨w1.heap.size + 1, 0, none⟩)], .int .u32 (x : Nat), undef, undef, undef, undef, undef], defers := [] }) ?assign ?body ?done ?stop
  case assign =>
    intro l x V K hK
    gi_wp2
    exact hK
  case body =>
    rintro l pre x V ⟨⟨⟨v, hv, hrow, _⟩, hB⟩, hb⟩ hlt
    have hc := hv.cell
    gi_wp2_with (gi_at_builtin; refine wpListIn_append_own _ rfl _ _ 147 rfl w'.heap.size 135 i0 (.int .u32 0) 1 4 Tryz.underlying147 hi hz0 hz1 hz2 rfl (by decide) _ _ _ rfl (hrow.alloc _) ⟨V.heap.size, 0, none⟩ 1 1 [.int .u32 (x : Nat)] rfl rfl (cell_one_new _ _ _) (by simp [Value.oneCell']) (by unfold maxLen; omega) (by omega) (by have := hB.size; simp; omega) ?_; intro v' w3 hown' hgrow _; obtain ⟨g', cap', rfl⟩ := ownsRow_succ hown'; obtain ⟨hv1, hv2, hr2, hk2, hb2⟩ := hv.appended (by decide) hrow hB.size hsz1 hown' hgrow; have hb3 := (hb.alloc _).kept hgrow (hb.not_row (by decide) hrow); have hc1 := hv1.cell; have hf1 := hv1.frozen)
    have hb4 := hb3.other (B' := w1.heap.size) (by omega) (.slice (some ⟨g', 0, none⟩) (pre.length + 1) cap')
    exact ⟨hk2.from _, hb4.cell.trans hb.cell.symm, ⟨⟨_, hv2, by simpa [u32] using hr2, trivial⟩, hB.trans hb2⟩, hb4⟩
  case done =>
    rintro D ys V hD rfl ⟨⟨⟨v, hv, hrow, _⟩, hB⟩, hb⟩ hK
    have hc := hv.cell
    rw [HN.out, HU.out] at hrow
    gi_wp2
    refine ⟨by simp, .inl ⟨_, _, rfl, run_takeDeferred hK, ?_⟩⟩
    refine ⟨_, results_tmp rfl _ _ _, v, rfl, ?_, hB.trans (belowK_b (w := w') (Nat.le_refl _) V D _ _ (by simp at hD; omega) hK rfl rfl)⟩
    exact ownsRow_putObj hrow _ hK rfl
  case stop =>
    rintro D c pre V _ _ h _
    exact h.elim
end Go.Proofs.YtojidhnkpeiimaaGreatDoor

/- What shorten of package nat hands back. -/
namespace Go.Proofs.YtojidhnkpeiimaaGreatDoor
open Go.RowKit
def lenOf : Value → Nat | .slice _ n _ => n | _ => 0
set_option maxHeartbeats 400000 in
theorem shorten_any (b off cap : Nat) (l : List Nat) (w : World) (hs : Small l) (hcap : l.length ≤ cap) (hlen : l.length ≤ 140737488355328)
    (hc : ∀ j, j < l.length → w.cell? ⟨b, off + j, none⟩ = some (.int .u32 (l[j]?.getD 0 : Nat))) :
    Calls Tryz.prog 147 #[.slice (some ⟨b, off, none⟩) l.length cap] w fun e w' => e = .returned (.slice (some ⟨b, off, none⟩) (words (nw l)).length cap) ∧ w' = w := by
  go_enter Tryz.func147, Tryz.ntmps147
  go_wp2
  go_loop [0] (fun v => ∃ k : Nat, k ≤ l.length ∧ v = .slice (some ⟨b, off, none⟩) k cap ∧ nw (l.take k) = nw l) (fun v => lenOf v)
  case atStart => exact ⟨l.length, Nat.le_refl _, rfl, by rw [List.take_length]⟩
  case round =>
    obtain ⟨k, hk, rfl, hn⟩ := hrel
    have HN : Hid (nw (l.take k) = nw l) := hn
    clear hn
    by_cases h0 : k = 0
    · subst h0
      have e := words_take l hs 0 (Nat.zero_le _) HN.out (Or.inl rfl)
      have HE : Hid ((words (nw l)).length = 0) := by rw [e]; rfl
      clear e
      go_wp2
      go_ret
      exact ⟨by rw [HE.out]; rfl, rfl⟩
    · have hck := hc (k - 1) (by omega)
      by_cases hz : l[k - 1]?.getD 0 = 0
      · have HN2 : Hid (nw (l.take (k - 1)) = nw l) := by
          have e := nw_take_succ l (k - 1) (by omega)
          rw [show k - 1 + 1 = k by omega, HN.out] at e
          rw [List.getElem?_eq_getElem (by omega)] at hz
          simp only [Option.getD_some] at hz
          rw [hz, Nat.mul_zero, Nat.add_zero] at e
          exact e.symm
        rw [hz] at hck
        go_wp2
        go_round
        case rel => exact ⟨k - 1, by omega, rfl, HN2.out⟩
        case measure => simp [lenOf]; omega
      · have e := words_take l hs k hk HN.out (Or.inr hz)
        have HE : Hid ((words (nw l)).length = k) := by rw [e, List.length_take]; exact Nat.min_eq_left hk
        clear e
        go_wp2
        go_ret
        exact ⟨by rw [HE.out]; rfl, rfl⟩
set_option maxHeartbeats 400000 in
theorem shorten_nil (w : World) :
    Calls Tryz.prog 147 #[.slice none 0 0] w fun e w' => e = .returned (.slice none 0 0) ∧ w' = w := by
  go_enter Tryz.func147, Tryz.ntmps147
  go_wp2
  refine wp_loop_rounds 1 ?_
  rw [rounds_succ]
  go_wp2
  go_ret
  exact ⟨rfl, rfl⟩
end Go.Proofs.YtojidhnkpeiimaaGreatDoor

/- What bytesOf and ofWord of package nat hand back, for every word. -/
namespace Go.Proofs.YtojidhnkpeiimaaGreatDoor
open Go.RowKit
def byt (x k : Nat) : Int := ((x / 256 ^ k % 256 : Nat) : Int)
theorem byt_eqs (x : Nat) (hx : x < 18446744073709551616) : byt x 7 = (x : Int) / 72057594037927936 ∧ byt x 6 = (x : Int) / 281474976710656 % 256 ∧ byt x 5 = (x : Int) / 1099511627776 % 256 ∧ byt x 4 = (x : Int) / 4294967296 % 256 ∧
    byt x 3 = (x : Int) / 16777216 % 256 ∧ byt x 2 = (x : Int) / 65536 % 256 ∧ byt x 1 = (x : Int) / 256 % 256 ∧ byt x 0 = (x : Int) % 256 := by
  unfold byt
  simp only [Nat.reducePow]
  omega
set_option maxRecDepth 100000 in
set_option maxHeartbeats 1000000 in
theorem bytesOf_any (x : Nat) (w : World) (hx : x < 18446744073709551616) :
    Calls Tryz.prog 156 #[.int .u64 (x : Nat)] w fun e w' => e = .returned (.agg #[.int .u8 (byt x 7), .int .u8 (byt x 6), .int .u8 (byt x 5), .int .u8 (byt x 4), .int .u8 (byt x 3), .int .u8 (byt x 2), .int .u8 (byt x 1), .int .u8 (byt x 0)]) ∧ Below w.heap.size w w' := by
  obtain ⟨e7, e6, e5, e4, e3, e2, e1, e0⟩ := byt_eqs x hx
  rw [e7, e6, e5, e4, e3, e2, e1, e0]
  clear e7 e6 e5 e4 e3 e2 e1 e0
  go_enter Tryz.func156, Tryz.ntmps156
  go_wp2
  refine wp_loop_rounds 9 ?_
  rw [rounds_succ]
  go_wp2
  rw [rounds_succ]
  go_wp2
  rw [rounds_succ]
  go_wp2
  rw [rounds_succ]
  go_wp2
  rw [rounds_succ]
  go_wp2
  rw [rounds_succ]
  go_wp2
  rw [rounds_succ]
  go_wp2
  rw [rounds_succ]
  go_wp2
  rw [rounds_succ]
  go_wp2
  refine bodyPost_ret (v := .agg #[.int .u8 ((x : Int) / 72057594037927936), .int .u8 ((x : Int) / 281474976710656 % 256), .int .u8 ((x : Int) / 1099511627776 % 256), .int .u8 ((x : Int) / 4294967296 % 256), .int .u8 ((x : Int) / 16777216 % 256), .int .u8 ((x : Int) / 65536 % 256), .int .u8 ((x : Int) / 256 % 256), .int .u8 ((x : Int) % 256)]) (by simp [results, Tryz.results156, go_sem]) rfl ⟨rfl, ?_⟩
  exact (((Below.refl _ _).alloc (Nat.le_refl _) _).alloc (by simp) _)
theorem div_step (x c : Nat) : x / (c * 256) * 256 + x / c % 256 = x / c := by rw [← Nat.div_div_eq_div_mul]; exact Nat.div_add_mod' _ _
theorem div_top (x : Nat) (hx : x < 18446744073709551616) : 0 * 256 + x / 72057594037927936 % 256 = x / 72057594037927936 := by omega
theorem div_low (x : Nat) : x / 256 * 256 + x / 1 % 256 = x := by omega
theorem nb_bytes8 (x : Nat) (hx : x < 18446744073709551616) : N (strOfNums [byt x 7, byt x 6, byt x 5, byt x 4, byt x 3, byt x 2, byt x 1, byt x 0]) = x := by
  have h6 := div_step x 281474976710656
  have h5 := div_step x 1099511627776
  have h4 := div_step x 4294967296
  have h3 := div_step x 16777216
  have h2 := div_step x 65536
  have h1 := div_step x 256
  simp only [Nat.reduceMul] at h6 h5 h4 h3 h2 h1
  simp only [N, strOfNums_data, List.map_cons, List.map_nil, byt, Int.toNat_natCast, nb, List.foldl_cons, List.foldl_nil, UInt8.toNat_ofNat', Nat.reducePow, Nat.mod_mod]
  rw [div_top x hx, h6, h5, h4, h3, h2, h1, div_low]
theorem word_cells (x : Nat) (t : TypeId) (w : World) : ∀ i, i < 8 → (w.alloc (.cells #[.int .u8 (byt x 7), .int .u8 (byt x 6), .int .u8 (byt x 5), .int .u8 (byt x 4), .int .u8 (byt x 3), .int .u8 (byt x 2), .int .u8 (byt x 1), .int .u8 (byt x 0)] t)).cell? ⟨w.heap.size, 0 + i, none⟩ =
    some (.int .u8 (([byt x 7, byt x 6, byt x 5, byt x 4, byt x 3, byt x 2, byt x 1, byt x 0] : List Int).getD i 0)) := by
  intro i hi
  rcases (show i = 0 ∨ i = 1 ∨ i = 2 ∨ i = 3 ∨ i = 4 ∨ i = 5 ∨ i = 6 ∨ i = 7 by omega) with rfl | rfl | rfl | rfl | rfl | rfl | rfl | rfl <;> simp
set_option maxRecDepth 100000 in
set_option maxHeartbeats 1000000 in
theorem ofWord_any (x : Nat) (w : World) (hx : x < 18446744073709551616) :
    Calls Tryz.prog 119 #[.int .u64 (x : Nat)] w fun e w' => e = .returned (.string (B x)) ∧ Below w.heap.size w w' := by
  have hconv := fun (w1 : World) => run_convert_bytes_arg (P := Tryz.prog) (w1.alloc (.cells #[.int .u8 (byt x 7), .int .u8 (byt x 6), .int .u8 (byt x 5), .int .u8 (byt x 4), .int .u8 (byt x 3), .int .u8 (byt x 2), .int .u8 (byt x 1), .int .u8 (byt x 0)] 187)) 66 5 Tryz.underlying66 Tryz.underlying5 w1.heap.size 0 8 8 _ rfl (word_cells x _ w1) 42 Tryz.underlying42
  have HN : Hid (N (strOfNums [byt x 7, byt x 6, byt x 5, byt x 4, byt x 3, byt x 2, byt x 1, byt x 0]) = x) := nb_bytes8 x hx
  go_enter Tryz.func119, Tryz.ntmps119
  go_wp2_with (first
    | (go_at_call 156; refine (bytesOf_any x _ hx).mono ?_; rintro e w1 ⟨rfl, hb1⟩)
    | (go_at_call 116; refine (bare_any _ _).mono ?_; rintro e w2 ⟨rfl, rfl⟩; rw [HN.out]))
  go_ret
  exact ⟨rfl, hb1.alloc hb1.size _⟩
end Go.Proofs.YtojidhnkpeiimaaGreatDoor

/- What gather of package nat hands back: the number of the parts, without noughts ahead. -/
namespace Go.Proofs.YtojidhnkpeiimaaGreatDoor
open Go.RowKit
def be4 (x : Nat) : List Int := [byt x 3, byt x 2, byt x 1, byt x 0]
def lowB : List Nat → List Int
  | [] => []
  | x :: r => lowB r ++ be4 x
theorem lowB_snoc (a : List Nat) (y : Nat) : lowB (a ++ [y]) = be4 y ++ lowB a := by
  induction a with
  | nil => simp [lowB]
  | cons x a ih => rw [List.cons_append, lowB, ih, lowB, List.append_assoc]
theorem lowB_length (a : List Nat) : (lowB a).length = 4 * a.length := by
  induction a with
  | nil => rfl
  | cons x a ih => rw [lowB, List.length_append, ih]; simp [be4]; omega
theorem div_top4 (x : Nat) (hx : x < 4294967296) : 0 * 256 + x / 16777216 % 256 = x / 16777216 := by omega
theorem nb_be4 (x : Nat) (hx : x < W) : nb ((be4 x).map fun n => UInt8.ofNat n.toNat) = x := by
  rw [W_eq] at hx
  have h3 := div_top4 x hx
  have h2 := div_step x 65536
  have h1 := div_step x 256
  simp only [Nat.reduceMul] at h2 h1
  simp only [be4, List.map_cons, List.map_nil, byt, Int.toNat_natCast, nb, List.foldl_cons, List.foldl_nil, UInt8.toNat_ofNat', Nat.reducePow, Nat.mod_mod]
  rw [h3, h2, h1, div_low]
theorem N_lowB (l : List Nat) (hs : Small l) : N (strOfNums (lowB l)) = nw l := by
  rw [N, strOfNums_data]
  induction l with
  | nil => rfl
  | cons x r ih =>
    rw [lowB, List.map_append, nb_append, ih (fun y hy => hs y (List.mem_cons_of_mem _ hy)), nb_be4 x (hs x List.mem_cons_self), nw_cons, List.length_map]
    show nw r * 256 ^ 4 + x = x + W * nw r
    rw [Nat.mul_comm, Nat.add_comm]; rfl
def outI (l : List Nat) (k : Nat) : List Int := List.replicate (4 * (l.length - k)) 0 ++ lowB (l.take k)
theorem outI_zero (l : List Nat) : outI l 0 = List.replicate (4 * l.length) 0 := by simp [outI, lowB]
theorem outI_all (l : List Nat) : outI l l.length = lowB l := by simp [outI]
theorem outI_length (l : List Nat) (k : Nat) (hk : k ≤ l.length) : (outI l k).length = 4 * l.length := by
  rw [outI, List.length_append, List.length_replicate, lowB_length, List.length_take, Nat.min_eq_left hk]; omega
theorem outI_splice (l : List Nat) (k : Nat) (hk : k < l.length) : splice (outI l k) (4 * l.length - 4 * k - 4) (be4 (l[k]?.getD 0)) = outI l (k + 1) := by
  rw [List.getElem?_eq_getElem hk, Option.getD_some]
  have e1 : 4 * (l.length - k) = (4 * l.length - 4 * k - 4) + 4 := by omega
  have e2 : 4 * (l.length - (k + 1)) = 4 * l.length - 4 * k - 4 := by omega
  rw [outI, outI, List.take_succ_eq_append_getElem hk, lowB_snoc, e1, e2, ← List.replicate_append_replicate, splice]
  generalize 4 * l.length - 4 * k - 4 = m
  have h4 : (be4 l[k]).length = 4 := rfl
  rw [h4]
  have e3 : (List.replicate m (0 : Int) ++ List.replicate 4 0 ++ lowB (l.take k)).take m = List.replicate m 0 := by
    rw [List.append_assoc, List.take_append_of_le_length (by simp)]; simp
  have e4 : (List.replicate m (0 : Int) ++ List.replicate 4 0 ++ lowB (l.take k)).drop (m + 4) = lowB (l.take k) := by
    rw [List.drop_append_of_le_length (by simp)]; simp
  rw [e3, e4]
theorem splice_map {α β : Type} (f : α → β) (L : List α) (o : Nat) (cs : List α) : splice (L.map f) o (cs.map f) = (splice L o cs).map f := by
  simp [splice, List.map_take, List.map_drop]
def u8 (x : Int) : Value := .int .u8 x
theorem Tryz.infoByte : (Tryz.prog.info? 5).map (fun i => (i.zero, i.size, i.bytes)) = some (some (.int .u8 0), 1, 1) := by kernel_rfl
theorem wordcells (l : List Nat) (hs : Small l) : (words (nw l)).length ≤ l.length ∧ ∀ j, j < (words (nw l)).length → (words (nw l))[j]?.getD 0 = l[j]?.getD 0 := by
  obtain ⟨k, hk, e⟩ := words_prefix l hs
  rw [e]
  refine ⟨by simp; omega, fun j hj => ?_⟩
  rw [List.getElem?_take, if_pos (by simp at hj; omega)]
theorem block_of_own {w : World} {base g n : Nat} {t : TypeId} {xs : List Value} (h : w.ownsRow base t 1 (.slice (some ⟨g, 0, none⟩) n n) n xs) : w.heap[g]? = some (.cells xs.toArray t (0, 0)) := by
  rcases h.2 with ⟨h', _⟩ | ⟨g', cap', cur, h', _, hg, hnc, _, hsz, htk⟩
  · cases h'
  · cases h'
    rw [hg, ← htk, List.take_of_length_le (by simp; omega)]
theorem made_bytes (n : Nat) : (madeCells (Value.int .u8 0).cells (n * 1)).toList = (List.replicate n (0 : Int)).map u8 := by
  rw [show (Value.int .u8 0).cells = #[Value.int .u8 0] from rfl, toList_madeCells_one, Nat.mul_one, List.map_replicate]; rfl
theorem be4_cells (x : Nat) (t : TypeId) (w : World) : ∀ j v, ((be4 x).map u8)[j]? = some v → (w.alloc (.cells #[.int .u8 (byt x 7), .int .u8 (byt x 6), .int .u8 (byt x 5), .int .u8 (byt x 4), .int .u8 (byt x 3), .int .u8 (byt x 2), .int .u8 (byt x 1), .int .u8 (byt x 0)] t)).cell? ((⟨w.heap.size, 4, none⟩ : Addr).add j) = some v := by
  intro j v hj
  have hj4 : j < 4 := by
    rcases Nat.lt_or_ge j 4 with h | h
    · exact h
    · rw [List.getElem?_eq_none (by simpa [be4] using h)] at hj; cases hj
  have hadd : (⟨w.heap.size, 4, none⟩ : Addr).add j = ⟨w.heap.size, 4 + j, none⟩ := by unfold Addr.add; split <;> simp_all
  rw [hadd]
  rcases (show j = 0 ∨ j = 1 ∨ j = 2 ∨ j = 3 by omega) with rfl | rfl | rfl | rfl <;> simp [be4, u8] at hj <;> subst hj <;> simp
set_option maxRecDepth 100000 in
set_option maxHeartbeats 2000000 in
theorem gather_some (g cap : Nat) (l : List Nat) (w : World) (hs : Small l) (hcap : l.length ≤ cap) (hlen : l.length ≤ 35184372088832) (hg : g < w.heap.size)
    (hc : ∀ j, j < l.length → w.cell? ⟨g, 0 + j, none⟩ = some (.int .u32 (l[j]?.getD 0 : Nat))) :
    Calls Tryz.prog 141 #[.slice (some ⟨g, 0, none⟩) l.length cap] w fun e w' => e = .returned (.string (B (nw l))) ∧ Below w.heap.size w w' := by
  obtain ⟨i0, hi, hz0, hz1, hz2⟩ := info_parts Tryz.infoByte
  have hsh := shorten_any g 0 cap l w hs hcap (by omega) hc
  obtain ⟨hwl, hwc⟩ := wordcells l hs
  have hsw := words_small (nw l)
  have HB : Hid (N (strOfNums (lowB (words (nw l)))) = nw l) := by show _ = _; rw [N_lowB _ hsw, nw_words]
  have hcw : ∀ j, j < (words (nw l)).length → w.cell? ⟨g, j, none⟩ = some (.int .u32 ((words (nw l))[j]?.getD 0 : Nat)) := fun j hj => by
    have := hc j (by omega); rw [Nat.zero_add] at this; rw [this, hwc j hj]
  generalize words (nw l) = ws at *
  have HC : Hid (∀ j, j < ws.length → w.cell? ⟨g, j, none⟩ = some (.int .u32 (ws[j]?.getD 0 : Nat))) := hcw
  have HS : Hid (Calls Tryz.prog 147 #[.slice (some ⟨g, 0, none⟩) l.length cap] w fun e w' => e = .returned (.slice (some ⟨g, 0, none⟩) ws.length cap) ∧ w' = w) := hsh
  clear hc hwc hcw hsh
  go_enter Tryz.func141, Tryz.ntmps141
  go_wp2_with (first
    | (go_at_call 147; refine (HS.out).mono ?_; rintro e w1 ⟨rfl, hw1⟩; subst hw1)
    | (at_make; refine wpList_make_full _ rfl _ _ 66 rfl w1.heap.size 5 i0 (.int .u8 0) 1 Tryz.underlying66 hi hz0 hz1 .i64 .i64 _ _ (4 * ws.length) rfl rfl (by omega) (by omega) (by rw [hz2]; omega) (by unfold maxLen; omega) (Nat.le_refl _) ?_; intro w2 hown2 hgrow2))
  have hb2 := block_of_own hown2
  rw [made_bytes, ← outI_zero] at hb2
  have hB2 : Below w1.heap.size w1 w2 := (Below.refl _ w1).grown hgrow2 (Nat.le_refl _) (fun k e => by cases e)
  have HI : Hid (w2.heap[w1.heap.size]? = some (.cells ((outI ws 0).map u8).toArray 5 (0, 0))) := hb2
  clear hown2 hgrow2 hb2 HS
  go_loopw [16] (fun i wr => ∃ k : Nat, k ≤ ws.length ∧ i = .int .i64 k ∧ Hid (wr.heap[w1.heap.size]? = some (.cells ((outI ws k).map u8).toArray 5 (0, 0))) ∧ Below w1.heap.size w1 wr)
    (fun i _ => ws.length - (intOf i).toNat)
  case atStart => exact ⟨0, Nat.zero_le _, rfl, HI, hB2⟩
  case round =>
    obtain ⟨k, hk, rfl, HR, hBr⟩ := hrel
    clear HI hB2
    by_cases hlt : k < ws.length
    · have hck : wr.cell? ⟨g, k, none⟩ = some (.int .u32 (ws[k]?.getD 0 : Nat)) := (hBr.cell (p := ⟨g, k, none⟩) hg).trans (HC.out k hlt)
      have hxk : ws[k]?.getD 0 < 4294967296 := by
        rw [List.getElem?_eq_getElem hlt]; exact hsw _ (List.getElem_mem hlt)
      have HP : Hid (splice (outI ws k) (4 * ws.length - 4 * k - 4) (be4 (ws[k]?.getD 0)) = outI ws (k + 1)) := outI_splice ws k hlt
      have hol := outI_length ws k hk
      generalize ws[k]?.getD 0 = x at *
      go_wp2_with (go_at_call 156; refine (bytesOf_any x _ (by omega)).mono ?_; rintro e w3 ⟨rfl, hb3⟩)
      have hB3 : Below w1.heap.size w1 w3 := hBr.trans (hb3.mono hBr.size)
      have hx3 : ∀ o, (w3.alloc o).heap[w1.heap.size]? = some (.cells ((outI ws k).map u8).toArray 5 (0, 0)) := fun o => by
        have hlt0 : w1.heap.size < wr.heap.size := (Array.getElem?_eq_some_iff.1 HR.out).1
        rw [Below.heap_alloc _ _ _ (Nat.lt_of_lt_of_le hlt0 hb3.size), hb3.block _ hlt0]; exact HR.out
      have HX : Hid (∀ o, (w3.alloc o).heap[w1.heap.size]? = some (.cells ((outI ws k).map u8).toArray 5 (0, 0))) := hx3
      clear hx3 hck
      obtain ⟨E, hE⟩ : ∃ E, E = 4 * ws.length - 4 * k - 4 := ⟨_, rfl⟩
      have f1 : IntKind.i64.wrap (4 * (ws.length : Int) - (k : Int) * 4 - 4) = (E : Int) := by rw [IntKind.wrap_i64]; omega
      have f2 : (k : Int) * 4 ≤ 4 * (ws.length : Int) := by omega
      have f3 : 4 * (ws.length : Int) - (k : Int) * 4 ≤ 4 * (ws.length : Int) := by omega
      have f4 : (E : Int) ≤ 4 * (ws.length : Int) - (k : Int) * 4 := by omega
      have f6 : ¬ 4 * ws.length = E := by omega
      have f7 : (4 * (ws.length : Int) - (k : Int) * 4).toNat - E = 4 := by omega
      have hEl : E + 4 ≤ 4 * ws.length := by omega
      rw [← hE] at HP
      clear hE
      go_region_law (refine step_copy_splice rfl (.tmp 33) (.tmp 34) 66 66 rfl 5 Tryz.underlying66 (by kernel_rfl) _ _ _ _ _ _ rfl rfl w1.heap.size E ((outI ws k).map u8) 5 (by exact HX.out _) ((be4 x).map u8) rfl (fun _ => ⟨rfl, _, rfl, by exact be4_cells x _ w3⟩) (by simp [be4]; omega) (by simp [be4, u8, Value.oneCell']) w1.heap.size w1 (by exact (hB3.alloc hB3.size _).drew) (Nat.le_refl _) ?_; intro w4 hg4 hb4)
      clear f1 f2 f3 f4 f6 f7 HX
      go_wp2
      go_roundw
      case rel => exact ⟨k + 1, by omega, by go_num, by rw [splice_map, HP.out] at hg4; exact hg4, hb4⟩
      case measure => simp [intOf]; omega
    · obtain rfl : k = ws.length := by omega
      have hconv := run_convert_bytes_arg (P := Tryz.prog) wr 66 5 Tryz.underlying66 Tryz.underlying5 w1.heap.size 0 (4 * ws.length) (4 * ws.length) (lowB ws) (lowB_length ws) (fun i hi => by
        have e := cell_of_row wr w1.heap.size (0 + i) _ _ _ HR.out
        rw [e, outI_all]
        have hil : i < (lowB ws).length := by rw [lowB_length]; exact hi
        simp [u8, List.getElem?_eq_getElem hil, List.getD_eq_getElem?_getD]) 42 Tryz.underlying42
      clear HR
      go_wp2_with (go_at_call 116; refine (bare_any _ _).mono ?_; rintro e w3 ⟨rfl, hw1⟩; subst hw1)
      go_ret
      exact ⟨by rw [HB.out]; rfl, hBr⟩
end Go.Proofs.YtojidhnkpeiimaaGreatDoor

/- Rows of parts in memory: what lies where, and what a call that writes in its place leaves. -/
namespace Go.Proofs.YtojidhnkpeiimaaGreatDoor
open Go.RowKit
def Lies (w : World) (g off : Nat) (l : List Nat) : Prop :=
  ∃ cur, w.heap[g]? = some (.cells cur 135 (0, 0)) ∧ off + l.length ≤ cur.size ∧ ∀ j, j < l.length → cur[off + j]? = some (u32 (l[j]?.getD 0))
theorem Lies.cell {w : World} {g off : Nat} {l : List Nat} (h : Lies w g off l) (j : Nat) (hj : j < l.length) : w.cell? ⟨g, off + j, none⟩ = some (.int .u32 (l[j]?.getD 0 : Nat)) := by
  obtain ⟨cur, hg, _, hc⟩ := h
  rw [cell_of_row w g (off + j) cur _ (0, 0) hg]
  exact hc j hj
theorem Lies.frozen {w : World} {g off : Nat} {l : List Nat} (h : Lies w g off l) (j : Nat) : w.frozen? ⟨g, j, none⟩ = false := by
  obtain ⟨cur, hg, _, _⟩ := h
  exact frozen_of_row w g j cur _ hg
theorem Lies.lt {w : World} {g off : Nat} {l : List Nat} (h : Lies w g off l) : g < w.heap.size := by
  obtain ⟨cur, hg, _, _⟩ := h
  exact (Array.getElem?_eq_some_iff.1 hg).1
theorem Lies.of_block {w w' : World} {g off : Nat} {l : List Nat} (h : Lies w g off l) (e : w'.heap[g]? = w.heap[g]?) : Lies w' g off l := by
  obtain ⟨cur, hg, h1, h2⟩ := h
  exact ⟨cur, e.trans hg, h1, h2⟩
theorem Lies.below {w w' : World} {g off B : Nat} {l : List Nat} (h : Lies w g off l) (hb : Below B w w') (hB : g < B) : Lies w' g off l := h.of_block (hb.block g hB)
theorem Lies.grown {w w' : World} {g off : Nat} {row : Option Nat} {l : List Nat} (h : Lies w g off l) (hb : w.grownBy w' row) (hne : some g ≠ row) : Lies w' g off l := h.of_block (hb.block g h.lt hne)
theorem Lies.piece {w : World} {g off : Nat} {l : List Nat} (h : Lies w g off l) (a n : Nat) (ha : a + n ≤ l.length) : Lies w g (off + a) ((l.drop a).take n) := by
  obtain ⟨cur, hg, h1, h2⟩ := h
  have hl : ((l.drop a).take n).length = n := by simp; omega
  refine ⟨cur, hg, by omega, fun j hj => ?_⟩
  rw [Nat.add_assoc, h2 (a + j) (by omega), List.getElem?_take, if_pos (by omega), List.getElem?_drop]
structure Upd (g off n : Nat) (w w' : World) : Prop where
  grown : w.grownBy w' (some g)
  inside : ∀ cur, w.heap[g]? = some (.cells cur 135 (0, 0)) → ∃ cur', w'.heap[g]? = some (.cells cur' 135 (0, 0)) ∧ cur'.size = cur.size ∧ ∀ i, (i < off ∨ off + n ≤ i) → cur'[i]? = cur[i]?
theorem Upd.refl (g off n : Nat) (w : World) : Upd g off n w w := ⟨World.grownBy.refl _ _, fun cur h => ⟨cur, h, rfl, fun _ _ => rfl⟩⟩
theorem Upd.trans {g off n : Nat} {a b c : World} (h : Upd g off n a b) (k : Upd g off n b c) : Upd g off n a c :=
  ⟨h.grown.trans k.grown, fun cur hc => by
    obtain ⟨c1, g1, s1, e1⟩ := h.inside cur hc
    obtain ⟨c2, g2, s2, e2⟩ := k.inside c1 g1
    exact ⟨c2, g2, s2.trans s1, fun i hi => (e2 i hi).trans (e1 i hi)⟩⟩
theorem Upd.mono {g off n off' n' : Nat} {w w' : World} (h : Upd g off n w w') (h1 : off' ≤ off) (h2 : off + n ≤ off' + n') : Upd g off' n' w w' :=
  ⟨h.grown, fun cur hc => by
    obtain ⟨c1, g1, s1, e1⟩ := h.inside cur hc
    exact ⟨c1, g1, s1, fun i hi => e1 i (by omega)⟩⟩
theorem Upd.below {g off n B : Nat} {a w w' : World} (hb : Below B a w) (h : Upd g off n w w') (hB : B ≤ g) (hs : B ≤ w.heap.size) : Below B a w' :=
  hb.grown h.grown hs (fun k e => by cases e; exact hB)
theorem heap_setCell_row (w : World) (g j : Nat) (cur : Array Value) (t : TypeId) (u : Value) (hg : w.heap[g]? = some (.cells cur t (0, 0))) : (w.setCell ⟨g, j, none⟩ u).heap[g]? = some (.cells (cur.setIfInBounds j u) t (0, 0)) :=
  heap_setCell_same w g j cur t u hg
theorem Upd.setCell {g off n j : Nat} {w : World} (h1 : off ≤ j) (h2 : j < off + n) (u : Value) : Upd g off n w (w.setCell ⟨g, j, none⟩ u) := by
  refine ⟨⟨rfl, rfl, rfl, by simp [World.setCell], fun k _ hk => Below.heap_setCell _ _ _ _ (by rintro rfl; exact hk rfl)⟩, fun cur hc => ?_⟩
  refine ⟨_, heap_setCell_row w g j cur _ u hc, by simp, fun i hi => ?_⟩
  rw [Array.getElem?_setIfInBounds_ne (by omega)]
theorem Lies.set {w : World} {g off : Nat} {l : List Nat} (h : Lies w g off l) (j : Nat) (hj : j < l.length) (x : Nat) : Lies (w.setCell ⟨g, off + j, none⟩ (.int .u32 (x : Nat))) g off (l.set j x) := by
  obtain ⟨cur, hg, h1, h2⟩ := h
  refine ⟨_, heap_setCell_row w g (off + j) cur _ _ hg, by simpa using h1, fun i hi => ?_⟩
  rw [List.length_set] at hi
  by_cases e : i = j
  · subst e
    rw [Array.getElem?_setIfInBounds_self_of_lt (by omega)]
    simp [hj, u32]
  · rw [Array.getElem?_setIfInBounds_ne (by omega), h2 i hi, List.getElem?_set_ne (by omega)]
theorem Lies.beside {w w' : World} {g off off' n : Nat} {l : List Nat} (h : Lies w g off l) (hu : Upd g off' n w w') (hd : off + l.length ≤ off' ∨ off' + n ≤ off) : Lies w' g off l := by
  obtain ⟨cur, hg, h1, h2⟩ := h
  obtain ⟨c1, g1, s1, e1⟩ := hu.inside cur hg
  exact ⟨c1, g1, by omega, fun j hj => (e1 (off + j) (by omega)).trans (h2 j hj)⟩
theorem Lies.apart {w w' : World} {g g' off off' n : Nat} {l : List Nat} (h : Lies w g off l) (hu : Upd g' off' n w w') (hd : g ≠ g') : Lies w' g off l :=
  h.grown hu.grown (by simp [hd])
theorem Lies.append {w : World} {g off : Nat} {a b : List Nat} (ha : Lies w g off a) (hb : Lies w g (off + a.length) b) : Lies w g off (a ++ b) := by
  obtain ⟨cur, hg, h1, h2⟩ := ha
  obtain ⟨cur', hg', h3, h4⟩ := hb
  rw [hg] at hg'
  cases hg'
  refine ⟨cur, hg, by simp; omega, fun j hj => ?_⟩
  rw [List.length_append] at hj
  by_cases e : j < a.length
  · rw [List.getElem?_append_left e, h2 j e]
  · rw [List.getElem?_append_right (by omega)]
    have := h4 (j - a.length) (by omega)
    rwa [show off + a.length + (j - a.length) = off + j by omega] at this
theorem own_lies {w : World} {base g n cap : Nat} {l : List Nat} (h : w.ownsRow base 135 1 (.slice (some ⟨g, 0, none⟩) n cap) n (l.map u32)) : n = l.length ∧ l.length ≤ cap ∧ base ≤ g ∧ Lies w g 0 l := by
  have hn : n = l.length := by have := h.1; simp at this; exact this.symm
  rcases h.2 with ⟨h', _⟩ | ⟨g', cap', cur, h', hb, hg, hnc, _, hsz, htk⟩
  · cases h'
  · cases h'
    refine ⟨hn, by omega, hb, cur, hg, by omega, fun j hj => ?_⟩
    have e : (cur.toList.take (n * 1))[j]? = (l.map u32)[j]? := by rw [htk]
    rw [List.getElem?_take, if_pos (by omega), List.getElem?_map, List.getElem?_eq_getElem hj] at e
    rw [Nat.zero_add, List.getElem?_eq_getElem hj]
    simpa using e
theorem own_upd {w w' : World} {base g n cap m : Nat} {l l' : List Nat} (h : w.ownsRow base 135 1 (.slice (some ⟨g, 0, none⟩) n cap) n (l.map u32)) (hu : Upd g 0 m w w') (hl : Lies w' g 0 l') (hlen : l'.length = n) : w'.ownsRow base 135 1 (.slice (some ⟨g, 0, none⟩) n cap) n (l'.map u32) := by
  refine ⟨by simp [hlen], ?_⟩
  rcases h.2 with ⟨h', _⟩ | ⟨g', cap', cur, h', hb, hg, hnc, hm, hsz, htk⟩
  · cases h'
  · cases h'
    obtain ⟨c1, g1, s1, _⟩ := hu.inside cur hg
    obtain ⟨c2, g2, h1, h2⟩ := hl
    rw [g1] at g2
    cases g2
    refine .inr ⟨g, cap, c1, rfl, hb, g1, hnc, hm, by omega, ?_⟩
    apply List.ext_getElem?
    intro i
    rw [List.getElem?_take, List.getElem?_map]
    by_cases hi : i < l'.length
    · have := h2 i hi
      rw [Nat.zero_add, List.getElem?_eq_getElem hi] at this
      rw [if_pos (by omega), List.getElem?_eq_getElem hi, Array.getElem?_toList, this]
      rfl
    · rw [if_neg (by omega), List.getElem?_eq_none (by omega)]; rfl
theorem own_len {w : World} {base : Nat} {v : Value} {n : Nat} {l : List Nat} (h : w.ownsRow base 135 1 v n (l.map u32)) : n = l.length := by have := h.1; simp at this; exact this.symm
theorem own_base {w : World} {base base' : Nat} {e : TypeId} {size n : Nat} {v : Value} {xs : List Value} (h : w.ownsRow base e size v n xs) (hb : base' ≤ base) : w.ownsRow base' e size v n xs := by
  refine ⟨h.1, ?_⟩
  rcases h.2 with h' | ⟨g, cap, cur, r1, r2, r3⟩
  · exact .inl h'
  · exact .inr ⟨g, cap, cur, r1, by omega, r3⟩
theorem own_below {w w' : World} {base B : Nat} {e : TypeId} {size n : Nat} {v : Value} {xs : List Value} (h : w.ownsRow base e size v n xs) (hb : Below B w w') (hB : w.heap.size ≤ B) : w'.ownsRow base e size v n xs := by
  refine ⟨h.1, ?_⟩
  rcases h.2 with h' | ⟨g, cap, cur, r1, r2, r3, r4⟩
  · exact .inl h'
  · exact .inr ⟨g, cap, cur, r1, r2, (hb.block g (Nat.lt_of_lt_of_le (Array.getElem?_eq_some_iff.1 r3).1 hB)).trans r3, r4⟩
theorem own_of_lies {w : World} {base g cap : Nat} {l : List Nat} (cur : Array Value) (hg : w.heap[g]? = some (.cells cur 135 (0, 0))) (hs : cur.size = cap) (hb : base ≤ g) (hm : cap ≤ maxLen) (hc : l.length ≤ cap) (hl : Lies w g 0 l) : w.ownsRow base 135 1 (.slice (some ⟨g, 0, none⟩) l.length cap) l.length (l.map u32) := by
  refine ⟨by simp, .inr ⟨g, cap, cur, rfl, hb, hg, hc, hm, by omega, ?_⟩⟩
  obtain ⟨c2, g2, h1, h2⟩ := hl
  rw [hg] at g2
  cases g2
  apply List.ext_getElem?
  intro i
  rw [List.getElem?_take, List.getElem?_map]
  by_cases hi : i < l.length
  · have := h2 i hi
    rw [Nat.zero_add, List.getElem?_eq_getElem hi] at this
    rw [if_pos (by omega), List.getElem?_eq_getElem hi, Array.getElem?_toList, this]
    rfl
  · rw [if_neg (by omega), List.getElem?_eq_none (by omega)]; rfl
end Go.Proofs.YtojidhnkpeiimaaGreatDoor

/- shorten and gather of package nat, of a slice that the caller owns, nil or not. -/
namespace Go.Proofs.YtojidhnkpeiimaaGreatDoor
open Go.RowKit
def Has (w : World) (base : Nat) (v : Value) (l : List Nat) : Prop := w.ownsRow base 135 1 v l.length (l.map u32)
theorem Has.cases {w : World} {base : Nat} {v : Value} {l : List Nat} (h : Has w base v l) : (v = .slice none 0 0 ∧ l = []) ∨ ∃ g cap, v = .slice (some ⟨g, 0, none⟩) l.length cap ∧ l.length ≤ cap ∧ base ≤ g ∧ Lies w g 0 l := by
  rcases h.2 with ⟨hv, hn⟩ | ⟨g, cap, cur, hv, r⟩
  · exact .inl ⟨hv, List.eq_nil_of_length_eq_zero hn⟩
  · subst hv
    obtain ⟨_, h1, h2, h3⟩ := own_lies h
    exact .inr ⟨g, cap, rfl, h1, h2, h3⟩
theorem Has.mono {w : World} {base base' : Nat} {v : Value} {l : List Nat} (h : Has w base v l) (hb : base' ≤ base) : Has w base' v l := own_base h hb
theorem Has.below {w w' : World} {base B : Nat} {v : Value} {l : List Nat} (h : Has w base v l) (hb : Below B w w') (hB : w.heap.size ≤ B) : Has w' base v l := own_below h hb hB
theorem cut_own {w : World} {base g n cap : Nat} {l : List Nat} (k : Nat) (hk : k ≤ l.length) (h : w.ownsRow base 135 1 (.slice (some ⟨g, 0, none⟩) n cap) n (l.map u32)) : w.ownsRow base 135 1 (.slice (some ⟨g, 0, none⟩) k cap) k ((l.take k).map u32) := by
  have hn := own_len h
  refine ⟨by simp; omega, ?_⟩
  rcases h.2 with ⟨h', _⟩ | ⟨g', cap', cur, h', hb, hg, hnc, hm, hsz, htk⟩
  · cases h'
  · cases h'
    refine .inr ⟨g, cap, cur, rfl, hb, hg, by omega, hm, hsz, ?_⟩
    rw [List.map_take, ← htk, List.take_take, Nat.min_eq_left (by omega), Nat.mul_one]
theorem shorten_own (base : Nat) (v : Value) (l : List Nat) (w : World) (hs : Small l) (hlen : l.length ≤ 35184372088832) (h : Has w base v l) :
    Calls Tryz.prog 147 #[v] w fun e w' => ∃ v', e = .returned v' ∧ Has w base v' (words (nw l)) ∧ v'.ownBlock = v.ownBlock ∧ w' = w := by
  rcases h.cases with ⟨rfl, rfl⟩ | ⟨g, cap, rfl, hcap, hb, hl⟩
  · refine (shorten_nil w).mono ?_
    rintro e w' ⟨rfl, rfl⟩
    exact ⟨_, rfl, by rw [nw_nil, words_zero]; exact h, rfl, rfl⟩
  · refine (shorten_any g 0 cap l w hs hcap (by omega) (fun j hj => hl.cell j hj)).mono ?_
    rintro e w' ⟨rfl, rfl⟩
    obtain ⟨k, hk, hw⟩ := words_prefix l hs
    have hkl : (words (nw l)).length = k := by rw [hw]; simp; omega
    have := cut_own k hk h
    rw [← hw] at this
    exact ⟨_, rfl, by rw [Has, hkl]; exact this, rfl, rfl⟩
set_option maxRecDepth 100000 in
set_option maxHeartbeats 1000000 in
theorem gather_nil (w : World) : Calls Tryz.prog 141 #[.slice none 0 0] w fun e w' => e = .returned (.string (B 0)) ∧ Below w.heap.size w w' := by
  obtain ⟨i0, hi, hz0, hz1, hz2⟩ := info_parts Tryz.infoByte
  have hconv := fun (w2 : World) => run_convert_bytes_arg (P := Tryz.prog) w2 66 5 Tryz.underlying66 Tryz.underlying5 w.heap.size 0 0 0 [] rfl (fun i hi => absurd hi (Nat.not_lt_zero _)) 42 Tryz.underlying42
  have HB : Hid (N (strOfNums []) = 0) := rfl
  go_enter Tryz.func141, Tryz.ntmps141
  go_wp2_with (first
    | (go_at_call 147; refine (shorten_nil _).mono ?_; rintro e w1 ⟨rfl, hw1⟩; subst hw1)
    | (at_make; refine wpList_make_full _ rfl _ _ 66 rfl w1.heap.size 5 i0 (.int .u8 0) 1 Tryz.underlying66 hi hz0 hz1 .i64 .i64 _ _ 0 rfl rfl rfl rfl (by omega) (by unfold maxLen; omega) (Nat.le_refl _) ?_; intro w2 hown2 hgrow2))
  refine wp_loop_rounds 1 ?_
  rw [rounds_succ]
  go_wp2_with (go_at_call 116; refine (bare_any _ _).mono ?_; rintro e w3 ⟨rfl, hw1⟩; subst hw1)
  go_ret
  exact ⟨by rw [HB.out]; rfl, (Below.refl _ w1).grown hgrow2 (Nat.le_refl _) (fun k e => by cases e)⟩
theorem gather_own (base : Nat) (v : Value) (l : List Nat) (w : World) (hs : Small l) (hlen : l.length ≤ 35184372088832) (h : Has w base v l) :
    Calls Tryz.prog 141 #[v] w fun e w' => e = .returned (.string (B (nw l))) ∧ Below w.heap.size w w' := by
  rcases h.cases with ⟨rfl, rfl⟩ | ⟨g, cap, rfl, hcap, hb, hl⟩
  · rw [nw_nil]; exact gather_nil w
  · exact gather_some g cap l w hs hcap hlen hl.lt (fun j hj => hl.cell j hj)
set_option maxHeartbeats 400000 in
theorem Clone_any (s : ByteArray) (w : World) (hs : s.size ≤ 140737488355328) : Calls Tryz.prog 158 #[.string s] w fun e w' => e = .returned (.string s) ∧ Below w.heap.size w w' := by
  go_enter Tryz.func158, Tryz.ntmps158
  go_wp2_with (go_at_call 185; refine (Tryz.stringslite_Clone _ _ (by omega)).mono ?_; rintro e w1 ⟨rfl, hb⟩)
  go_ret
  exact ⟨rfl, hb⟩
end Go.Proofs.YtojidhnkpeiimaaGreatDoor

/- divideByGroup and groupsOf of package nat. -/
namespace Go.Proofs.YtojidhnkpeiimaaGreatDoor
open Go.RowKit
theorem or_u64 (r x : Nat) (hr : r < 4294967296) (hx : x < 4294967296) : bits .or .u64 ((r : Int) * 4294967296) (x : Int) = ((r * 4294967296 + x : Nat) : Int) := by
  have e1 : (r : Int) * 4294967296 = ((r * 4294967296 : Nat) : Int) := by omega
  rw [e1, u64_or_nat _ _ (by omega) (by omega), nat_join 32 _ _ (by omega) (by omega)]
set_option maxRecDepth 100000 in
set_option maxHeartbeats 2000000 in
theorem divideByGroup_any (g cap : Nat) (l : List Nat) (w : World) (hs : Small l) (hlen : l.length ≤ 35184372088832) (hl : Lies w g 0 l) :
    Calls Tryz.prog 146 #[.slice (some ⟨g, 0, none⟩) l.length cap] w fun e w' => e = .returned (.int .u32 (nw l % 1000000000 : Nat)) ∧ Lies w' g 0 (divG 1000000000 l).1 ∧ Upd g 0 l.length w w' := by
  go_enter Tryz.func146, Tryz.ntmps146
  go_wp2
  go_loopw [3, 8] (fun r i wr => ∃ k : Nat, k ≤ l.length ∧ i = .int .i64 k ∧ r = .int .u64 ((divG 1000000000 (l.drop (l.length - k))).2 : Nat) ∧ Lies wr g 0 (l.take (l.length - k) ++ (divG 1000000000 (l.drop (l.length - k))).1) ∧ Upd g 0 l.length w wr)
    (fun _ i _ => l.length - (intOf i).toNat)
  case atStart => exact ⟨0, Nat.zero_le _, rfl, by simp [divG], by simpa [divG] using hl, Upd.refl _ _ _ _⟩
  case round =>
    obtain ⟨k, hk, rfl, rfl, hlr, hur⟩ := hrel
    by_cases hlt : k < l.length
    · obtain ⟨m, hm⟩ : ∃ m, m + 1 = l.length - k := ⟨l.length - k - 1, by omega⟩
      have hml : m < l.length := by omega
      have e1 : l.length - (k + 1) = m := by omega
      have hd : l.drop m = l[m] :: l.drop (m + 1) := List.drop_eq_getElem_cons hml
      have hrest := divG_lt 1000000000 (by omega) (l.drop (m + 1))
      have hx := hs _ (List.getElem_mem hml)
      rw [← hm] at hlr ⊢
      have hlen2 : m < (l.take (m + 1) ++ (divG 1000000000 (l.drop (m + 1))).1).length := by simp; omega
      have hcell := hlr.cell m hlen2
      have hfz := hlr.frozen (0 + m)
      have hset := fun y => hlr.set m hlen2 y
      simp only [take_set_append l _ m _ hml] at hset
      have hgm : (l.take (m + 1) ++ (divG 1000000000 (l.drop (m + 1))).1)[m]?.getD 0 = l[m] := by
        rw [List.getElem?_append_left (by simp; omega), List.getElem?_take, if_pos (by omega), List.getElem?_eq_getElem hml]; rfl
      rw [hgm] at hcell
      rw [Nat.zero_add] at hcell hfz
      have HG : Hid ((divG 1000000000 (l.drop m)) = (((divG 1000000000 (l.drop (m + 1))).2 * W + l[m]) / 1000000000 :: (divG 1000000000 (l.drop (m + 1))).1, ((divG 1000000000 (l.drop (m + 1))).2 * W + l[m]) % 1000000000)) := by rw [hd]; rfl
      rw [W_eq] at hx
      generalize (divG 1000000000 (l.drop (m + 1))).2 = r at *
      generalize (divG 1000000000 (l.drop (m + 1))).1 = q at *
      generalize l[m] = x at *
      obtain ⟨t, ht⟩ : ∃ t, t = r * 4294967296 + x := ⟨_, rfl⟩
      have hor : bits .or .u64 ((r : Int) * 4294967296) (x : Int) = (t : Int) := by rw [ht]; exact or_u64 r x (by omega) hx
      have htb : t < 4294967296000000000 := by omega
      have HT : Hid (t = r * 4294967296 + x) := ht
      have hmk : (l.length : Int) - 1 - (k : Int) = (m : Int) := by omega
      have HSET : Hid (∀ y, Lies (wr.setCell ⟨g, 0 + m, none⟩ (.int .u32 (y : Nat))) g 0 (l.take m ++ y :: q)) := hset
      clear ht hgm hset hd hlen2 hlr
      go_wp2
      have hv : Value.int .u32 ((t : Int) / 1000000000) = .int .u32 (((r * W + x) / 1000000000 : Nat) : Int) := int_eq (by rw [W_eq, ← HT.out]; omega)
      have hv2 : Value.int .u64 ((t : Int) % 1000000000) = .int .u64 (((r * W + x) % 1000000000 : Nat) : Int) := int_eq (by rw [W_eq, ← HT.out]; omega)
      rw [hv, hv2]
      have hq := HSET.out ((r * W + x) / 1000000000)
      rw [Nat.zero_add] at hq
      go_roundw
      case rel => exact ⟨k + 1, by omega, by go_num, by rw [e1, HG.out], by rw [e1, HG.out]; exact hq, hur.trans (Upd.setCell (Nat.zero_le _) (by omega) _)⟩
      case measure => simp [intOf]; omega
    · obtain rfl : k = l.length := by omega
      go_wp2
      go_ret
      refine ⟨ret_int ?_, ?_, hur⟩
      · rw [divG_rest _ (by omega)]
        have := Nat.mod_lt (nw l) (show 0 < 1000000000 by omega)
        omega
      · simpa using hlr
end Go.Proofs.YtojidhnkpeiimaaGreatDoor

/- Plain facts on groups of nine digits. -/
namespace Go.Proofs.YtojidhnkpeiimaaGreatDoor
def G : Nat := 1000000000
theorem G_eq : G = 1000000000 := rfl
theorem G_pos : 0 < G := by decide
def grp (n : Nat) : List Nat := if _h : n = 0 then [] else (n % 1000000000) :: grp (n / 1000000000)
theorem grp_zero : grp 0 = [] := by rw [grp, dif_pos rfl]
theorem grp_pos (n : Nat) (h : n ≠ 0) : grp n = (n % G) :: grp (n / G) := by rw [grp, dif_neg h, G_eq]
theorem div_G_lt {n : Nat} (h : n ≠ 0) : n / G < n := Nat.div_lt_self (Nat.pos_of_ne_zero h) (by decide)
theorem grp_nil_iff (n : Nat) : grp n = [] ↔ n = 0 := by
  constructor
  · intro h
    by_cases e : n = 0
    · exact e
    · rw [grp_pos n e] at h; cases h
  · rintro rfl; exact grp_zero
theorem grp_length_le (k : Nat) : ∀ n, n < G ^ k → (grp n).length ≤ k := by
  induction k with
  | zero => intro n h; rw [Nat.pow_zero] at h; have : n = 0 := by omega
            subst this; simp [grp_zero]
  | succ k ih =>
    intro n h
    by_cases e : n = 0
    · subst e; simp [grp_zero]
    · rw [grp_pos n e, List.length_cons]
      have := ih (n / G) (Nat.div_lt_of_lt_mul (by rw [Nat.pow_succ] at h; rw [Nat.mul_comm]; exact h))
      omega
theorem W_le_GG : W ≤ G ^ 2 := by decide
theorem grp_words (n : Nat) : (grp n).length ≤ 2 * (words n).length := by
  refine grp_length_le _ _ ?_
  have h := nw_lt _ (words_small n)
  rw [nw_words] at h
  rw [Nat.pow_mul]
  exact Nat.lt_of_lt_of_le h (Nat.pow_le_pow_left W_le_GG _)
end Go.Proofs.YtojidhnkpeiimaaGreatDoor

/- groupsOf of package nat: the groups of nine digits of the number that the slice holds; the slice is used up. -/
namespace Go.Proofs.YtojidhnkpeiimaaGreatDoor
open Go.RowKit
theorem hide {p : Prop} (h : p) : Hid p := h
theorem Has.far {w : World} {base g : Nat} {v : Value} {l : List Nat} (h : Has w base v l) (hg : g < base) : v.ownBlock = none ∨ v.ownBlock ≠ some g := by
  cases hc : v.ownBlock with
  | none => exact .inl rfl
  | some k =>
    refine .inr fun e => ?_
    cases e
    have := (World.ownsRow.lt h g hc).1
    omega
theorem far_symm {a : Option Nat} {g : Nat} (h : a = none ∨ a ≠ some g) : some g ≠ a := by
  rcases h with rfl | h
  · simp
  · exact fun e => h e.symm
theorem Has.upd {w w' : World} {base g n cap m : Nat} {l l' : List Nat} (h : Has w base (.slice (some ⟨g, 0, none⟩) n cap) l) (hu : Upd g 0 m w w') (hl : Lies w' g 0 l') (hlen : l'.length = l.length) : Has w' base (.slice (some ⟨g, 0, none⟩) n cap) l' := by
  have hn : n = l.length := by
    rcases h.2 with ⟨h', _⟩ | ⟨g', cap', cur, h', _⟩
    · cases h'
    · cases h'; rfl
  subst hn
  have := own_upd h hu hl hlen
  rw [Has, hlen]; exact this
set_option maxRecDepth 100000 in
set_option maxHeartbeats 2000000 in
theorem groupsOf_any (base : Nat) (v : Value) (m : Nat) (w : World) (hlen : (words m).length ≤ 8796093022208) (h : Has w base v (words m)) (hb : base ≤ w.heap.size) (hv : ∀ k, v.ownBlock = some k → k < w.heap.size) :
    Calls Tryz.prog 112 #[v] w fun e w' => ∃ v', e = .returned v' ∧ Has w' base v' (grp m) ∧ Below base w w' := by
  obtain ⟨i0, hi, hz0, hz1, hz2⟩ := info_parts Tryz.infoU32
  have hgm := grp_words m
  go_enter Tryz.func112, Tryz.ntmps112
  go_wp2
  go_loopg [0, 3] m (fun n v gv wr => ∃ gl, Has wr base v (words n) ∧ (∀ k, v.ownBlock = some k → k < w.heap.size) ∧ Has wr w.heap.size gv gl ∧ gl ++ grp n = grp m ∧ n ≤ m ∧ Below base w wr)
  case atStart => exact ⟨[], h, hv, World.ownsRow_nil _ _ _ _, rfl, Nat.le_refl _, Below.refl _ _⟩
  case round =>
    obtain ⟨gl, hvr, hvk, hgr, hgl, hnm, hbr⟩ := hrel
    by_cases h0 : gk = 0
    · subst h0
      rw [words_zero] at hvr
      rw [grp_zero, List.append_nil] at hgl
      have HG : Hid (gl = grp m) := hgl
      clear hgl
      rcases hvr.cases with ⟨rfl, _⟩ | ⟨g, cap, rfl, _, _, _⟩
      all_goals
        go_wp2
        go_ret
        exact ⟨_, rfl, by rw [← HG.out]; exact hgr.mono hb, hbr⟩
    · have hne : words gk ≠ [] := fun e => h0 ((words_nil_iff gk).1 e)
      have hwl : (words gk).length ≤ (words m).length := by
        rw [words_length, words_length]
        have := bn_length_mono hnm
        omega
      have hpos : 0 < (words gk).length := List.length_pos_iff.2 hne
      rcases hvr.cases with ⟨_, hnil⟩ | ⟨g, cap, rfl, hcap, hbg, hlg⟩
      · exact absurd hnil hne
      · have hgw : g < w.heap.size := hvk g rfl
        have HE : Hid (gl ++ grp gk = grp m) := hgl
        have hgl2 : gl.length + 1 ≤ (grp m).length := by rw [← hgl, grp_pos gk h0]; simp
        clear hgl
        have hnG := hgr.far hgw
        have HV : Hid (Has wr base (.slice (some ⟨g, 0, none⟩) (words gk).length cap) (words gk)) := hvr
        have hbw := hbr.size
        clear hvr hvk
        go_wp2_with fail
        refine (divideByGroup_any g cap (words gk) _ (words_small gk) (by omega) hlg).mono ?_
        rintro e w1 ⟨rfl, hl1, hu1⟩
        have hrow1 := World.ownsRow.kept hgr hu1.grown hnG
        have hV1 := HV.out.upd hu1 hl1 (divG_length _ _)
        have hs1 := hu1.grown.size
        go_wp2_with (at_builtin; refine wpList_append_own _ rfl _ _ 147 rfl w.heap.size 135 i0 (.int .u32 0) 1 4 Tryz.underlying147 hi hz0 hz1 hz2 rfl (by decide) _ _ _ rfl (hrow1.alloc _) ⟨w1.heap.size, 0, none⟩ 1 1 [.int .u32 (nw (words gk) % 1000000000 : Nat)] rfl rfl (cell_one_new _ _ _) (by simp [Value.oneCell']) (by unfold maxLen; omega) (by omega) (by simp; omega) ?_; intro v' w2 hown2 hgrow2 _)
        have hV2 := (World.ownsRow.alloc hV1 _).kept hgrow2 (.inr (far_symm hnG))
        have hbel2 : Below base w w2 := ((Upd.below hbr hu1 hbg (by omega)).alloc (by omega) _).grown hgrow2 (by simp; omega) (fun k hk => by have := (World.ownsRow.lt hrow1 k hk).1; omega)
        refine (shorten_own base _ _ _ (divG_small _ (by omega) _ (words_small gk)) (by rw [divG_length]; omega) hV2).mono ?_
        rintro e w3 ⟨v3, rfl, hV3, hob, rfl⟩
        rw [divG_quot _ (by omega), nw_words] at hV3
        rw [nw_words] at hown2
        clear hV2 hV1 hrow1 hgrow2 hl1 hu1 hlg HV
        go_wp2
        go_roundg (gk / G)
        case measure => exact div_G_lt h0
        case rel => exact ⟨gl ++ [gk % G], hV3, fun k hk => by rw [hob] at hk; cases hk; exact hgw, by simpa [Has, u32, G] using hown2, by rw [List.append_assoc, ← HE.out, grp_pos gk h0]; rfl, Nat.le_trans (Nat.div_le_self _ _) hnm, hbel2⟩
end Go.Proofs.YtojidhnkpeiimaaGreatDoor
