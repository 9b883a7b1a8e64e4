/- What bare, countParts, readPart, fromEnd and spread of package nat hand back, for every string within the model's reach. -/
import Derived.Test.YtghjhflfcambjaaGreatDoorNum
import Derived.Test.YtghjhflfcambjaaGreatDoorShelf
import Derived.WalkKit
import Derived.WalkSpells
import Derived.WalkLawsBesides
import Derived.Laws.BitsAllLaws
import Derived.RangeFuncNested
import Derived.RangeFuncBound
import Derived.RangeFuncCalls
import Derived.RangeFuncLeaves
import Derived.RangeFuncBox
import Derived.Shelf.Abstract
import Derived.Shelf.RegionOpen
import Derived.OwnWalkIn
import Derived.TacticsInMore
import Derived.LoopNIn
import Derived.LoopIn
import Derived.Maps.AppendAt
namespace Go.Proofs.YtghjhflfcambjaaGreatDoor
open Go.RowKit Go.Shelf

attribute [local go_sem] Oper.semAt_some

/-- The number that a string stands for. -/
def N (s : ByteArray) : Nat := nb s.data.toList
/-- A number's string: without noughts ahead. -/
def B (n : Nat) : ByteArray := ⟨(bn n).toArray⟩
theorem N_B (n : Nat) : N (B n) = n := nb_bn n
theorem B_size (n : Nat) : (B n).size = (bn n).length := by simp [B, ByteArray.size]
theorem trim_B (s : ByteArray) : (⟨(Lib.trimLeftB s.data.toList 0).toArray⟩ : ByteArray) = B (N s) := by
  rw [B, N, bn_nb]; rfl
theorem ret_int {k : IntKind} {a b : Int} (h : a = b) : Ending.returned (.int k a) = .returned (.int k b) := by rw [h]
theorem int_eq {k : IntKind} {a b : Int} (h : a = b) : Value.int k a = .int k b := by rw [h]

set_option maxHeartbeats 400000 in
theorem bare_any (s : ByteArray) (w : World) :
    Calls Tryz.prog 33 #[.string s] w fun e w' => e = .returned (.string (B (N s))) ∧ w' = w := by
  rw [← trim_B]
  go_enter Tryz.func33, Tryz.ntmps33
  go_wp2_with (go_at_call 61; refine (Tryz.strings_TrimLeft_one _ 0 (by decide) _).mono ?_; rintro e w' ⟨rfl, rfl⟩)
  go_ret
  exact ⟨rfl, rfl⟩

set_option maxHeartbeats 400000 in
theorem countParts_any (s : ByteArray) (w : World) (hs : s.size ≤ 140737488355328) :
    Calls Tryz.prog 58 #[.string s] w fun e w' => e = .returned (.int .i64 ((s.size + 3) / 4 : Nat)) ∧ w' = w := by
  go_enter Tryz.func58, Tryz.ntmps58
  go_wp2
  go_ret
  exact ⟨ret_int (by omega), rfl⟩

theorem or_step (p c : Nat) (hp : p < 16777216) (hc : c < 256) : bits .or .u32 ((p : Int) * 256) (c : Int) = ((p * 256 + c : Nat) : Int) := by
  have e1 : (p : Int) * 256 = ((p * 256 : Nat) : Int) := by omega
  rw [e1, u32_or_nat _ _ (by omega) (by omega), nat_join 8 _ _ (by omega) hc]

theorem take_snoc (s : ByteArray) (k : Nat) (h : k < s.size) : s.data.toList.take (k + 1) = s.data.toList.take k ++ [s[k]] := by
  rw [List.take_succ_eq_append_getElem (by simpa using h)]; rfl

theorem nb_lt_of (l : List UInt8) (k : Nat) (h : l.length ≤ k) : nb l < 256 ^ k :=
  Nat.lt_of_lt_of_le (nb_lt l) (Nat.pow_le_pow_right (by decide) h)

set_option maxHeartbeats 400000 in
theorem readPart_any (s : ByteArray) (w : World) (hs : s.size ≤ 4) :
    Calls Tryz.prog 85 #[.string s] w fun e w' => e = .returned (.int .u32 (N s)) ∧ w' = w := by
  go_enter Tryz.func85, Tryz.ntmps85
  go_wp2
  go_loop [3, 7] (fun n i => ∃ k : Nat, k ≤ s.size ∧ i = .int .i64 k ∧ n = .int .u32 (nb (s.data.toList.take k))) (fun _ i => s.size - (intOf i).toNat)
  case atStart => exact ⟨0, Nat.zero_le _, rfl, rfl⟩
  case round =>
    obtain ⟨k, hk, rfl, rfl⟩ := hrel
    by_cases hlt : k < s.size
    · have hb : nb (s.data.toList.take k) < 16777216 := nb_lt_of _ 3 (by simp; omega)
      have hc := s[k].toNat_lt
      have HS : Hid (nb (s.data.toList.take (k + 1)) = nb (s.data.toList.take k) * 256 + s[k].toNat) := by rw [take_snoc s k hlt, nb_snoc]; rfl
      have HO : Hid (bits .or .u32 ((nb (s.data.toList.take k) : Int) * 256) (s[k].toNat : Int) = ((nb (s.data.toList.take k) * 256 + s[k].toNat : Nat) : Int)) := or_step _ _ hb hc
      generalize nb (s.data.toList.take k) = p at *
      go_wp2
      go_round
      case rel => exact ⟨k + 1, by omega, by go_num, by rw [HS.out]; exact int_eq HO.out⟩
      case measure => simp [intOf]; omega
    · go_wp2
      go_ret
      exact ⟨ret_int (by rw [N, List.take_of_length_le (by simp; omega)]), rfl⟩

/-- What a round of the loop over fromEnd must keep: the box in which the iterator holds its string. -/
def KeepsBox (Bn : Nat) (V V' : World) : Prop := V'.cell? ⟨Bn, 0, none⟩ = V.cell? ⟨Bn, 0, none⟩
theorem KeepsBox.t {Bn : Nat} {A B C : World} (h : KeepsBox Bn A B) (k : KeepsBox Bn B C) : KeepsBox Bn A C := Eq.trans k h
theorem KeepsBox.b {Bn : Nat} {w : World} (hn : Bn < w.heap.size) (V : World) (l : Nat) (o o' : Obj) (hl : w.heap.size ≤ l) (_ : V.heap[l]? = some o) (_ : o.isCells = false) (_ : o.isWalk = false) : KeepsBox Bn V (V.putObj l o') :=
  World.cell?_of_block (World.putObj_heap_other (show Bn ≠ l by omega))

/-- What has come when k rounds are over. -/
def upto (n k : Nat) : List Nat := (List.range k).map (part n)
theorem upto_succ (n k : Nat) : upto n (k + 1) = upto n k ++ [part n k] := by simp [upto, List.range_succ]
theorem upto_length (n k : Nat) : (upto n k).length = k := by simp [upto]

theorem piece_N (s : ByteArray) (k : Nat) (h : 4 * k ≤ s.size) : N (s.extract (s.size - 4 * k - 4) (s.size - 4 * k)) = part (N s) k := by
  rw [N, N, ← part_of_bytes _ _ (by simpa using h)]
  congr 1
  rw [ByteArray.data_extract]; simp [List.drop_take]

theorem readPiece (s : ByteArray) (k : Nat) (w : World) (h : 4 * k ≤ s.size) :
    Calls Tryz.prog 85 #[.string (s.extract (max 0 ((s.size : Int) - (k : Int) * 4 - 4)).toNat (s.size - k * 4))] w fun e w' => e = .returned (.int .u32 (part (N s) k : Nat)) ∧ w' = w := by
  have e1 : (max 0 ((s.size : Int) - (k : Int) * 4 - 4)).toNat = s.size - 4 * k - 4 := by omega
  have e2 : s.size - k * 4 = s.size - 4 * k := by omega
  rw [e1, e2, ← piece_N s k h]
  exact readPart_any _ w (by rw [ByteArray.size_extract]; omega)

set_option maxRecDepth 100000 in
set_option maxHeartbeats 1000000 in
theorem fromEnd1_in (n : Nat) (hn : 1 ≤ n) (l Bn : Nat) (s : ByteArray) (hs : s.size ≤ 140737488355328) (J Jx : List Nat → World → Prop)
    (hY : ∀ pre x V, J pre V → pre.length < (s.size + 3) / 4 → YieldAt Fence.wide (n - 1) Tryz.prog l #[.int .u32 (x : Nat)] V fun e V' =>
      (e = .returned (.bool true) ∧ J (pre ++ [x]) V' ∧ KeepsBox Bn V V') ∨ (e = .returned (.bool false) ∧ Jx (pre ++ [x]) V'))
    (V : World) (hBn : V.cell? ⟨Bn, 0, none⟩ = some (.string s)) (h0 : J [] V) :
    CallsIn Fence.wide n Tryz.prog 84 #[.func (.yield l) #[] #[], .pointer (some ⟨Bn, 0, none⟩)] V fun e V' => (∃ v, e = .returned v) ∧
      ((∃ ys, ys = upto (N s) ((s.size + 3) / 4) ∧ J ys V') ∨ (∃ pre, (∃ k, k ≤ (s.size + 3) / 4 ∧ pre = upto (N s) k) ∧ Jx pre V')) := by
  refine callsIn_of_wp Tryz.func84 rfl trivial ?_ rfl
  simp only [Tryz.ntmps84, List.size_toArray, List.length_cons, List.length_nil, Nat.reduceAdd, Nat.reduceSub, Array.replicate_succ, Array.replicate_zero, List.push_toArray, List.append_toArray, List.nil_append, List.cons_append]
  gi_wp2_with (refine ⟨trivial, ?_⟩; gi_at_call 58; refine (callsIn_wide.2 (countParts_any _ _ hs)).mono ?_; rintro e w' ⟨rfl, rfl⟩)
  gi_loopw [7] (fun i wr => ∃ k : Nat, k ≤ (s.size + 3) / 4 ∧ i = .int .i64 k ∧ J (upto (N s) k) wr ∧ wr.cell? ⟨Bn, 0, none⟩ = some (.string s))
    (fun i _ => (s.size + 3) / 4 - (intOf i).toNat)
  case atStart => exact ⟨0, Nat.zero_le _, rfl, h0, hBn⟩
  case round =>
    obtain ⟨k, hk, rfl, hJs, hbx⟩ := hrel
    by_cases hlt : k < (s.size + 3) / 4
    · obtain ⟨fn, tmps, assign, body, hy, hR⟩ := hY _ (part (N s) k) wr hJs (by rw [upto_length]; exact hlt)
      gi_wp2_with (refine ⟨trivial, ?_⟩; gi_at_call 85; refine (callsIn_wide.2 (readPiece s k _ (by omega))).mono ?_; rintro e w' ⟨rfl, rfl⟩)
      refine hR.mono ?_
      rintro e W3 (⟨rfl, hJ3, hk3⟩ | ⟨rfl, hJx3⟩)
      · have hbx3 : W3.cell? ⟨Bn, 0, none⟩ = some (.string s) := Eq.trans hk3 hbx
        gi_wp2
        go_roundw
        case rel => exact ⟨k + 1, by omega, by simp, by rw [upto_succ]; exact hJ3, hbx3⟩
        case measure => simp [intOf]; omega
      · gi_wp2
        refine bodyPost_ret (results_none rfl _ _ _) rfl ?_
        exact ⟨⟨_, rfl⟩, .inr ⟨_, ⟨k + 1, by omega, (upto_succ _ _).symm⟩, hJx3⟩⟩
    · obtain rfl : k = (s.size + 3) / 4 := by omega
      gi_wp2
      go_end0
      exact ⟨⟨_, rfl⟩, .inl ⟨_, rfl, hJs⟩⟩

set_option maxHeartbeats 1000000 in
theorem fromEnd_in (n : Nat) (s : ByteArray) (w : World) :
    CallsIn Fence.wide n Tryz.prog 59 #[.string s] w fun e w' => e = .returned (.func (.func 84) #[] #[.pointer (some ⟨w.heap.size, 0, none⟩)]) ∧ w' = w.alloc (.cells #[.string s] 22) := by
  refine callsIn_of_wp Tryz.func59 rfl trivial ?_ rfl
  simp only [Tryz.ntmps59, List.size_toArray, List.length_cons, List.length_nil, Nat.reduceAdd, Nat.reduceSub, Array.replicate_succ, Array.replicate_zero, List.push_toArray, List.append_toArray, List.nil_append, List.cons_append]
  gi_wp2
  go_ret
  exact ⟨rfl, rfl⟩

theorem fromEnd_stops (n : Nat) (hn : 1 ≤ n) (Bn : Nat) (s : ByteArray) (hs : s.size ≤ 140737488355328) (w : World) (hBn : Bn < w.heap.size) (hc : w.cell? ⟨Bn, 0, none⟩ = some (.string s)) :
    SeqStopsK Fence.wide n Tryz.prog 84 #[.pointer (some ⟨Bn, 0, none⟩)] (fun x : Nat => #[Value.int .u32 (x : Nat)]) (KeepsBox Bn) (fun ys => ys = upto (N s) ((s.size + 3) / 4)) (fun pre => ∃ k, k ≤ (s.size + 3) / 4 ∧ pre = upto (N s) k) ((s.size + 3) / 4) w := fun l J Jx V hV _ _ hY h0 =>
  fromEnd1_in n hn l Bn s hs J Jx hY V ((hV.cell (p := ⟨Bn, 0, none⟩) hBn).trans hc) h0

theorem Tryz.infoU32 : (Tryz.prog.info? 66).map (fun i => (i.zero, i.size, i.bytes)) = some (some (.int .u32 0), 1, 4) := by kernel_rfl

/-- A part as a cell. -/
def u32 (x : Nat) : Value := .int .u32 (x : Nat)

theorem upto_words (n : Nat) : upto n (((B n).size + 3) / 4) = words n := by
  rw [B_size, ← words_length, upto, ← words_eq_parts]

end Go.Proofs.YtghjhflfcambjaaGreatDoor
