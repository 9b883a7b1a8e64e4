/- What bare, countParts, readPart, fromEnd and spread of package nat hand back, for every string within the model's reach. -/
import Derived.Test.YtockhhleapbpiaaNum
import Derived.Test.YtockhhleapbpiaaShelf
import Derived.WalkKit
import Derived.WalkSpells
import Derived.WalkLawsBesides
import Derived.Laws.BitsAllLaws
import Derived.RangeFuncNested
import Derived.RangeFuncBound
import Derived.RangeFuncCalls
import Derived.RangeFuncLeaves
import Derived.RangeFuncBox
import Derived.Shelf.Abstract
import Derived.Shelf.RegionOpen
import Derived.OwnWalkIn
import Derived.TacticsInMore
import Derived.LoopNIn
import Derived.LoopIn
import Derived.Maps.AppendAt
import Derived.Laws.BytesArg
import Derived.Laws.CopyOwn
import Derived.Deep.RegionLaw
import Derived.Deep.LoopGhost
namespace Go.Proofs.Ytockhhleapbpiaa
open Go.RowKit Go.Shelf

attribute [local go_sem] Oper.semAt_some

/-- The number that a string stands for. -/
def N (s : ByteArray) : Nat := nb s.data.toList
/-- A number's string: without noughts ahead. -/
def B (n : Nat) : ByteArray := ⟨(bn n).toArray⟩
theorem N_B (n : Nat) : N (B n) = n := nb_bn n
theorem B_size (n : Nat) : (B n).size = (bn n).length := by simp [B, ByteArray.size]
theorem trim_B (s : ByteArray) : (⟨(Lib.trimLeftB s.data.toList 0).toArray⟩ : ByteArray) = B (N s) := by
  rw [B, N, bn_nb]; rfl
theorem ret_int {k : IntKind} {a b : Int} (h : a = b) : Ending.returned (.int k a) = .returned (.int k b) := by rw [h]
theorem int_eq {k : IntKind} {a b : Int} (h : a = b) : Value.int k a = .int k b := by rw [h]

theorem or_step (p c : Nat) (hp : p < 16777216) (hc : c < 256) : bits .or .u32 ((p : Int) * 256) (c : Int) = ((p * 256 + c : Nat) : Int) := by
  have e1 : (p : Int) * 256 = ((p * 256 : Nat) : Int) := by omega
  rw [e1, u32_or_nat _ _ (by omega) (by omega), nat_join 8 _ _ (by omega) hc]

theorem take_snoc (s : ByteArray) (k : Nat) (h : k < s.size) : s.data.toList.take (k + 1) = s.data.toList.take k ++ [s[k]] := by
  rw [List.take_succ_eq_append_getElem (by simpa using h)]; rfl

theorem nb_lt_of (l : List UInt8) (k : Nat) (h : l.length ≤ k) : nb l < 256 ^ k :=
  Nat.lt_of_lt_of_le (nb_lt l) (Nat.pow_le_pow_right (by decide) h)

/-- What a round of the loop over fromEnd must keep: the box in which the iterator holds its string. -/
def KeepsBox (Bn : Nat) (V V' : World) : Prop := V'.cell? ⟨Bn, 0, none⟩ = V.cell? ⟨Bn, 0, none⟩
theorem KeepsBox.t {Bn : Nat} {A B C : World} (h : KeepsBox Bn A B) (k : KeepsBox Bn B C) : KeepsBox Bn A C := Eq.trans k h
theorem KeepsBox.b {Bn : Nat} {w : World} (hn : Bn < w.heap.size) (V : World) (l : Nat) (o o' : Obj) (hl : w.heap.size ≤ l) (_ : V.heap[l]? = some o) (_ : o.isCells = false) (_ : o.isWalk = false) : KeepsBox Bn V (V.putObj l o') :=
  World.cell?_of_block (World.putObj_heap_other (show Bn ≠ l by omega))

/-- What has come when k rounds are over. -/
def upto (n k : Nat) : List Nat := (List.range k).map (part n)
theorem upto_succ (n k : Nat) : upto n (k + 1) = upto n k ++ [part n k] := by simp [upto, List.range_succ]
theorem upto_length (n k : Nat) : (upto n k).length = k := by simp [upto]

theorem piece_N (s : ByteArray) (k : Nat) (h : 4 * k ≤ s.size) : N (s.extract (s.size - 4 * k - 4) (s.size - 4 * k)) = part (N s) k := by
  rw [N, N, ← part_of_bytes _ _ (by simpa using h)]
  congr 1
  rw [ByteArray.data_extract]; simp [List.drop_take]

/-- A part as a cell. -/
def u32 (x : Nat) : Value := .int .u32 (x : Nat)

theorem upto_words (n : Nat) : upto n (((B n).size + 3) / 4) = words n := by
  rw [B_size, ← words_length, upto, ← words_eq_parts]

end Go.Proofs.Ytockhhleapbpiaa


/- What spread of package nat hands back, for every string within the model's reach: the number's parts, the lowest first, in a slice of its own. -/
namespace Go.Proofs.Ytockhhleapbpiaa
open Go.RowKit Go.Shelf

attribute [local go_sem] Oper.semAt_some

theorem B_size_le (s : ByteArray) : (B (N s)).size ≤ s.size := by
  rw [B_size, N, bn_nb]
  have : (s.data.toList.dropWhile (· == 0)).length ≤ s.data.toList.length := (List.dropWhile_sublist _).length_le
  simpa using this

end Go.Proofs.Ytockhhleapbpiaa


/- What shorten of package nat hands back. -/
namespace Go.Proofs.Ytockhhleapbpiaa
open Go.RowKit

/-- How many elements a slice value has. -/
def lenOf : Value → Nat | .slice _ n _ => n | _ => 0

end Go.Proofs.Ytockhhleapbpiaa


/- What bytesOf and ofWord of package nat hand back, for every word. -/
namespace Go.Proofs.Ytockhhleapbpiaa
open Go.RowKit

/-- The k-th byte of a word, the lowest first. -/
def byt (x k : Nat) : Int := ((x / 256 ^ k % 256 : Nat) : Int)

theorem byt_eqs (x : Nat) (hx : x < 18446744073709551616) : byt x 7 = (x : Int) / 72057594037927936 ∧ byt x 6 = (x : Int) / 281474976710656 % 256 ∧ byt x 5 = (x : Int) / 1099511627776 % 256 ∧ byt x 4 = (x : Int) / 4294967296 % 256 ∧
    byt x 3 = (x : Int) / 16777216 % 256 ∧ byt x 2 = (x : Int) / 65536 % 256 ∧ byt x 1 = (x : Int) / 256 % 256 ∧ byt x 0 = (x : Int) % 256 := by
  unfold byt
  simp only [Nat.reducePow]
  omega

theorem div_step (x c : Nat) : x / (c * 256) * 256 + x / c % 256 = x / c := by rw [← Nat.div_div_eq_div_mul]; exact Nat.div_add_mod' _ _
theorem div_top (x : Nat) (hx : x < 18446744073709551616) : 0 * 256 + x / 72057594037927936 % 256 = x / 72057594037927936 := by omega
theorem div_low (x : Nat) : x / 256 * 256 + x / 1 % 256 = x := by omega

theorem nb_bytes8 (x : Nat) (hx : x < 18446744073709551616) : N (strOfNums [byt x 7, byt x 6, byt x 5, byt x 4, byt x 3, byt x 2, byt x 1, byt x 0]) = x := by
  have h6 := div_step x 281474976710656
  have h5 := div_step x 1099511627776
  have h4 := div_step x 4294967296
  have h3 := div_step x 16777216
  have h2 := div_step x 65536
  have h1 := div_step x 256
  simp only [Nat.reduceMul] at h6 h5 h4 h3 h2 h1
  simp only [N, strOfNums_data, List.map_cons, List.map_nil, byt, Int.toNat_natCast, nb, List.foldl_cons, List.foldl_nil, UInt8.toNat_ofNat', Nat.reducePow, Nat.mod_mod]
  rw [div_top x hx, h6, h5, h4, h3, h2, h1, div_low]

theorem word_cells (x : Nat) (t : TypeId) (w : World) : ∀ i, i < 8 → (w.alloc (.cells #[.int .u8 (byt x 7), .int .u8 (byt x 6), .int .u8 (byt x 5), .int .u8 (byt x 4), .int .u8 (byt x 3), .int .u8 (byt x 2), .int .u8 (byt x 1), .int .u8 (byt x 0)] t)).cell? ⟨w.heap.size, 0 + i, none⟩ =
    some (.int .u8 (([byt x 7, byt x 6, byt x 5, byt x 4, byt x 3, byt x 2, byt x 1, byt x 0] : List Int).getD i 0)) := by
  intro i hi
  rcases (show i = 0 ∨ i = 1 ∨ i = 2 ∨ i = 3 ∨ i = 4 ∨ i = 5 ∨ i = 6 ∨ i = 7 by omega) with rfl | rfl | rfl | rfl | rfl | rfl | rfl | rfl <;> simp

end Go.Proofs.Ytockhhleapbpiaa


/- What gather of package nat hands back: the number of the parts, without noughts ahead. -/
namespace Go.Proofs.Ytockhhleapbpiaa
open Go.RowKit

/-- A part's four bytes, the highest first. -/
def be4 (x : Nat) : List Int := [byt x 3, byt x 2, byt x 1, byt x 0]
/-- The bytes of parts (the lowest first): the highest first. -/
def lowB : List Nat → List Int
  | [] => []
  | x :: r => lowB r ++ be4 x
theorem lowB_snoc (a : List Nat) (y : Nat) : lowB (a ++ [y]) = be4 y ++ lowB a := by
  induction a with
  | nil => simp [lowB]
  | cons x a ih => rw [List.cons_append, lowB, ih, lowB, List.append_assoc]
theorem lowB_length (a : List Nat) : (lowB a).length = 4 * a.length := by
  induction a with
  | nil => rfl
  | cons x a ih => rw [lowB, List.length_append, ih]; simp [be4]; omega

theorem div_top4 (x : Nat) (hx : x < 4294967296) : 0 * 256 + x / 16777216 % 256 = x / 16777216 := by omega
theorem nb_be4 (x : Nat) (hx : x < W) : nb ((be4 x).map fun n => UInt8.ofNat n.toNat) = x := by
  rw [W_eq] at hx
  have h3 := div_top4 x hx
  have h2 := div_step x 65536
  have h1 := div_step x 256
  simp only [Nat.reduceMul] at h2 h1
  simp only [be4, List.map_cons, List.map_nil, byt, Int.toNat_natCast, nb, List.foldl_cons, List.foldl_nil, UInt8.toNat_ofNat', Nat.reducePow, Nat.mod_mod]
  rw [h3, h2, h1, div_low]

theorem N_lowB (l : List Nat) (hs : Small l) : N (strOfNums (lowB l)) = nw l := by
  rw [N, strOfNums_data]
  induction l with
  | nil => rfl
  | cons x r ih =>
    rw [lowB, List.map_append, nb_append, ih (fun y hy => hs y (List.mem_cons_of_mem _ hy)), nb_be4 x (hs x List.mem_cons_self), nw_cons, List.length_map]
    show nw r * 256 ^ 4 + x = x + W * nw r
    rw [Nat.mul_comm, Nat.add_comm]; rfl

/-- What the bytes hold when k parts are laid. -/
def outI (l : List Nat) (k : Nat) : List Int := List.replicate (4 * (l.length - k)) 0 ++ lowB (l.take k)
theorem outI_zero (l : List Nat) : outI l 0 = List.replicate (4 * l.length) 0 := by simp [outI, lowB]
theorem outI_all (l : List Nat) : outI l l.length = lowB l := by simp [outI]
theorem outI_length (l : List Nat) (k : Nat) (hk : k ≤ l.length) : (outI l k).length = 4 * l.length := by
  rw [outI, List.length_append, List.length_replicate, lowB_length, List.length_take, Nat.min_eq_left hk]; omega
theorem outI_splice (l : List Nat) (k : Nat) (hk : k < l.length) : splice (outI l k) (4 * l.length - 4 * k - 4) (be4 (l[k]?.getD 0)) = outI l (k + 1) := by
  rw [List.getElem?_eq_getElem hk, Option.getD_some]
  have e1 : 4 * (l.length - k) = (4 * l.length - 4 * k - 4) + 4 := by omega
  have e2 : 4 * (l.length - (k + 1)) = 4 * l.length - 4 * k - 4 := by omega
  rw [outI, outI, List.take_succ_eq_append_getElem hk, lowB_snoc, e1, e2, ← List.replicate_append_replicate, splice]
  generalize 4 * l.length - 4 * k - 4 = m
  have h4 : (be4 l[k]).length = 4 := rfl
  rw [h4]
  have e3 : (List.replicate m (0 : Int) ++ List.replicate 4 0 ++ lowB (l.take k)).take m = List.replicate m 0 := by
    rw [List.append_assoc, List.take_append_of_le_length (by simp)]; simp
  have e4 : (List.replicate m (0 : Int) ++ List.replicate 4 0 ++ lowB (l.take k)).drop (m + 4) = lowB (l.take k) := by
    rw [List.drop_append_of_le_length (by simp)]; simp
  rw [e3, e4]

theorem splice_map {α β : Type} (f : α → β) (L : List α) (o : Nat) (cs : List α) : splice (L.map f) o (cs.map f) = (splice L o cs).map f := by
  simp [splice, List.map_take, List.map_drop]

/-- A byte as a cell. -/
def u8 (x : Int) : Value := .int .u8 x

theorem wordcells (l : List Nat) (hs : Small l) : (words (nw l)).length ≤ l.length ∧ ∀ j, j < (words (nw l)).length → (words (nw l))[j]?.getD 0 = l[j]?.getD 0 := by
  obtain ⟨k, hk, e⟩ := words_prefix l hs
  rw [e]
  refine ⟨by simp; omega, fun j hj => ?_⟩
  rw [List.getElem?_take, if_pos (by simp at hj; omega)]

theorem block_of_own {w : World} {base g n : Nat} {t : TypeId} {xs : List Value} (h : w.ownsRow base t 1 (.slice (some ⟨g, 0, none⟩) n n) n xs) : w.heap[g]? = some (.cells xs.toArray t (0, 0)) := by
  rcases h.2 with ⟨h', _⟩ | ⟨g', cap', cur, h', _, hg, hnc, _, hsz, htk⟩
  · cases h'
  · cases h'
    rw [hg, ← htk, List.take_of_length_le (by simp; omega)]

theorem made_bytes (n : Nat) : (madeCells (Value.int .u8 0).cells (n * 1)).toList = (List.replicate n (0 : Int)).map u8 := by
  rw [show (Value.int .u8 0).cells = #[Value.int .u8 0] from rfl, toList_madeCells_one, Nat.mul_one, List.map_replicate]; rfl

theorem be4_cells (x : Nat) (t : TypeId) (w : World) : ∀ j v, ((be4 x).map u8)[j]? = some v → (w.alloc (.cells #[.int .u8 (byt x 7), .int .u8 (byt x 6), .int .u8 (byt x 5), .int .u8 (byt x 4), .int .u8 (byt x 3), .int .u8 (byt x 2), .int .u8 (byt x 1), .int .u8 (byt x 0)] t)).cell? ((⟨w.heap.size, 4, none⟩ : Addr).add j) = some v := by
  intro j v hj
  have hj4 : j < 4 := by
    rcases Nat.lt_or_ge j 4 with h | h
    · exact h
    · rw [List.getElem?_eq_none (by simpa [be4] using h)] at hj; cases hj
  have hadd : (⟨w.heap.size, 4, none⟩ : Addr).add j = ⟨w.heap.size, 4 + j, none⟩ := by unfold Addr.add; split <;> simp_all
  rw [hadd]
  rcases (show j = 0 ∨ j = 1 ∨ j = 2 ∨ j = 3 by omega) with rfl | rfl | rfl | rfl <;> simp [be4, u8] at hj <;> subst hj <;> simp

end Go.Proofs.Ytockhhleapbpiaa


/- Rows of parts in memory: what lies where, and what a call that writes in its place leaves. -/
namespace Go.Proofs.Ytockhhleapbpiaa
open Go.RowKit

theorem heap_setCell_row (w : World) (g j : Nat) (cur : Array Value) (t : TypeId) (u : Value) (hg : w.heap[g]? = some (.cells cur t (0, 0))) : (w.setCell ⟨g, j, none⟩ u).heap[g]? = some (.cells (cur.setIfInBounds j u) t (0, 0)) :=
  heap_setCell_same w g j cur t u hg

theorem own_base {w : World} {base base' : Nat} {e : TypeId} {size n : Nat} {v : Value} {xs : List Value} (h : w.ownsRow base e size v n xs) (hb : base' ≤ base) : w.ownsRow base' e size v n xs := by
  refine ⟨h.1, ?_⟩
  rcases h.2 with h' | ⟨g, cap, cur, r1, r2, r3⟩
  · exact .inl h'
  · exact .inr ⟨g, cap, cur, r1, by omega, r3⟩
theorem own_below {w w' : World} {base B : Nat} {e : TypeId} {size n : Nat} {v : Value} {xs : List Value} (h : w.ownsRow base e size v n xs) (hb : Below B w w') (hB : w.heap.size ≤ B) : w'.ownsRow base e size v n xs := by
  refine ⟨h.1, ?_⟩
  rcases h.2 with h' | ⟨g, cap, cur, r1, r2, r3, r4⟩
  · exact .inl h'
  · exact .inr ⟨g, cap, cur, r1, r2, (hb.block g (Nat.lt_of_lt_of_le (Array.getElem?_eq_some_iff.1 r3).1 hB)).trans r3, r4⟩
end Go.Proofs.Ytockhhleapbpiaa


/- shorten and gather of package nat, of a slice that the caller owns, nil or not. -/
namespace Go.Proofs.Ytockhhleapbpiaa
open Go.RowKit

end Go.Proofs.Ytockhhleapbpiaa


/- divideByGroup and groupsOf of package nat. -/
namespace Go.Proofs.Ytockhhleapbpiaa
open Go.RowKit

theorem or_u64 (r x : Nat) (hr : r < 4294967296) (hx : x < 4294967296) : bits .or .u64 ((r : Int) * 4294967296) (x : Int) = ((r * 4294967296 + x : Nat) : Int) := by
  have e1 : (r : Int) * 4294967296 = ((r * 4294967296 : Nat) : Int) := by omega
  rw [e1, u64_or_nat _ _ (by omega) (by omega), nat_join 32 _ _ (by omega) (by omega)]

end Go.Proofs.Ytockhhleapbpiaa


/- Plain facts on groups of nine digits. -/
namespace Go.Proofs.Ytockhhleapbpiaa

/-- 10^9. -/
def G : Nat := 1000000000
theorem G_eq : G = 1000000000 := rfl
theorem G_pos : 0 < G := by decide
/-- A number's groups of nine digits, the lowest first. -/
def grp (n : Nat) : List Nat := if _h : n = 0 then [] else (n % 1000000000) :: grp (n / 1000000000)
theorem grp_zero : grp 0 = [] := by rw [grp, dif_pos rfl]
theorem grp_pos (n : Nat) (h : n ≠ 0) : grp n = (n % G) :: grp (n / G) := by rw [grp, dif_neg h, G_eq]
theorem div_G_lt {n : Nat} (h : n ≠ 0) : n / G < n := Nat.div_lt_self (Nat.pos_of_ne_zero h) (by decide)
theorem grp_nil_iff (n : Nat) : grp n = [] ↔ n = 0 := by
  constructor
  · intro h
    by_cases e : n = 0
    · exact e
    · rw [grp_pos n e] at h; cases h
  · rintro rfl; exact grp_zero
theorem grp_lt (n : Nat) : ∀ x ∈ grp n, x < G := by
  induction n using Nat.strongRecOn with
  | ind n ih =>
    by_cases h : n = 0
    · subst h; simp [grp_zero]
    · rw [grp_pos n h]
      intro x hx
      rcases List.mem_cons.1 hx with rfl | hx
      · exact Nat.mod_lt _ G_pos
      · exact ih _ (div_G_lt h) x hx
theorem grp_length_le (k : Nat) : ∀ n, n < G ^ k → (grp n).length ≤ k := by
  induction k with
  | zero => intro n h; rw [Nat.pow_zero] at h; have : n = 0 := by omega
            subst this; simp [grp_zero]
  | succ k ih =>
    intro n h
    by_cases e : n = 0
    · subst e; simp [grp_zero]
    · rw [grp_pos n e, List.length_cons]
      have := ih (n / G) (Nat.div_lt_of_lt_mul (by rw [Nat.pow_succ] at h; rw [Nat.mul_comm]; exact h))
      omega
theorem W_le_GG : W ≤ G ^ 2 := by decide
theorem grp_words (n : Nat) : (grp n).length ≤ 2 * (words n).length := by
  refine grp_length_le _ _ ?_
  have h := nw_lt _ (words_small n)
  rw [nw_words] at h
  rw [Nat.pow_mul]
  exact Nat.lt_of_lt_of_le h (Nat.pow_le_pow_left W_le_GG _)

end Go.Proofs.Ytockhhleapbpiaa


/- groupsOf of package nat: the groups of nine digits of the number that the slice holds; the slice is used up. -/
namespace Go.Proofs.Ytockhhleapbpiaa
open Go.RowKit

theorem hide {p : Prop} (h : p) : Hid p := h
theorem far_symm {a : Option Nat} {g : Nat} (h : a = none ∨ a ≠ some g) : some g ≠ a := by
  rcases h with rfl | h
  · simp
  · exact fun e => h e.symm
end Go.Proofs.Ytockhhleapbpiaa


/- Plain facts on reading digits. -/
namespace Go.Proofs.Ytockhhleapbpiaa

/-- Times ten and c more, part by part: the parts, and what runs over. -/
def mad (c : Nat) : List Nat → List Nat × Nat
  | [] => ([], c)
  | x :: r => ((c + x * 10) % W :: (mad ((c + x * 10) / W) r).1, (mad ((c + x * 10) / W) r).2)
theorem mad_snoc (a : List Nat) (x : Nat) : ∀ c, mad c (a ++ [x]) = ((mad c a).1 ++ [((mad c a).2 + x * 10) % W], ((mad c a).2 + x * 10) / W) := by
  induction a with
  | nil => intro c; rfl
  | cons y a ih => intro c; rw [List.cons_append, mad, ih]; rfl
theorem mad_length (c : Nat) (l : List Nat) : (mad c l).1.length = l.length := by
  induction l generalizing c with
  | nil => rfl
  | cons x r ih => rw [mad, List.length_cons, ih, List.length_cons]
theorem mad_small (c : Nat) (l : List Nat) : Small (mad c l).1 := by
  induction l generalizing c with
  | nil => intro x hx; simp [mad] at hx
  | cons x r ih =>
    intro y hy
    rw [mad] at hy
    rcases List.mem_cons.1 hy with rfl | hy
    · exact Nat.mod_lt _ W_pos
    · exact ih _ y hy
theorem mad_eq (c : Nat) (l : List Nat) : nw (mad c l).1 + W ^ l.length * (mad c l).2 = nw l * 10 + c := by
  induction l generalizing c with
  | nil => simp [mad, nw_nil]
  | cons x r ih =>
    have e := ih ((c + x * 10) / W)
    have hd := Nat.mod_add_div (c + x * 10) W
    rw [mad, nw_cons, nw_cons, List.length_cons, Nat.pow_succ, Nat.mul_comm (W ^ r.length) W, Nat.mul_assoc, Nat.add_assoc, ← Nat.mul_add, e, Nat.mul_add]
    have : W * (nw r * 10) = W * nw r * 10 := by rw [Nat.mul_assoc]
    omega
theorem mad_carry (c : Nat) (l : List Nat) (hc : c ≤ 9) (hs : Small l) : (mad c l).2 ≤ 9 := by
  induction l generalizing c with
  | nil => exact hc
  | cons x r ih =>
    rw [mad]
    refine ih _ ?_ (fun y hy => hs y (List.mem_cons_of_mem _ hy))
    have hx := hs x List.mem_cons_self
    have : (c + x * 10) / W < 10 := Nat.div_lt_of_lt_mul (by omega)
    omega
theorem drop_set_append (q l : List Nat) (k y : Nat) (hq : q.length = k) (hk : k < l.length) : (q ++ l.drop k).set k y = q ++ [y] ++ l.drop (k + 1) := by
  rw [List.set_append_right _ _ (by omega), hq, Nat.sub_self, List.drop_eq_getElem_cons hk, List.set_cons_zero, List.append_assoc]
  rfl

/-- The number that digits stand for. -/
def dval (l : List UInt8) : Nat := l.foldl (fun n c => n * 10 + (c.toNat - 48)) 0
theorem dval_snoc (l : List UInt8) (c : UInt8) : dval (l ++ [c]) = dval l * 10 + (c.toNat - 48) := by simp [dval]
def isDig (c : UInt8) : Bool := decide (48 ≤ c.toNat ∧ c.toNat ≤ 57)
/-- Digits alone, and one at least. -/
def allDig (l : List UInt8) : Bool := !l.isEmpty && l.all isDig
/-- As nat.Parse takes it: digits, no nought ahead of others. -/
def wellDig (l : List UInt8) : Bool := allDig l && !(decide (1 < l.length) && l[0]?.getD 0 == 48)

end Go.Proofs.Ytockhhleapbpiaa


/- Plain facts on reckoning part by part with a carry. -/
namespace Go.Proofs.Ytockhhleapbpiaa

/-- The number of the first k parts of a row of any numbers. -/
def nwF (f : Nat → Nat) : Nat → Nat
  | 0 => 0
  | k + 1 => nwF f k + W ^ k * f k
theorem nwF_add (f g : Nat → Nat) (k : Nat) : nwF (fun j => f j + g j) k = nwF f k + nwF g k := by
  induction k with
  | zero => rfl
  | succ k ih => simp only [nwF, ih, Nat.mul_add]; omega
theorem nwF_mul (c : Nat) (f : Nat → Nat) (k : Nat) : nwF (fun j => c * f j) k = c * nwF f k := by
  induction k with
  | zero => rfl
  | succ k ih => simp only [nwF, ih, Nat.mul_add]; congr 1; rw [← Nat.mul_assoc, Nat.mul_comm (W ^ k) c, Nat.mul_assoc]
theorem nwF_take (l : List Nat) (k : Nat) : nwF (fun j => l[j]?.getD 0) k = nw (l.take k) := by
  induction k with
  | zero => simp [nwF, nw_nil]
  | succ k ih =>
    rw [nwF, ih]
    by_cases h : k < l.length
    · rw [nw_take_succ l k h, List.getElem?_eq_getElem h]; rfl
    · rw [List.getElem?_eq_none (by omega), List.take_of_length_le (by omega : l.length ≤ k), List.take_of_length_le (by omega : l.length ≤ k + 1)]; simp
theorem nwF_list (l : List Nat) (k : Nat) (h : l.length ≤ k) : nwF (fun j => l[j]?.getD 0) k = nw l := by rw [nwF_take, List.take_of_length_le h]
theorem nwF_congr {f g : Nat → Nat} {k : Nat} (h : ∀ j, j < k → f j = g j) : nwF f k = nwF g k := by
  induction k with
  | zero => rfl
  | succ k ih => rw [nwF, nwF, ih (fun j hj => h j (by omega)), h k (by omega)]

/-- A row of numbers brought to parts: the parts, and what is carried on. -/
def acc (f : Nat → Nat) : Nat → List Nat × Nat
  | 0 => ([], 0)
  | k + 1 => ((acc f k).1 ++ [((acc f k).2 + f k) % W], ((acc f k).2 + f k) / W)
theorem acc_length (f : Nat → Nat) (k : Nat) : (acc f k).1.length = k := by
  induction k with
  | zero => rfl
  | succ k ih => simp [acc, ih]
theorem acc_small (f : Nat → Nat) (k : Nat) : Small (acc f k).1 := by
  induction k with
  | zero => intro x hx; simp [acc] at hx
  | succ k ih =>
    intro x hx
    rw [acc] at hx
    rcases List.mem_append.1 hx with hx | hx
    · exact ih x hx
    · simp at hx; subst hx; exact Nat.mod_lt _ W_pos
theorem acc_eq (f : Nat → Nat) (k : Nat) : nw (acc f k).1 + W ^ k * (acc f k).2 = nwF f k := by
  induction k with
  | zero => simp [acc, nwF, nw_nil]
  | succ k ih =>
    rw [acc, nwF, nw_snoc, acc_length, ← ih, Nat.pow_succ, Nat.mul_assoc]
    have e := Nat.mod_add_div ((acc f k).2 + f k) W
    have : W ^ k * (((acc f k).2 + f k) % W) + W ^ k * (W * (((acc f k).2 + f k) / W)) = W ^ k * (acc f k).2 + W ^ k * f k := by
      rw [← Nat.mul_add, e, Nat.mul_add]
    show nw (acc f k).1 + W ^ k * (((acc f k).2 + f k) % W) + W ^ k * (W * (((acc f k).2 + f k) / W)) = _
    omega
theorem acc_carry (f : Nat → Nat) (b : Nat) (k : Nat) (h : ∀ j, j < k → f j + b < (b + 1) * W) : (acc f k).2 ≤ b := by
  induction k with
  | zero => exact Nat.zero_le _
  | succ k ih =>
    have h1 := ih (fun j hj => h j (by omega))
    have h2 := h k (by omega)
    rw [acc]
    have : ((acc f k).2 + f k) / W < b + 1 := Nat.div_lt_of_lt_mul (by rw [Nat.mul_comm]; omega)
    omega
theorem seg_set (a q l : List Nat) (i k y : Nat) (ha : a.length = i) (hq : q.length = k) (hk : i + k < l.length) : (a ++ q ++ l.drop (i + k)).set (i + k) y = a ++ (q ++ [y]) ++ l.drop (i + (k + 1)) := by
  rw [List.set_append_right _ _ (by rw [List.length_append]; omega), List.length_append, ha, hq, Nat.sub_self, List.drop_eq_getElem_cons hk, List.set_cons_zero]
  simp [List.append_assoc, Nat.add_assoc]
theorem seg_get (a q l : List Nat) (i k : Nat) (ha : a.length = i) (hq : q.length = k) : (a ++ q ++ l.drop (i + k))[i + k]?.getD 0 = l[i + k]?.getD 0 := by
  rw [List.getElem?_append_right (by rw [List.length_append]; omega), List.length_append, ha, hq, Nat.sub_self, List.getElem?_drop, Nat.add_zero]
theorem getD_lt {l : List Nat} (h : Small l) (j : Nat) : l[j]?.getD 0 < W := by
  by_cases hj : j < l.length
  · rw [List.getElem?_eq_getElem hj]; exact h _ (List.getElem_mem hj)
  · rw [List.getElem?_eq_none (by omega)]; exact W_pos
theorem small_append {a b : List Nat} (ha : Small a) (hb : Small b) : Small (a ++ b) := fun x hx => (List.mem_append.1 hx).elim (ha x) (hb x)
theorem small_drop {l : List Nat} (h : Small l) (k : Nat) : Small (l.drop k) := fun x hx => h x (List.mem_of_mem_drop hx)
/-- A number's parts cut in two. -/
theorem nw_cut (l : List Nat) (k : Nat) : nw l = nw (l.take k) + W ^ (min k l.length) * nw (l.drop k) := by
  have := nw_append (l.take k) (l.drop k)
  rwa [List.take_append_drop, List.length_take] at this
theorem nw_cut_le (l : List Nat) (k : Nat) (h : k ≤ l.length) : nw l = nw (l.take k) + W ^ k * nw (l.drop k) := by
  have := nw_cut l k
  rwa [Nat.min_eq_left h] at this
theorem nw_zeros (n : Nat) : nw (List.replicate n 0) = 0 := by
  induction n with
  | zero => rfl
  | succ n ih => rw [List.replicate_succ, nw_cons, ih]; simp
theorem small_zeros (n : Nat) : Small (List.replicate n 0) := fun x hx => by rw [(List.mem_replicate.1 hx).2]; exact W_pos
/-- Parts of one number, of one length, are the same. -/
theorem nw_inj : ∀ {a b : List Nat}, a.length = b.length → Small a → Small b → nw a = nw b → a = b
  | [], [], _, _, _, _ => rfl
  | x :: a, y :: b, hl, ha, hb, h => by
    have hx := ha x List.mem_cons_self
    have hy := hb y List.mem_cons_self
    rw [nw_cons, nw_cons] at h
    have h1 : x = y := by
      have := congrArg (· % W) h
      simp only [Nat.add_mul_mod_self_left] at this
      rwa [Nat.mod_eq_of_lt hx, Nat.mod_eq_of_lt hy] at this
    subst h1
    have h2 : nw a = nw b := Nat.eq_of_mul_eq_mul_left W_pos (by omega)
    rw [nw_inj (by simpa using hl) (fun z hz => ha z (List.mem_cons_of_mem _ hz)) (fun z hz => hb z (List.mem_cons_of_mem _ hz)) h2]

end Go.Proofs.Ytockhhleapbpiaa

