/- Rows of parts in memory: what lies where, and what a call that writes in its place leaves. -/
import Derived.Test.YtnnfmfdjgdgdhaaDoorCore1ToCore5
import Derived.Test.YtnnfmfdjgdgdhaaDoorNum
import Derived.Deep.LoopGhost
namespace Go.Proofs.YtnnfmfdjgdgdhaaDoor
open Go.RowKit

/-- From cell off on, block g (cells of parts, none of them frozen) holds the parts l. -/
def Lies (w : World) (g off : Nat) (l : List Nat) : Prop :=
  ∃ cur, w.heap[g]? = some (.cells cur 78 (0, 0)) ∧ off + l.length ≤ cur.size ∧ ∀ j, j < l.length → cur[off + j]? = some (u32 (l[j]?.getD 0))

theorem Lies.cell {w : World} {g off : Nat} {l : List Nat} (h : Lies w g off l) (j : Nat) (hj : j < l.length) : w.cell? ⟨g, off + j, none⟩ = some (.int .u32 (l[j]?.getD 0 : Nat)) := by
  obtain ⟨cur, hg, _, hc⟩ := h
  rw [cell_of_row w g (off + j) cur _ (0, 0) hg]
  exact hc j hj
theorem Lies.frozen {w : World} {g off : Nat} {l : List Nat} (h : Lies w g off l) (j : Nat) : w.frozen? ⟨g, j, none⟩ = false := by
  obtain ⟨cur, hg, _, _⟩ := h
  exact frozen_of_row w g j cur _ hg
theorem Lies.lt {w : World} {g off : Nat} {l : List Nat} (h : Lies w g off l) : g < w.heap.size := by
  obtain ⟨cur, hg, _, _⟩ := h
  exact (Array.getElem?_eq_some_iff.1 hg).1
/-- A block that has not turned. -/
theorem Lies.of_block {w w' : World} {g off : Nat} {l : List Nat} (h : Lies w g off l) (e : w'.heap[g]? = w.heap[g]?) : Lies w' g off l := by
  obtain ⟨cur, hg, h1, h2⟩ := h
  exact ⟨cur, e.trans hg, h1, h2⟩
theorem Lies.below {w w' : World} {g off B : Nat} {l : List Nat} (h : Lies w g off l) (hb : Below B w w') (hB : g < B) : Lies w' g off l := h.of_block (hb.block g hB)
theorem Lies.grown {w w' : World} {g off : Nat} {row : Option Nat} {l : List Nat} (h : Lies w g off l) (hb : w.grownBy w' row) (hne : some g ≠ row) : Lies w' g off l := h.of_block (hb.block g h.lt hne)
theorem Lies.alloc {w : World} {g off : Nat} {l : List Nat} (h : Lies w g off l) (o : Obj) : Lies (w.alloc o) g off l := h.of_block (Below.heap_alloc w o g h.lt)
/-- A piece of what lies there. -/
theorem Lies.piece {w : World} {g off : Nat} {l : List Nat} (h : Lies w g off l) (a n : Nat) (ha : a + n ≤ l.length) : Lies w g (off + a) ((l.drop a).take n) := by
  obtain ⟨cur, hg, h1, h2⟩ := h
  have hl : ((l.drop a).take n).length = n := by simp; omega
  refine ⟨cur, hg, by omega, fun j hj => ?_⟩
  rw [Nat.add_assoc, h2 (a + j) (by omega), List.getElem?_take, if_pos (by omega), List.getElem?_drop]

/-- Nothing has turned but cells off .. off + n - 1 of block g. -/
structure Upd (g off n : Nat) (w w' : World) : Prop where
  grown : w.grownBy w' (some g)
  inside : ∀ cur, w.heap[g]? = some (.cells cur 78 (0, 0)) → ∃ cur', w'.heap[g]? = some (.cells cur' 78 (0, 0)) ∧ cur'.size = cur.size ∧ ∀ i, (i < off ∨ off + n ≤ i) → cur'[i]? = cur[i]?

theorem Upd.refl (g off n : Nat) (w : World) : Upd g off n w w := ⟨World.grownBy.refl _ _, fun cur h => ⟨cur, h, rfl, fun _ _ => rfl⟩⟩
theorem Upd.trans {g off n : Nat} {a b c : World} (h : Upd g off n a b) (k : Upd g off n b c) : Upd g off n a c :=
  ⟨h.grown.trans k.grown, fun cur hc => by
    obtain ⟨c1, g1, s1, e1⟩ := h.inside cur hc
    obtain ⟨c2, g2, s2, e2⟩ := k.inside c1 g1
    exact ⟨c2, g2, s2.trans s1, fun i hi => (e2 i hi).trans (e1 i hi)⟩⟩
theorem Upd.mono {g off n off' n' : Nat} {w w' : World} (h : Upd g off n w w') (h1 : off' ≤ off) (h2 : off + n ≤ off' + n') : Upd g off' n' w w' :=
  ⟨h.grown, fun cur hc => by
    obtain ⟨c1, g1, s1, e1⟩ := h.inside cur hc
    exact ⟨c1, g1, s1, fun i hi => e1 i (by omega)⟩⟩
theorem Upd.drew {g off n : Nat} {a b : World} (h : Upd g off n a b) : Upd g off n a b.drew := ⟨⟨h.grown.os, h.grown.tape, h.grown.output, h.grown.size, h.grown.block⟩, h.inside⟩
theorem Upd.below {g off n B : Nat} {a w w' : World} (hb : Below B a w) (h : Upd g off n w w') (hB : B ≤ g) (hs : B ≤ w.heap.size) : Below B a w' :=
  hb.grown h.grown hs (fun k e => by cases e; exact hB)

theorem heap_setCell_row (w : World) (g j : Nat) (cur : Array Value) (t : TypeId) (u : Value) (hg : w.heap[g]? = some (.cells cur t (0, 0))) : (w.setCell ⟨g, j, none⟩ u).heap[g]? = some (.cells (cur.setIfInBounds j u) t (0, 0)) :=
  heap_setCell_same w g j cur t u hg

theorem Upd.setCell {g off n j : Nat} {w : World} (h1 : off ≤ j) (h2 : j < off + n) (u : Value) : Upd g off n w (w.setCell ⟨g, j, none⟩ u) := by
  refine ⟨⟨rfl, rfl, rfl, by simp [World.setCell], fun k _ hk => Below.heap_setCell _ _ _ _ (by rintro rfl; exact hk rfl)⟩, fun cur hc => ?_⟩
  refine ⟨_, heap_setCell_row w g j cur _ u hc, by simp, fun i hi => ?_⟩
  rw [Array.getElem?_setIfInBounds_ne (by omega)]

/-- A store into what lies there. -/
theorem Lies.set {w : World} {g off : Nat} {l : List Nat} (h : Lies w g off l) (j : Nat) (hj : j < l.length) (x : Nat) : Lies (w.setCell ⟨g, off + j, none⟩ (.int .u32 (x : Nat))) g off (l.set j x) := by
  obtain ⟨cur, hg, h1, h2⟩ := h
  refine ⟨_, heap_setCell_row w g (off + j) cur _ _ hg, by simpa using h1, fun i hi => ?_⟩
  rw [List.length_set] at hi
  by_cases e : i = j
  · subst e
    rw [Array.getElem?_setIfInBounds_self_of_lt (by omega)]
    simp [hj, u32]
  · rw [Array.getElem?_setIfInBounds_ne (by omega), h2 i hi, List.getElem?_set_ne (by omega)]

/-- What lies beside the written cells lies on. -/
theorem Lies.beside {w w' : World} {g off off' n : Nat} {l : List Nat} (h : Lies w g off l) (hu : Upd g off' n w w') (hd : off + l.length ≤ off' ∨ off' + n ≤ off) : Lies w' g off l := by
  obtain ⟨cur, hg, h1, h2⟩ := h
  obtain ⟨c1, g1, s1, e1⟩ := hu.inside cur hg
  exact ⟨c1, g1, by omega, fun j hj => (e1 (off + j) (by omega)).trans (h2 j hj)⟩
/-- .. or in another block. -/
theorem Lies.apart {w w' : World} {g g' off off' n : Nat} {l : List Nat} (h : Lies w g off l) (hu : Upd g' off' n w w') (hd : g ≠ g') : Lies w' g off l :=
  h.grown hu.grown (by simp [hd])
/-- Two pieces side by side. -/
theorem Lies.append {w : World} {g off : Nat} {a b : List Nat} (ha : Lies w g off a) (hb : Lies w g (off + a.length) b) : Lies w g off (a ++ b) := by
  obtain ⟨cur, hg, h1, h2⟩ := ha
  obtain ⟨cur', hg', h3, h4⟩ := hb
  rw [hg] at hg'
  cases hg'
  refine ⟨cur, hg, by simp; omega, fun j hj => ?_⟩
  rw [List.length_append] at hj
  by_cases e : j < a.length
  · rw [List.getElem?_append_left e, h2 j e]
  · rw [List.getElem?_append_right (by omega)]
    have := h4 (j - a.length) (by omega)
    rwa [show off + a.length + (j - a.length) = off + j by omega] at this

/-- A slice that the call owns: its row. -/
theorem own_lies {w : World} {base g n cap : Nat} {l : List Nat} (h : w.ownsRow base 78 1 (.slice (some ⟨g, 0, none⟩) n cap) n (l.map u32)) : n = l.length ∧ l.length ≤ cap ∧ base ≤ g ∧ Lies w g 0 l := by
  have hn : n = l.length := by have := h.1; simp at this; exact this.symm
  rcases h.2 with ⟨h', _⟩ | ⟨g', cap', cur, h', hb, hg, hnc, _, hsz, htk⟩
  · cases h'
  · cases h'
    refine ⟨hn, by omega, hb, cur, hg, by omega, fun j hj => ?_⟩
    have e : (cur.toList.take (n * 1))[j]? = (l.map u32)[j]? := by rw [htk]
    rw [List.getElem?_take, if_pos (by omega), List.getElem?_map, List.getElem?_eq_getElem hj] at e
    rw [Nat.zero_add, List.getElem?_eq_getElem hj]
    simpa using e
/-- .. and back, behind writes in its place. -/
theorem own_upd {w w' : World} {base g n cap m : Nat} {l l' : List Nat} (h : w.ownsRow base 78 1 (.slice (some ⟨g, 0, none⟩) n cap) n (l.map u32)) (hu : Upd g 0 m w w') (hl : Lies w' g 0 l') (hlen : l'.length = n) : w'.ownsRow base 78 1 (.slice (some ⟨g, 0, none⟩) n cap) n (l'.map u32) := by
  refine ⟨by simp [hlen], ?_⟩
  rcases h.2 with ⟨h', _⟩ | ⟨g', cap', cur, h', hb, hg, hnc, hm, hsz, htk⟩
  · cases h'
  · cases h'
    obtain ⟨c1, g1, s1, _⟩ := hu.inside cur hg
    obtain ⟨c2, g2, h1, h2⟩ := hl
    rw [g1] at g2
    cases g2
    refine .inr ⟨g, cap, c1, rfl, hb, g1, hnc, hm, by omega, ?_⟩
    apply List.ext_getElem?
    intro i
    rw [List.getElem?_take, List.getElem?_map]
    by_cases hi : i < l'.length
    · have := h2 i hi
      rw [Nat.zero_add, List.getElem?_eq_getElem hi] at this
      rw [if_pos (by omega), List.getElem?_eq_getElem hi, Array.getElem?_toList, this]
      rfl
    · rw [if_neg (by omega), List.getElem?_eq_none (by omega)]; rfl
theorem own_len {w : World} {base : Nat} {v : Value} {n : Nat} {l : List Nat} (h : w.ownsRow base 78 1 v n (l.map u32)) : n = l.length := by have := h.1; simp at this; exact this.symm
theorem own_base {w : World} {base base' : Nat} {e : TypeId} {size n : Nat} {v : Value} {xs : List Value} (h : w.ownsRow base e size v n xs) (hb : base' ≤ base) : w.ownsRow base' e size v n xs := by
  refine ⟨h.1, ?_⟩
  rcases h.2 with h' | ⟨g, cap, cur, r1, r2, r3⟩
  · exact .inl h'
  · exact .inr ⟨g, cap, cur, r1, by omega, r3⟩
theorem own_below {w w' : World} {base B : Nat} {e : TypeId} {size n : Nat} {v : Value} {xs : List Value} (h : w.ownsRow base e size v n xs) (hb : Below B w w') (hB : w.heap.size ≤ B) : w'.ownsRow base e size v n xs := by
  refine ⟨h.1, ?_⟩
  rcases h.2 with h' | ⟨g, cap, cur, r1, r2, r3, r4⟩
  · exact .inl h'
  · exact .inr ⟨g, cap, cur, r1, r2, (hb.block g (Nat.lt_of_lt_of_le (Array.getElem?_eq_some_iff.1 r3).1 hB)).trans r3, r4⟩
/-- A row made full. -/
theorem own_of_lies {w : World} {base g cap : Nat} {l : List Nat} (cur : Array Value) (hg : w.heap[g]? = some (.cells cur 78 (0, 0))) (hs : cur.size = cap) (hb : base ≤ g) (hm : cap ≤ maxLen) (hc : l.length ≤ cap) (hl : Lies w g 0 l) : w.ownsRow base 78 1 (.slice (some ⟨g, 0, none⟩) l.length cap) l.length (l.map u32) := by
  refine ⟨by simp, .inr ⟨g, cap, cur, rfl, hb, hg, hc, hm, by omega, ?_⟩⟩
  obtain ⟨c2, g2, h1, h2⟩ := hl
  rw [hg] at g2
  cases g2
  apply List.ext_getElem?
  intro i
  rw [List.getElem?_take, List.getElem?_map]
  by_cases hi : i < l.length
  · have := h2 i hi
    rw [Nat.zero_add, List.getElem?_eq_getElem hi] at this
    rw [if_pos (by omega), List.getElem?_eq_getElem hi, Array.getElem?_toList, this]
    rfl
  · rw [if_neg (by omega), List.getElem?_eq_none (by omega)]; rfl

end Go.Proofs.YtnnfmfdjgdgdhaaDoor


/- shorten and gather of package nat, of a slice that the caller owns, nil or not. -/
namespace Go.Proofs.YtnnfmfdjgdgdhaaDoor
open Go.RowKit

/-- The slice value v, in a block from base on, holds the parts l, and nobody else's; or it is nil and there are none. -/
def Has (w : World) (base : Nat) (v : Value) (l : List Nat) : Prop := w.ownsRow base 78 1 v l.length (l.map u32)

theorem Has.cases {w : World} {base : Nat} {v : Value} {l : List Nat} (h : Has w base v l) : (v = .slice none 0 0 ∧ l = []) ∨ ∃ g cap, v = .slice (some ⟨g, 0, none⟩) l.length cap ∧ l.length ≤ cap ∧ base ≤ g ∧ Lies w g 0 l := by
  rcases h.2 with ⟨hv, hn⟩ | ⟨g, cap, cur, hv, r⟩
  · exact .inl ⟨hv, List.eq_nil_of_length_eq_zero hn⟩
  · subst hv
    obtain ⟨_, h1, h2, h3⟩ := own_lies h
    exact .inr ⟨g, cap, rfl, h1, h2, h3⟩
theorem Has.mono {w : World} {base base' : Nat} {v : Value} {l : List Nat} (h : Has w base v l) (hb : base' ≤ base) : Has w base' v l := own_base h hb
theorem Has.below {w w' : World} {base B : Nat} {v : Value} {l : List Nat} (h : Has w base v l) (hb : Below B w w') (hB : w.heap.size ≤ B) : Has w' base v l := own_below h hb hB

theorem cut_own {w : World} {base g n cap : Nat} {l : List Nat} (k : Nat) (hk : k ≤ l.length) (h : w.ownsRow base 78 1 (.slice (some ⟨g, 0, none⟩) n cap) n (l.map u32)) : w.ownsRow base 78 1 (.slice (some ⟨g, 0, none⟩) k cap) k ((l.take k).map u32) := by
  have hn := own_len h
  refine ⟨by simp; omega, ?_⟩
  rcases h.2 with ⟨h', _⟩ | ⟨g', cap', cur, h', hb, hg, hnc, hm, hsz, htk⟩
  · cases h'
  · cases h'
    refine .inr ⟨g, cap, cur, rfl, hb, hg, by omega, hm, hsz, ?_⟩
    rw [List.map_take, ← htk, List.take_take, Nat.min_eq_left (by omega), Nat.mul_one]

theorem shorten_own (base : Nat) (v : Value) (l : List Nat) (w : World) (hs : Small l) (hlen : l.length ≤ 35184372088832) (h : Has w base v l) :
    Calls Tryd.prog 67 #[v] w fun e w' => ∃ v', e = .returned v' ∧ Has w base v' (words (nw l)) ∧ v'.ownBlock = v.ownBlock ∧ w' = w := by
  rcases h.cases with ⟨rfl, rfl⟩ | ⟨g, cap, rfl, hcap, hb, hl⟩
  · refine (shorten_nil w).mono ?_
    rintro e w' ⟨rfl, rfl⟩
    exact ⟨_, rfl, by rw [nw_nil, words_zero]; exact h, rfl, rfl⟩
  · refine (shorten_any g 0 cap l w hs hcap (by omega) (fun j hj => hl.cell j hj)).mono ?_
    rintro e w' ⟨rfl, rfl⟩
    obtain ⟨k, hk, hw⟩ := words_prefix l hs
    have hkl : (words (nw l)).length = k := by rw [hw]; simp; omega
    have := cut_own k hk h
    rw [← hw] at this
    exact ⟨_, rfl, by rw [Has, hkl]; exact this, rfl, rfl⟩

set_option maxRecDepth 100000 in
set_option maxHeartbeats 1000000 in
theorem gather_nil (w : World) : Calls Tryd.prog 54 #[.slice none 0 0] w fun e w' => e = .returned (.string (B 0)) ∧ Below w.heap.size w w' := by
  obtain ⟨i0, hi, hz0, hz1, hz2⟩ := info_parts Tryd.infoByte
  have hconv := fun (w2 : World) => run_convert_bytes_arg (P := Tryd.prog) w2 59 5 Tryd.underlying59 Tryd.underlying5 w.heap.size 0 0 0 [] rfl (fun i hi => absurd hi (Nat.not_lt_zero _)) 28 Tryd.underlying28
  have HB : Hid (N (strOfNums []) = 0) := rfl
  go_enter Tryd.func54, Tryd.ntmps54
  go_wp2_with (first
    | (go_at_call 67; refine (shorten_nil _).mono ?_; rintro e w1 ⟨rfl, hw1⟩; subst hw1)
    | (at_make; refine wpList_make_full _ rfl _ _ 59 rfl w1.heap.size 5 i0 (.int .u8 0) 1 Tryd.underlying59 hi hz0 hz1 .i64 .i64 _ _ 0 rfl rfl rfl rfl (by omega) (by unfold maxLen; omega) (Nat.le_refl _) ?_; intro w2 hown2 hgrow2))
  refine wp_loop_rounds 1 ?_
  rw [rounds_succ]
  go_wp2_with (go_at_call 62; refine (bare_any _ _).mono ?_; rintro e w3 ⟨rfl, hw1⟩; subst hw1)
  go_ret
  exact ⟨by rw [HB.out]; rfl, (Below.refl _ w1).grown hgrow2 (Nat.le_refl _) (fun k e => by cases e)⟩

theorem gather_own (base : Nat) (v : Value) (l : List Nat) (w : World) (hs : Small l) (hlen : l.length ≤ 35184372088832) (h : Has w base v l) :
    Calls Tryd.prog 54 #[v] w fun e w' => e = .returned (.string (B (nw l))) ∧ Below w.heap.size w w' := by
  rcases h.cases with ⟨rfl, rfl⟩ | ⟨g, cap, rfl, hcap, hb, hl⟩
  · rw [nw_nil]; exact gather_nil w
  · exact gather_some g cap l w hs hcap hlen hl.lt (fun j hj => hl.cell j hj)

end Go.Proofs.YtnnfmfdjgdgdhaaDoor


/- divideByGroup and groupsOf of package nat. -/
namespace Go.Proofs.YtnnfmfdjgdgdhaaDoor
open Go.RowKit

theorem or_u64 (r x : Nat) (hr : r < 4294967296) (hx : x < 4294967296) : bits .or .u64 ((r : Int) * 4294967296) (x : Int) = ((r * 4294967296 + x : Nat) : Int) := by
  have e1 : (r : Int) * 4294967296 = ((r * 4294967296 : Nat) : Int) := by omega
  rw [e1, u64_or_nat _ _ (by omega) (by omega), nat_join 32 _ _ (by omega) (by omega)]

end Go.Proofs.YtnnfmfdjgdgdhaaDoor


/- Plain facts on groups of nine digits. -/
namespace Go.Proofs.YtnnfmfdjgdgdhaaDoor

/-- 10^9. -/
def G : Nat := 1000000000
theorem G_eq : G = 1000000000 := rfl
theorem G_pos : 0 < G := by decide
/-- A number's groups of nine digits, the lowest first. -/
def grp (n : Nat) : List Nat := if _h : n = 0 then [] else (n % 1000000000) :: grp (n / 1000000000)
theorem grp_zero : grp 0 = [] := by rw [grp, dif_pos rfl]
theorem grp_pos (n : Nat) (h : n ≠ 0) : grp n = (n % G) :: grp (n / G) := by rw [grp, dif_neg h, G_eq]
theorem div_G_lt {n : Nat} (h : n ≠ 0) : n / G < n := Nat.div_lt_self (Nat.pos_of_ne_zero h) (by decide)
theorem grp_nil_iff (n : Nat) : grp n = [] ↔ n = 0 := by
  constructor
  · intro h
    by_cases e : n = 0
    · exact e
    · rw [grp_pos n e] at h; cases h
  · rintro rfl; exact grp_zero
theorem grp_lt (n : Nat) : ∀ x ∈ grp n, x < G := by
  induction n using Nat.strongRecOn with
  | ind n ih =>
    by_cases h : n = 0
    · subst h; simp [grp_zero]
    · rw [grp_pos n h]
      intro x hx
      rcases List.mem_cons.1 hx with rfl | hx
      · exact Nat.mod_lt _ G_pos
      · exact ih _ (div_G_lt h) x hx
theorem grp_length_le (k : Nat) : ∀ n, n < G ^ k → (grp n).length ≤ k := by
  induction k with
  | zero => intro n h; rw [Nat.pow_zero] at h; have : n = 0 := by omega
            subst this; simp [grp_zero]
  | succ k ih =>
    intro n h
    by_cases e : n = 0
    · subst e; simp [grp_zero]
    · rw [grp_pos n e, List.length_cons]
      have := ih (n / G) (Nat.div_lt_of_lt_mul (by rw [Nat.pow_succ] at h; rw [Nat.mul_comm]; exact h))
      omega
theorem W_le_GG : W ≤ G ^ 2 := by decide
theorem grp_words (n : Nat) : (grp n).length ≤ 2 * (words n).length := by
  refine grp_length_le _ _ ?_
  have h := nw_lt _ (words_small n)
  rw [nw_words] at h
  rw [Nat.pow_mul]
  exact Nat.lt_of_lt_of_le h (Nat.pow_le_pow_left W_le_GG _)

end Go.Proofs.YtnnfmfdjgdgdhaaDoor


/- groupsOf of package nat: the groups of nine digits of the number that the slice holds; the slice is used up. -/
namespace Go.Proofs.YtnnfmfdjgdgdhaaDoor
open Go.RowKit

theorem hide {p : Prop} (h : p) : Hid p := h
theorem Has.kept {w w' : World} {base : Nat} {v : Value} {l : List Nat} {row : Option Nat} (h : Has w base v l) (hg : w.grownBy w' row) (hne : v.ownBlock = none ∨ v.ownBlock ≠ row) : Has w' base v l := World.ownsRow.kept h hg hne
theorem Has.far {w : World} {base g : Nat} {v : Value} {l : List Nat} (h : Has w base v l) (hg : g < base) : v.ownBlock = none ∨ v.ownBlock ≠ some g := by
  cases hc : v.ownBlock with
  | none => exact .inl rfl
  | some k =>
    refine .inr fun e => ?_
    cases e
    have := (World.ownsRow.lt h g hc).1
    omega
theorem far_symm {a : Option Nat} {g : Nat} (h : a = none ∨ a ≠ some g) : some g ≠ a := by
  rcases h with rfl | h
  · simp
  · exact fun e => h e.symm
theorem Has.upd {w w' : World} {base g n cap m : Nat} {l l' : List Nat} (h : Has w base (.slice (some ⟨g, 0, none⟩) n cap) l) (hu : Upd g 0 m w w') (hl : Lies w' g 0 l') (hlen : l'.length = l.length) : Has w' base (.slice (some ⟨g, 0, none⟩) n cap) l' := by
  have hn : n = l.length := by
    rcases h.2 with ⟨h', _⟩ | ⟨g', cap', cur, h', _⟩
    · cases h'
    · cases h'; rfl
  subst hn
  have := own_upd h hu hl hlen
  rw [Has, hlen]; exact this

end Go.Proofs.YtnnfmfdjgdgdhaaDoor


/- Plain facts on reading digits. -/
namespace Go.Proofs.YtnnfmfdjgdgdhaaDoor

/-- Times ten and c more, part by part: the parts, and what runs over. -/
def mad (c : Nat) : List Nat → List Nat × Nat
  | [] => ([], c)
  | x :: r => ((c + x * 10) % W :: (mad ((c + x * 10) / W) r).1, (mad ((c + x * 10) / W) r).2)
theorem mad_snoc (a : List Nat) (x : Nat) : ∀ c, mad c (a ++ [x]) = ((mad c a).1 ++ [((mad c a).2 + x * 10) % W], ((mad c a).2 + x * 10) / W) := by
  induction a with
  | nil => intro c; rfl
  | cons y a ih => intro c; rw [List.cons_append, mad, ih]; rfl
theorem mad_length (c : Nat) (l : List Nat) : (mad c l).1.length = l.length := by
  induction l generalizing c with
  | nil => rfl
  | cons x r ih => rw [mad, List.length_cons, ih, List.length_cons]
theorem mad_small (c : Nat) (l : List Nat) : Small (mad c l).1 := by
  induction l generalizing c with
  | nil => intro x hx; simp [mad] at hx
  | cons x r ih =>
    intro y hy
    rw [mad] at hy
    rcases List.mem_cons.1 hy with rfl | hy
    · exact Nat.mod_lt _ W_pos
    · exact ih _ y hy
theorem mad_eq (c : Nat) (l : List Nat) : nw (mad c l).1 + W ^ l.length * (mad c l).2 = nw l * 10 + c := by
  induction l generalizing c with
  | nil => simp [mad, nw_nil]
  | cons x r ih =>
    have e := ih ((c + x * 10) / W)
    have hd := Nat.mod_add_div (c + x * 10) W
    rw [mad, nw_cons, nw_cons, List.length_cons, Nat.pow_succ, Nat.mul_comm (W ^ r.length) W, Nat.mul_assoc, Nat.add_assoc, ← Nat.mul_add, e, Nat.mul_add]
    have : W * (nw r * 10) = W * nw r * 10 := by rw [Nat.mul_assoc]
    omega
theorem mad_carry (c : Nat) (l : List Nat) (hc : c ≤ 9) (hs : Small l) : (mad c l).2 ≤ 9 := by
  induction l generalizing c with
  | nil => exact hc
  | cons x r ih =>
    rw [mad]
    refine ih _ ?_ (fun y hy => hs y (List.mem_cons_of_mem _ hy))
    have hx := hs x List.mem_cons_self
    have : (c + x * 10) / W < 10 := Nat.div_lt_of_lt_mul (by omega)
    omega
theorem drop_set_append (q l : List Nat) (k y : Nat) (hq : q.length = k) (hk : k < l.length) : (q ++ l.drop k).set k y = q ++ [y] ++ l.drop (k + 1) := by
  rw [List.set_append_right _ _ (by omega), hq, Nat.sub_self, List.drop_eq_getElem_cons hk, List.set_cons_zero, List.append_assoc]
  rfl

/-- The number that digits stand for. -/
def dval (l : List UInt8) : Nat := l.foldl (fun n c => n * 10 + (c.toNat - 48)) 0
theorem dval_snoc (l : List UInt8) (c : UInt8) : dval (l ++ [c]) = dval l * 10 + (c.toNat - 48) := by simp [dval]
def isDig (c : UInt8) : Bool := decide (48 ≤ c.toNat ∧ c.toNat ≤ 57)
/-- Digits alone, and one at least. -/
def allDig (l : List UInt8) : Bool := !l.isEmpty && l.all isDig
/-- As nat.Parse takes it: digits, no nought ahead of others. -/
def wellDig (l : List UInt8) : Bool := allDig l && !(decide (1 < l.length) && l[0]?.getD 0 == 48)

end Go.Proofs.YtnnfmfdjgdgdhaaDoor


/- Plain facts on reckoning part by part with a carry. -/
namespace Go.Proofs.YtnnfmfdjgdgdhaaDoor

/-- The number of the first k parts of a row of any numbers. -/
def nwF (f : Nat → Nat) : Nat → Nat
  | 0 => 0
  | k + 1 => nwF f k + W ^ k * f k
theorem nwF_add (f g : Nat → Nat) (k : Nat) : nwF (fun j => f j + g j) k = nwF f k + nwF g k := by
  induction k with
  | zero => rfl
  | succ k ih => simp only [nwF, ih, Nat.mul_add]; omega
theorem nwF_mul (c : Nat) (f : Nat → Nat) (k : Nat) : nwF (fun j => c * f j) k = c * nwF f k := by
  induction k with
  | zero => rfl
  | succ k ih => simp only [nwF, ih, Nat.mul_add]; congr 1; rw [← Nat.mul_assoc, Nat.mul_comm (W ^ k) c, Nat.mul_assoc]
theorem nwF_take (l : List Nat) (k : Nat) : nwF (fun j => l[j]?.getD 0) k = nw (l.take k) := by
  induction k with
  | zero => simp [nwF, nw_nil]
  | succ k ih =>
    rw [nwF, ih]
    by_cases h : k < l.length
    · rw [nw_take_succ l k h, List.getElem?_eq_getElem h]; rfl
    · rw [List.getElem?_eq_none (by omega), List.take_of_length_le (by omega : l.length ≤ k), List.take_of_length_le (by omega : l.length ≤ k + 1)]; simp
theorem nwF_list (l : List Nat) (k : Nat) (h : l.length ≤ k) : nwF (fun j => l[j]?.getD 0) k = nw l := by rw [nwF_take, List.take_of_length_le h]
theorem nwF_congr {f g : Nat → Nat} {k : Nat} (h : ∀ j, j < k → f j = g j) : nwF f k = nwF g k := by
  induction k with
  | zero => rfl
  | succ k ih => rw [nwF, nwF, ih (fun j hj => h j (by omega)), h k (by omega)]

/-- A row of numbers brought to parts: the parts, and what is carried on. -/
def acc (f : Nat → Nat) : Nat → List Nat × Nat
  | 0 => ([], 0)
  | k + 1 => ((acc f k).1 ++ [((acc f k).2 + f k) % W], ((acc f k).2 + f k) / W)
theorem acc_length (f : Nat → Nat) (k : Nat) : (acc f k).1.length = k := by
  induction k with
  | zero => rfl
  | succ k ih => simp [acc, ih]
theorem acc_small (f : Nat → Nat) (k : Nat) : Small (acc f k).1 := by
  induction k with
  | zero => intro x hx; simp [acc] at hx
  | succ k ih =>
    intro x hx
    rw [acc] at hx
    rcases List.mem_append.1 hx with hx | hx
    · exact ih x hx
    · simp at hx; subst hx; exact Nat.mod_lt _ W_pos
theorem acc_eq (f : Nat → Nat) (k : Nat) : nw (acc f k).1 + W ^ k * (acc f k).2 = nwF f k := by
  induction k with
  | zero => simp [acc, nwF, nw_nil]
  | succ k ih =>
    rw [acc, nwF, nw_snoc, acc_length, ← ih, Nat.pow_succ, Nat.mul_assoc]
    have e := Nat.mod_add_div ((acc f k).2 + f k) W
    have : W ^ k * (((acc f k).2 + f k) % W) + W ^ k * (W * (((acc f k).2 + f k) / W)) = W ^ k * (acc f k).2 + W ^ k * f k := by
      rw [← Nat.mul_add, e, Nat.mul_add]
    show nw (acc f k).1 + W ^ k * (((acc f k).2 + f k) % W) + W ^ k * (W * (((acc f k).2 + f k) / W)) = _
    omega
theorem acc_carry (f : Nat → Nat) (b : Nat) (k : Nat) (h : ∀ j, j < k → f j + b < (b + 1) * W) : (acc f k).2 ≤ b := by
  induction k with
  | zero => exact Nat.zero_le _
  | succ k ih =>
    have h1 := ih (fun j hj => h j (by omega))
    have h2 := h k (by omega)
    rw [acc]
    have : ((acc f k).2 + f k) / W < b + 1 := Nat.div_lt_of_lt_mul (by rw [Nat.mul_comm]; omega)
    omega
theorem seg_set (a q l : List Nat) (i k y : Nat) (ha : a.length = i) (hq : q.length = k) (hk : i + k < l.length) : (a ++ q ++ l.drop (i + k)).set (i + k) y = a ++ (q ++ [y]) ++ l.drop (i + (k + 1)) := by
  rw [List.set_append_right _ _ (by rw [List.length_append]; omega), List.length_append, ha, hq, Nat.sub_self, List.drop_eq_getElem_cons hk, List.set_cons_zero]
  simp [List.append_assoc, Nat.add_assoc]
theorem seg_get (a q l : List Nat) (i k : Nat) (ha : a.length = i) (hq : q.length = k) : (a ++ q ++ l.drop (i + k))[i + k]?.getD 0 = l[i + k]?.getD 0 := by
  rw [List.getElem?_append_right (by rw [List.length_append]; omega), List.length_append, ha, hq, Nat.sub_self, List.getElem?_drop, Nat.add_zero]
theorem getD_lt {l : List Nat} (h : Small l) (j : Nat) : l[j]?.getD 0 < W := by
  by_cases hj : j < l.length
  · rw [List.getElem?_eq_getElem hj]; exact h _ (List.getElem_mem hj)
  · rw [List.getElem?_eq_none (by omega)]; exact W_pos
theorem small_append {a b : List Nat} (ha : Small a) (hb : Small b) : Small (a ++ b) := fun x hx => (List.mem_append.1 hx).elim (ha x) (hb x)
theorem small_drop {l : List Nat} (h : Small l) (k : Nat) : Small (l.drop k) := fun x hx => h x (List.mem_of_mem_drop hx)
/-- A number's parts cut in two. -/
theorem nw_cut (l : List Nat) (k : Nat) : nw l = nw (l.take k) + W ^ (min k l.length) * nw (l.drop k) := by
  have := nw_append (l.take k) (l.drop k)
  rwa [List.take_append_drop, List.length_take] at this
theorem nw_cut_le (l : List Nat) (k : Nat) (h : k ≤ l.length) : nw l = nw (l.take k) + W ^ k * nw (l.drop k) := by
  have := nw_cut l k
  rwa [Nat.min_eq_left h] at this
theorem nw_zeros (n : Nat) : nw (List.replicate n 0) = 0 := by
  induction n with
  | zero => rfl
  | succ n ih => rw [List.replicate_succ, nw_cons, ih]; simp
theorem small_zeros (n : Nat) : Small (List.replicate n 0) := fun x hx => by rw [(List.mem_replicate.1 hx).2]; exact W_pos
/-- Parts of one number, of one length, are the same. -/
theorem nw_inj : ∀ {a b : List Nat}, a.length = b.length → Small a → Small b → nw a = nw b → a = b
  | [], [], _, _, _, _ => rfl
  | x :: a, y :: b, hl, ha, hb, h => by
    have hx := ha x List.mem_cons_self
    have hy := hb y List.mem_cons_self
    rw [nw_cons, nw_cons] at h
    have h1 : x = y := by
      have := congrArg (· % W) h
      simp only [Nat.add_mul_mod_self_left] at this
      rwa [Nat.mod_eq_of_lt hx, Nat.mod_eq_of_lt hy] at this
    subst h1
    have h2 : nw a = nw b := Nat.eq_of_mul_eq_mul_left W_pos (by omega)
    rw [nw_inj (by simpa using hl) (fun z hz => ha z (List.mem_cons_of_mem _ hz)) (fun z hz => hb z (List.mem_cons_of_mem _ hz)) h2]

end Go.Proofs.YtnnfmfdjgdgdhaaDoor


/- putBack of package nat: the sum, in the place of its first argument; does it run over its end? -/
namespace Go.Proofs.YtnnfmfdjgdgdhaaDoor
open Go.RowKit

/-- What stands at place j of a sum that is not yet brought to parts. -/
def sumF (xs ys : List Nat) (j : Nat) : Nat := xs[j]?.getD 0 + ys[j]?.getD 0
theorem sumF_nw (xs ys : List Nat) (k : Nat) : nwF (sumF xs ys) k = nw (xs.take k) + nw (ys.take k) := by
  rw [show sumF xs ys = fun j => (fun j => xs[j]?.getD 0) j + (fun j => ys[j]?.getD 0) j from rfl, nwF_add, nwF_take, nwF_take]
theorem sumF_carry (xs ys : List Nat) (hx : Small xs) (hy : Small ys) (k : Nat) : (acc (sumF xs ys) k).2 ≤ 1 := by
  refine acc_carry _ 1 k fun j _ => ?_
  have h1 := getD_lt hx j
  have h2 := getD_lt hy j
  unfold sumF
  omega

set_option maxRecDepth 100000 in
set_option maxHeartbeats 4000000 in
theorem putBack_any (g off cap b offy capy : Nat) (xs ys : List Nat) (w : World) (hsx : Small xs) (hsy : Small ys) (hlen : xs.length ≤ 35184372088832) (hyx : ys.length ≤ xs.length) (hx : Lies w g off xs) (hy : Lies w b offy ys) (hgb : b ≠ g) :
    Calls Tryd.prog 68 #[.slice (some ⟨g, off, none⟩) xs.length cap, .slice (some ⟨b, offy, none⟩) ys.length capy] w fun e w' => ∃ (c : Bool) (l' : List Nat), e = .returned (.bool c) ∧ l'.length = xs.length ∧ Small l' ∧ nw l' + (if c then W ^ xs.length else 0) = nw xs + nw ys ∧ Lies w' g off l' ∧ Upd g off xs.length w w' := by
  go_enter Tryd.func68, Tryd.ntmps68
  go_wp2
  go_loopw [5, 9] (fun c i wr => ∃ k : Nat, k ≤ xs.length ∧ i = .int .i64 k ∧ c = .int .u64 ((acc (sumF xs ys) k).2 : Nat) ∧ Lies wr g off ((acc (sumF xs ys) k).1 ++ xs.drop k) ∧ Upd g off xs.length w wr)
    (fun _ i _ => xs.length - (intOf i).toNat)
  case atStart => exact ⟨0, Nat.zero_le _, rfl, rfl, by simpa [acc] using hx, Upd.refl _ _ _ _⟩
  case round =>
    obtain ⟨k, hk, rfl, rfl, hlr, hur⟩ := hrel
    have hcy := sumF_carry xs ys hsx hsy k
    have hql := acc_length (sumF xs ys) k
    have hqs := acc_small (sumF xs ys) k
    have HQ := hide (acc_eq (sumF xs ys) k)
    by_cases hlt : k < xs.length
    · have hlen2 : k < ((acc (sumF xs ys) k).1 ++ xs.drop k).length := by rw [List.length_append, hql, List.length_drop]; omega
      have hcell := hlr.cell k hlen2
      have hfz := hlr.frozen (off + k)
      have hset := fun y => hlr.set k hlen2 y
      simp only [drop_set_append _ xs k _ hql hlt] at hset
      have hgm : ((acc (sumF xs ys) k).1 ++ xs.drop k)[k]?.getD 0 = xs[k]?.getD 0 := by
        rw [List.getElem?_append_right (by omega), hql, Nat.sub_self, List.getElem?_drop, Nat.add_zero]
      rw [hgm] at hcell
      have HG : Hid (acc (sumF xs ys) (k + 1) = ((acc (sumF xs ys) k).1 ++ [((acc (sumF xs ys) k).2 + sumF xs ys k) % W], ((acc (sumF xs ys) k).2 + sumF xs ys k) / W)) := rfl
      have hxk := getD_lt hsx k
      have hyk := getD_lt hsy k
      rw [W_eq] at hxk hyk
      by_cases hky : k < ys.length
      · have hcy2 := (hy.apart hur hgb).cell k hky
        have HF : Hid (sumF xs ys k = xs[k]?.getD 0 + ys[k]?.getD 0) := rfl
        generalize (acc (sumF xs ys) k).2 = c at *
        generalize (acc (sumF xs ys) k).1 = q at *
        generalize sumF xs ys k = s at *
        generalize xs[k]?.getD 0 = x at *
        generalize ys[k]?.getD 0 = y at *
        have HSET := hide hset
        clear hset hgm hlen2 hlr HQ
        go_wp2
        have hv : Value.int .u32 (((c : Int) + (x : Int) + (y : Int)) % 4294967296) = .int .u32 (((c + s) % W : Nat) : Int) := int_eq (by rw [W_eq, HF.out]; omega)
        have hv2 : Value.int .u64 (((c : Int) + (x : Int) + (y : Int)) / 4294967296) = .int .u64 (((c + s) / W : Nat) : Int) := int_eq (by rw [W_eq, HF.out]; omega)
        rw [hv, hv2]
        have hq := HSET.out ((c + s) % W)
        go_roundw
        case rel => exact ⟨k + 1, by omega, by go_num, by rw [HG.out], by rw [HG.out]; exact hq, hur.trans (Upd.setCell (Nat.le_add_right _ _) (by omega) _)⟩
        case measure => simp [intOf]; omega
      · have hyk0 : ys[k]?.getD 0 = 0 := by rw [List.getElem?_eq_none (by omega)]; rfl
        by_cases hc0 : (acc (sumF xs ys) k).2 = 0
        · have HE : Hid (nw ((acc (sumF xs ys) k).1 ++ xs.drop k) = nw xs + nw ys) := by
            show _ = _
            have e := HQ.out
            rw [hc0, Nat.mul_zero, Nat.add_zero, sumF_nw, List.take_of_length_le (show ys.length ≤ k by omega)] at e
            rw [nw_append, hql, e, nw_cut_le xs k hk]; omega
          have hsm := small_append hqs (small_drop hsx k)
          have hll : ((acc (sumF xs ys) k).1 ++ xs.drop k).length = xs.length := by rw [List.length_append, hql, List.length_drop]; omega
          rw [hc0]
          generalize (acc (sumF xs ys) k).1 ++ xs.drop k = q at *
          clear hset hcell hfz HG hgm hlen2 HQ
          go_wp2
          go_ret
          exact ⟨false, q, rfl, hll, hsm, by rw [HE.out]; rfl, hlr, hur⟩
        · have HF : Hid (sumF xs ys k = xs[k]?.getD 0) := by show _ = _; rw [sumF, hyk0, Nat.add_zero]
          have hcb : (((acc (sumF xs ys) k).2 : Int) == 0) = false := by rw [beq_eq_false_iff_ne]; omega
          generalize (acc (sumF xs ys) k).2 = c at *
          generalize (acc (sumF xs ys) k).1 = q at *
          generalize sumF xs ys k = s at *
          generalize xs[k]?.getD 0 = x at *
          have HSET := hide hset
          clear hset hgm hlen2 hlr HQ hyk0 hc0
          go_wp2
          have hv : Value.int .u32 (((c : Int) + (x : Int)) % 4294967296) = .int .u32 (((c + s) % W : Nat) : Int) := int_eq (by rw [W_eq, HF.out]; omega)
          have hv2 : Value.int .u64 (((c : Int) + (x : Int)) / 4294967296) = .int .u64 (((c + s) / W : Nat) : Int) := int_eq (by rw [W_eq, HF.out]; omega)
          rw [hv, hv2]
          have hq := HSET.out ((c + s) % W)
          go_roundw
          case rel => exact ⟨k + 1, by omega, by go_num, by rw [HG.out], by rw [HG.out]; exact hq, hur.trans (Upd.setCell (Nat.le_add_right _ _) (by omega) _)⟩
          case measure => simp [intOf]; omega
    · obtain rfl : k = xs.length := by omega
      rw [List.drop_length, List.append_nil] at hlr
      have HE : Hid (nw (acc (sumF xs ys) xs.length).1 + W ^ xs.length * (acc (sumF xs ys) xs.length).2 = nw xs + nw ys) := by
        show _ = _
        rw [HQ.out, sumF_nw, List.take_length, List.take_of_length_le hyx]
      generalize (acc (sumF xs ys) xs.length).1 = q at *
      generalize (acc (sumF xs ys) xs.length).2 = c at *
      clear HQ
      rcases (show c = 0 ∨ c = 1 by omega) with rfl | rfl
      · go_wp2
        go_ret
        exact ⟨false, q, rfl, hql, hqs, by have := HE.out; simpa using this, hlr, hur⟩
      · go_wp2
        go_ret
        exact ⟨true, q, rfl, hql, hqs, by have := HE.out; simpa using this, hlr, hur⟩
end Go.Proofs.YtnnfmfdjgdgdhaaDoor

