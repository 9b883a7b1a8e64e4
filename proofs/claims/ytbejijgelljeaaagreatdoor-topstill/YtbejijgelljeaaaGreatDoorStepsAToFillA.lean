/- Package table: how far apart the values of the variables stand. -/
import Derived.Test.YtbejijgelljeaaaGreatDoorDicPToTabP3
import Derived.Laws.EntriesVeiled
import Derived.Laws.BitsAllLaws
import Derived.Test.YtbejijgelljeaaaGreatDoorNumFToNumH
import Derived.Test.YtbejijgelljeaaaGreatDoorRefQToSumA
namespace Go.Proofs.YtbejijgelljeaaaGreatDoor
open Go.RowKit Go.Shelf

attribute [local go_sem] Oper.semAt_some

/-- How far apart two values stand, variable by variable. -/
def stpL (S : List Nat) (n : Nat) (vs : List Nat) : List Nat := (List.range n).map (stp S vs)
theorem stpL_length (S : List Nat) (n : Nat) (vs : List Nat) : (stpL S n vs).length = n := by simp [stpL]
theorem stpL_nil (S : List Nat) (n : Nat) : stpL S n [] = List.replicate n 0 := by
  apply List.ext_getElem <;> simp [stpL, stp]
theorem stpL_cons (S : List Nat) (n u : Nat) (vs : List Nat) : (stpL S n vs).set u (cnt S vs) = stpL S n (u :: vs) := by
  apply List.ext_getElem
  · simp [stpL]
  · intro i h1 h2
    simp only [stpL, List.getElem_set, List.getElem_map, List.getElem_range, stp]
    by_cases e : u = i
    · rw [if_pos e, if_pos e.symm]
    · rw [if_neg e, if_neg (fun h => e h.symm)]
theorem stpL_get (S : List Nat) (n : Nat) (vs : List Nat) {v : Nat} (h : v < n) : (stpL S n vs)[v]'(by rw [stpL_length]; exact h) = stp S vs v := by simp [stpL]
/-- One step of telling them from the end: the step, and what is written. -/
def sst (S vs : List Nat) (st : Nat × List Nat) (i : Nat) : Nat × List Nat := (st.1 * sz S (vs.getD i 0), st.2.set (vs.getD i 0) st.1)
def stpF (S vs : List Nat) (n : Nat) (pre : List Nat) : Nat × List Nat := pre.foldl (sst S vs) (1, List.replicate n 0)
theorem stpF_snoc (S vs : List Nat) (n : Nat) (pre : List Nat) (i : Nat) : stpF S vs n (pre ++ [i]) = sst S vs (stpF S vs n pre) i := by simp [stpF]
theorem stpF_backs (S vs : List Nat) (n : Nat) : ∀ m, m ≤ vs.length → stpF S vs n (backs vs.length m) = (cnt S (vs.drop (vs.length - m)), stpL S n (vs.drop (vs.length - m)))
  | 0, _ => by simp [stpF, backs, cnt, stpL_nil]
  | m + 1, h => by
    rw [backs_succ, stpF_snoc, stpF_backs S vs n m (by omega)]
    have hj : vs.length - 1 - m < vs.length := by omega
    have e1 : vs.length - (m + 1) = vs.length - 1 - m := by omega
    have e2 : vs.length - m = (vs.length - 1 - m) + 1 := by omega
    have hd : vs.drop (vs.length - 1 - m) = vs[vs.length - 1 - m] :: vs.drop ((vs.length - 1 - m) + 1) := List.drop_eq_getElem_cons hj
    rw [e1, e2, hd, sst, getN_eq hj]
    simp only [cnt, stpL_cons]
    rw [Nat.mul_comm]
theorem stpF_le {S : List Nat} (hs : ∀ v, sz S v ≤ 4) (vs : List Nat) (n : Nat) (pre : List Nat) : (stpF S vs n pre).1 ≤ 4 ^ pre.length ∧ (stpF S vs n pre).2.length = n := by
  have key : ∀ (l : List Nat) (st : Nat × List Nat), st.2.length = n → (l.foldl (sst S vs) st).1 ≤ st.1 * 4 ^ l.length ∧ (l.foldl (sst S vs) st).2.length = n := by
    intro l
    induction l with
    | nil => intro st h2; exact ⟨by simp, h2⟩
    | cons i l ih =>
      intro st h2
      obtain ⟨h3, h4⟩ := ih (sst S vs st i) (by simp [sst, h2])
      refine ⟨Nat.le_trans h3 ?_, h4⟩
      show st.1 * sz S (vs.getD i 0) * 4 ^ l.length ≤ st.1 * 4 ^ (l.length + 1)
      rw [Nat.pow_succ, Nat.mul_comm (4 ^ l.length), ← Nat.mul_assoc]
      exact Nat.mul_le_mul_right _ (Nat.mul_le_mul_left _ (hs _))
  have h := key pre (1, List.replicate n 0) (by simp)
  rwa [Nat.one_mul] at h
theorem stpF_all (S vs : List Nat) (n : Nat) : stpF S vs n (backs vs.length vs.length) = (cnt S vs, stpL S n vs) := by
  rw [stpF_backs S vs n _ (Nat.le_refl _), Nat.sub_self, List.drop_zero]

end Go.Proofs.YtbejijgelljeaaaGreatDoor


/- Package table: where an assignment stands in another table (the closure). -/
namespace Go.Proofs.YtbejijgelljeaaaGreatDoor
open Go.RowKit Go.Shelf

attribute [local go_sem] Oper.semAt_some

/-- One step of telling the place from the end: what is left, and the sum. -/
def tst (S vs ts : List Nat) (st : Nat × Nat) (i : Nat) : Nat × Nat := (st.1 / sz S (vs.getD i 0), st.2 + st.1 % sz S (vs.getD i 0) * ts.getD (vs.getD i 0) 0)
def stdF (S vs ts : List Nat) (K : Nat) (pre : List Nat) : Nat × Nat := pre.foldl (tst S vs ts) (K, 0)
theorem stdF_snoc (S vs ts : List Nat) (K : Nat) (pre : List Nat) (i : Nat) : stdF S vs ts K (pre ++ [i]) = tst S vs ts (stdF S vs ts K pre) i := by simp [stdF]
theorem stdF_le {S : List Nat} (hp : Pos S) (hs : ∀ v, sz S v ≤ 4) (vs ts : List Nat) (ht : ∀ v, ts.getD v 0 ≤ 65536) (K : Nat) (pre : List Nat) : (stdF S vs ts K pre).1 ≤ K ∧ (stdF S vs ts K pre).2 ≤ 262144 * pre.length := by
  have key : ∀ (l : List Nat) (st : Nat × Nat), (l.foldl (tst S vs ts) st).1 ≤ st.1 ∧ (l.foldl (tst S vs ts) st).2 ≤ st.2 + 262144 * l.length := by
    intro l
    induction l with
    | nil => intro st; exact ⟨Nat.le_refl _, by simp⟩
    | cons i l ih =>
      intro st
      obtain ⟨h3, h4⟩ := ih (tst S vs ts st i)
      refine ⟨Nat.le_trans h3 (Nat.div_le_self _ _), Nat.le_trans h4 ?_⟩
      have h1 := Nat.mod_lt st.1 (show 0 < sz S (vs.getD i 0) from sz_pos hp _)
      have h2 : st.1 % sz S (vs.getD i 0) * ts.getD (vs.getD i 0) 0 ≤ 4 * 65536 := Nat.mul_le_mul (by have := hs (vs.getD i 0); omega) (ht _)
      show st.2 + st.1 % sz S (vs.getD i 0) * ts.getD (vs.getD i 0) 0 + _ ≤ _
      rw [List.length_cons]
      omega
  have h := key pre (K, 0)
  rwa [Nat.zero_add] at h
theorem stdF_backs {S vs : List Nat} (hn : vs.Nodup) (ts : List Nat) (K : Nat) : ∀ m, m ≤ vs.length → stdF S vs ts K (backs vs.length m) = (K / cnt S (vs.drop (vs.length - m)), sumL (fun v => asg S (vs.drop (vs.length - m)) (K % cnt S (vs.drop (vs.length - m))) v * ts.getD v 0) (vs.drop (vs.length - m)))
  | 0, _ => by simp [stdF, backs, cnt, sumL]
  | m + 1, h => by
    rw [backs_succ, stdF_snoc, stdF_backs hn ts K m (by omega)]
    have hj : vs.length - 1 - m < vs.length := by omega
    have e1 : vs.length - (m + 1) = vs.length - 1 - m := by omega
    have e2 : vs.length - m = (vs.length - 1 - m) + 1 := by omega
    have hd : vs.drop (vs.length - 1 - m) = vs[vs.length - 1 - m] :: vs.drop ((vs.length - 1 - m) + 1) := List.drop_eq_getElem_cons hj
    have hnd : (vs.drop (vs.length - 1 - m)).Nodup := hn.sublist (List.drop_sublist _ _)
    rw [hd, List.nodup_cons] at hnd
    rw [e1, e2, hd, tst, getN_eq hj]
    generalize vs.drop ((vs.length - 1 - m) + 1) = rest at hnd ⊢
    generalize vs[vs.length - 1 - m] = u at hnd ⊢
    simp only [asg_step]
    rw [cnt, Nat.div_div_eq_div_mul, Nat.mul_comm (cnt S rest), sumL, if_pos rfl, Nat.add_comm]
    congr 2
    refine sumL_congr fun v hv => ?_
    rw [if_neg (fun e => hnd.1 (by rw [← e]; exact hv))]
theorem stdF_all {S vs : List Nat} (hn : vs.Nodup) (ts : List Nat) {K : Nat} (h : K < cnt S vs) : stdF S vs ts K (backs vs.length vs.length) = (0, sumL (fun v => asg S vs K v * ts.getD v 0) vs) := by
  rw [stdF_backs hn ts K _ (Nat.le_refl _), Nat.sub_self, List.drop_zero, Nat.mod_eq_of_lt h, Nat.div_eq_of_lt h]

end Go.Proofs.YtbejijgelljeaaaGreatDoor


/- Package table: where an assignment stands in another table. -/
namespace Go.Proofs.YtbejijgelljeaaaGreatDoor
open Go.RowKit Go.Shelf

theorem stp_le {S : List Nat} (hs : ∀ v, sz S v ≤ 4) : ∀ (vs : List Nat) (v : Nat), vs.length ≤ 8 → stp S vs v ≤ 65536
  | [], _, _ => by simp [stp]
  | u :: vs, v, h => by
    rw [stp]
    have h' : vs.length ≤ 8 := by simp at h; omega
    by_cases e : v = u
    · rw [if_pos e]; exact cnt_small hs h'
    · rw [if_neg e]; exact stp_le hs vs v h'
theorem stpL_getD (S : List Nat) (n : Nat) (vs : List Nat) (v : Nat) : (stpL S n vs).getD v 0 = if v < n then stp S vs v else 0 := by
  by_cases h : v < n
  · rw [if_pos h, getN_eq (by rw [stpL_length]; exact h), stpL_get S n vs h]
  · rw [if_neg h, List.getD_eq_getElem?_getD, List.getElem?_eq_none (by rw [stpL_length]; omega)]
    rfl

/-- What lies at n or above, below m, is kept. -/
def KeepsIn (n m : Nat) (W V : World) : Prop := m ≤ V.heap.size ∧ ∀ k, n ≤ k → k < m → V.heap[k]? = W.heap[k]?
theorem KeepsIn.of_below {n m : Nat} {W V : World} (h : Below W.heap.size W V) (hm : m ≤ W.heap.size) : KeepsIn n m W V := ⟨Nat.le_trans hm h.size, fun k _ hk => h.block k (Nat.lt_of_lt_of_le hk hm)⟩
theorem KeepsIn.set {n m : Nat} (W : World) {B : Nat} (j : Nat) (y : Value) (hm : m ≤ W.heap.size) (hB : B < n ∨ m ≤ B) : KeepsIn n m W (W.setCell ⟨B, j, none⟩ y) := ⟨Nat.le_trans hm (KeepsOthers.setCell W _ _).size, fun k h1 h2 => Below.heap_setCell W ⟨B, j, none⟩ y k (by show k ≠ B; omega)⟩
end Go.Proofs.YtbejijgelljeaaaGreatDoor


/- Package table: where an assignment and a value of one more variable stand in another table. -/
namespace Go.Proofs.YtbejijgelljeaaaGreatDoor
open Go.RowKit Go.Shelf

theorem pos_lt {S : List Nat} (f : Nat → Nat) (hf : ∀ u, f u < sz S u) : ∀ vs : List Nat, pos S f vs < cnt S vs := by
  intro vs
  have key : ∀ (vs : List Nat) (k c : Nat), k < c → vs.foldl (fun k v => k * sz S v + f v) k < c * cnt S vs := by
    intro vs
    induction vs with
    | nil => intro k c h; simpa [cnt] using h
    | cons u vs ih =>
      intro k c h
      have h1 : k * sz S u + f u < c * sz S u := by
        have h2 : (k + 1) * sz S u ≤ c * sz S u := Nat.mul_le_mul_right _ h
        have h3 := hf u
        rw [Nat.add_mul, Nat.one_mul] at h2
        omega
      have := ih _ _ h1
      rwa [Nat.mul_assoc] at this
  have := key vs 0 1 (by omega)
  rwa [Nat.one_mul] at this
theorem asg_lt {S : List Nat} (hp : Pos S) : ∀ (vs : List Nat) (k v : Nat), k < cnt S vs → asg S vs k v < sz S v
  | [], _, v, _ => sz_pos hp v
  | u :: vs, k, v, h => by
    rw [asg]
    by_cases e : v = u
    · rw [if_pos e, e]
      exact (Nat.div_lt_iff_lt_mul (cnt_pos hp vs)).2 h
    · rw [if_neg e]
      exact asg_lt hp vs _ v (Nat.mod_lt _ (cnt_pos hp vs))
/-- One value more. -/
def withV (f : Nat → Nat) (v x : Nat) : Nat → Nat := fun u => if u = v then x else f u
theorem sumL_bump {g h : Nat → Nat} {v : Nat} (hv : g v = 0) (he : ∀ u, ¬ u = v → h u = g u) : ∀ {l : List Nat}, l.Nodup → sumL h l = sumL g l + if v ∈ l then h v else 0
  | [], _ => by simp [sumL]
  | u :: l, hn => by
    rw [List.nodup_cons] at hn
    rw [sumL, sumL, sumL_bump hv he hn.2]
    by_cases e : u = v
    · subst e
      rw [if_neg hn.1, if_pos List.mem_cons_self, hv]
      omega
    · rw [he u e]
      have : v ∈ u :: l ↔ v ∈ l := by rw [List.mem_cons]; exact ⟨fun h => h.elim (fun h => absurd h.symm e) id, .inr⟩
      simp only [this]
      omega
theorem pos_with {S : List Nat} {f : Nat → Nat} {v : Nat} (x : Nat) (hf : f v = 0) {other : List Nat} (hn : other.Nodup) : pos S f other + x * stp S other v = pos S (withV f v x) other := by
  rw [pos_sum S f hn, pos_sum S (withV f v x) hn, sumL_bump (g := fun u => f u * stp S other u) (h := fun u => withV f v x u * stp S other u) (v := v) (by show f v * _ = 0; rw [hf, Nat.zero_mul]) (fun u hu => by show withV f v x u * _ = f u * _; rw [withV, if_neg hu]) hn]
  congr 1
  by_cases h : v ∈ other
  · rw [if_pos h]; show _ = withV f v x v * _; rw [withV, if_pos rfl]
  · rw [if_neg h, stp_out h, Nat.mul_zero]

theorem held2 {w u : World} {p q : Addr} {x y : Value} (hb : Below w.heap.size w u) (hp : p.block < w.heap.size) (hq : q.block < w.heap.size) (h1 : w.cell? p = some x) (h2 : w.cell? q = some y) : (u.cell? p = some x ∧ u.cell? q = some y) ∧ Hid (Below w.heap.size w u) := ⟨⟨(hb.cell hp).trans h1, (hb.cell hq).trans h2⟩, hb⟩

end Go.Proofs.YtbejijgelljeaaaGreatDoor


/- Package table: where an assignment and a value of one more variable stand in another table: the maker. -/
namespace Go.Proofs.YtbejijgelljeaaaGreatDoor
open Go.RowKit Go.Shelf

theorem wpAnyH_weaken {P : Program} {md : Region.Mode} {ops : Array Oper} {Q : Exit → Act → World → Prop} {S S' : World → Prop} (hS : ∀ w, S' w → S w) : ∀ (fuel : Nat) (listed : Array Bool) (a : Act) (w : World), wpAnyH P md ops Q S' fuel listed a w → wpAnyH P md ops Q S fuel listed a w
  | 0, _, _, _, h => h
  | fuel + 1, _, _, _, h => ⟨h.1, fun i hi => wpOp_mono (fun a' w' h' => ⟨hS _ h'.1, wpAnyH_weaken hS fuel _ a' w' h'.2⟩) (h.2 i hi)⟩
theorem below_s {w u : World} (h : Below w.heap.size w u) (B j : Nat) (y : Value) (hB : w.heap.size ≤ B) : Below w.heap.size w (u.setCell ⟨B, j, none⟩ y) := h.setCell (p := ⟨B, j, none⟩) hB y
theorem boxed_keep {W V : World} {B : Nat} {t : TypeId} {x : Value} (h : Boxed W B t x) (hb : Below W.heap.size W V) : Boxed V B t x := (hb.block B h.lt).trans h
theorem iL_stpL {S other : List Nat} {n v : Nat} (h : v < n) : (iL (stpL S n other))[v]'(by rw [iL_length, stpL_length]; exact h) = ((stp S other v : Nat) : Int) := by simp [iL, stpL]

end Go.Proofs.YtbejijgelljeaaaGreatDoor


/- Package table: join. -/
namespace Go.Proofs.YtbejijgelljeaaaGreatDoor
open Go.RowKit Go.Shelf

/-- A fraction as a value. -/
abbrev frV (f : Fr) : Value := .agg #[.bool f.1, .string f.2.1, .string f.2.2]

end Go.Proofs.YtbejijgelljeaaaGreatDoor


/- Package table: the ways of joining. -/
namespace Go.Proofs.YtbejijgelljeaaaGreatDoor
open Go.RowKit Go.Shelf

abbrev frQ (f : Fr) : Rat := val f.1 f.2.1 f.2.2
/-- The greater of two; of like ones the first. -/
def great (f g : Fr) : Fr := if cmpQ (frQ f) (frQ g) < 0 then g else f

end Go.Proofs.YtbejijgelljeaaaGreatDoor


/- Package graph: sets as bits. -/
namespace Go.Proofs.YtbejijgelljeaaaGreatDoor
open Go.RowKit

/-- A set of numbers as bits. -/
def mskN : List Nat → Nat
  | [] => 0
  | v :: l => mskN l ||| 2 ^ v
theorem msk_bit (l : List Nat) (v : Nat) : (mskN l).testBit v = decide (v ∈ l) := by
  induction l with
  | nil => simp [mskN]
  | cons u l ih =>
    rw [mskN, Nat.testBit_or, ih, Nat.testBit_two_pow]
    by_cases h : u = v
    · subst h; simp
    · have h' : ¬ v = u := fun e => h e.symm
      simp [h, h']
theorem msk_ext {a b : List Nat} (h : ∀ x, x ∈ a ↔ x ∈ b) : mskN a = mskN b := by
  apply Nat.eq_of_testBit_eq
  intro i
  rw [msk_bit, msk_bit]
  exact decide_eq_decide.2 (h i)
theorem msk_lt : ∀ {l : List Nat}, (∀ v ∈ l, v < 8) → mskN l < 256
  | [], _ => by decide
  | v :: l, h => by
    have h1 := msk_lt (l := l) fun u hu => h u (List.mem_cons_of_mem _ hu)
    have h2 : 2 ^ v < 2 ^ 8 := Nat.pow_lt_pow_right (by decide) (h v List.mem_cons_self)
    exact Nat.or_lt_two_pow (n := 8) h1 h2
theorem bit_div (s v : Nat) : (s / 2 ^ v &&& 1 = 1) ↔ s.testBit v = true := by
  rw [Nat.testBit_eq_decide_div_mod_eq, decide_eq_true_iff, Nat.and_one_is_mod]
theorem holds_iff {s p : Nat} (hs : s < 256) (hp : p < 256) : (p &&& (4294967295 - s) = 0) ↔ ∀ v, p.testBit v = true → s.testBit v = true := by
  have e : 4294967295 - s = 2 ^ 32 - (s + 1) := by omega
  have hs' : s < 2 ^ 32 := by omega
  rw [e]
  constructor
  · intro h v hv
    have h1 : (p &&& (2 ^ 32 - (s + 1))).testBit v = false := by rw [h]; simp
    rw [Nat.testBit_and, hv, Nat.testBit_two_pow_sub_succ hs', Bool.true_and] at h1
    have hlt : v < 32 := by
      rcases Nat.lt_or_ge v 32 with h2 | h2
      · exact h2
      · have := Nat.testBit_lt_two_pow (x := p) (i := v) (Nat.lt_of_lt_of_le (show p < 2 ^ 32 by omega) (Nat.pow_le_pow_right (by decide) h2))
        rw [this] at hv
        cases hv
    simpa [hlt] using h1
  · intro h
    apply Nat.eq_of_testBit_eq
    intro i
    rw [Nat.testBit_and, Nat.testBit_two_pow_sub_succ hs', Nat.zero_testBit]
    cases hp' : p.testBit i
    · rfl
    · rw [h i hp']; simp

theorem toN_take (l : List Int) (i : Nat) : toN (l.take i) = (toN l).take i := by simp [toN, List.map_take]
theorem ris_small {l : List Int} {n i : Nat} (hn : n ≤ 8) (h : (List.range i).all (okAt l n) = true) (hi : i ≤ l.length) : ∀ u ∈ toN (l.take i), u < 8 := by
  intro u hu
  obtain ⟨x, hx, rfl⟩ := List.mem_map.1 hu
  obtain ⟨j, hj, rfl⟩ := List.getElem_of_mem hx
  rw [List.length_take] at hj
  have h1 := List.all_eq_true.1 h j (List.mem_range.2 (by omega))
  rw [okAt, decide_eq_true_iff, getD_eq (by omega)] at h1
  rw [List.getElem_take]
  omega
/-- What setOf answers. -/
def setA (l : List Int) (n : Nat) : Nat := if risB l n = true then mskN (toN l) else 0
end Go.Proofs.YtbejijgelljeaaaGreatDoor


/- Package graph: lists of lists, and their sets. -/
namespace Go.Proofs.YtbejijgelljeaaaGreatDoor
open Go.RowKit

/-- A list of lists of ints in memory. -/
def LsS (w : World) (a : Option Addr) (L : List (List Int)) : Prop := ∀ k (h : k < L.length), ∃ g o b c, a = some ⟨g, o, none⟩ ∧ g < w.heap.size ∧ w.cell? ⟨g, o + k, none⟩ = some (.slice b L[k].length c) ∧ IntS w b L[k]
theorem LsS.below {w w' : World} {a : Option Addr} {L : List (List Int)} (h : LsS w a L) (hb : Below w.heap.size w w') : LsS w' a L := fun k hk => by
  obtain ⟨g, o, b, c, h1, h2, h3, h4⟩ := h k hk
  exact ⟨g, o, b, c, h1, Nat.lt_of_lt_of_le h2 hb.size, (hb.cell (p := ⟨g, o + k, none⟩) h2).trans h3, h4.below hb⟩
/-- What is nil in a list of lists has no room. -/
def LsN (w : World) (a : Option Addr) (L : List (List Int)) : Prop := ∀ k, k < L.length → ∀ g o b n c, a = some ⟨g, o, none⟩ → w.cell? ⟨g, o + k, none⟩ = some (.slice b n c) → b = none → c = 0
theorem LsN.below {w w' : World} {a : Option Addr} {L : List (List Int)} (h : LsN w a L) (hl : LsS w a L) (hb : Below w.heap.size w w') : LsN w' a L := fun k hk g o b n c ha hc hn => by
  obtain ⟨g', o', _, _, e, hg, _⟩ := hl k hk
  rw [ha] at e
  cases e
  exact h k hk g o b n c ha ((hb.cell (p := ⟨g, o + k, none⟩) hg).symm.trans hc) hn
abbrev uv (x : Nat) : Value := .int .u32 (x : Int)
theorem made_sets (n : Nat) : (madeCells (Value.int .u32 0).cells (n * 1)).toList = (List.replicate n (0 : Nat)).map uv := by
  rw [show (Value.int .u32 0).cells = #[Value.int .u32 0] from rfl, toList_madeCells_one, Nat.mul_one, List.map_replicate]; rfl
/-- All lists rise. -/
def allRis (L : List (List Int)) (n : Nat) : Bool := L.all fun l => risB l n
/-- Their sets. -/
def masks (L : List (List Int)) : List Nat := L.map fun l => mskN (toN l)
theorem masks_length (L : List (List Int)) : (masks L).length = L.length := by simp [masks]
theorem allRis_bad {L : List (List Int)} {n i : Nat} (h : i < L.length) (e : risB L[i] n = false) : allRis L n = false := by
  rw [allRis, List.all_eq_false]; exact ⟨L[i], List.getElem_mem h, by rw [e]; decide⟩
theorem setA_yes {l : List Int} {n : Nat} (h : risB l n = true) : setA l n = mskN (toN l) := if_pos h

end Go.Proofs.YtbejijgelljeaaaGreatDoor


/- Package graph: readOthers. -/
namespace Go.Proofs.YtbejijgelljeaaaGreatDoor
open Go.RowKit

/-- No list has its own number. -/
def noSelf (L : List (List Int)) : Bool := (List.range L.length).all fun v => !decide (v ∈ toN (L.getD v []))
/-- Lists of other nodes. -/
def gB (L : List (List Int)) : Bool := decide (1 ≤ L.length ∧ L.length ≤ 8) && allRis L L.length && noSelf L

theorem ris_all {l : List Int} {n : Nat} (hn : n ≤ 8) (h : risB l n = true) : ∀ u ∈ toN l, u < 8 := by
  have := ris_small (l := l) (n := n) (i := l.length) hn h (Nat.le_refl _)
  rwa [List.take_length] at this
theorem allRis_at {L : List (List Int)} {n i : Nat} (h : allRis L n = true) (hi : i < L.length) : risB L[i] n = true := List.all_eq_true.1 h _ (List.getElem_mem hi)
theorem noSelf_bad {L : List (List Int)} {i : Nat} (h : i < L.length) (e : i ∈ toN L[i]) : noSelf L = false := by
  rw [noSelf, List.all_eq_false]
  refine ⟨i, List.mem_range.2 h, ?_⟩
  rw [List.getD_eq_getElem?_getD, List.getElem?_eq_getElem h]
  simpa using e
theorem noSelf_good {L : List (List Int)} (h : ∀ i (hi : i < L.length), ¬ i ∈ toN L[i]) : noSelf L = true := by
  rw [noSelf, List.all_eq_true]
  intro i hi
  have hi' := List.mem_range.1 hi
  rw [List.getD_eq_getElem?_getD, List.getElem?_eq_getElem hi']
  simpa using h i hi'

end Go.Proofs.YtbejijgelljeaaaGreatDoor


/- Plain: the order of nodes, each behind its parents, the least first. -/
namespace Go.Proofs.YtbejijgelljeaaaGreatDoor

/-- May a node come next? -/
def freeB (P : List (List Nat)) (out : List Nat) (v : Nat) : Bool := !decide (v ∈ out) && decide (∀ u ∈ P.getD v [], u ∈ out)
/-- The least that may. -/
def nextV (P : List (List Nat)) (out : List Nat) : Option Nat := (List.range P.length).find? (freeB P out)
/-- Those that stand there behind k steps. -/
def ordN (P : List (List Nat)) : Nat → List Nat
  | 0 => []
  | k + 1 => match nextV P (ordN P k) with
    | some v => ordN P k ++ [v]
    | none => ordN P k
theorem find_range {p : Nat → Bool} : ∀ {n v : Nat}, v < n → p v = true → (∀ u, u < v → p u = false) → (List.range n).find? p = some v := by
  intro n
  induction n with
  | zero => intro v h; omega
  | succ n ih =>
    intro v hv hp hu
    rw [List.range_succ, List.find?_append]
    rcases Nat.lt_or_ge v n with h | h
    · rw [ih h hp hu]; rfl
    · obtain rfl : v = n := by omega
      have : (List.range v).find? p = none := List.find?_eq_none.2 fun u hu' => by rw [hu u (List.mem_range.1 hu')]; decide
      rw [this]
      simp [hp]
theorem next_some {P : List (List Nat)} {out : List Nat} {v : Nat} (hv : v < P.length) (hp : freeB P out v = true) (hu : ∀ u, u < v → freeB P out u = false) : nextV P out = some v := find_range hv hp hu
theorem next_none {P : List (List Nat)} {out : List Nat} (hu : ∀ u, u < P.length → freeB P out u = false) : nextV P out = none := List.find?_eq_none.2 fun u hu' => by rw [hu u (List.mem_range.1 hu')]; decide
theorem ord_some {P : List (List Nat)} {k v : Nat} (h : nextV P (ordN P k) = some v) : ordN P (k + 1) = ordN P k ++ [v] := by rw [ordN, h]
theorem ord_none {P : List (List Nat)} {k : Nat} (h : nextV P (ordN P k) = none) : ∀ j, ordN P (k + j) = ordN P k
  | 0 => rfl
  | j + 1 => by
    have ih := ord_none h j
    show ordN P (k + j + 1) = _
    rw [ordN, ih, h]
theorem ord_stuck {P : List (List Nat)} {k n : Nat} (h : nextV P (ordN P k) = none) (hk : k ≤ n) : ordN P n = ordN P k := by
  have := ord_none h (n - k)
  rwa [show k + (n - k) = n by omega] at this
theorem ord_len (P : List (List Nat)) : ∀ k, (ordN P k).length ≤ k
  | 0 => Nat.le_refl _
  | k + 1 => by
    have := ord_len P k
    rw [ordN]
    cases nextV P (ordN P k) with
    | none => show (ordN P k).length ≤ _; omega
    | some v => show (ordN P k ++ [v]).length ≤ _; rw [List.length_append]; simp; omega
theorem ord_lt (P : List (List Nat)) : ∀ k, ∀ v ∈ ordN P k, v < P.length
  | 0, v, hv => by cases hv
  | k + 1, v, hv => by
    rw [ordN] at hv
    cases e : nextV P (ordN P k) with
    | none => rw [e] at hv; exact ord_lt P k v hv
    | some u =>
      rw [e] at hv
      rcases List.mem_append.1 hv with h | h
      · exact ord_lt P k v h
      · obtain rfl := List.mem_singleton.1 h
        exact List.mem_range.1 (List.mem_of_find?_eq_some e)
theorem ord_full (P : List (List Nat)) {k : Nat} (h : nextV P (ordN P k) = none) (hk : k < P.length) : (ordN P P.length).length < P.length := by
  rw [ord_stuck h (Nat.le_of_lt hk)]
  have := ord_len P k
  omega
/-- The parents, as numbers. -/
def parN (L : List (List Int)) : List (List Nat) := L.map toN
theorem parN_length (L : List (List Int)) : (parN L).length = L.length := by simp [parN]
theorem parN_get {L : List (List Int)} {i : Nat} (h : i < L.length) : (parN L).getD i [] = toN L[i] := by simp [parN, List.getD_eq_getElem?_getD, h]
theorem masks_par (L : List (List Int)) : masks L = (parN L).map mskN := by simp [masks, parN]
theorem iL_append (a b : List Nat) : iL (a ++ b) = iL a ++ iL b := by simp [iL]
/-- What Check answers. -/
def gcE (L : List (List Int)) : Int := if gB L = true then (if (ordN (parN L) L.length).length < L.length then 10 else 0) else 11
end Go.Proofs.YtbejijgelljeaaaGreatDoor


/- Names: packages net and the document's answer. -/
namespace Go.Proofs.YtbejijgelljeaaaGreatDoor
open Go.RowKit

def letN (c : Nat) : Bool := decide (97 ≤ c ∧ c ≤ 122)
def figN (c : Nat) : Bool := decide (48 ≤ c ∧ c ≤ 57)
def worN (c : Nat) : Bool := letN c || figN c || decide (c = 95)
/-- Like a word. -/
def wordB (s : ByteArray) : Bool := (s.data.toList.all fun c => worN c.toNat) && letN (s.data.toList.headD 0).toNat
def isVar (s : ByteArray) : Bool := s.toList == [118, 97, 114]
def isElse (s : ByteArray) : Bool := s.toList == [101, 108, 115, 101]
/-- A name. -/
def nameB (s : ByteArray) : Bool := decide (s.size ≤ 12) && !isVar s && !isElse s && wordB s

theorem letN_eq (c : Nat) : letN c = decide (97 ≤ c ∧ c ≤ 122) := rfl
end Go.Proofs.YtbejijgelljeaaaGreatDoor


/- Names: isName, of package net and of the document's answer. -/
namespace Go.Proofs.YtbejijgelljeaaaGreatDoor
open Go.RowKit

theorem take_byte {s : ByteArray} {k : Nat} (h : k < s.size) : s.data.toList.take (k + 1) = s.data.toList.take k ++ [s[k]] := by
  have h' : k < s.data.toList.length := by simpa using h
  rw [List.take_succ_eq_append_getElem h']
  rfl
theorem word_bad {s : ByteArray} {k : Nat} (h : k < s.size) (e : worN s[k].toNat = false) : wordB s = false := by
  have hm : s[k] ∈ s.data.toList := by
    have : s.data.toList[k]'(by simpa using h) = s[k] := rfl
    rw [← this]; exact List.getElem_mem _
  have : (s.data.toList.all fun c => worN c.toNat) = false := by
    rw [List.all_eq_false]; exact ⟨_, hm, by rw [e]; decide⟩
  rw [wordB, this]; rfl
theorem head_zero {s : ByteArray} (h : 0 < s.size) : s.data.toList.headD 0 = s[0] := by
  obtain ⟨⟨l⟩⟩ := s
  cases l with
  | nil => exact absurd h (by decide)
  | cons c l => rfl
theorem word_full {s : ByteArray} (h : 0 < s.size) (e : (s.data.toList.take s.size).all (fun c => worN c.toNat) = true) : wordB s = letN s[0].toNat := by
  have e2 : s.data.toList.all (fun c => worN c.toNat) = true := by
    rwa [List.take_of_length_le (by simp)] at e
  rw [wordB, e2, Bool.true_and, head_zero h]
theorem wor_let {c : Nat} (h : letN c = true) : worN c = true := by rw [worN, h]; rfl

theorem word_head {s : ByteArray} (h : 0 < s.size) (e : letN s[0].toNat = false) : wordB s = false := by rw [wordB, head_zero h, e, Bool.and_false]
end Go.Proofs.YtbejijgelljeaaaGreatDoor


/- Lists of names: checkNames of package net, namesOK of the document's answer. -/
namespace Go.Proofs.YtbejijgelljeaaaGreatDoor
open Go.RowKit

/-- A list of texts in memory. -/
def StS (w : World) (a : Option Addr) (l : List ByteArray) : Prop := ∀ k (h : k < l.length), ∃ g o, a = some ⟨g, o, none⟩ ∧ g < w.heap.size ∧ w.cell? ⟨g, o + k, none⟩ = some (.string l[k])
theorem StS.below {w w' : World} {a : Option Addr} {l : List ByteArray} (h : StS w a l) (hb : Below w.heap.size w w') : StS w' a l := fun k hk => by
  obtain ⟨g, o, h1, h2, h3⟩ := h k hk
  exact ⟨g, o, h1, Nat.lt_of_lt_of_le h2 hb.size, (hb.cell (p := ⟨g, o + k, none⟩) h2).trans h3⟩
theorem StS.take {w : World} {a : Option Addr} {l : List ByteArray} (h : StS w a l) (i : Nat) : StS w a (l.take i) := fun k hk => by
  have hk' : k < l.length := by rw [List.length_take] at hk; omega
  obtain ⟨g, o, h1, h2, h3⟩ := h k hk'
  refine ⟨g, o, h1, h2, ?_⟩
  rw [List.getElem_take]
  exact h3
/-- The first error of so many. -/
def firstE (f : Nat → Int) : Nat → Int
  | 0 => 0
  | n + 1 => if firstE f n = 0 then f n else firstE f n
theorem firstE_none {f : Nat → Int} : ∀ {n : Nat}, (∀ j, j < n → f j = 0) → firstE f n = 0
  | 0, _ => rfl
  | n + 1, h => by rw [firstE, if_pos (firstE_none fun j hj => h j (by omega)), h n (by omega)]
theorem firstE_at {f : Nat → Int} {i : Nat} (h : ∀ j, j < i → f j = 0) (hi : f i ≠ 0) : ∀ {n : Nat}, i < n → firstE f n = f i
  | 0, hn => by omega
  | n + 1, hn => by
    rcases Nat.lt_or_ge i n with h1 | h1
    · rw [firstE, firstE_at h hi h1, if_neg hi]
    · obtain rfl : i = n := by omega
      rw [firstE, if_pos (firstE_none h)]
theorem zero_upto {f : Nat → Int} {i : Nat} (h : ∀ j, j < i → f j = 0) (hi : f i = 0) : ∀ j, j < i + 1 → f j = 0 := fun j hj => by
  rcases Nat.lt_or_ge j i with h1 | h1
  · exact h j h1
  · obtain rfl : j = i := by omega
    exact hi
/-- Is a text among these? -/
def memS (l : List ByteArray) (v : ByteArray) : Bool := l.any fun x => decide (x = v)
/-- What is wrong with a name. -/
def nameE (l : List ByteArray) (i : Nat) : Int := if nameB (l.getD i ⟨#[]⟩) = true then (if memS (l.take i) (l.getD i ⟨#[]⟩) = true then 7 else 0) else 4
/-- What is wrong with names. -/
def namesE (l : List ByteArray) : Int := firstE (nameE l) l.length
theorem getS {l : List ByteArray} {i : Nat} (h : i < l.length) : l.getD i ⟨#[]⟩ = l[i] := by rw [List.getD_eq_getElem?_getD, List.getElem?_eq_getElem h]; rfl
/-- The first place of a text. -/
def placeS (l : List ByteArray) (v : ByteArray) : Int := match l.findIdx? (fun x => decide (x = v)) with
  | some i => (i : Int)
  | none => -1
theorem bytes_eq {a b : ByteArray} : (a.toList == b.toList) = decide (a = b) := by
  rw [Bool.eq_iff_iff, beq_iff_eq, decide_eq_true_iff]
  constructor
  · intro h
    rw [toList_data, toList_data] at h
    obtain ⟨⟨x⟩⟩ := a
    obtain ⟨⟨y⟩⟩ := b
    simp only at h
    rw [h]
  · intro h; rw [h]
theorem place_at {l : List ByteArray} {v : ByteArray} {i : Nat} (h : i < l.length) (e : l[i] = v) (hn : ∀ j (hj : j < l.length), j < i → ¬ l[j] = v) : placeS l v = i := by
  have : l.findIdx? (fun x => decide (x = v)) = some i := List.findIdx?_eq_some_iff_getElem.2 ⟨h, decide_eq_true e, fun j hj => by
    rw [decide_eq_true_iff]
    exact hn j (by omega) hj⟩
  rw [placeS, this]
theorem place_no {l : List ByteArray} {v : ByteArray} (hn : ∀ j (hj : j < l.length), ¬ l[j] = v) : placeS l v = -1 := by
  have : l.findIdx? (fun x => decide (x = v)) = none := List.findIdx?_eq_none_iff.2 fun x hx => by
    obtain ⟨j, hj, rfl⟩ := List.getElem_of_mem hx
    exact decide_eq_false (hn j hj)
  rw [placeS, this]
theorem place_mem (l : List ByteArray) (v : ByteArray) : decide (0 ≤ placeS l v) = memS l v := by
  rw [Bool.eq_iff_iff, decide_eq_true_iff, memS, List.any_eq_true, placeS]
  cases e : l.findIdx? (fun x => decide (x = v)) with
  | some i =>
    obtain ⟨h, hp, _⟩ := List.findIdx?_eq_some_iff_getElem.1 e
    exact ⟨fun _ => ⟨l[i], List.getElem_mem h, hp⟩, fun _ => by show (0 : Int) ≤ (i : Int); omega⟩
  | none =>
    have := List.findIdx?_eq_none_iff.1 e
    exact ⟨fun h => by exact absurd (show (0 : Int) ≤ -1 from h) (by decide), fun ⟨x, hx, hp⟩ => by rw [this x hx] at hp; cases hp⟩
theorem place_lt {l : List ByteArray} {i : Nat} (h : i < l.length) : decide (placeS l l[i] < (i : Int)) = memS (l.take i) l[i] := by
  rw [Bool.eq_iff_iff, decide_eq_true_iff, memS, List.any_eq_true]
  have hex : ∃ k, l.findIdx? (fun x => decide (x = l[i])) = some k := by
    cases e : l.findIdx? (fun x => decide (x = l[i])) with
    | some k => exact ⟨k, rfl⟩
    | none => have := List.findIdx?_eq_none_iff.1 e l[i] (List.getElem_mem h); simp at this
  obtain ⟨k, hk⟩ := hex
  obtain ⟨h1, h2, h3⟩ := List.findIdx?_eq_some_iff_getElem.1 hk
  have e : placeS l l[i] = k := by rw [placeS, hk]
  rw [e]
  constructor
  · intro hlt
    have hki : k < i := by omega
    refine ⟨l[k], ?_, h2⟩
    rw [List.mem_take_iff_getElem]
    exact ⟨k, by omega, rfl⟩
  · rintro ⟨x, hx, hp⟩
    obtain ⟨j, hj, rfl⟩ := List.mem_take_iff_getElem.1 hx
    rcases Nat.lt_or_ge k i with h4 | h4
    · omega
    · exact absurd hp (h3 j (by omega))

end Go.Proofs.YtbejijgelljeaaaGreatDoor


/- Rows of chances: isRow of package net. -/
namespace Go.Proofs.YtbejijgelljeaaaGreatDoor
open Go.RowKit Go.Shelf

/-- Chances: none below 0, 1 together. -/
def rowB (l : List Fr) : Bool := (l.all fun f => decide (¬ frQ f < 0)) && decide (fsum l = 1)
theorem cmp_below {p : Rat} : cmpQ p 0 < 0 ↔ p < 0 := by
  rw [cmpQ]
  by_cases h : p < 0
  · rw [if_pos h]; exact ⟨fun _ => h, fun _ => by decide⟩
  · rw [if_neg h]
    by_cases e : p = 0
    · rw [if_pos e]; exact ⟨fun h => absurd h (by decide), fun h' => absurd h' h⟩
    · rw [if_neg e]; exact ⟨fun h => absurd h (by decide), fun h' => absurd h' h⟩
theorem cmp_same {p : Rat} : (cmpQ p 1 == 0) = decide (p = 1) := by
  rw [Bool.eq_iff_iff, beq_iff_eq, decide_eq_true_iff, cmpQ]
  by_cases h : p < 1
  · rw [if_pos h]; exact ⟨fun h => absurd h (by decide), fun e => by rw [e] at h; exact absurd h (by decide)⟩
  · rw [if_neg h]
    by_cases e : p = 1
    · rw [if_pos e]; exact ⟨fun _ => e, fun _ => rfl⟩
    · rw [if_neg e]; exact ⟨fun h => absurd h (by decide), fun h' => absurd h' e⟩
theorem rowB_neg {l : List Fr} {i : Nat} (h : i < l.length) (e : frQ l[i] < 0) : rowB l = false := by
  have : (l.all fun f => decide (¬ frQ f < 0)) = false := by
    rw [List.all_eq_false]; exact ⟨l[i], List.getElem_mem h, by simpa using e⟩
  rw [rowB, this]; rfl
theorem rowB_all {l : List Fr} (h : ∀ i (hi : i < l.length), ¬ frQ l[i] < 0) : rowB l = decide (fsum l = 1) := by
  have : (l.all fun f => decide (¬ frQ f < 0)) = true := by
    rw [List.all_eq_true]
    intro f hf
    obtain ⟨i, hi, rfl⟩ := List.getElem_of_mem hf
    exact decide_eq_true (h i hi)
  rw [rowB, this, Bool.true_and]
theorem qw_one2 : qw 1 ≤ 2 := by
  show (B 1).size + (B 1).size ≤ 2
  have := B_one_size
  omega
theorem fw_each {l : List Fr} {i : Nat} (h : i < l.length) (hw : fw l ≤ 10000) : l[i].2.1.size + l[i].2.2.size ≤ 10000 := by have := fw_mem (List.getElem_mem h); omega

end Go.Proofs.YtbejijgelljeaaaGreatDoor


/- slices.IndexFunc and slices.ContainsFunc of fractions, whatever is asked; the first number of which something holds. -/
namespace Go.Proofs.YtbejijgelljeaaaGreatDoor
open Go.RowKit Go.Shelf

set_option maxRecDepth 100000 in
set_option maxHeartbeats 400000 in
/-- slices.IndexFunc of fractions, whatever is asked. -/
theorem idxFr_any (a : Option Addr) (ca f : Nat) (lb : Array Value) (F : List Fr) (p : Fr → Bool) (w : World) (h : FrS w a F) (hn : F.length ≤ 10000) (eF : ∀ args w, (callFunc f args).run Tryz.prog w = .ok (.enter f args) w)
    (hp : ∀ q ∈ F, ∀ U : World, Below w.heap.size w U → Calls Tryz.prog f (#[.agg #[.bool q.1, .string q.2.1, .string q.2.2]] ++ lb) U fun e w' => e = .returned (.bool (p q)) ∧ Below U.heap.size U w') :
    Calls Tryz.prog 101 #[.slice a F.length ca, .func (.func f) #[] lb] w fun e w' => ∃ j : Int, e = .returned (.int .i64 j) ∧ decide (0 ≤ j) = F.any p ∧ Below w.heap.size w w' := by
  have HF := hid h
  have HP := hid hp
  have HNO : Hid ((∀ i (hi : i < F.length), p F[i] = false) → F.any p = false) := fun hh => List.any_eq_false.2 fun q hq => by
    obtain ⟨i, hi, rfl⟩ := List.getElem_of_mem hq
    rw [hh i hi]; decide
  have HYE : Hid (∀ i (hi : i < F.length), p F[i] = true → F.any p = true) := fun i hi hh => List.any_eq_true.2 ⟨_, List.getElem_mem hi, hh⟩
  clear h hp
  generalize F.any p = R at *
  go_enter Tryz.func101, Tryz.ntmps101
  go_wp2_with fail
  go_loopw [8] (fun iv wr => ∃ i : Nat, i ≤ F.length ∧ iv = .int .i64 i ∧ Hid (∀ j (hj : j < F.length), j < i → p F[j] = false) ∧ Hid (Below w.heap.size w wr)) (fun iv _ => F.length - (intOf iv).toNat)
  case atStart => exact ⟨0, Nat.zero_le _, rfl, (fun j _ hj => absurd hj (by omega)), Below.refl _ _⟩
  case round =>
    obtain ⟨i, hi, rfl, HN, HB⟩ := hrel
    by_cases hlt : i < F.length
    · obtain ⟨g, o, rfl, hg, h0, h1, h2⟩ := HF.out i hlt
      have k0 := (HB.out.cell (p := ⟨g, _, none⟩) hg).trans h0
      have k1 := (HB.out.cell (p := ⟨g, _, none⟩) hg).trans h1
      have k2 := (HB.out.cell (p := ⟨g, _, none⟩) hg).trans h2
      have HC := hid (HP.out F[i] (List.getElem_mem hlt) wr HB.out)
      have HYi := hid (HYE.out i hlt)
      have HNX : Hid (p F[i] = false → ∀ j (hj : j < F.length), j < i + 1 → p F[j] = false) := fun e j hj hlt' => by
        rcases Nat.lt_or_ge j i with h2 | h2
        · exact HN.out j hj h2
        · obtain rfl : j = i := by omega
          exact e
      clear h0 h1 h2
      generalize p F[i] = q at *
      generalize F[i].1 = f1 at *
      generalize F[i].2.1 = f2 at *
      generalize F[i].2.2 = f3 at *
      go_wp2_with fail
      refine HC.out.mono ?_
      rintro e w2 ⟨rfl, hb2⟩
      have HB2 := hid (HB.out.trans (hb2.mono HB.out.size))
      clear hb2 HC
      cases q with
      | true =>
        have HE := hid (HYi.out rfl)
        go_wp2
        go_ret
        exact ⟨(i : Nat), rfl, by rw [HE.out]; simp, HB2.out⟩
      | false =>
        have HE := hid (HNX.out rfl)
        go_wp2
        go_roundw
        case rel => exact ⟨i + 1, by omega, by go_num, HE, HB2⟩
        case measure => simp [intOf]; omega
    · obtain rfl : i = F.length := by omega
      have HE := hid (HNO.out fun j hj => HN.out j hj hj)
      go_wp2
      go_ret
      exact ⟨-1, rfl, by rw [HE.out]; rfl, HB.out⟩

set_option maxRecDepth 100000 in
set_option maxHeartbeats 400000 in
theorem conFr_any (a : Option Addr) (ca f : Nat) (lb : Array Value) (F : List Fr) (p : Fr → Bool) (w : World) (h : FrS w a F) (hn : F.length ≤ 10000) (eF : ∀ args w, (callFunc f args).run Tryz.prog w = .ok (.enter f args) w)
    (hp : ∀ q ∈ F, ∀ U : World, Below w.heap.size w U → Calls Tryz.prog f (#[.agg #[.bool q.1, .string q.2.1, .string q.2.2]] ++ lb) U fun e w' => e = .returned (.bool (p q)) ∧ Below U.heap.size U w') :
    Calls Tryz.prog 83 #[.slice a F.length ca, .func (.func f) #[] lb] w fun e w' => e = .returned (.bool (F.any p)) ∧ Below w.heap.size w w' := by
  have HI := hid (idxFr_any a ca f lb F p w h hn eF hp)
  clear h hp
  generalize F.any p = R at *
  go_enter Tryz.func83, Tryz.ntmps83
  go_wp2_with fail
  refine HI.out.mono ?_
  rintro e w2 ⟨j, rfl, hj, hb2⟩
  have HB := hid hb2
  have HJ := hid hj
  clear hb2 hj
  go_wp2
  go_ret
  exact ⟨by rw [← HJ.out]; rfl, HB.out⟩


end Go.Proofs.YtbejijgelljeaaaGreatDoor


/- Rows of chances: Chances of the document's answer. -/
namespace Go.Proofs.YtbejijgelljeaaaGreatDoor
open Go.RowKit Go.Shelf

theorem one_eq {α : Type} {s : Rat} {T F : α} : (if sgn s = sgn 1 then if (nu s).toList = (nu 1).toList then if (de s).toList = (de 1).toList then T else F else F else F) = if s = 1 then T else F := by
  by_cases h : s = 1
  · subst h; simp
  · rw [if_neg h]
    by_cases h1 : sgn s = sgn 1
    · by_cases h2 : (nu s).toList = (nu 1).toList
      · by_cases h3 : (de s).toList = (de 1).toList
        · exfalso
          apply h
          have e2 : nu s = nu 1 := of_decide_eq_true (bytes_eq.symm.trans (beq_iff_eq.2 h2))
          have e3 : de s = de 1 := of_decide_eq_true (bytes_eq.symm.trans (beq_iff_eq.2 h3))
          rw [← val_own s, h1, e2, e3, val_own]
        · rw [if_pos h1, if_pos h2, if_neg h3]
      · rw [if_pos h1, if_neg h2]
    · rw [if_neg h1]
theorem rOf_zero (w : World) : Calls Tryz.prog 11 #[.int .i64 0] w fun e w' => e = .returned (.agg #[.bool (sgn 0), .string (nu 0), .string (de 0)]) ∧ Below w.heap.size w w' := by
  have := rOfF_any 0 w (by omega) (by omega)
  exact this
theorem rOf_one (w : World) : Calls Tryz.prog 11 #[.int .i64 1] w fun e w' => e = .returned (.agg #[.bool (sgn 1), .string (nu 1), .string (de 1)]) ∧ Below w.heap.size w w' := by
  have := rOfF_any 1 w (by omega) (by omega)
  exact this
set_option maxRecDepth 100000 in
set_option maxHeartbeats 1000000 in
theorem chances_any (a : Option Addr) (ca : Nat) (l : List Fr) (w : World) (h : FrS w a l) (hw : fw l ≤ 10000) (hn : l.length ≤ 10000) :
    Calls Tryz.prog 116 #[.slice a l.length ca] w fun e w' => e = .returned (.bool (rowB l)) ∧ Below w.heap.size w w' := by
  have HF := hid h
  have HW := hid hw
  have HO := hid rOf_zero
  have HO1 := hid rOf_one
  have HS : Hid (∀ V : World, FrS V a l → Calls Tryz.prog 22 #[.slice a l.length ca] V fun e w' => e = .returned (.agg #[.bool (sgn (fsum l)), .string (nu (fsum l)), .string (de (fsum l))]) ∧ Below V.heap.size V w') := fun V hV => rSum_any a ca l V hV hw hn
  have HN := hid (fun i h e => rowB_neg (l := l) (i := i) h e)
  have HA := hid (fun h => rowB_all (l := l) h)
  have HZ : Hid (val (sgn 0) (nu 0) (de 0) = 0 ∧ (nu 0).size + (de 0).size ≤ 50000) := ⟨val_own _, by have := qw_zero; rw [own_size]; omega⟩
  generalize rowB l = rb at *
  clear h hw
  go_enter Tryz.func116, Tryz.ntmps116
  go_wp2_with fail
  go_loopw [3] (fun iv wr => ∃ i : Nat, i ≤ l.length ∧ iv = .int .i64 i ∧ Hid (∀ j (hj : j < l.length), j < i → ¬ frQ l[j] < 0) ∧ Hid (Below w.heap.size w wr)) (fun iv _ => l.length - (intOf iv).toNat)
  case atStart => exact ⟨0, Nat.zero_le _, rfl, fun j _ h => absurd h (by omega), Below.refl _ _⟩
  case round =>
    obtain ⟨i, hi, rfl, HP, HB⟩ := hrel
    by_cases hlt : i < l.length
    · obtain ⟨g, o, rfl, hg, c0, c1, c2⟩ := (HF.out.below HB.out) i hlt
      have hfe := fw_each hlt HW.out
      have HNi := hid (HN.out i hlt)
      have HPi : Hid (¬ frQ l[i] < 0 → ∀ j (hj : j < l.length), j < i + 1 → ¬ frQ l[j] < 0) := fun h j hj hji => by
        rcases Nat.lt_or_ge j i with h2 | h2
        · exact HP.out j hj h2
        · obtain rfl : j = i := by omega
          exact h
      generalize l[i] = f at *
      obtain ⟨fn, fx, fy⟩ := f
      simp only at c0 c1 c2 hfe
      go_upto_region 4 with fail
      refine wp_region_held_drew (S := fun u => u.cell? ⟨g, o + i * 3, none⟩ = some (.bool fn) ∧ u.cell? ⟨g, o + i * 3 + 1, none⟩ = some (.string fx) ∧ u.cell? ⟨g, o + i * 3 + 2, none⟩ = some (.string fy)) (by kernel_rfl) ⟨c0, c1, c2⟩ (fun hSd => ?_)
      have hSg : g < wr.drew.heap.size := hg
      have HBd := hid HB.out.drew
      clear c0 c1 c2
      generalize wr.drew = u0 at *
      (try simp only [List.getElem_toArray, List.getElem_cons_zero, List.getElem_cons_succ])
      (try simp only [Act.put, List.setIfInBounds_toArray, List.set_cons_zero, List.set_cons_succ])
      refine wpAnyH_take (i := 0) (oi := _) (v := .slice (some ⟨g, o, none⟩) l.length ca) rfl (by kernel_rfl) (by kernel_rfl) (by kernel_rfl) (fun _ _ _ h => h) (Or.inl ⟨by rfl, ?_⟩) (by assumption) ?_
      · intro u' hSu
        (try simp only [List.getElem_toArray, List.getElem_cons_zero])
        go_simp
      (try simp only [List.getElem_toArray, List.getElem_cons_zero])
      (try simp only [Act.put, List.setIfInBounds_toArray, List.set_cons_zero, List.set_cons_succ])
      refine wpAnyH_take (i := 1) (oi := _) (v := .int .i64 (i : Nat)) rfl (by kernel_rfl) (by kernel_rfl) (by kernel_rfl) (fun _ _ _ h => h) (Or.inl ⟨by rfl, ?_⟩) (by assumption) ?_
      · intro u' hSu
        (try simp only [List.getElem_toArray, List.getElem_cons_zero, List.getElem_cons_succ])
        go_simp
      (try simp only [List.getElem_toArray, List.getElem_cons_zero, List.getElem_cons_succ])
      (try simp only [Act.put, List.setIfInBounds_toArray, List.set_cons_zero, List.set_cons_succ])
      refine wpAnyH_take (i := 2) (oi := _) (v := .pointer (some ⟨g, o + i * 3, none⟩)) rfl (by kernel_rfl) (by kernel_rfl) (by kernel_rfl) (fun _ _ _ h => h) (Or.inl ⟨by rfl, ?_⟩) (by assumption) ?_
      · intro u' hSu
        (try simp only [List.getElem_toArray, List.getElem_cons_zero, List.getElem_cons_succ])
        go_simp
      (try simp only [List.getElem_toArray, List.getElem_cons_zero, List.getElem_cons_succ])
      (try simp only [Act.put, List.setIfInBounds_toArray, List.set_cons_zero, List.set_cons_succ])
      refine wpAnyH_take (i := 3) (oi := _) (v := .agg #[.bool fn, .string fx, .string fy]) rfl (by kernel_rfl) (by kernel_rfl) (by kernel_rfl) (fun _ _ _ h => h) (Or.inl ⟨by rfl, ?_⟩) (by assumption) ?_
      · intro u' hSu
        (try simp only [List.getElem_toArray, List.getElem_cons_zero, List.getElem_cons_succ])
        obtain ⟨s0, s1, s2⟩ := hSu
        go_simp
      (try simp only [List.getElem_toArray, List.getElem_cons_zero, List.getElem_cons_succ])
      (try simp only [Act.put, List.setIfInBounds_toArray, List.set_cons_zero, List.set_cons_succ])
      refine wpAnyH_ready (rs := [4]) (by kernel_rfl) (by simp) (AllReadyH.cons rfl ?_ (AllReadyH.nil))
      · intro K' hK'
        (try simp only [List.getElem_toArray, List.getElem_cons_zero, List.getElem_cons_succ])
        go_simp
        refine (HO.out _).mono ?_
        rintro e u1 ⟨rfl, hb⟩
        refine hK'.out _ _ ⟨(hb.cell (p := ⟨g, o + i * 3, none⟩) hSg).trans hSd.1, (hb.cell (p := ⟨g, o + i * 3 + 1, none⟩) hSg).trans hSd.2.1, (hb.cell (p := ⟨g, o + i * 3 + 2, none⟩) hSg).trans hSd.2.2⟩ (fun hSe => ?_)
        clear hK' K' hSd
        have hSd := hSe
        clear hSe
        have hSg := Nat.lt_of_lt_of_le hSg hb.size
        replace HBd := hid (HBd.out.trans (hb.mono HBd.out.size))
        clear hb
        (try simp only [List.getElem_toArray, List.getElem_cons_zero, List.getElem_cons_succ])
        (try simp only [Act.put, List.setIfInBounds_toArray, List.set_cons_zero, List.set_cons_succ])
        refine wpAnyH_ready (rs := [5]) (by kernel_rfl) (by simp) (AllReadyH.cons rfl ?_ (AllReadyH.nil))
        · intro K' hK'
          (try simp only [List.getElem_toArray, List.getElem_cons_zero, List.getElem_cons_succ])
          go_simp
          refine (rCmpF_any fn (sgn 0) fx fy (nu 0) (de 0) _ (by omega) HZ.out.2).mono ?_
          rintro e u2 ⟨rfl, hb⟩
          rw [HZ.out.1]
          refine hK'.out _ _ ⟨(hb.cell (p := ⟨g, o + i * 3, none⟩) hSg).trans hSd.1, (hb.cell (p := ⟨g, o + i * 3 + 1, none⟩) hSg).trans hSd.2.1, (hb.cell (p := ⟨g, o + i * 3 + 2, none⟩) hSg).trans hSd.2.2⟩ (fun hSe => ?_)
          clear hK' K' hSd
          have hSd := hSe
          clear hSe
          have hSg := Nat.lt_of_lt_of_le hSg hb.size
          replace HBd := hid (HBd.out.trans (hb.mono HBd.out.size))
          clear hb
          (try simp only [List.getElem_toArray, List.getElem_cons_zero, List.getElem_cons_succ])
          (try simp only [Act.put, List.setIfInBounds_toArray, List.set_cons_zero, List.set_cons_succ])
          refine wpAnyH_take (i := 6) (oi := _) (v := .int .i64 (cmpQ (val fn fx fy) 0)) rfl (by kernel_rfl) (by kernel_rfl) (by kernel_rfl) (fun _ _ _ h => h) (Or.inl ⟨by rfl, ?_⟩) (by assumption) ?_
          · intro u' hSu
            (try simp only [List.getElem_toArray, List.getElem_cons_zero, List.getElem_cons_succ])
            go_simp
          (try simp only [List.getElem_toArray, List.getElem_cons_zero, List.getElem_cons_succ])
          (try simp only [Act.put, List.setIfInBounds_toArray, List.set_cons_zero, List.set_cons_succ])
          refine wpAnyH_done (by kernel_rfl) ?_ _
          clear hSd hSg
          by_cases hneg : val fn fx fy < 0
          · have HE := hid (HNi.out hneg)
            have hc : cmpQ (val fn fx fy) 0 < 0 := cmp_below.2 hneg
            clear hneg
            generalize cmpQ (val fn fx fy) 0 = q at *
            go_wp2
            go_ret
            exact ⟨by rw [HE.out]; rfl, HBd.out⟩
          · have HE := hid (HPi.out hneg)
            have hc : 0 ≤ cmpQ (val fn fx fy) 0 := by
              have : ¬ cmpQ (val fn fx fy) 0 < 0 := fun h => hneg (cmp_below.1 h)
              omega
            clear hneg
            generalize cmpQ (val fn fx fy) 0 = q at *
            go_wp2
            go_roundw
            case rel => exact ⟨i + 1, by omega, by go_num, HE, HBd⟩
            case measure => simp [intOf]; omega
    · obtain rfl : i = l.length := by omega
      have HE := hid (HA.out fun j hj => HP.out j hj hj)
      generalize fsum l = s at *
      go_wp2_with fail
      refine (HS.out _ (HF.out.below HB.out)).mono ?_
      rintro e w5 ⟨rfl, hb5⟩
      have HB5 := hid (HB.out.trans (hb5.mono HB.out.size))
      have HBX := hid (Box.new w5 (sgn s) (nu s) (de s))
      have HBA := hid (HB5.out.alloc HB5.out.size (FC (sgn s) (nu s) (de s)))
      clear hb5
      go_upto_region 8 with fail
      have hBd : Box (w5.alloc (FC (sgn s) (nu s) (de s))).drew w5.heap.size (sgn s) (nu s) (de s) := HBX.out
      have HBd := hid HBA.out.drew
      generalize w5.heap.size = B5 at *
      refine wp_region_held_drew (S := fun u => u.cell? ⟨B5, 0, none⟩ = some (.bool (sgn s)) ∧ u.cell? ⟨B5, 1, none⟩ = some (.string (nu s)) ∧ u.cell? ⟨B5, 2, none⟩ = some (.string (de s))) (by kernel_rfl) ⟨hBd.c0, hBd.c1, hBd.c2⟩ (fun hSd => ?_)
      generalize (w5.alloc (FC (sgn s) (nu s) (de s))).drew = u0 at *
      (try simp only [List.getElem_toArray, List.getElem_cons_zero, List.getElem_cons_succ])
      (try simp only [Act.put, List.setIfInBounds_toArray, List.set_cons_zero, List.set_cons_succ])
      refine wpAnyH_take (i := 0) (oi := _) (v := .agg #[.bool (sgn s), .string (nu s), .string (de s)]) rfl (by kernel_rfl) (by kernel_rfl) (by kernel_rfl) (fun _ _ _ h => h) (Or.inl ⟨by rfl, ?_⟩) (by assumption) ?_
      · intro u' hSu
        (try simp only [List.getElem_toArray, List.getElem_cons_zero])
        obtain ⟨s0, s1, s2⟩ := hSu
        go_simp
      (try simp only [List.getElem_toArray, List.getElem_cons_zero])
      (try simp only [Act.put, List.setIfInBounds_toArray, List.set_cons_zero, List.set_cons_succ])
      refine wpAnyH_ready (rs := [1]) (by kernel_rfl) (by simp) (AllReadyH.cons rfl ?_ (AllReadyH.nil))
      · intro K' hK'
        (try simp only [List.getElem_toArray, List.getElem_cons_zero, List.getElem_cons_succ])
        go_simp
        refine (HO1.out _).mono ?_
        rintro e u1 ⟨rfl, hb⟩
        replace hBd := hBd.below hb hBd.lt
        refine hK'.out _ _ ⟨hBd.c0, hBd.c1, hBd.c2⟩ (fun hSe => ?_)
        clear hK' K' hSd
        have hSd := hSe
        clear hSe
        replace HBd := hid (HBd.out.trans (hb.mono HBd.out.size))
        clear hb
        (try simp only [List.getElem_toArray, List.getElem_cons_zero, List.getElem_cons_succ])
        (try simp only [Act.put, List.setIfInBounds_toArray, List.set_cons_zero, List.set_cons_succ])
        refine wpAnyH_ready (rs := [2]) (by kernel_rfl) (by simp) (AllReadyH.cons rfl ?_ (AllReadyH.nil))
        · intro K' hK'
          (try simp only [List.getElem_toArray, List.getElem_cons_zero, List.getElem_cons_succ])
          go_simp
          rw [one_eq]
          by_cases h1 : s = 1
          · rw [if_pos h1]
            go_simp
            refine hK'.out _ _ ⟨hBd.c0, hBd.c1, hBd.c2⟩ (fun hSe => ?_)
            clear hK' K' hSe
            have HT : Hid (decide (s = 1) = true) := decide_eq_true h1
            clear h1
            (try simp only [List.getElem_toArray, List.getElem_cons_zero, List.getElem_cons_succ])
            (try simp only [Act.put, List.setIfInBounds_toArray, List.set_cons_zero, List.set_cons_succ])
            refine wpAnyH_take (i := 3) (oi := _) (v := .bool true) rfl (by kernel_rfl) (by kernel_rfl) (by kernel_rfl) (fun _ _ _ h => h) (Or.inl ⟨by rfl, ?_⟩) (by assumption) ?_
            · intro u' hSu
              (try simp only [List.getElem_toArray, List.getElem_cons_zero, List.getElem_cons_succ])
              go_simp
            (try simp only [List.getElem_toArray, List.getElem_cons_zero, List.getElem_cons_succ])
            (try simp only [Act.put, List.setIfInBounds_toArray, List.set_cons_zero, List.set_cons_succ])
            refine wpAnyH_done (by kernel_rfl) ?_ _
            go_wp2
            go_ret
            exact ⟨by rw [HE.out, HT.out]; rfl, HBd.out⟩
          · rw [if_neg h1]
            go_simp
            refine hK'.out _ _ ⟨hBd.c0, hBd.c1, hBd.c2⟩ (fun hSe => ?_)
            clear hK' K' hSe
            have HT : Hid (decide (s = 1) = false) := decide_eq_false h1
            clear h1
            (try simp only [List.getElem_toArray, List.getElem_cons_zero, List.getElem_cons_succ])
            (try simp only [Act.put, List.setIfInBounds_toArray, List.set_cons_zero, List.set_cons_succ])
            refine wpAnyH_take (i := 3) (oi := _) (v := .bool false) rfl (by kernel_rfl) (by kernel_rfl) (by kernel_rfl) (fun _ _ _ h => h) (Or.inl ⟨by rfl, ?_⟩) (by assumption) ?_
            · intro u' hSu
              (try simp only [List.getElem_toArray, List.getElem_cons_zero, List.getElem_cons_succ])
              go_simp
            (try simp only [List.getElem_toArray, List.getElem_cons_zero, List.getElem_cons_succ])
            (try simp only [Act.put, List.setIfInBounds_toArray, List.set_cons_zero, List.set_cons_succ])
            refine wpAnyH_done (by kernel_rfl) ?_ _
            go_wp2
            go_ret
            exact ⟨by rw [HE.out, HT.out]; rfl, HBd.out⟩
end Go.Proofs.YtbejijgelljeaaaGreatDoor


/- Lists of names: checkNames of package net, namesOK of the document's answer. -/
namespace Go.Proofs.YtbejijgelljeaaaGreatDoor
open Go.RowKit

theorem nameE_word {l : List ByteArray} {i : Nat} (h : i < l.length) (e : nameB l[i] = false) : nameE l i = 4 := by rw [nameE, getS h, e, if_neg (by decide)]
theorem nameE_double {l : List ByteArray} {i : Nat} (h : i < l.length) (e : nameB l[i] = true) (e' : memS (l.take i) l[i] = true) : nameE l i = 7 := by rw [nameE, getS h, e, if_pos rfl, e', if_pos rfl]
theorem nameE_ok {l : List ByteArray} {i : Nat} (h : i < l.length) (e : nameB l[i] = true) (e' : memS (l.take i) l[i] = false) : nameE l i = 0 := by rw [nameE, getS h, e, if_pos rfl, e', if_neg (by decide)]

end Go.Proofs.YtbejijgelljeaaaGreatDoor


/- Package table: join of places. -/
namespace Go.Proofs.YtbejijgelljeaaaGreatDoor
open Go.RowKit Go.Shelf

end Go.Proofs.YtbejijgelljeaaaGreatDoor


/- Package table: the first place that has the greatest number. -/
namespace Go.Proofs.YtbejijgelljeaaaGreatDoor
open Go.RowKit Go.Shelf

theorem heldF {w u : World} {Bc g o : Nat} {x : Value} {n m : Bool} {p q r s : ByteArray} {j k : Nat} (hb : Below w.heap.size w u) (hB : Bc < w.heap.size) (hg : g < w.heap.size) (h : w.cell? ⟨Bc, 0, none⟩ = some x)
    (a0 : w.cell? ⟨g, o + j * 3, none⟩ = some (.bool n)) (a1 : w.cell? ⟨g, o + j * 3 + 1, none⟩ = some (.string p)) (a2 : w.cell? ⟨g, o + j * 3 + 2, none⟩ = some (.string q)) (b0 : w.cell? ⟨g, o + k * 3, none⟩ = some (.bool m)) (b1 : w.cell? ⟨g, o + k * 3 + 1, none⟩ = some (.string r)) (b2 : w.cell? ⟨g, o + k * 3 + 2, none⟩ = some (.string s)) :
    (u.cell? ⟨Bc, 0, none⟩ = some x ∧ u.cell? ⟨g, o + j * 3, none⟩ = some (.bool n) ∧ u.cell? ⟨g, o + j * 3 + 1, none⟩ = some (.string p) ∧ u.cell? ⟨g, o + j * 3 + 2, none⟩ = some (.string q) ∧ u.cell? ⟨g, o + k * 3, none⟩ = some (.bool m) ∧ u.cell? ⟨g, o + k * 3 + 1, none⟩ = some (.string r) ∧ u.cell? ⟨g, o + k * 3 + 2, none⟩ = some (.string s)) ∧ Hid (Below w.heap.size w u) :=
  ⟨⟨(hb.cell (p := ⟨Bc, 0, none⟩) hB).trans h, (hb.cell (p := ⟨g, _, none⟩) hg).trans a0, (hb.cell (p := ⟨g, _, none⟩) hg).trans a1, (hb.cell (p := ⟨g, _, none⟩) hg).trans a2, (hb.cell (p := ⟨g, _, none⟩) hg).trans b0, (hb.cell (p := ⟨g, _, none⟩) hg).trans b1, (hb.cell (p := ⟨g, _, none⟩) hg).trans b2⟩, hb⟩

end Go.Proofs.YtbejijgelljeaaaGreatDoor


/- Rows of fractions. -/
namespace Go.Proofs.YtbejijgelljeaaaGreatDoor
open Go.RowKit Go.Shelf

/-- The cells of fractions. -/
def frC : List Fr → List Value
  | [] => []
  | f :: l => .bool f.1 :: .string f.2.1 :: .string f.2.2 :: frC l
theorem frC_length : ∀ l : List Fr, (frC l).length = 3 * l.length
  | [] => rfl
  | f :: l => by simp only [frC, List.length_cons, frC_length l]; omega
theorem frC_get : ∀ (l : List Fr) (k : Nat) (h : k < l.length), (frC l)[k * 3]? = some (.bool l[k].1) ∧ (frC l)[k * 3 + 1]? = some (.string l[k].2.1) ∧ (frC l)[k * 3 + 2]? = some (.string l[k].2.2)
  | [], _, h => absurd h (by simp)
  | f :: l, 0, _ => ⟨rfl, rfl, rfl⟩
  | f :: l, k + 1, h => by
    have h' : k < l.length := by simpa using h
    obtain ⟨h1, h2, h3⟩ := frC_get l k h'
    have e : (k + 1) * 3 = k * 3 + 1 + 1 + 1 := by omega
    refine ⟨?_, ?_, ?_⟩
    · rw [e]; exact h1
    · rw [show (k + 1) * 3 + 1 = (k * 3 + 1) + 1 + 1 + 1 by omega]; exact h2
    · rw [show (k + 1) * 3 + 2 = (k * 3 + 2) + 1 + 1 + 1 by omega]; exact h3
theorem frC_set : ∀ (l : List Fr) (k : Nat) (f : Fr), (((frC l).set (k * 3) (.bool f.1)).set (k * 3 + 1) (.string f.2.1)).set (k * 3 + 2) (.string f.2.2) = frC (l.set k f)
  | [], k, f => by simp [frC]
  | x :: l, 0, f => by simp [frC]
  | x :: l, k + 1, f => by
    rw [show (k + 1) * 3 = k * 3 + 1 + 1 + 1 by omega, show k * 3 + 1 + 1 + 1 + 1 = (k * 3 + 1) + 1 + 1 + 1 by omega, show k * 3 + 1 + 1 + 1 + 2 = (k * 3 + 2) + 1 + 1 + 1 by omega]
    simp only [frC, List.set_cons_succ, frC_set l k f]
/-- A row of fractions in a block of its own. -/
def RowF (w : World) (g : Nat) (l : List Fr) : Prop := w.heap[g]? = some (.cells (frC l).toArray 33 (0, 0))
theorem RowF.lt {w : World} {g : Nat} {l : List Fr} (h : RowF w g l) : g < w.heap.size := (Array.getElem?_eq_some_iff.1 h).1
theorem RowF.fz {w : World} {g : Nat} {l : List Fr} (h : RowF w g l) (j : Nat) : w.frozen? ⟨g, j, none⟩ = false := frozen_of_row w g j _ _ h
theorem RowF.below {w w' : World} {g b : Nat} {l : List Fr} (h : RowF w g l) (hb : Below b w w') (hg : g < b) : RowF w' g l := (hb.block g hg).trans h
theorem RowF.cells {w : World} {g : Nat} {l : List Fr} (h : RowF w g l) (k : Nat) (hk : k < l.length) : w.cell? ⟨g, k * 3, none⟩ = some (.bool l[k].1) ∧ w.cell? ⟨g, k * 3 + 1, none⟩ = some (.string l[k].2.1) ∧ w.cell? ⟨g, k * 3 + 2, none⟩ = some (.string l[k].2.2) := by
  obtain ⟨h1, h2, h3⟩ := frC_get l k hk
  refine ⟨?_, ?_, ?_⟩ <;> rw [cell_of_row w g _ _ _ (0, 0) h] <;> simpa using (by assumption)
theorem RowF.fr {w : World} {g : Nat} {l : List Fr} (h : RowF w g l) : FrS w (some ⟨g, 0, none⟩) l := fun k hk => by
  obtain ⟨h1, h2, h3⟩ := h.cells k hk
  refine ⟨g, 0, rfl, h.lt, ?_, ?_, ?_⟩
  · rw [Nat.zero_add]; exact h1
  · rw [Nat.zero_add]; exact h2
  · rw [Nat.zero_add]; exact h3
theorem RowF.put {w : World} {g : Nat} {l : List Fr} (h : RowF w g l) (k : Nat) (f : Fr) : RowF (((w.setCell ⟨g, k * 3, none⟩ (.bool f.1)).setCell ⟨g, k * 3 + 1, none⟩ (.string f.2.1)).setCell ⟨g, k * 3 + 2, none⟩ (.string f.2.2)) g (l.set k f) := by
  have h1 := heap_setCell_same w g (k * 3) _ _ (.bool f.1) h
  have h2 := heap_setCell_same _ g (k * 3 + 1) _ _ (.string f.2.1) h1
  have h3 := heap_setCell_same _ g (k * 3 + 2) _ _ (.string f.2.2) h2
  rw [RowF, h3, ← frC_set]
  simp
end Go.Proofs.YtbejijgelljeaaaGreatDoor

