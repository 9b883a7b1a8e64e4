/- Package table: where an assignment stands in another table (the closure). -/
import Derived.Test.YtockhhleapbpiaaRefRToStepsA
import Derived.Laws.EntriesVeiled
namespace Go.Proofs.Ytockhhleapbpiaa
open Go.RowKit Go.Shelf

attribute [local go_sem] Oper.semAt_some

/-- One step of telling the place from the end: what is left, and the sum. -/
def tst (S vs ts : List Nat) (st : Nat × Nat) (i : Nat) : Nat × Nat := (st.1 / sz S (vs.getD i 0), st.2 + st.1 % sz S (vs.getD i 0) * ts.getD (vs.getD i 0) 0)
def stdF (S vs ts : List Nat) (K : Nat) (pre : List Nat) : Nat × Nat := pre.foldl (tst S vs ts) (K, 0)
theorem stdF_snoc (S vs ts : List Nat) (K : Nat) (pre : List Nat) (i : Nat) : stdF S vs ts K (pre ++ [i]) = tst S vs ts (stdF S vs ts K pre) i := by simp [stdF]
theorem stdF_le {S : List Nat} (hp : Pos S) (hs : ∀ v, sz S v ≤ 4) (vs ts : List Nat) (ht : ∀ v, ts.getD v 0 ≤ 65536) (K : Nat) (pre : List Nat) : (stdF S vs ts K pre).1 ≤ K ∧ (stdF S vs ts K pre).2 ≤ 262144 * pre.length := by
  have key : ∀ (l : List Nat) (st : Nat × Nat), (l.foldl (tst S vs ts) st).1 ≤ st.1 ∧ (l.foldl (tst S vs ts) st).2 ≤ st.2 + 262144 * l.length := by
    intro l
    induction l with
    | nil => intro st; exact ⟨Nat.le_refl _, by simp⟩
    | cons i l ih =>
      intro st
      obtain ⟨h3, h4⟩ := ih (tst S vs ts st i)
      refine ⟨Nat.le_trans h3 (Nat.div_le_self _ _), Nat.le_trans h4 ?_⟩
      have h1 := Nat.mod_lt st.1 (show 0 < sz S (vs.getD i 0) from sz_pos hp _)
      have h2 : st.1 % sz S (vs.getD i 0) * ts.getD (vs.getD i 0) 0 ≤ 4 * 65536 := Nat.mul_le_mul (by have := hs (vs.getD i 0); omega) (ht _)
      show st.2 + st.1 % sz S (vs.getD i 0) * ts.getD (vs.getD i 0) 0 + _ ≤ _
      rw [List.length_cons]
      omega
  have h := key pre (K, 0)
  rwa [Nat.zero_add] at h
theorem stdF_backs {S vs : List Nat} (hn : vs.Nodup) (ts : List Nat) (K : Nat) : ∀ m, m ≤ vs.length → stdF S vs ts K (backs vs.length m) = (K / cnt S (vs.drop (vs.length - m)), sumL (fun v => asg S (vs.drop (vs.length - m)) (K % cnt S (vs.drop (vs.length - m))) v * ts.getD v 0) (vs.drop (vs.length - m)))
  | 0, _ => by simp [stdF, backs, cnt, sumL]
  | m + 1, h => by
    rw [backs_succ, stdF_snoc, stdF_backs hn ts K m (by omega)]
    have hj : vs.length - 1 - m < vs.length := by omega
    have e1 : vs.length - (m + 1) = vs.length - 1 - m := by omega
    have e2 : vs.length - m = (vs.length - 1 - m) + 1 := by omega
    have hd : vs.drop (vs.length - 1 - m) = vs[vs.length - 1 - m] :: vs.drop ((vs.length - 1 - m) + 1) := List.drop_eq_getElem_cons hj
    have hnd : (vs.drop (vs.length - 1 - m)).Nodup := hn.sublist (List.drop_sublist _ _)
    rw [hd, List.nodup_cons] at hnd
    rw [e1, e2, hd, tst, getN_eq hj]
    generalize vs.drop ((vs.length - 1 - m) + 1) = rest at hnd ⊢
    generalize vs[vs.length - 1 - m] = u at hnd ⊢
    simp only [asg_step]
    rw [cnt, Nat.div_div_eq_div_mul, Nat.mul_comm (cnt S rest), sumL, if_pos rfl, Nat.add_comm]
    congr 2
    refine sumL_congr fun v hv => ?_
    rw [if_neg (fun e => hnd.1 (by rw [← e]; exact hv))]
theorem stdF_all {S vs : List Nat} (hn : vs.Nodup) (ts : List Nat) {K : Nat} (h : K < cnt S vs) : stdF S vs ts K (backs vs.length vs.length) = (0, sumL (fun v => asg S vs K v * ts.getD v 0) vs) := by
  rw [stdF_backs hn ts K _ (Nat.le_refl _), Nat.sub_self, List.drop_zero, Nat.mod_eq_of_lt h, Nat.div_eq_of_lt h]

end Go.Proofs.Ytockhhleapbpiaa


/- Package table: where an assignment stands in another table. -/
namespace Go.Proofs.Ytockhhleapbpiaa
open Go.RowKit Go.Shelf

theorem stp_le {S : List Nat} (hs : ∀ v, sz S v ≤ 4) : ∀ (vs : List Nat) (v : Nat), vs.length ≤ 8 → stp S vs v ≤ 65536
  | [], _, _ => by simp [stp]
  | u :: vs, v, h => by
    rw [stp]
    have h' : vs.length ≤ 8 := by simp at h; omega
    by_cases e : v = u
    · rw [if_pos e]; exact cnt_small hs h'
    · rw [if_neg e]; exact stp_le hs vs v h'
theorem stpL_getD (S : List Nat) (n : Nat) (vs : List Nat) (v : Nat) : (stpL S n vs).getD v 0 = if v < n then stp S vs v else 0 := by
  by_cases h : v < n
  · rw [if_pos h, getN_eq (by rw [stpL_length]; exact h), stpL_get S n vs h]
  · rw [if_neg h, List.getD_eq_getElem?_getD, List.getElem?_eq_none (by rw [stpL_length]; omega)]
    rfl

/-- What lies at n or above, below m, is kept. -/
def KeepsIn (n m : Nat) (W V : World) : Prop := m ≤ V.heap.size ∧ ∀ k, n ≤ k → k < m → V.heap[k]? = W.heap[k]?
theorem KeepsIn.of_below {n m : Nat} {W V : World} (h : Below W.heap.size W V) (hm : m ≤ W.heap.size) : KeepsIn n m W V := ⟨Nat.le_trans hm h.size, fun k _ hk => h.block k (Nat.lt_of_lt_of_le hk hm)⟩
theorem KeepsIn.set {n m : Nat} (W : World) {B : Nat} (j : Nat) (y : Value) (hm : m ≤ W.heap.size) (hB : B < n ∨ m ≤ B) : KeepsIn n m W (W.setCell ⟨B, j, none⟩ y) := ⟨Nat.le_trans hm (KeepsOthers.setCell W _ _).size, fun k h1 h2 => Below.heap_setCell W ⟨B, j, none⟩ y k (by show k ≠ B; omega)⟩
end Go.Proofs.Ytockhhleapbpiaa


/- Package table: where an assignment and a value of one more variable stand in another table. -/
namespace Go.Proofs.Ytockhhleapbpiaa
open Go.RowKit Go.Shelf

theorem pos_lt {S : List Nat} (f : Nat → Nat) (hf : ∀ u, f u < sz S u) : ∀ vs : List Nat, pos S f vs < cnt S vs := by
  intro vs
  have key : ∀ (vs : List Nat) (k c : Nat), k < c → vs.foldl (fun k v => k * sz S v + f v) k < c * cnt S vs := by
    intro vs
    induction vs with
    | nil => intro k c h; simpa [cnt] using h
    | cons u vs ih =>
      intro k c h
      have h1 : k * sz S u + f u < c * sz S u := by
        have h2 : (k + 1) * sz S u ≤ c * sz S u := Nat.mul_le_mul_right _ h
        have h3 := hf u
        rw [Nat.add_mul, Nat.one_mul] at h2
        omega
      have := ih _ _ h1
      rwa [Nat.mul_assoc] at this
  have := key vs 0 1 (by omega)
  rwa [Nat.one_mul] at this
theorem asg_lt {S : List Nat} (hp : Pos S) : ∀ (vs : List Nat) (k v : Nat), k < cnt S vs → asg S vs k v < sz S v
  | [], _, v, _ => sz_pos hp v
  | u :: vs, k, v, h => by
    rw [asg]
    by_cases e : v = u
    · rw [if_pos e, e]
      exact (Nat.div_lt_iff_lt_mul (cnt_pos hp vs)).2 h
    · rw [if_neg e]
      exact asg_lt hp vs _ v (Nat.mod_lt _ (cnt_pos hp vs))
/-- One value more. -/
def withV (f : Nat → Nat) (v x : Nat) : Nat → Nat := fun u => if u = v then x else f u
theorem sumL_bump {g h : Nat → Nat} {v : Nat} (hv : g v = 0) (he : ∀ u, ¬ u = v → h u = g u) : ∀ {l : List Nat}, l.Nodup → sumL h l = sumL g l + if v ∈ l then h v else 0
  | [], _ => by simp [sumL]
  | u :: l, hn => by
    rw [List.nodup_cons] at hn
    rw [sumL, sumL, sumL_bump hv he hn.2]
    by_cases e : u = v
    · subst e
      rw [if_neg hn.1, if_pos List.mem_cons_self, hv]
      omega
    · rw [he u e]
      have : v ∈ u :: l ↔ v ∈ l := by rw [List.mem_cons]; exact ⟨fun h => h.elim (fun h => absurd h.symm e) id, .inr⟩
      simp only [this]
      omega
theorem pos_with {S : List Nat} {f : Nat → Nat} {v : Nat} (x : Nat) (hf : f v = 0) {other : List Nat} (hn : other.Nodup) : pos S f other + x * stp S other v = pos S (withV f v x) other := by
  rw [pos_sum S f hn, pos_sum S (withV f v x) hn, sumL_bump (g := fun u => f u * stp S other u) (h := fun u => withV f v x u * stp S other u) (v := v) (by show f v * _ = 0; rw [hf, Nat.zero_mul]) (fun u hu => by show withV f v x u * _ = f u * _; rw [withV, if_neg hu]) hn]
  congr 1
  by_cases h : v ∈ other
  · rw [if_pos h]; show _ = withV f v x v * _; rw [withV, if_pos rfl]
  · rw [if_neg h, stp_out h, Nat.mul_zero]

theorem held2 {w u : World} {p q : Addr} {x y : Value} (hb : Below w.heap.size w u) (hp : p.block < w.heap.size) (hq : q.block < w.heap.size) (h1 : w.cell? p = some x) (h2 : w.cell? q = some y) : (u.cell? p = some x ∧ u.cell? q = some y) ∧ Hid (Below w.heap.size w u) := ⟨⟨(hb.cell hp).trans h1, (hb.cell hq).trans h2⟩, hb⟩

end Go.Proofs.Ytockhhleapbpiaa


/- Package table: where an assignment and a value of one more variable stand in another table: the maker. -/
namespace Go.Proofs.Ytockhhleapbpiaa
open Go.RowKit Go.Shelf

theorem wpAnyH_weaken {P : Program} {md : Region.Mode} {ops : Array Oper} {Q : Exit → Act → World → Prop} {S S' : World → Prop} (hS : ∀ w, S' w → S w) : ∀ (fuel : Nat) (listed : Array Bool) (a : Act) (w : World), wpAnyH P md ops Q S' fuel listed a w → wpAnyH P md ops Q S fuel listed a w
  | 0, _, _, _, h => h
  | fuel + 1, _, _, _, h => ⟨h.1, fun i hi => wpOp_mono (fun a' w' h' => ⟨hS _ h'.1, wpAnyH_weaken hS fuel _ a' w' h'.2⟩) (h.2 i hi)⟩
theorem below_s {w u : World} (h : Below w.heap.size w u) (B j : Nat) (y : Value) (hB : w.heap.size ≤ B) : Below w.heap.size w (u.setCell ⟨B, j, none⟩ y) := h.setCell (p := ⟨B, j, none⟩) hB y
theorem boxed_keep {W V : World} {B : Nat} {t : TypeId} {x : Value} (h : Boxed W B t x) (hb : Below W.heap.size W V) : Boxed V B t x := (hb.block B h.lt).trans h
theorem iL_stpL {S other : List Nat} {n v : Nat} (h : v < n) : (iL (stpL S n other))[v]'(by rw [iL_length, stpL_length]; exact h) = ((stp S other v : Nat) : Int) := by simp [iL, stpL]

end Go.Proofs.Ytockhhleapbpiaa


/- Package table: join. -/
namespace Go.Proofs.Ytockhhleapbpiaa
open Go.RowKit Go.Shelf

/-- A fraction as a value. -/
abbrev frV (f : Fr) : Value := .agg #[.bool f.1, .string f.2.1, .string f.2.2]

end Go.Proofs.Ytockhhleapbpiaa


/- Package table: the ways of joining. -/
namespace Go.Proofs.Ytockhhleapbpiaa
open Go.RowKit Go.Shelf

abbrev frQ (f : Fr) : Rat := val f.1 f.2.1 f.2.2
/-- The greater of two; of like ones the first. -/
def great (f g : Fr) : Fr := if cmpQ (frQ f) (frQ g) < 0 then g else f

end Go.Proofs.Ytockhhleapbpiaa


/- Package table: join of places. -/
namespace Go.Proofs.Ytockhhleapbpiaa
open Go.RowKit Go.Shelf

end Go.Proofs.Ytockhhleapbpiaa


/- Package table: the first place that has the greatest number. -/
namespace Go.Proofs.Ytockhhleapbpiaa
open Go.RowKit Go.Shelf

theorem heldF {w u : World} {Bc g o : Nat} {x : Value} {n m : Bool} {p q r s : ByteArray} {j k : Nat} (hb : Below w.heap.size w u) (hB : Bc < w.heap.size) (hg : g < w.heap.size) (h : w.cell? ⟨Bc, 0, none⟩ = some x)
    (a0 : w.cell? ⟨g, o + j * 3, none⟩ = some (.bool n)) (a1 : w.cell? ⟨g, o + j * 3 + 1, none⟩ = some (.string p)) (a2 : w.cell? ⟨g, o + j * 3 + 2, none⟩ = some (.string q)) (b0 : w.cell? ⟨g, o + k * 3, none⟩ = some (.bool m)) (b1 : w.cell? ⟨g, o + k * 3 + 1, none⟩ = some (.string r)) (b2 : w.cell? ⟨g, o + k * 3 + 2, none⟩ = some (.string s)) :
    (u.cell? ⟨Bc, 0, none⟩ = some x ∧ u.cell? ⟨g, o + j * 3, none⟩ = some (.bool n) ∧ u.cell? ⟨g, o + j * 3 + 1, none⟩ = some (.string p) ∧ u.cell? ⟨g, o + j * 3 + 2, none⟩ = some (.string q) ∧ u.cell? ⟨g, o + k * 3, none⟩ = some (.bool m) ∧ u.cell? ⟨g, o + k * 3 + 1, none⟩ = some (.string r) ∧ u.cell? ⟨g, o + k * 3 + 2, none⟩ = some (.string s)) ∧ Hid (Below w.heap.size w u) :=
  ⟨⟨(hb.cell (p := ⟨Bc, 0, none⟩) hB).trans h, (hb.cell (p := ⟨g, _, none⟩) hg).trans a0, (hb.cell (p := ⟨g, _, none⟩) hg).trans a1, (hb.cell (p := ⟨g, _, none⟩) hg).trans a2, (hb.cell (p := ⟨g, _, none⟩) hg).trans b0, (hb.cell (p := ⟨g, _, none⟩) hg).trans b1, (hb.cell (p := ⟨g, _, none⟩) hg).trans b2⟩, hb⟩

end Go.Proofs.Ytockhhleapbpiaa


/- Rows of fractions. -/
namespace Go.Proofs.Ytockhhleapbpiaa
open Go.RowKit Go.Shelf

/-- The cells of fractions. -/
def frC : List Fr → List Value
  | [] => []
  | f :: l => .bool f.1 :: .string f.2.1 :: .string f.2.2 :: frC l
theorem frC_length : ∀ l : List Fr, (frC l).length = 3 * l.length
  | [] => rfl
  | f :: l => by simp only [frC, List.length_cons, frC_length l]; omega
theorem frC_get : ∀ (l : List Fr) (k : Nat) (h : k < l.length), (frC l)[k * 3]? = some (.bool l[k].1) ∧ (frC l)[k * 3 + 1]? = some (.string l[k].2.1) ∧ (frC l)[k * 3 + 2]? = some (.string l[k].2.2)
  | [], _, h => absurd h (by simp)
  | f :: l, 0, _ => ⟨rfl, rfl, rfl⟩
  | f :: l, k + 1, h => by
    have h' : k < l.length := by simpa using h
    obtain ⟨h1, h2, h3⟩ := frC_get l k h'
    have e : (k + 1) * 3 = k * 3 + 1 + 1 + 1 := by omega
    refine ⟨?_, ?_, ?_⟩
    · rw [e]; exact h1
    · rw [show (k + 1) * 3 + 1 = (k * 3 + 1) + 1 + 1 + 1 by omega]; exact h2
    · rw [show (k + 1) * 3 + 2 = (k * 3 + 2) + 1 + 1 + 1 by omega]; exact h3
theorem frC_set : ∀ (l : List Fr) (k : Nat) (f : Fr), (((frC l).set (k * 3) (.bool f.1)).set (k * 3 + 1) (.string f.2.1)).set (k * 3 + 2) (.string f.2.2) = frC (l.set k f)
  | [], k, f => by simp [frC]
  | x :: l, 0, f => by simp [frC]
  | x :: l, k + 1, f => by
    rw [show (k + 1) * 3 = k * 3 + 1 + 1 + 1 by omega, show k * 3 + 1 + 1 + 1 + 1 = (k * 3 + 1) + 1 + 1 + 1 by omega, show k * 3 + 1 + 1 + 1 + 2 = (k * 3 + 2) + 1 + 1 + 1 by omega]
    simp only [frC, List.set_cons_succ, frC_set l k f]
end Go.Proofs.Ytockhhleapbpiaa


/- Package table: fill. -/
namespace Go.Proofs.Ytockhhleapbpiaa
open Go.RowKit Go.Shelf

/-- The fraction that no one wrote. -/
def frZ : Fr := (false, ⟨#[]⟩, ⟨#[]⟩)
/-- What is written when i are told. -/
def partF (l : List Fr) (i : Nat) : List Fr := l.take i ++ List.replicate (l.length - i) frZ
theorem partF_zero (l : List Fr) : partF l 0 = List.replicate l.length frZ := by simp [partF]
theorem partF_length (l : List Fr) {i : Nat} (h : i ≤ l.length) : (partF l i).length = l.length := by simp [partF]; omega
theorem partF_all (l : List Fr) : partF l l.length = l := by simp [partF]
theorem partF_set (l : List Fr) {i : Nat} (h : i < l.length) : (partF l i).set i l[i] = partF l (i + 1) := by
  rw [partF, partF, List.set_append_right _ _ (by simp; omega), List.take_succ_eq_append_getElem h]
  have e : l.length - i = (l.length - (i + 1)) + 1 := by omega
  rw [e, List.replicate_succ, List.length_take, Nat.min_eq_left (by omega), Nat.sub_self, List.set_cons_zero, List.append_assoc]
  rfl
theorem block_of_own3 {w : World} {base g n : Nat} {t : TypeId} {xs : List Value} (h : w.ownsRow base t 3 (.slice (some ⟨g, 0, none⟩) n n) n xs) : w.heap[g]? = some (.cells xs.toArray t (0, 0)) := by
  rcases h.2 with ⟨h', _⟩ | ⟨g', cap', cur, h', _, hg, hnc, _, hsz, htk⟩
  · cases h'
  · cases h'
    rw [hg, ← htk, List.take_of_length_le (by simp; omega)]
theorem frC_zero_at : ∀ (n j : Nat), j < 3 * n → (frC (List.replicate n frZ))[j]? = some (#[Value.bool false, Value.string ⟨#[]⟩, Value.string ⟨#[]⟩][j % 3]!)
  | 0, j, h => by omega
  | n + 1, 0, _ => rfl
  | n + 1, 1, _ => rfl
  | n + 1, 2, _ => rfl
  | n + 1, j + 3, h => by
    rw [show (j + 3) % 3 = j % 3 by omega, List.replicate_succ]
    exact frC_zero_at n j (by omega)
theorem made_frs (n : Nat) : (madeCells (Value.agg #[Value.bool false, Value.string ⟨#[]⟩, Value.string ⟨#[]⟩]).cells (n * 3)).toList = frC (List.replicate n frZ) := by
  apply List.ext_getElem?
  intro j
  by_cases h : j < 3 * n
  · rw [frC_zero_at n j h, madeCells]
    have h' : j < n * 3 := by omega
    simp [h', Value.cells]
  · rw [List.getElem?_eq_none (by rw [Array.length_toList, size_madeCells]; omega), List.getElem?_eq_none (by rw [frC_length, List.length_replicate]; omega)]

end Go.Proofs.Ytockhhleapbpiaa


/- Plain facts on tables: an assignment as a list of all variables, and what stands there; rising lists. Nothing of the program is named here. -/
namespace Go.Proofs.Ytockhhleapbpiaa

theorem asg_digs {S : List Nat} : ∀ {vs : List Nat} {k i : Nat}, vs.Nodup → (h : i < vs.length) → (digs S vs k)[i]? = some (asg S vs k vs[i])
  | [], _, _, _, h => absurd h (by simp)
  | u :: vs, k, 0, _, _ => by simp [digs, asg]
  | u :: vs, k, i + 1, hn, h => by
    rw [List.nodup_cons] at hn
    have h' : i < vs.length := by simpa using h
    have e : ¬ vs[i] = u := fun e => hn.1 (by rw [← e]; exact List.getElem_mem h')
    rw [digs, List.getElem?_cons_succ, asg_digs hn.2 h', List.getElem_cons_succ, asg, if_neg e]
/-- An assignment as a list of all variables. -/
def spr (n : Nat) (f : Nat → Nat) : List Nat := (List.range n).map f
theorem spr_length (n : Nat) (f : Nat → Nat) : (spr n f).length = n := by simp [spr]
theorem spr_get {n : Nat} {f : Nat → Nat} {v : Nat} (h : v < n) : (spr n f)[v]'(by rw [spr_length]; exact h) = f v := by simp [spr]
theorem spr_get? {n : Nat} {f : Nat → Nat} {v : Nat} (h : v < n) : (spr n f)[v]? = some (f v) := by simp [spr, h]
theorem spr_congr {n : Nat} {f g : Nat → Nat} (h : ∀ v, v < n → f v = g v) : spr n f = spr n g := List.map_congr_left fun v hv => h v (List.mem_range.1 hv)
theorem spr_set {n : Nat} {f : Nat → Nat} (v x : Nat) : (spr n f).set v x = spr n (withV f v x) := by
  apply List.ext_getElem?
  intro u
  rw [List.getElem?_set]
  by_cases hu : u < n
  · rw [spr_get? hu, spr_get? hu, withV, spr_length]
    by_cases e : v = u
    · subst e; rw [if_pos rfl, if_pos hu, if_pos rfl]
    · rw [if_neg e, if_neg (fun h => e h.symm)]
  · rw [List.getElem?_eq_none (by rw [spr_length]; omega), List.getElem?_eq_none (by rw [spr_length]; omega), spr_length]
    by_cases e : v = u
    · rw [if_pos e, if_neg (by omega)]
    · rw [if_neg e]
/-- What is spread when i values are told. -/
def sprF (S vs : List Nat) (k i : Nat) : Nat → Nat := fun v => if v ∈ vs.take i then asg S vs k v else 0
theorem sprF_zero (S vs : List Nat) (k n : Nat) : spr n (sprF S vs k 0) = List.replicate n 0 := by
  apply List.ext_getElem
  · rw [spr_length, List.length_replicate]
  · intro i h1 h2
    rw [spr_get (by rw [spr_length] at h1; exact h1), List.getElem_replicate, sprF, List.take_zero, if_neg (by simp)]
theorem sprF_succ (S : List Nat) {vs : List Nat} (k n : Nat) {i : Nat} (h : i < vs.length) : (spr n (sprF S vs k i)).set vs[i] (asg S vs k vs[i]) = spr n (sprF S vs k (i + 1)) := by
  rw [spr_set]
  refine spr_congr fun v _ => ?_
  rw [withV, sprF, sprF, List.take_succ_eq_append_getElem h]
  by_cases e : v = vs[i]
  · rw [if_pos e, if_pos (by rw [e]; exact List.mem_append_right _ List.mem_cons_self), e]
  · rw [if_neg e]
    have : v ∈ vs.take i ++ [vs[i]] ↔ v ∈ vs.take i := ⟨fun h => (List.mem_append.1 h).elim id fun h => absurd (List.mem_singleton.1 h) e, List.mem_append_left _⟩
    simp only [this]
theorem sprF_all (S vs : List Nat) (k n : Nat) : spr n (sprF S vs k vs.length) = spr n (asg S vs k) := by
  refine spr_congr fun v _ => ?_
  rw [sprF, List.take_length]
  by_cases h : v ∈ vs
  · rw [if_pos h]
  · rw [if_neg h, asg_out h]
theorem pos_take (S : List Nat) (f : Nat → Nat) {vs : List Nat} {i : Nat} (h : i < vs.length) : pos S f (vs.take (i + 1)) = pos S f (vs.take i) * sz S vs[i] + f vs[i] := by
  rw [List.take_succ_eq_append_getElem h, pos_snoc]
theorem withV_lt {S : List Nat} {f : Nat → Nat} {v x : Nat} (hf : ∀ u, f u < sz S u) (hx : x < sz S v) (u : Nat) : withV f v x u < sz S u := by
  rw [withV]
  by_cases e : u = v
  · rw [if_pos e, e]; exact hx
  · rw [if_neg e]; exact hf u

/-- Two rising lists of the same numbers are the same. -/
theorem rise_ext : ∀ {a b : List Nat}, a.Pairwise (· < ·) → b.Pairwise (· < ·) → (∀ x, x ∈ a ↔ x ∈ b) → a = b
  | [], [], _, _, _ => rfl
  | [], y :: b, _, _, h => absurd ((h y).2 List.mem_cons_self) (by simp)
  | x :: a, [], _, _, h => absurd ((h x).1 List.mem_cons_self) (by simp)
  | x :: a, y :: b, ha, hb, h => by
    rw [List.pairwise_cons] at ha hb
    have e : x = y := by
      have h1 := (h x).1 List.mem_cons_self
      have h2 := (h y).2 List.mem_cons_self
      rw [List.mem_cons] at h1 h2
      rcases h1 with h1 | h1
      · exact h1
      · rcases h2 with h2 | h2
        · exact h2.symm
        · have := hb.1 x h1
          have := ha.1 y h2
          omega
    subst e
    rw [rise_ext ha.2 hb.2 fun z => ?_]
    constructor
    · intro hz
      have h1 := (h z).1 (List.mem_cons_of_mem _ hz)
      have := ha.1 z hz
      rw [List.mem_cons] at h1
      rcases h1 with h1 | h1
      · omega
      · exact h1
    · intro hz
      have h1 := (h z).2 (List.mem_cons_of_mem _ hz)
      have := hb.1 z hz
      rw [List.mem_cons] at h1
      rcases h1 with h1 | h1
      · omega
      · exact h1
theorem range_rise (n : Nat) : (List.range n).Pairwise (· < ·) := List.pairwise_lt_range
end Go.Proofs.Ytockhhleapbpiaa


/- What the calls on tables answer, as plain functions of lists. -/
namespace Go.Proofs.Ytockhhleapbpiaa
open Go.RowKit Go.Shelf

/-- A rational in lowest terms. -/
def qF (q : Rat) : Fr := (sgn q, nu q, de q)
theorem frV_qF (q : Rat) : frV (qF q) = .agg #[.bool (sgn q), .string (nu q), .string (de q)] := rfl
theorem frQ_qF (q : Rat) : frQ (qF q) = q := val_own q
/-- What stands at a place. -/
def celF (l : List Fr) (k : Nat) : Fr := l[k]?.getD frZ
theorem celF_eq {l : List Fr} {k : Nat} (h : k < l.length) : celF l k = l[k] := by rw [celF, List.getElem?_eq_getElem h]; rfl
theorem celF_size {l : List Fr} {k : Nat} (h : k < l.length) : (celF l k).2.1.size + (celF l k).2.2.size + 2 ≤ fw l := by rw [celF_eq h]; exact fw_mem (List.getElem_mem h)
/-- The first place that has the greatest number, of those up to k. -/
def bestN (l : List Fr) : Nat → Nat
  | 0 => 0
  | k + 1 => if cmpQ (frQ (celF l (bestN l k))) (frQ (celF l (k + 1))) < 0 then k + 1 else bestN l k
theorem bestN_le (l : List Fr) : ∀ k, bestN l k ≤ k
  | 0 => Nat.le_refl _
  | k + 1 => by
    have := bestN_le l k
    rw [bestN]
    by_cases h : cmpQ (frQ (celF l (bestN l k))) (frQ (celF l (k + 1))) < 0
    · rw [if_pos h]; omega
    · rw [if_neg h]; omega
/-- Norm's cells. -/
def normL (l : List Fr) : List Fr := l.map fun f => qF (frQ f * (1 / fsum l))
/-- Fix's cells. -/
def fixL (S vars rest : List Nat) (v x : Nat) (l : List Fr) : List Fr := (List.range (cnt S rest)).map fun K => qF (frQ (celF l (pos S (withV (asg S rest K) v x) vars)))
/-- What is left of so many. -/
def outN (most : Bool) (T : Nat → Fr) : Nat → Fr
  | 0 => T 0
  | k + 1 => if most then great (outN most T k) (T (k + 1)) else qF (frQ (outN most T k) + frQ (T (k + 1)))
/-- Out's cells. -/
def outL (S vars rest : List Nat) (v : Nat) (most : Bool) (l : List Fr) : List Fr := (List.range (cnt S rest)).map fun K => qF (frQ (outN most (fun x => celF l (pos S (withV (asg S rest K) v x) vars)) (sz S v - 1)))
/-- Product's cells. -/
def prodL (S va vb U : List Nat) (la lb : List Fr) : List Fr := (List.range (cnt S U)).map fun K => qF (frQ (celF la (pos S (asg S U K) va)) * frQ (celF lb (pos S (asg S U K) vb)))
/-- Product's variables. -/
def bothN (n : Nat) (a b : List Int) : List Nat := (List.range n).filter fun v => inB (v : Int) a || inB (v : Int) b
/-- A list without a variable. -/
def lessN (l : List Int) (v : Int) : List Int := l.filter fun u => !(u == v)
end Go.Proofs.Ytockhhleapbpiaa


/- Plain: no number of a table is longer than so. -/
namespace Go.Proofs.Ytockhhleapbpiaa
open Go.RowKit Go.Shelf

/-- No number is longer than so. -/
def Cw (m : Nat) (l : List Fr) : Prop := ∀ k, k < l.length → (celF l k).2.1.size + (celF l k).2.2.size + 2 ≤ m
theorem cw_of {m : Nat} {l : List Fr} (h : fw l ≤ m) : Cw m l := fun _ hk => Nat.le_trans (celF_size hk) h
theorem Cw.up {m n : Nat} {l : List Fr} (h : Cw m l) (hn : m ≤ n) : Cw n l := fun k hk => Nat.le_trans (h k hk) hn
end Go.Proofs.Ytockhhleapbpiaa


/- How many bytes a list of fractions has; one fraction held against another beside errors. -/
namespace Go.Proofs.Ytockhhleapbpiaa
open Go.RowKit

def sw : List Fr → Nat
  | [] => 0
  | f :: l => f.2.1.size + f.2.2.size + sw l
theorem sw_snoc (l : List Fr) (f : Fr) : sw (l ++ [f]) = sw l + (f.2.1.size + f.2.2.size) := by
  induction l with
  | nil => simp [sw]
  | cons g l ih => simp only [List.cons_append, sw, ih]; omega
theorem sw_take {l : List Fr} {k : Nat} (h : k < l.length) : sw (l.take (k + 1)) = sw (l.take k) + (l[k].2.1.size + l[k].2.2.size) := by
  rw [List.take_succ_eq_append_getElem h, sw_snoc]
theorem fw_sw (l : List Fr) : fw l = sw l + 2 * l.length := by
  induction l with
  | nil => rfl
  | cons f l ih => simp only [fw, sw, List.length_cons, ih]; omega

end Go.Proofs.Ytockhhleapbpiaa


/- Package table: what Best holds, and its join. -/
namespace Go.Proofs.Ytockhhleapbpiaa
open Go.RowKit Go.Shelf

/-- What Best answers. -/
def bestV (sizes vars : List Int) (l : List Fr) : List Nat := if checkA sizes vars l.length = 0 then digs (toN sizes) (toN vars) (bestN l (l.length - 1)) else []
def bestF (sizes vars : List Int) (l : List Fr) : Fr := if checkA sizes vars l.length = 0 then qF (frQ (celF l (bestN l (l.length - 1)))) else frZ
theorem checkA_parts {sizes vars : List Int} {m : Nat} (h : checkA sizes vars m = 0) : Fine sizes ∧ Up vars sizes.length ∧ m = cnt (toN sizes) (toN vars) := by
  rw [checkA] at h
  by_cases h1 : countB sizes vars = true
  · rw [if_pos h1] at h
    by_cases h2 : m = cnt (toN sizes) (toN vars)
    · exact ⟨(countB_parts h1).1, (countB_parts h1).2, h2⟩
    · rw [if_neg h2] at h; omega
  · rw [if_neg h1] at h; omega
theorem checkA_pos {sizes vars : List Int} {m : Nat} (h : checkA sizes vars m = 0) : 1 ≤ m := by
  obtain ⟨h1, h2, h3⟩ := checkA_parts h
  rw [h3]
  exact cnt_pos h1.pos _
end Go.Proofs.Ytockhhleapbpiaa

