/- Package table: Fix. -/
import Derived.Test.YtockhhleapbpiaaConAToFixA
import Derived.Test.YtockhhleapbpiaaSliBToListA
import Derived.Shelf.Slices.CompactI
import Derived.Test.YtockhhleapbpiaaFillAToTabT
import Derived.Laws.EntriesVeiled
namespace Go.Proofs.Ytockhhleapbpiaa
open Go.RowKit Go.Shelf

theorem up_iff {l : List Int} {n : Nat} : Up l n ↔ (∀ x ∈ l, 0 ≤ x ∧ x < n) ∧ l.Pairwise (· < ·) := by
  constructor
  · intro h
    refine ⟨fun x hx => ?_, List.pairwise_iff_getElem.2 fun i j hi hj hij => h.lt i j hj hij⟩
    obtain ⟨i, hi, rfl⟩ := List.getElem_of_mem hx
    exact h.each i hi
  · rintro ⟨h1, h2⟩
    exact ⟨fun i hi => h1 _ (List.getElem_mem hi), fun i j hj hi => List.pairwise_iff_getElem.1 h2 i j (by omega) hj hi⟩
theorem lessN_up {vars : List Int} {n : Nat} (h : Up vars n) (v : Int) : Up (lessN vars v) n := by
  rw [up_iff] at h ⊢
  exact ⟨fun x hx => h.1 x (List.mem_filter.1 hx).1, h.2.filter _⟩
theorem lessN_out {vars : List Int} {n v : Nat} (h : Up vars n) : ¬ v ∈ toN (lessN vars (v : Int)) := fun hm => by
  obtain ⟨x, hx, e⟩ := List.mem_map.1 hm
  have h1 := (up_iff.1 (lessN_up h v)).1 x hx
  have h2 := (List.mem_filter.1 hx).2
  simp at h2
  omega
theorem fixL_length (S vars rest : List Nat) (v x : Nat) (l : List Fr) : (fixL S vars rest v x l).length = cnt S rest := by simp [fixL]
theorem fixL_get (S vars rest : List Nat) (v x : Nat) (l : List Fr) {k : Nat} (h : k < (fixL S vars rest v x l).length) : (fixL S vars rest v x l)[k] = qF (frQ (celF l (pos S (withV (asg S rest k) v x) vars))) := by simp [fixL]
/-- The place of an assignment with one more value is a place. -/
theorem with_lt {sizes vars rest : List Int} {v x K m : Nat} (hk : checkA sizes vars m = 0) (hK : K < cnt (toN sizes) (toN rest)) (hx : x < sz (toN sizes) v) : pos (toN sizes) (withV (asg (toN sizes) (toN rest) K) v x) (toN vars) < m := by
  obtain ⟨h1, h2, h3⟩ := checkA_parts hk
  rw [h3]
  exact pos_lt _ (withV_lt (fun u => asg_lt h1.pos _ _ u hK) hx) _
end Go.Proofs.Ytockhhleapbpiaa


/- Package table: the closure of Out. -/
namespace Go.Proofs.Ytockhhleapbpiaa
open Go.RowKit Go.Shelf

theorem fits_mono {m n : Nat} {q : Rat} (h : Fits m q) (hm : m ≤ n) : Fits n q := by
  obtain ⟨A, D, h1, h2, h3, h4⟩ := h
  exact ⟨A, D, h1, h2, Nat.lt_of_lt_of_le h3 (pow_mono hm), Nat.lt_of_lt_of_le h4 (pow_mono hm)⟩
theorem great_one (f g : Fr) : great f g = f ∨ great f g = g := by
  rw [great]
  by_cases h : cmpQ (frQ f) (frQ g) < 0
  · rw [if_pos h]; exact .inr rfl
  · rw [if_neg h]; exact .inl rfl
theorem qF_size (q : Rat) : (qF q).2.1.size + (qF q).2.2.size = qw q := rfl
theorem outN_fits (most : Bool) (T : Nat → Fr) : ∀ k, (∀ x, x ≤ k → (T x).2.1.size + (T x).2.2.size + 2 ≤ 8192) → Fits ((k + 1) * 8192) (frQ (outN most T k))
  | 0, h => fits_mono (fits_val _ _ _) (by have := h 0 (Nat.le_refl _); show (T 0).2.1.size + (T 0).2.2.size + 1 ≤ _; omega)
  | k + 1, h => by
    have h1 := outN_fits most T k fun x hx => h x (by omega)
    have h2 : Fits 8191 (frQ (T (k + 1))) := fits_mono (fits_val _ _ _) (by have := h (k + 1) (Nat.le_refl _); omega)
    rw [outN]
    cases most with
    | true =>
      rw [if_pos rfl]
      rcases great_one (outN true T k) (T (k + 1)) with e | e
      · rw [e]; exact fits_mono h1 (by omega)
      · rw [e]; exact fits_mono h2 (by omega)
    | false =>
      rw [if_neg (by decide), frQ_qF]
      exact fits_mono (fits_add h1 h2) (by omega)
theorem out_ar1 (k : Nat) : 2 * ((k + 1) * 8192) ≤ 2 * ((k + 1 + 1) * 8192) := by omega
theorem out_ar2 (k : Nat) : 8192 ≤ 2 * ((k + 1 + 1) * 8192) := by omega
theorem great_size {f g : Fr} {A : Nat} (h1 : f.2.1.size + f.2.2.size ≤ A) (h2 : g.2.1.size + g.2.2.size ≤ A) : (great f g).2.1.size + (great f g).2.2.size ≤ A := by
  rcases great_one f g with e | e
  · rw [e]; exact h1
  · rw [e]; exact h2
theorem outN_size (most : Bool) (T : Nat → Fr) : ∀ k, (∀ x, x ≤ k → (T x).2.1.size + (T x).2.2.size + 2 ≤ 8192) → (outN most T k).2.1.size + (outN most T k).2.2.size ≤ 2 * ((k + 1) * 8192)
  | 0, h => by have := h 0 (Nat.le_refl _); rw [outN]; omega
  | k + 1, h => by
    have h1 := outN_size most T k fun x hx => h x (by omega)
    have h2 := h (k + 1) (Nat.le_refl _)
    have h3 := outN_fits most T (k + 1) h
    rw [outN] at h3 ⊢
    cases most with
    | true =>
      rw [if_pos rfl]
      exact great_size (Nat.le_trans h1 (out_ar1 k)) (Nat.le_trans (Nat.le_trans (Nat.le_add_right _ 2) h2) (out_ar2 k))
    | false =>
      rw [if_neg (by decide)] at h3 ⊢
      rw [frQ_qF] at h3
      have h4 := fits_qw h3
      rw [qF_size]
      exact h4
/-- A way to make two fractions one. -/
def Pairs (most : Bool) (pf : Nat) : Prop := (∀ args w, (callFunc pf args).run Try.prog w = .ok (.enter pf args) w) ∧ ∀ (f g : Fr) (V : World), f.2.1.size + f.2.2.size ≤ 100000 → g.2.1.size + g.2.2.size ≤ 100000 → Calls Try.prog pf #[frV f, frV g] V fun e w' => e = .returned (frV (if most then great f g else qF (frQ f + frQ g))) ∧ Below V.heap.size V w'
end Go.Proofs.Ytockhhleapbpiaa


/- Package table: Out. -/
namespace Go.Proofs.Ytockhhleapbpiaa
open Go.RowKit Go.Shelf

theorem outL_length (S vars rest : List Nat) (v : Nat) (most : Bool) (l : List Fr) : (outL S vars rest v most l).length = cnt S rest := by simp [outL]
theorem outL_get (S vars rest : List Nat) (v : Nat) (most : Bool) (l : List Fr) {k : Nat} (h : k < (outL S vars rest v most l).length) : (outL S vars rest v most l)[k] = qF (frQ (outN most (fun x => celF l (pos S (withV (asg S rest k) v x) vars)) (sz S v - 1))) := by simp [outL]

end Go.Proofs.Ytockhhleapbpiaa


/- The variables of two tables together. -/
namespace Go.Proofs.Ytockhhleapbpiaa
open Go.RowKit Go.Shelf Go.Sort Go.Lib

theorem rise_extI : ∀ {a b : List Int}, a.Pairwise (· < ·) → b.Pairwise (· < ·) → (∀ x, x ∈ a ↔ x ∈ b) → a = b
  | [], [], _, _, _ => rfl
  | [], y :: b, _, _, h => absurd ((h y).2 List.mem_cons_self) (by simp)
  | x :: a, [], _, _, h => absurd ((h x).1 List.mem_cons_self) (by simp)
  | x :: a, y :: b, ha, hb, h => by
    rw [List.pairwise_cons] at ha hb
    have e : x = y := by
      have h1 := (h x).1 List.mem_cons_self
      have h2 := (h y).2 List.mem_cons_self
      rw [List.mem_cons] at h1 h2
      rcases h1 with h1 | h1
      · exact h1
      · rcases h2 with h2 | h2
        · exact h2.symm
        · have := hb.1 x h1
          have := ha.1 y h2
          omega
    subst e
    rw [rise_extI ha.2 hb.2 fun z => ?_]
    constructor
    · intro hz
      have h1 := (h z).1 (List.mem_cons_of_mem _ hz)
      have := ha.1 z hz
      rw [List.mem_cons] at h1
      rcases h1 with h1 | h1
      · omega
      · exact h1
    · intro hz
      have h1 := (h z).2 (List.mem_cons_of_mem _ hz)
      have := hb.1 z hz
      rw [List.mem_cons] at h1
      rcases h1 with h1 | h1
      · omega
      · exact h1
theorem compact_upto {d : Array Int} (hs : ∀ i j, i ≤ j → j < d.size → d[i]! ≤ d[j]!) : ∀ m, m ≤ d.size → (compactUpTo d m).Pairwise (· < ·) ∧ ∀ x, x ∈ compactUpTo d m ↔ ∃ j, j < m ∧ d[j]! = x
  | 0, _ => ⟨by simp [compactUpTo], fun x => by simp [compactUpTo]⟩
  | m + 1, hm => by
    obtain ⟨h1, h2⟩ := compact_upto hs m (by omega)
    rw [compactUpTo_succ]
    by_cases hk : keeps d m = true
    · rw [if_pos hk]
      constructor
      · rw [List.pairwise_append]
        refine ⟨h1, by simp, fun x hx y hy => ?_⟩
        obtain ⟨j, hj, rfl⟩ := (h2 x).1 hx
        rw [List.mem_singleton] at hy
        subst hy
        rw [keeps, decide_eq_true_iff] at hk
        rcases hk with hk | hk
        · omega
        · have e1 := hs j (m - 1) (by omega) (by omega)
          have e2 := hs (m - 1) m (by omega) (by omega)
          omega
      · intro x
        rw [List.mem_append, h2, List.mem_singleton]
        constructor
        · rintro (⟨j, hj, rfl⟩ | rfl)
          · exact ⟨j, by omega, rfl⟩
          · exact ⟨m, by omega, rfl⟩
        · rintro ⟨j, hj, rfl⟩
          by_cases e : j = m
          · exact .inr (by rw [e])
          · exact .inl ⟨j, by omega, rfl⟩
    · rw [if_neg hk, List.append_nil]
      refine ⟨h1, fun x => ?_⟩
      rw [h2]
      have hk' : ¬ (m = 0 ∨ d[m]! ≠ d[m - 1]!) := fun h => hk (by rw [keeps, decide_eq_true_iff]; exact h)
      have hm0 : m ≠ 0 := fun h => hk' (.inl h)
      have hmm : d[m]! = d[m - 1]! := Classical.byContradiction fun h => hk' (.inr h)
      constructor
      · rintro ⟨j, hj, rfl⟩
        exact ⟨j, by omega, rfl⟩
      · rintro ⟨j, hj, rfl⟩
        by_cases e : j = m
        · exact ⟨m - 1, by omega, by rw [e, hmm]⟩
        · exact ⟨j, by omega, rfl⟩
/-- What together answers. -/
def togL (la lb : List Int) : List Int := Lib.compact ((la ++ lb).mergeSort fun x y => decide (x ≤ y))
theorem togL_rise (la lb : List Int) : (togL la lb).Pairwise (· < ·) ∧ ∀ x, x ∈ togL la lb ↔ x ∈ la ∨ x ∈ lb := by
  have hp : ((la ++ lb).mergeSort fun x y => decide (x ≤ y)).Pairwise (fun x y => decide (x ≤ y) = true) := List.pairwise_mergeSort (fun a b c h1 h2 => by simp at h1 h2 ⊢; omega) (fun a b => by simp; omega) _
  have hm : ∀ x, x ∈ ((la ++ lb).mergeSort fun x y => decide (x ≤ y)) ↔ x ∈ la ∨ x ∈ lb := fun x => by rw [List.mem_mergeSort, List.mem_append]
  rw [togL]
  generalize ((la ++ lb).mergeSort fun x y => decide (x ≤ y)) = zs at hp hm
  have hs : ∀ i j, i ≤ j → j < zs.toArray.size → zs.toArray[i]! ≤ zs.toArray[j]! := fun i j hij hj => by
    have hj' : j < zs.length := by simpa using hj
    rw [getElem!_pos zs.toArray i (by omega), getElem!_pos zs.toArray j hj]
    by_cases e : i = j
    · subst e; exact Int.le_refl _
    · have := List.pairwise_iff_getElem.1 hp i j (by omega) hj' (by omega)
      simpa using this
  obtain ⟨h1, h2⟩ := compact_upto hs zs.toArray.size (Nat.le_refl _)
  have e : Lib.compact zs = compactUpTo zs.toArray zs.toArray.size := by rw [Lib.compact]; simp
  rw [e]
  refine ⟨h1, fun x => ?_⟩
  rw [h2, ← hm]
  constructor
  · rintro ⟨j, hj, rfl⟩
    rw [getElem!_pos zs.toArray j hj]
    simp
  · intro hx
    obtain ⟨j, hj, rfl⟩ := List.getElem_of_mem hx
    exact ⟨j, by simpa using hj, by rw [getElem!_pos zs.toArray j (by simpa using hj)]; simp⟩
theorem togL_nil : togL [] [] = [] := List.eq_nil_iff_forall_not_mem.2 fun x hx => by have := ((togL_rise [] []).2 x).1 hx; simp at this
theorem inB_iff {k : Int} {l : List Int} : inB k l = true ↔ k ∈ l := by simp [inB]
theorem togL_both {la lb : List Int} {n : Nat} (ha : Up la n) (hb : Up lb n) : togL la lb = iL (bothN n la lb) := by
  obtain ⟨h1, h2⟩ := togL_rise la lb
  have ha' := (up_iff.1 ha).1
  have hb' := (up_iff.1 hb).1
  refine rise_extI h1 ?_ fun x => ?_
  · rw [iL, List.pairwise_map]
    exact ((range_rise n).filter _).imp fun h => by omega
  · rw [h2, iL, List.mem_map]
    constructor
    · intro hx
      have hr : 0 ≤ x ∧ x < n := hx.elim (ha' x) (hb' x)
      refine ⟨x.toNat, List.mem_filter.2 ⟨List.mem_range.2 (by omega), ?_⟩, by omega⟩
      rw [Bool.or_eq_true, inB_iff, inB_iff, Int.toNat_of_nonneg hr.1]
      exact hx
    · rintro ⟨v, hv, rfl⟩
      have := (List.mem_filter.1 hv).2
      rw [Bool.or_eq_true, inB_iff, inB_iff] at this
      exact this
theorem togL_up {la lb : List Int} {n : Nat} (ha : Up la n) (hb : Up lb n) : Up (togL la lb) n := by
  obtain ⟨h1, h2⟩ := togL_rise la lb
  exact up_iff.2 ⟨fun x hx => ((h2 x).1 hx).elim ((up_iff.1 ha).1 x) ((up_iff.1 hb).1 x), h1⟩
end Go.Proofs.Ytockhhleapbpiaa


/- Package table: together. -/
namespace Go.Proofs.Ytockhhleapbpiaa
open Go.RowKit Go.Shelf Go.Sort Go.Lib

end Go.Proofs.Ytockhhleapbpiaa


/- Package table: the closure of Product. -/
namespace Go.Proofs.Ytockhhleapbpiaa
open Go.RowKit Go.Shelf

end Go.Proofs.Ytockhhleapbpiaa


/- Package table: Product. -/
namespace Go.Proofs.Ytockhhleapbpiaa
open Go.RowKit Go.Shelf

/-- What is no nil function lies elsewhere. -/
theorem nil_far {V : World} {B b j : Nat} {t : TypeId} {x : Value} (h : Boxed V B t .nilFunc) (hx : V.cell? ⟨b, j, none⟩ = some x) (hn : x ≠ .nilFunc) : b ≠ B := fun e => by
  subst e
  rw [cell_of_row V b j _ _ (0, 0) h] at hx
  match j with
  | 0 => simp at hx; exact hn hx.symm
  | j + 1 => simp at hx
theorem intS_nil {V : World} {B : Nat} {t : TypeId} {c : Option Addr} {l : List Int} (h : Boxed V B t .nilFunc) (hi : IntS V c l) (y : Value) : IntS (V.setCell ⟨B, 0, none⟩ y) c l := fun k hk => by
  obtain ⟨g, o, rfl, hlt, hc⟩ := hi k hk
  have hne := nil_far h hc (by simp)
  exact ⟨g, o, rfl, Nat.lt_of_lt_of_le hlt (KeepsOthers.setCell V _ _).size, (World.cell?_setCell_other _ _ _ _ (fun e => hne (congrArg Addr.block e).symm)).trans hc⟩
theorem prodL_length (S va vb U : List Nat) (la lb : List Fr) : (prodL S va vb U la lb).length = cnt S U := by simp [prodL]
theorem prodL_get (S va vb U : List Nat) (la lb : List Fr) {k : Nat} (h : k < (prodL S va vb U la lb).length) : (prodL S va vb U la lb)[k] = qF (frQ (celF la (pos S (asg S U k) va)) * frQ (celF lb (pos S (asg S U k) vb))) := by simp [prodL]
theorem stand_lt {sizes vars U : List Int} {K m : Nat} (hk : checkA sizes vars m = 0) (hK : K < cnt (toN sizes) (toN U)) : pos (toN sizes) (asg (toN sizes) (toN U) K) (toN vars) < m := by
  obtain ⟨h1, h2, h3⟩ := checkA_parts hk
  rw [h3]
  exact pos_lt _ (fun u => asg_lt h1.pos _ _ u hK) _

end Go.Proofs.Ytockhhleapbpiaa

