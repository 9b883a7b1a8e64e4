/- The variables of two tables together. -/
import Derived.Test.YtockhhleapbpiaaSliBToListA
import Derived.Test.YtockhhleapbpiaaFilFToOutB
import Derived.Shelf.Slices.CompactI
import Derived.Test.YtockhhleapbpiaaFillAToTabT
import Derived.Laws.EntriesVeiled
import Derived.Test.YtockhhleapbpiaaIterBToJoinD
namespace Go.Proofs.Ytockhhleapbpiaa
open Go.RowKit Go.Shelf Go.Sort Go.Lib

theorem rise_extI : ∀ {a b : List Int}, a.Pairwise (· < ·) → b.Pairwise (· < ·) → (∀ x, x ∈ a ↔ x ∈ b) → a = b
  | [], [], _, _, _ => rfl
  | [], y :: b, _, _, h => absurd ((h y).2 List.mem_cons_self) (by simp)
  | x :: a, [], _, _, h => absurd ((h x).1 List.mem_cons_self) (by simp)
  | x :: a, y :: b, ha, hb, h => by
    rw [List.pairwise_cons] at ha hb
    have e : x = y := by
      have h1 := (h x).1 List.mem_cons_self
      have h2 := (h y).2 List.mem_cons_self
      rw [List.mem_cons] at h1 h2
      rcases h1 with h1 | h1
      · exact h1
      · rcases h2 with h2 | h2
        · exact h2.symm
        · have := hb.1 x h1
          have := ha.1 y h2
          omega
    subst e
    rw [rise_extI ha.2 hb.2 fun z => ?_]
    constructor
    · intro hz
      have h1 := (h z).1 (List.mem_cons_of_mem _ hz)
      have := ha.1 z hz
      rw [List.mem_cons] at h1
      rcases h1 with h1 | h1
      · omega
      · exact h1
    · intro hz
      have h1 := (h z).2 (List.mem_cons_of_mem _ hz)
      have := hb.1 z hz
      rw [List.mem_cons] at h1
      rcases h1 with h1 | h1
      · omega
      · exact h1
theorem compact_upto {d : Array Int} (hs : ∀ i j, i ≤ j → j < d.size → d[i]! ≤ d[j]!) : ∀ m, m ≤ d.size → (compactUpTo d m).Pairwise (· < ·) ∧ ∀ x, x ∈ compactUpTo d m ↔ ∃ j, j < m ∧ d[j]! = x
  | 0, _ => ⟨by simp [compactUpTo], fun x => by simp [compactUpTo]⟩
  | m + 1, hm => by
    obtain ⟨h1, h2⟩ := compact_upto hs m (by omega)
    rw [compactUpTo_succ]
    by_cases hk : keeps d m = true
    · rw [if_pos hk]
      constructor
      · rw [List.pairwise_append]
        refine ⟨h1, by simp, fun x hx y hy => ?_⟩
        obtain ⟨j, hj, rfl⟩ := (h2 x).1 hx
        rw [List.mem_singleton] at hy
        subst hy
        rw [keeps, decide_eq_true_iff] at hk
        rcases hk with hk | hk
        · omega
        · have e1 := hs j (m - 1) (by omega) (by omega)
          have e2 := hs (m - 1) m (by omega) (by omega)
          omega
      · intro x
        rw [List.mem_append, h2, List.mem_singleton]
        constructor
        · rintro (⟨j, hj, rfl⟩ | rfl)
          · exact ⟨j, by omega, rfl⟩
          · exact ⟨m, by omega, rfl⟩
        · rintro ⟨j, hj, rfl⟩
          by_cases e : j = m
          · exact .inr (by rw [e])
          · exact .inl ⟨j, by omega, rfl⟩
    · rw [if_neg hk, List.append_nil]
      refine ⟨h1, fun x => ?_⟩
      rw [h2]
      have hk' : ¬ (m = 0 ∨ d[m]! ≠ d[m - 1]!) := fun h => hk (by rw [keeps, decide_eq_true_iff]; exact h)
      have hm0 : m ≠ 0 := fun h => hk' (.inl h)
      have hmm : d[m]! = d[m - 1]! := Classical.byContradiction fun h => hk' (.inr h)
      constructor
      · rintro ⟨j, hj, rfl⟩
        exact ⟨j, by omega, rfl⟩
      · rintro ⟨j, hj, rfl⟩
        by_cases e : j = m
        · exact ⟨m - 1, by omega, by rw [e, hmm]⟩
        · exact ⟨j, by omega, rfl⟩
/-- What together answers. -/
def togL (la lb : List Int) : List Int := Lib.compact ((la ++ lb).mergeSort fun x y => decide (x ≤ y))
theorem togL_rise (la lb : List Int) : (togL la lb).Pairwise (· < ·) ∧ ∀ x, x ∈ togL la lb ↔ x ∈ la ∨ x ∈ lb := by
  have hp : ((la ++ lb).mergeSort fun x y => decide (x ≤ y)).Pairwise (fun x y => decide (x ≤ y) = true) := List.pairwise_mergeSort (fun a b c h1 h2 => by simp at h1 h2 ⊢; omega) (fun a b => by simp; omega) _
  have hm : ∀ x, x ∈ ((la ++ lb).mergeSort fun x y => decide (x ≤ y)) ↔ x ∈ la ∨ x ∈ lb := fun x => by rw [List.mem_mergeSort, List.mem_append]
  rw [togL]
  generalize ((la ++ lb).mergeSort fun x y => decide (x ≤ y)) = zs at hp hm
  have hs : ∀ i j, i ≤ j → j < zs.toArray.size → zs.toArray[i]! ≤ zs.toArray[j]! := fun i j hij hj => by
    have hj' : j < zs.length := by simpa using hj
    rw [getElem!_pos zs.toArray i (by omega), getElem!_pos zs.toArray j hj]
    by_cases e : i = j
    · subst e; exact Int.le_refl _
    · have := List.pairwise_iff_getElem.1 hp i j (by omega) hj' (by omega)
      simpa using this
  obtain ⟨h1, h2⟩ := compact_upto hs zs.toArray.size (Nat.le_refl _)
  have e : Lib.compact zs = compactUpTo zs.toArray zs.toArray.size := by rw [Lib.compact]; simp
  rw [e]
  refine ⟨h1, fun x => ?_⟩
  rw [h2, ← hm]
  constructor
  · rintro ⟨j, hj, rfl⟩
    rw [getElem!_pos zs.toArray j hj]
    simp
  · intro hx
    obtain ⟨j, hj, rfl⟩ := List.getElem_of_mem hx
    exact ⟨j, by simpa using hj, by rw [getElem!_pos zs.toArray j (by simpa using hj)]; simp⟩
theorem togL_nil : togL [] [] = [] := List.eq_nil_iff_forall_not_mem.2 fun x hx => by have := ((togL_rise [] []).2 x).1 hx; simp at this
theorem inB_iff {k : Int} {l : List Int} : inB k l = true ↔ k ∈ l := by simp [inB]
theorem togL_both {la lb : List Int} {n : Nat} (ha : Up la n) (hb : Up lb n) : togL la lb = iL (bothN n la lb) := by
  obtain ⟨h1, h2⟩ := togL_rise la lb
  have ha' := (up_iff.1 ha).1
  have hb' := (up_iff.1 hb).1
  refine rise_extI h1 ?_ fun x => ?_
  · rw [iL, List.pairwise_map]
    exact ((range_rise n).filter _).imp fun h => by omega
  · rw [h2, iL, List.mem_map]
    constructor
    · intro hx
      have hr : 0 ≤ x ∧ x < n := hx.elim (ha' x) (hb' x)
      refine ⟨x.toNat, List.mem_filter.2 ⟨List.mem_range.2 (by omega), ?_⟩, by omega⟩
      rw [Bool.or_eq_true, inB_iff, inB_iff, Int.toNat_of_nonneg hr.1]
      exact hx
    · rintro ⟨v, hv, rfl⟩
      have := (List.mem_filter.1 hv).2
      rw [Bool.or_eq_true, inB_iff, inB_iff] at this
      exact this
theorem togL_up {la lb : List Int} {n : Nat} (ha : Up la n) (hb : Up lb n) : Up (togL la lb) n := by
  obtain ⟨h1, h2⟩ := togL_rise la lb
  exact up_iff.2 ⟨fun x hx => ((h2 x).1 hx).elim ((up_iff.1 ha).1 x) ((up_iff.1 hb).1 x), h1⟩
end Go.Proofs.Ytockhhleapbpiaa


/- The document's answer: Out. -/
namespace Go.Proofs.Ytockhhleapbpiaa
open Go.RowKit Go.Shelf

theorem cmp_turn (p q : Rat) : 0 < cmpQ p q ↔ cmpQ q p < 0 := by
  rw [cmpQ, cmpQ]
  by_cases h1 : p < q
  · have h2 : ¬ q < p := Rat.not_lt.2 (Rat.le_of_lt h1)
    have h3 : ¬ q = p := fun h => by rw [h] at h1; exact Rat.lt_irrefl h1
    rw [if_pos h1, if_neg h2, if_neg h3]; decide
  · rw [if_neg h1]
    by_cases h2 : p = q
    · subst h2
      rw [if_neg h1, if_pos rfl]
    · have h3 : q < p := Rat.not_le.1 fun h4 => h1 (Rat.lt_of_le_of_ne h4 h2)
      rw [if_neg h2, if_pos h3]; decide
/-- What is left of the first so many; ahead of the first nothing. -/
def leftN (most : Bool) (T : Nat → Fr) (x : Nat) : Fr := if x = 0 then frZ else outN most T (x - 1)
theorem leftN_zero (most : Bool) (T : Nat → Fr) : leftN most T 0 = frZ := rfl
theorem leftN_one (most : Bool) (T : Nat → Fr) : leftN most T 1 = T 0 := rfl
theorem leftN_sum (T : Nat → Fr) {x : Nat} (h : x ≠ 0) : leftN false T (x + 1) = qF (frQ (leftN false T x) + frQ (T x)) := by
  obtain ⟨y, rfl⟩ : ∃ y, x = y + 1 := ⟨x - 1, by omega⟩
  rfl
theorem leftN_up (T : Nat → Fr) {x : Nat} (h : x ≠ 0) (hc : 0 < cmpQ (frQ (T x)) (frQ (leftN true T x))) : leftN true T (x + 1) = T x := by
  obtain ⟨y, rfl⟩ : ∃ y, x = y + 1 := ⟨x - 1, by omega⟩
  change 0 < cmpQ (frQ (T (y + 1))) (frQ (outN true T y)) at hc
  show great (outN true T y) (T (y + 1)) = _
  rw [great, if_pos ((cmp_turn _ _).1 hc)]
theorem leftN_keep (T : Nat → Fr) {x : Nat} (h : x ≠ 0) (hc : ¬ 0 < cmpQ (frQ (T x)) (frQ (leftN true T x))) : leftN true T (x + 1) = leftN true T x := by
  obtain ⟨y, rfl⟩ : ∃ y, x = y + 1 := ⟨x - 1, by omega⟩
  change ¬ 0 < cmpQ (frQ (T (y + 1))) (frQ (outN true T y)) at hc
  show great (outN true T y) (T (y + 1)) = outN true T y
  rw [great, if_neg (fun h => hc ((cmp_turn _ _).2 h))]
theorem left_ar {x : Nat} (hx : x ≤ 3) : 2 * ((x - 1 + 1) * 8192) ≤ 50000 := by omega
theorem leftN_size (most : Bool) (T : Nat → Fr) (x : Nat) (hx : x ≤ 3) (h : ∀ y, y < x → (T y).2.1.size + (T y).2.2.size + 2 ≤ 8192) : (leftN most T x).2.1.size + (leftN most T x).2.2.size ≤ 50000 := by
  by_cases h0 : x = 0
  · subst h0; rw [leftN_zero]; decide
  · have e : leftN most T x = outN most T (x - 1) := if_neg h0
    rw [e]
    exact Nat.le_trans (outN_size most T (x - 1) fun y hy => h y (by omega)) (left_ar hx)
theorem spr_with (n : Nat) (f : Nat → Nat) (v z x : Nat) : (spr n (withV f v z)).set v x = spr n (withV f v x) := by
  rw [spr_set]
  exact spr_congr fun u _ => by
    rw [withV, withV, withV]
    by_cases e : u = v
    · rw [if_pos e, if_pos e]
    · rw [if_neg e, if_neg e, if_neg e]
theorem spr_self (n : Nat) (f : Nat → Nat) (v : Nat) : spr n f = spr n (withV f v (f v)) := spr_congr fun u _ => by
  rw [withV]
  by_cases e : u = v
  · rw [if_pos e, e]
  · rw [if_neg e]
theorem left_ar2 {x : Nat} (hx : x ≤ 4) : 2 * ((x - 1 + 1) * 8192) ≤ 65536 := by omega
theorem leftN_lt (most : Bool) (T : Nat → Fr) (x : Nat) (h1 : 1 ≤ x) (hx : x ≤ 4) (h : ∀ y, y < x → (T y).2.1.size + (T y).2.2.size + 2 ≤ 8192) : (leftN most T x).2.1.size + (leftN most T x).2.2.size ≤ 65536 := by
  have e : leftN most T x = outN most T (x - 1) := if_neg (by omega)
  rw [e]
  exact Nat.le_trans (outN_size most T (x - 1) fun y hy => h y (by omega)) (left_ar2 hx)

end Go.Proofs.Ytockhhleapbpiaa


/- The document's answer: TableBest. -/
namespace Go.Proofs.Ytockhhleapbpiaa
open Go.RowKit Go.Shelf

theorem bestN_up {l : List Fr} {i : Nat} (h : 1 ≤ i) (hc : 0 < cmpQ (frQ (celF l i)) (frQ (celF l (bestN l (i - 1))))) : bestN l i = i := by
  obtain ⟨k, rfl⟩ : ∃ k, i = k + 1 := ⟨i - 1, by omega⟩
  rw [Nat.add_sub_cancel] at hc
  rw [bestN, if_pos ((cmp_turn _ _).1 hc)]
theorem bestN_keep {l : List Fr} {i : Nat} (h : 1 ≤ i) (hc : ¬ 0 < cmpQ (frQ (celF l i)) (frQ (celF l (bestN l (i - 1))))) : bestN l i = bestN l (i - 1) := by
  obtain ⟨k, rfl⟩ : ∃ k, i = k + 1 := ⟨i - 1, by omega⟩
  rw [Nat.add_sub_cancel] at hc ⊢
  rw [bestN, if_neg (fun h => hc ((cmp_turn _ _).2 h))]

end Go.Proofs.Ytockhhleapbpiaa


/- Package table: Norm's closure. -/
namespace Go.Proofs.Ytockhhleapbpiaa
open Go.RowKit Go.Shelf

end Go.Proofs.Ytockhhleapbpiaa


/- Package table: Norm. -/
namespace Go.Proofs.Ytockhhleapbpiaa
open Go.RowKit Go.Shelf

theorem normL_length (l : List Fr) : (normL l).length = l.length := by simp [normL]
theorem normL_get (l : List Fr) {k : Nat} (h : k < (normL l).length) : (normL l)[k] = qF (frQ (l[k]'(by rw [normL_length] at h; exact h)) * (1 / fsum l)) := by simp [normL]
theorem qw_inv {q : Rat} (h : q ≠ 0) : qw (1 / q) ≤ qw q + 1 := by
  have e : val (sgn q) (nu q) (de q) ≠ 0 := by rw [val_own]; exact h
  have h0 := fun h => e (val_zero_iff.2 h)
  have e1 : 1 / q = val (sgn q) (de q) (nu q) := by rw [val_inv _ _ _ (fun h => h0 (.inl h)) (fun h => h0 (.inr h)), val_own, Rat.div_def, Rat.one_mul]
  rw [e1]
  refine Nat.le_trans (qw_val _ _ _) ?_
  show (B q.den).size + (B q.num.natAbs).size + 1 ≤ qw q + 1
  rw [qw]
  omega
theorem qw_sum {l : List Fr} (h : fw l ≤ 10000) : qw (fsum l) ≤ 20002 := by have := fits_qw (fits_sum l); omega

end Go.Proofs.Ytockhhleapbpiaa


/- The document's answer: Norm. -/
namespace Go.Proofs.Ytockhhleapbpiaa
open Go.RowKit Go.Shelf

end Go.Proofs.Ytockhhleapbpiaa


/- Package table: together. -/
namespace Go.Proofs.Ytockhhleapbpiaa
open Go.RowKit Go.Shelf Go.Sort Go.Lib

end Go.Proofs.Ytockhhleapbpiaa


/- Package table: the closure of Product. -/
namespace Go.Proofs.Ytockhhleapbpiaa
open Go.RowKit Go.Shelf

end Go.Proofs.Ytockhhleapbpiaa


/- Package table: Product. -/
namespace Go.Proofs.Ytockhhleapbpiaa
open Go.RowKit Go.Shelf

/-- What is no nil function lies elsewhere. -/
theorem nil_far {V : World} {B b j : Nat} {t : TypeId} {x : Value} (h : Boxed V B t .nilFunc) (hx : V.cell? ⟨b, j, none⟩ = some x) (hn : x ≠ .nilFunc) : b ≠ B := fun e => by
  subst e
  rw [cell_of_row V b j _ _ (0, 0) h] at hx
  match j with
  | 0 => simp at hx; exact hn hx.symm
  | j + 1 => simp at hx
theorem intS_nil {V : World} {B : Nat} {t : TypeId} {c : Option Addr} {l : List Int} (h : Boxed V B t .nilFunc) (hi : IntS V c l) (y : Value) : IntS (V.setCell ⟨B, 0, none⟩ y) c l := fun k hk => by
  obtain ⟨g, o, rfl, hlt, hc⟩ := hi k hk
  have hne := nil_far h hc (by simp)
  exact ⟨g, o, rfl, Nat.lt_of_lt_of_le hlt (KeepsOthers.setCell V _ _).size, (World.cell?_setCell_other _ _ _ _ (fun e => hne (congrArg Addr.block e).symm)).trans hc⟩
theorem prodL_length (S va vb U : List Nat) (la lb : List Fr) : (prodL S va vb U la lb).length = cnt S U := by simp [prodL]
theorem prodL_get (S va vb U : List Nat) (la lb : List Fr) {k : Nat} (h : k < (prodL S va vb U la lb).length) : (prodL S va vb U la lb)[k] = qF (frQ (celF la (pos S (asg S U k) va)) * frQ (celF lb (pos S (asg S U k) vb))) := by simp [prodL]
theorem stand_lt {sizes vars U : List Int} {K m : Nat} (hk : checkA sizes vars m = 0) (hK : K < cnt (toN sizes) (toN U)) : pos (toN sizes) (asg (toN sizes) (toN U) K) (toN vars) < m := by
  obtain ⟨h1, h2, h3⟩ := checkA_parts hk
  rw [h3]
  exact pos_lt _ (fun u => asg_lt h1.pos _ _ u hK) _

end Go.Proofs.Ytockhhleapbpiaa


/- The document's answer: Product. -/
namespace Go.Proofs.Ytockhhleapbpiaa
open Go.RowKit Go.Shelf

/-- The variables so far. -/
def bothI (a b : List Int) (i : Nat) : List Int := iL (bothN i a b)
theorem bothI_succ (a b : List Int) (i : Nat) : bothI a b (i + 1) = bothI a b i ++ if (inB (i : Int) a || inB (i : Int) b) = true then [(i : Int)] else [] := by
  rw [bothI, bothI, bothN, bothN, List.range_succ, List.filter_append, iL, iL, List.map_append]
  congr 1
  by_cases h : (inB (i : Int) a || inB (i : Int) b) = true
  · simp only [List.filter_cons, h, List.filter_nil, if_true, List.map_cons, List.map_nil]
  · simp only [List.filter_cons, h, List.filter_nil]
    rfl
theorem bothI_len (a b : List Int) (i : Nat) : (bothI a b i).length ≤ i := by
  rw [bothI, iL_length]
  exact Nat.le_trans (List.length_filter_le _ _) (by rw [List.length_range]; exact Nat.le_refl _)
theorem RwI.off {w : World} {B : Nat} {v : Value} {l : List Int} (h : RwI w B v l) (b j : Nat) (y : Value) (hb : b < B) : RwI (w.setCell ⟨b, j, none⟩ y) B v l := by
  refine ⟨h.1, h.2.imp id ?_⟩
  rintro ⟨g, cap, cur, h1, h2, h3, h4⟩
  exact ⟨g, cap, cur, h1, h2, (Below.heap_setCell w ⟨b, j, none⟩ y g (by show g ≠ b; omega)).trans h3, h4⟩
theorem RwI.below {w w' : World} {B : Nat} {v : Value} {l : List Int} (h : RwI w B v l) (hb : Below w.heap.size w w') : RwI w' B v l := by
  refine ⟨h.1, h.2.imp id ?_⟩
  rintro ⟨g, cap, cur, h1, h2, h3, h4⟩
  exact ⟨g, cap, cur, h1, h2, (hb.block g (Array.getElem?_eq_some_iff.1 h3).1).trans h3, h4⟩
theorem RwI.slv {w : World} {B : Nat} {v : Value} {l : List Int} (h : RwI w B v l) : SlV v := by
  obtain ⟨d, cd, e, _⟩ := h.ints
  exact ⟨d, _, cd, e⟩
theorem RwI.intS {w : World} {B : Nat} {d : Option Addr} {cd : Nat} {U : List Int} (h : RwI w B (.slice d U.length cd) U) : IntS w d U := by
  obtain ⟨d', cd', e, hi⟩ := h.ints
  cases e
  exact hi

end Go.Proofs.Ytockhhleapbpiaa


/- Package table: Best. -/
namespace Go.Proofs.Ytockhhleapbpiaa
open Go.RowKit Go.Shelf

end Go.Proofs.Ytockhhleapbpiaa


/- The law's comparison of two answers beside errors. -/
namespace Go.Proofs.Ytockhhleapbpiaa
open Go.RowKit

end Go.Proofs.Ytockhhleapbpiaa


/- The law's small functions on tables. -/
namespace Go.Proofs.Ytockhhleapbpiaa
open Go.RowKit Go.Shelf

set_option maxRecDepth 100000 in
set_option maxHeartbeats 400000 in
theorem sameInts_any (a b : Option Addr) (ca cb : Nat) (l : List Int) (w : World) (ha : IntS w a l) (hb : IntS w b l) (hn : l.length ≤ 100000) :
    Calls Try.prog 10 #[.slice a l.length ca, .slice b l.length cb] w fun e w' => e = .returned (.bool true) ∧ Below w.heap.size w w' := by
  have HA := hid ha
  have HB := hid hb
  clear ha hb
  go_enter Try.func10, Try.ntmps10
  go_wp2_with fail
  go_loopw [5] (fun iv wr => ∃ i : Nat, i ≤ l.length ∧ iv = .int .i64 i ∧ Hid (Below w.heap.size w wr)) (fun iv _ => l.length - (intOf iv).toNat)
  case atStart => exact ⟨0, Nat.zero_le _, rfl, Below.refl _ _⟩
  case round =>
    obtain ⟨i, hi, rfl, HW⟩ := hrel
    by_cases hlt : i < l.length
    · obtain ⟨g, o, rfl, hg, c0⟩ := (HA.out.below HW.out) i hlt
      obtain ⟨g2, o2, rfl, hg2, c2⟩ := (HB.out.below HW.out) i hlt
      generalize l[i] = x at *
      go_wp2_with fail
      go_quiet (fail)
      go_wp2
      go_roundw
      case rel => exact ⟨i + 1, by omega, by go_num, below_dn HW.out _⟩
      case measure => simp [intOf]; omega
    · obtain rfl : i = l.length := by omega
      go_wp2
      go_ret
      exact ⟨rfl, HW.out⟩

end Go.Proofs.Ytockhhleapbpiaa

