/- The variables of two tables together. -/
import Derived.Test.YtnnfmfdjgdgdhaaDoorFillBToDicP
import Derived.Test.YtnnfmfdjgdgdhaaDoorDicAToOutB
import Derived.Shelf.Slices.CompactI
import Derived.Laws.EntriesVeiled
namespace Go.Proofs.YtnnfmfdjgdgdhaaDoor
open Go.RowKit Go.Shelf Go.Sort Go.Lib

theorem rise_extI : ∀ {a b : List Int}, a.Pairwise (· < ·) → b.Pairwise (· < ·) → (∀ x, x ∈ a ↔ x ∈ b) → a = b
  | [], [], _, _, _ => rfl
  | [], y :: b, _, _, h => absurd ((h y).2 List.mem_cons_self) (by simp)
  | x :: a, [], _, _, h => absurd ((h x).1 List.mem_cons_self) (by simp)
  | x :: a, y :: b, ha, hb, h => by
    rw [List.pairwise_cons] at ha hb
    have e : x = y := by
      have h1 := (h x).1 List.mem_cons_self
      have h2 := (h y).2 List.mem_cons_self
      rw [List.mem_cons] at h1 h2
      rcases h1 with h1 | h1
      · exact h1
      · rcases h2 with h2 | h2
        · exact h2.symm
        · have := hb.1 x h1
          have := ha.1 y h2
          omega
    subst e
    rw [rise_extI ha.2 hb.2 fun z => ?_]
    constructor
    · intro hz
      have h1 := (h z).1 (List.mem_cons_of_mem _ hz)
      have := ha.1 z hz
      rw [List.mem_cons] at h1
      rcases h1 with h1 | h1
      · omega
      · exact h1
    · intro hz
      have h1 := (h z).2 (List.mem_cons_of_mem _ hz)
      have := hb.1 z hz
      rw [List.mem_cons] at h1
      rcases h1 with h1 | h1
      · omega
      · exact h1
theorem compact_upto {d : Array Int} (hs : ∀ i j, i ≤ j → j < d.size → d[i]! ≤ d[j]!) : ∀ m, m ≤ d.size → (compactUpTo d m).Pairwise (· < ·) ∧ ∀ x, x ∈ compactUpTo d m ↔ ∃ j, j < m ∧ d[j]! = x
  | 0, _ => ⟨by simp [compactUpTo], fun x => by simp [compactUpTo]⟩
  | m + 1, hm => by
    obtain ⟨h1, h2⟩ := compact_upto hs m (by omega)
    rw [compactUpTo_succ]
    by_cases hk : keeps d m = true
    · rw [if_pos hk]
      constructor
      · rw [List.pairwise_append]
        refine ⟨h1, by simp, fun x hx y hy => ?_⟩
        obtain ⟨j, hj, rfl⟩ := (h2 x).1 hx
        rw [List.mem_singleton] at hy
        subst hy
        rw [keeps, decide_eq_true_iff] at hk
        rcases hk with hk | hk
        · omega
        · have e1 := hs j (m - 1) (by omega) (by omega)
          have e2 := hs (m - 1) m (by omega) (by omega)
          omega
      · intro x
        rw [List.mem_append, h2, List.mem_singleton]
        constructor
        · rintro (⟨j, hj, rfl⟩ | rfl)
          · exact ⟨j, by omega, rfl⟩
          · exact ⟨m, by omega, rfl⟩
        · rintro ⟨j, hj, rfl⟩
          by_cases e : j = m
          · exact .inr (by rw [e])
          · exact .inl ⟨j, by omega, rfl⟩
    · rw [if_neg hk, List.append_nil]
      refine ⟨h1, fun x => ?_⟩
      rw [h2]
      have hk' : ¬ (m = 0 ∨ d[m]! ≠ d[m - 1]!) := fun h => hk (by rw [keeps, decide_eq_true_iff]; exact h)
      have hm0 : m ≠ 0 := fun h => hk' (.inl h)
      have hmm : d[m]! = d[m - 1]! := Classical.byContradiction fun h => hk' (.inr h)
      constructor
      · rintro ⟨j, hj, rfl⟩
        exact ⟨j, by omega, rfl⟩
      · rintro ⟨j, hj, rfl⟩
        by_cases e : j = m
        · exact ⟨m - 1, by omega, by rw [e, hmm]⟩
        · exact ⟨j, by omega, rfl⟩
/-- What together answers. -/
def togL (la lb : List Int) : List Int := Lib.compact ((la ++ lb).mergeSort fun x y => decide (x ≤ y))
theorem togL_rise (la lb : List Int) : (togL la lb).Pairwise (· < ·) ∧ ∀ x, x ∈ togL la lb ↔ x ∈ la ∨ x ∈ lb := by
  have hp : ((la ++ lb).mergeSort fun x y => decide (x ≤ y)).Pairwise (fun x y => decide (x ≤ y) = true) := List.pairwise_mergeSort (fun a b c h1 h2 => by simp at h1 h2 ⊢; omega) (fun a b => by simp; omega) _
  have hm : ∀ x, x ∈ ((la ++ lb).mergeSort fun x y => decide (x ≤ y)) ↔ x ∈ la ∨ x ∈ lb := fun x => by rw [List.mem_mergeSort, List.mem_append]
  rw [togL]
  generalize ((la ++ lb).mergeSort fun x y => decide (x ≤ y)) = zs at hp hm
  have hs : ∀ i j, i ≤ j → j < zs.toArray.size → zs.toArray[i]! ≤ zs.toArray[j]! := fun i j hij hj => by
    have hj' : j < zs.length := by simpa using hj
    rw [getElem!_pos zs.toArray i (by omega), getElem!_pos zs.toArray j hj]
    by_cases e : i = j
    · subst e; exact Int.le_refl _
    · have := List.pairwise_iff_getElem.1 hp i j (by omega) hj' (by omega)
      simpa using this
  obtain ⟨h1, h2⟩ := compact_upto hs zs.toArray.size (Nat.le_refl _)
  have e : Lib.compact zs = compactUpTo zs.toArray zs.toArray.size := by rw [Lib.compact]; simp
  rw [e]
  refine ⟨h1, fun x => ?_⟩
  rw [h2, ← hm]
  constructor
  · rintro ⟨j, hj, rfl⟩
    rw [getElem!_pos zs.toArray j hj]
    simp
  · intro hx
    obtain ⟨j, hj, rfl⟩ := List.getElem_of_mem hx
    exact ⟨j, by simpa using hj, by rw [getElem!_pos zs.toArray j (by simpa using hj)]; simp⟩
theorem togL_nil : togL [] [] = [] := List.eq_nil_iff_forall_not_mem.2 fun x hx => by have := ((togL_rise [] []).2 x).1 hx; simp at this
theorem inB_iff {k : Int} {l : List Int} : inB k l = true ↔ k ∈ l := by simp [inB]
theorem togL_both {la lb : List Int} {n : Nat} (ha : Up la n) (hb : Up lb n) : togL la lb = iL (bothN n la lb) := by
  obtain ⟨h1, h2⟩ := togL_rise la lb
  have ha' := (up_iff.1 ha).1
  have hb' := (up_iff.1 hb).1
  refine rise_extI h1 ?_ fun x => ?_
  · rw [iL, List.pairwise_map]
    exact ((range_rise n).filter _).imp fun h => by omega
  · rw [h2, iL, List.mem_map]
    constructor
    · intro hx
      have hr : 0 ≤ x ∧ x < n := hx.elim (ha' x) (hb' x)
      refine ⟨x.toNat, List.mem_filter.2 ⟨List.mem_range.2 (by omega), ?_⟩, by omega⟩
      rw [Bool.or_eq_true, inB_iff, inB_iff, Int.toNat_of_nonneg hr.1]
      exact hx
    · rintro ⟨v, hv, rfl⟩
      have := (List.mem_filter.1 hv).2
      rw [Bool.or_eq_true, inB_iff, inB_iff] at this
      exact this
theorem togL_up {la lb : List Int} {n : Nat} (ha : Up la n) (hb : Up lb n) : Up (togL la lb) n := by
  obtain ⟨h1, h2⟩ := togL_rise la lb
  exact up_iff.2 ⟨fun x hx => ((h2 x).1 hx).elim ((up_iff.1 ha).1 x) ((up_iff.1 hb).1 x), h1⟩
end Go.Proofs.YtnnfmfdjgdgdhaaDoor


/- Package table: together. -/
namespace Go.Proofs.YtnnfmfdjgdgdhaaDoor
open Go.RowKit Go.Shelf Go.Sort Go.Lib

end Go.Proofs.YtnnfmfdjgdgdhaaDoor


/- Package table: the closure of Product. -/
namespace Go.Proofs.YtnnfmfdjgdgdhaaDoor
open Go.RowKit Go.Shelf

end Go.Proofs.YtnnfmfdjgdgdhaaDoor


/- Package table: Product. -/
namespace Go.Proofs.YtnnfmfdjgdgdhaaDoor
open Go.RowKit Go.Shelf

/-- What is no nil function lies elsewhere. -/
theorem nil_far {V : World} {B b j : Nat} {t : TypeId} {x : Value} (h : Boxed V B t .nilFunc) (hx : V.cell? ⟨b, j, none⟩ = some x) (hn : x ≠ .nilFunc) : b ≠ B := fun e => by
  subst e
  rw [cell_of_row V b j _ _ (0, 0) h] at hx
  match j with
  | 0 => simp at hx; exact hn hx.symm
  | j + 1 => simp at hx
theorem intS_nil {V : World} {B : Nat} {t : TypeId} {c : Option Addr} {l : List Int} (h : Boxed V B t .nilFunc) (hi : IntS V c l) (y : Value) : IntS (V.setCell ⟨B, 0, none⟩ y) c l := fun k hk => by
  obtain ⟨g, o, rfl, hlt, hc⟩ := hi k hk
  have hne := nil_far h hc (by simp)
  exact ⟨g, o, rfl, Nat.lt_of_lt_of_le hlt (KeepsOthers.setCell V _ _).size, (World.cell?_setCell_other _ _ _ _ (fun e => hne (congrArg Addr.block e).symm)).trans hc⟩
theorem prodL_length (S va vb U : List Nat) (la lb : List Fr) : (prodL S va vb U la lb).length = cnt S U := by simp [prodL]
theorem prodL_get (S va vb U : List Nat) (la lb : List Fr) {k : Nat} (h : k < (prodL S va vb U la lb).length) : (prodL S va vb U la lb)[k] = qF (frQ (celF la (pos S (asg S U k) va)) * frQ (celF lb (pos S (asg S U k) vb))) := by simp [prodL]
theorem stand_lt {sizes vars U : List Int} {K m : Nat} (hk : checkA sizes vars m = 0) (hK : K < cnt (toN sizes) (toN U)) : pos (toN sizes) (asg (toN sizes) (toN U) K) (toN vars) < m := by
  obtain ⟨h1, h2, h3⟩ := checkA_parts hk
  rw [h3]
  exact pos_lt _ (fun u => asg_lt h1.pos _ _ u hK) _

end Go.Proofs.YtnnfmfdjgdgdhaaDoor


/- Plain facts for the sums' order: taking two variables out in either order leaves the same numbers; what has nothing of a variable may be taken out of the sum. -/
namespace Go.Proofs.YtnnfmfdjgdgdhaaDoor
open Go.RowKit Go.Shelf

theorem pos_congr (S : List Nat) {f g : Nat → Nat} : ∀ {vs : List Nat}, (∀ u ∈ vs, f u = g u) → pos S f vs = pos S g vs := by
  intro vs h
  have key : ∀ (vs : List Nat) (k : Nat), (∀ u ∈ vs, f u = g u) → vs.foldl (fun k v => k * sz S v + f v) k = vs.foldl (fun k v => k * sz S v + g v) k := by
    intro vs
    induction vs with
    | nil => intro k _; rfl
    | cons v vs ih =>
      intro k h
      rw [List.foldl_cons, List.foldl_cons, h v List.mem_cons_self, ih _ fun u hu => h u (List.mem_cons_of_mem _ hu)]
  exact key vs 0 h
theorem pos_cons (S : List Nat) (f : Nat → Nat) (v : Nat) (vs : List Nat) : pos S f (v :: vs) = f v * cnt S vs + pos S f vs := by
  show vs.foldl (fun k v => k * sz S v + f v) (0 * sz S v + f v) = _
  rw [foldl_pos S f vs, Nat.zero_mul, Nat.zero_add]
theorem asg_pos {S : List Nat} (hp : Pos S) {f : Nat → Nat} (hf : ∀ u, f u < sz S u) : ∀ {vs : List Nat}, vs.Nodup → ∀ u ∈ vs, asg S vs (pos S f vs) u = f u
  | [], _, u, hu => by cases hu
  | v :: vs, hn, u, hu => by
    rw [List.nodup_cons] at hn
    have hlt := pos_lt f hf vs
    have hc := cnt_pos hp vs
    rw [pos_cons, asg]
    by_cases e : u = v
    · rw [if_pos e, e, Nat.mul_comm, Nat.mul_add_div hc, Nat.div_eq_of_lt hlt, Nat.add_zero]
    · rw [if_neg e, Nat.mul_comm, Nat.mul_add_mod, Nat.mod_eq_of_lt hlt]
      exact asg_pos hp hf hn.2 u ((List.mem_cons.1 hu).resolve_left e)
theorem celF_map {n k : Nat} (g : Nat → Fr) (h : k < n) : celF ((List.range n).map g) k = g k := by
  rw [celF_eq (by simpa using h)]; simp

/-- What two make. -/
def opQ (most : Bool) (p q : Rat) : Rat := if most then (if p < q then q else p) else p + q
/-- What is left of so many numbers. -/
def outQ (most : Bool) (g : Nat → Rat) : Nat → Rat
  | 0 => g 0
  | k + 1 => opQ most (outQ most g k) (g (k + 1))
theorem cmpQ_neg {p q : Rat} : cmpQ p q < 0 ↔ p < q := by
  rw [cmpQ]
  by_cases h : p < q
  · rw [if_pos h]; exact ⟨fun _ => h, fun _ => by decide⟩
  · rw [if_neg h]
    by_cases e : p = q
    · rw [if_pos e]; exact ⟨fun h => absurd h (by decide), fun h' => absurd h' h⟩
    · rw [if_neg e]; exact ⟨fun h => absurd h (by decide), fun h' => absurd h' h⟩
theorem frQ_outN (most : Bool) (T : Nat → Fr) : ∀ k, frQ (outN most T k) = outQ most (fun x => frQ (T x)) k
  | 0 => rfl
  | k + 1 => by
    rw [outN, outQ, ← frQ_outN most T k]
    cases most with
    | false => simp only [opQ, Bool.false_eq_true, if_false]; exact frQ_qF _
    | true =>
      simp only [opQ, if_true, great]
      by_cases h : cmpQ (frQ (outN true T k)) (frQ (T (k + 1))) < 0
      · rw [if_pos h, if_pos (cmpQ_neg.1 h)]
      · rw [if_neg h, if_neg fun e => h (cmpQ_neg.2 e)]
theorem outQ_congr (most : Bool) {g h : Nat → Rat} : ∀ {k : Nat}, (∀ x, x ≤ k → g x = h x) → outQ most g k = outQ most h k
  | 0, e => e 0 (Nat.le_refl _)
  | k + 1, e => by rw [outQ, outQ, outQ_congr most fun x hx => e x (by omega), e (k + 1) (Nat.le_refl _)]
theorem opQ_comm (most : Bool) (p q : Rat) : opQ most p q = opQ most q p := by
  cases most with
  | false => exact Rat.add_comm p q
  | true =>
    simp only [opQ, if_true]
    rcases Rat.le_total (a := p) (b := q) with h | h
    · by_cases e : p = q
      · subst e; rfl
      · have h1 : p < q := Rat.lt_of_le_of_ne h e
        rw [if_pos h1, if_neg (Rat.not_lt.2 h)]
    · by_cases e : q = p
      · subst e; rfl
      · have h1 : q < p := Rat.lt_of_le_of_ne h e
        rw [if_neg (Rat.not_lt.2 h), if_pos h1]
theorem rlt {p q r : Rat} (h1 : p < q) (h2 : q < r) : p < r := Rat.not_le.1 fun h => Rat.not_le.2 h1 (Rat.le_trans (Rat.le_of_lt h2) h)
theorem opQ_assoc (most : Bool) (p q r : Rat) : opQ most (opQ most p q) r = opQ most p (opQ most q r) := by
  cases most with
  | false => exact Rat.add_assoc p q r
  | true =>
    simp only [opQ, if_true]
    by_cases h1 : p < q
    · by_cases h2 : q < r
      · rw [if_pos h1, if_pos h2, if_pos (rlt h1 h2)]
      · rw [if_pos h1, if_neg h2, if_pos h1]
    · by_cases h2 : q < r
      · rw [if_neg h1, if_pos h2]
      · rw [if_neg h1, if_neg h2, if_neg h1, if_neg]
        exact Rat.not_lt.2 (Rat.le_trans (Rat.not_lt.1 h2) (Rat.not_lt.1 h1))
theorem opQ_four (most : Bool) (p q r s : Rat) : opQ most (opQ most p q) (opQ most r s) = opQ most (opQ most p r) (opQ most q s) := by
  rw [opQ_assoc, opQ_assoc, ← opQ_assoc most q r s, opQ_comm most q r, opQ_assoc most r q s]
theorem outQ_op (most : Bool) (g h : Nat → Rat) : ∀ k, outQ most (fun x => opQ most (g x) (h x)) k = opQ most (outQ most g k) (outQ most h k)
  | 0 => rfl
  | k + 1 => by rw [outQ, outQ, outQ, outQ_op most g h k, opQ_four]
theorem outQ_swap (most : Bool) (g : Nat → Nat → Rat) (m : Nat) : ∀ n, outQ most (fun x => outQ most (fun y => g x y) m) n = outQ most (fun y => outQ most (fun x => g x y) n) m
  | 0 => rfl
  | n + 1 => by
    rw [outQ, outQ_swap most g m n, ← outQ_op]
    rfl
theorem outQ_mul (A : Rat) (g : Nat → Rat) : ∀ k, outQ false (fun x => A * g x) k = A * outQ false g k
  | 0 => rfl
  | k + 1 => by
    rw [outQ, outQ, outQ_mul A g k]
    simp only [opQ, Bool.false_eq_true, if_false]
    rw [Rat.mul_add]

theorem withV_comm (f : Nat → Nat) {u v : Nat} (x y : Nat) (h : u ≠ v) : withV (withV f v x) u y = withV (withV f u y) v x := by
  funext z
  simp only [withV]
  by_cases e : z = u
  · rw [if_pos e, if_neg (by omega), if_pos e]
  · rw [if_neg e, if_neg e]
/-- A number of what is left. -/
theorem out_cell {S vars rest : List Nat} (hp : Pos S) (hr : rest.Nodup) {v : Nat} (hv : ∀ u ∈ vars, u = v ∨ u ∈ rest) (most : Bool) (l : List Fr) {f : Nat → Nat} (hf : ∀ u, f u < sz S u) :
    frQ (celF (outL S vars rest v most l) (pos S f rest)) = outQ most (fun x => frQ (celF l (pos S (withV f v x) vars))) (sz S v - 1) := by
  rw [outL, celF_map _ (pos_lt f hf rest), frQ_qF, frQ_outN]
  refine outQ_congr most fun x _ => ?_
  rw [pos_congr S (f := withV (asg S rest (pos S f rest)) v x) (g := withV f v x)]
  intro u hu
  simp only [withV]
  by_cases e : u = v
  · rw [if_pos e, if_pos e]
  · rw [if_neg e, if_neg e]; exact asg_pos hp hf hr u ((hv u hu).resolve_left e)
theorem prod_cell {S va vb U : List Nat} (hp : Pos S) (hr : U.Nodup) (hva : ∀ u ∈ va, u ∈ U) (hvb : ∀ u ∈ vb, u ∈ U) (la lb : List Fr) {f : Nat → Nat} (hf : ∀ u, f u < sz S u) :
    frQ (celF (prodL S va vb U la lb) (pos S f U)) = frQ (celF la (pos S f va)) * frQ (celF lb (pos S f vb)) := by
  rw [prodL, celF_map _ (pos_lt f hf U), frQ_qF, pos_congr S (f := asg S U (pos S f U)) (g := f) fun u hu => asg_pos hp hf hr u (hva u hu), pos_congr S (f := asg S U (pos S f U)) (g := f) fun u hu => asg_pos hp hf hr u (hvb u hu)]
theorem map_range_congr {n : Nat} {g h : Nat → Fr} (e : ∀ k, k < n → g k = h k) : (List.range n).map g = (List.range n).map h := List.map_congr_left fun k hk => e k (List.mem_range.1 hk)
/-- Two variables may be taken out in either order. -/
theorem out_swap {S vars ru rv R : List Nat} (hp : Pos S) {u v : Nat} (huv : u ≠ v) (hru : ru.Nodup) (hrv : rv.Nodup) (h1 : ∀ x ∈ vars, x = u ∨ x ∈ ru) (h2 : ∀ x ∈ vars, x = v ∨ x ∈ rv) (most : Bool) (l : List Fr) :
    outL S ru R v most (outL S vars ru u most l) = outL S rv R u most (outL S vars rv v most l) := by
  show (List.range (cnt S R)).map _ = (List.range (cnt S R)).map _
  refine map_range_congr fun K hK => ?_
  rw [frQ_outN, frQ_outN]
  have hf := fun z => asg_lt hp R K z hK
  have su := sz_pos hp u
  have sv := sz_pos hp v
  congr 1
  rw [outQ_congr most (h := fun x => outQ most (fun y => frQ (celF l (pos S (withV (withV (asg S R K) v x) u y) vars))) (sz S u - 1)) fun x hx => out_cell hp hru h1 most l (withV_lt hf (by omega)),
    outQ_congr most (k := sz S u - 1) (h := fun y => outQ most (fun x => frQ (celF l (pos S (withV (withV (asg S R K) u y) v x) vars))) (sz S v - 1)) fun y hy => out_cell hp hrv h2 most l (withV_lt hf (by omega)),
    outQ_swap]
  refine outQ_congr most fun y _ => outQ_congr most fun x _ => ?_
  rw [withV_comm _ _ _ huv]
/-- What has nothing of a variable may be taken out of the sum. -/
theorem out_prod {S va vb rb U R : List Nat} (hp : Pos S) {v : Nat} (hU : U.Nodup) (hrb : rb.Nodup) (h1 : ∀ x ∈ va, x ∈ U) (h2 : ∀ x ∈ vb, x ∈ U) (h3 : ∀ x ∈ vb, x = v ∨ x ∈ rb) (hv : ¬ v ∈ va) (la lb : List Fr) :
    outL S U R v false (prodL S va vb U la lb) = prodL S va rb R la (outL S vb rb v false lb) := by
  show (List.range (cnt S R)).map _ = (List.range (cnt S R)).map _
  refine map_range_congr fun K hK => ?_
  rw [frQ_outN]
  have hf := fun z => asg_lt hp R K z hK
  have sv := sz_pos hp v
  congr 1
  rw [outQ_congr false (h := fun x => frQ (celF la (pos S (asg S R K) va)) * frQ (celF lb (pos S (withV (asg S R K) v x) vb))) fun x hx => ?_, outQ_mul, out_cell hp hrb h3 false lb hf]
  rw [prod_cell hp hU h1 h2 la lb (withV_lt hf (by omega)), pos_congr S (f := withV (asg S R K) v x) (g := asg S R K) (vs := va)]
  intro u hu
  rw [withV, if_neg fun e => hv (by rw [← e]; exact hu)]
theorem prod_comm (S va vb U : List Nat) (la lb : List Fr) : prodL S va vb U la lb = prodL S vb va U lb la := by
  rw [prodL, prodL]
  exact map_range_congr fun K _ => by rw [Rat.mul_comm]

/-- Numbers in lowest terms, of so many bytes at most. -/
def Sml (s : Nat) (l : List Fr) : Prop := ∀ f ∈ l, ∃ q, f = qF q ∧ qw q ≤ s
theorem Sml.fw {s : Nat} : ∀ {l : List Fr}, Sml s l → fw l ≤ (s + 2) * l.length
  | [], _ => by simp [Go.Proofs.YtnnfmfdjgdgdhaaDoor.fw]
  | f :: l, h => by
    obtain ⟨q, rfl, hq⟩ := h f List.mem_cons_self
    have ih := Sml.fw (s := s) (l := l) fun g hg => h g (List.mem_cons_of_mem _ hg)
    have e : (nu q).size + (de q).size = qw q := rfl
    show (nu q).size + (de q).size + 2 + Go.Proofs.YtnnfmfdjgdgdhaaDoor.fw l ≤ _
    rw [List.length_cons, Nat.mul_add, Nat.mul_one]
    omega
theorem Sml.cel {s : Nat} {l : List Fr} (h : Sml s l) {k : Nat} (hk : k < l.length) : qw (frQ (celF l k)) ≤ s := by
  obtain ⟨q, hq, hs⟩ := h (celF l k) (by rw [celF_eq hk]; exact List.getElem_mem hk)
  rw [hq, frQ_qF]; exact hs
theorem opQ_most {s : Nat} {p q : Rat} (hp : qw p ≤ s) (hq : qw q ≤ s) : qw (opQ true p q) ≤ s := by
  simp only [opQ, if_true]
  by_cases h : p < q
  · rw [if_pos h]; exact hq
  · rw [if_neg h]; exact hp
theorem outQ_size {s : Nat} (most : Bool) {g : Nat → Rat} : ∀ {k : Nat}, k ≤ 2 → (∀ x, x ≤ k → qw (g x) ≤ s) → qw (outQ most g k) ≤ 10 * s + 3
  | 0, _, h => by have := h 0 (Nat.le_refl _); rw [outQ]; omega
  | 1, _, h => by
    have h0 := h 0 (by omega)
    have h1 := h 1 (by omega)
    cases most with
    | false =>
      have := qw_add (g 0) (g 1)
      show qw (g 0 + g 1) ≤ _
      omega
    | true => exact Nat.le_trans (opQ_most h0 h1) (by omega)
  | 2, _, h => by
    have h0 := h 0 (by omega)
    have h1 := h 1 (by omega)
    have h2 := h 2 (by omega)
    cases most with
    | false =>
      have := qw_add (g 0) (g 1)
      have := qw_add (g 0 + g 1) (g 2)
      show qw (g 0 + g 1 + g 2) ≤ _
      omega
    | true => exact Nat.le_trans (opQ_most (opQ_most h0 h1) h2) (by omega)
  | k + 3, hk, _ => by omega
theorem Sml.out {S vars rest : List Nat} {v s : Nat} {l : List Fr} (h : Sml s l) (hp : Pos S) (hl : l.length = cnt S vars) (hs : sz S v ≤ 3) (most : Bool) : Sml (10 * s + 3) (outL S vars rest v most l) := by
  intro f hf
  obtain ⟨K, hK, rfl⟩ := List.mem_map.1 hf
  have hf' := fun z => asg_lt hp rest K z (List.mem_range.1 hK)
  have sv := sz_pos hp v
  refine ⟨_, rfl, ?_⟩
  rw [frQ_outN]
  exact outQ_size most (by omega) fun x hx => h.cel (by rw [hl]; exact pos_lt _ (withV_lt hf' (by omega)) _)
theorem Sml.prod {S va vb U : List Nat} {s t : Nat} {la lb : List Fr} (ha : Sml s la) (hb : Sml t lb) (hp : Pos S) (hla : la.length = cnt S va) (hlb : lb.length = cnt S vb) : Sml (s + t) (prodL S va vb U la lb) := by
  intro f hf
  obtain ⟨K, hK, rfl⟩ := List.mem_map.1 hf
  have hf' := fun z => asg_lt hp U K z (List.mem_range.1 hK)
  refine ⟨_, rfl, ?_⟩
  have h1 := ha.cel (k := pos S (asg S U K) va) (by rw [hla]; exact pos_lt _ hf' _)
  have h2 := hb.cel (k := pos S (asg S U K) vb) (by rw [hlb]; exact pos_lt _ hf' _)
  have := qw_mul (frQ (celF la (pos S (asg S U K) va))) (frQ (celF lb (pos S (asg S U K) vb)))
  omega
theorem cnt_three {S : List Nat} (h : ∀ v, sz S v ≤ 3) : ∀ vs : List Nat, cnt S vs ≤ 3 ^ vs.length
  | [] => Nat.le_refl _
  | v :: vs => by rw [cnt, List.length_cons, Nat.pow_succ, Nat.mul_comm]; exact Nat.mul_le_mul (cnt_three h vs) (h v)
theorem int_size {z : Int} (h : z.natAbs ≤ 255) : qw (z : Rat) ≤ 2 := by
  show (B z.natAbs).size + (B 1).size ≤ 2
  have h1 := B_one_size
  have h2 : (B z.natAbs).size ≤ 1 := by rw [B_size]; exact bn_fits 1 _ (by show _ < 256; omega)
  omega
end Go.Proofs.YtnnfmfdjgdgdhaaDoor


/- The document's answer: what a table has for an assignment of all variables. -/
namespace Go.Proofs.YtnnfmfdjgdgdhaaDoor
open Go.RowKit Go.Shelf

theorem RowI_get {l : List Nat} {i : Nat} (h : i < (iL l).length) : (iL l)[i] = ((l[i]'(by rw [iL_length] at h; exact h) : Nat) : Int) := by simp [iL]

end Go.Proofs.YtnnfmfdjgdgdhaaDoor


/- The document's answer: an assignment as one of all variables; a list without one. -/
namespace Go.Proofs.YtnnfmfdjgdgdhaaDoor
open Go.RowKit Go.Shelf

theorem lessN_take {vars : List Int} {v : Int} {i : Nat} (h : i < vars.length) : lessN (vars.take (i + 1)) v = lessN (vars.take i) v ++ if vars[i] = v then [] else [vars[i]] := by
  rw [List.take_succ_eq_append_getElem h, lessN, lessN, List.filter_append]
  congr 1
  by_cases e : vars[i] = v
  · simp [e]
  · simp [e]

end Go.Proofs.YtnnfmfdjgdgdhaaDoor


/- The document's answer: tables that grow cell by cell. -/
namespace Go.Proofs.YtnnfmfdjgdgdhaaDoor
open Go.RowKit Go.Shelf

/-- A list of fractions in memory of its own. -/
def RwF (w : World) (B : Nat) (v : Value) (l : List Fr) : Prop := w.ownsRow B 30 3 v l.length (frC l)
theorem RwF.empty (w : World) (B : Nat) : RwF w B (.slice none 0 0) [] := ⟨rfl, .inl ⟨rfl, rfl⟩⟩
theorem RwF.below {w w' : World} {B : Nat} {v : Value} {l : List Fr} (h : RwF w B v l) (hb : Below w.heap.size w w') : RwF w' B v l := by
  refine ⟨h.1, h.2.imp id ?_⟩
  rintro ⟨g, cap, cur, h1, h2, h3, h4⟩
  exact ⟨g, cap, cur, h1, h2, (hb.block g (Array.getElem?_eq_some_iff.1 h3).1).trans h3, h4⟩
theorem RwF.off {w : World} {B : Nat} {v : Value} {l : List Fr} (h : RwF w B v l) (b j : Nat) (y : Value) (hb : b < B) : RwF (w.setCell ⟨b, j, none⟩ y) B v l := by
  refine ⟨h.1, h.2.imp id ?_⟩
  rintro ⟨g, cap, cur, h1, h2, h3, h4⟩
  exact ⟨g, cap, cur, h1, h2, (Below.heap_setCell w ⟨b, j, none⟩ y g (by show g ≠ b; omega)).trans h3, h4⟩
theorem RwF.own {w : World} {B : Nat} {v : Value} {l : List Fr} (h : RwF w B v l) : ∀ k, v.ownBlock = some k → B ≤ k := by
  intro k hk
  rcases h.2 with ⟨rfl, _⟩ | ⟨g, cap, cur, rfl, h2, _⟩
  · cases hk
  · cases hk
    exact h2
theorem RwF.fr {w : World} {B : Nat} {v : Value} {l : List Fr} (h : RwF w B v l) : ∃ d cd, v = .slice d l.length cd ∧ FrS w d l := by
  rcases h.2 with ⟨h1, h2⟩ | ⟨g, cap, cur, h1, h2, h3, h4, h5, h6, h7⟩
  · have : l = [] := List.length_eq_zero_iff.1 h2
    subst this
    exact ⟨none, 0, h1, fun k hk => absurd hk (by simp)⟩
  · refine ⟨_, _, h1, fun k hk => ?_⟩
    obtain ⟨e1, e2, e3⟩ := frC_get l k hk
    have at_ : ∀ j, j < l.length * 3 → cur[j]? = (frC l)[j]? := fun j hj => by
      rw [← h7, List.getElem?_take, if_pos hj, Array.getElem?_toList]
    refine ⟨g, 0, rfl, (Array.getElem?_eq_some_iff.1 h3).1, ?_, ?_, ?_⟩
    · rw [cell_of_row w g _ _ _ (0, 0) h3, Nat.zero_add, at_ _ (by omega)]; exact e1
    · rw [cell_of_row w g _ _ _ (0, 0) h3, Nat.zero_add, at_ _ (by omega)]; exact e2
    · rw [cell_of_row w g _ _ _ (0, 0) h3, Nat.zero_add, at_ _ (by omega)]; exact e3
theorem RwF.slv {w : World} {B : Nat} {v : Value} {l : List Fr} (h : RwF w B v l) : SlV v := by
  obtain ⟨d, cd, e, _⟩ := h.fr
  exact ⟨d, _, cd, e⟩
theorem frC_snoc (l : List Fr) (f : Fr) : frC (l ++ [f]) = frC l ++ [.bool f.1, .string f.2.1, .string f.2.2] := by
  induction l with
  | nil => rfl
  | cons x l ih => simp only [List.cons_append, frC, ih]
theorem wpList_append_fr {w : World} {ops : Array Oper} {rest : List Oper} {o : Oper} {a : Act} {Q : Exit → Act → World → Prop} (hgd : o.guard = none) (s x : Operand)
    (ho : o.op = .call { callee := .builtin .append, args := #[s, x], argTypes := #[23, 23] }) (base : Nat) (v : Value) (l : List Fr) (f : Fr) (hs : a.eval s = v) (hown : RwF w base v l) (g : Nat) (hx : a.eval x = .slice (some ⟨g, 0, none⟩) 1 1) (hg : Box w g f.1 f.2.1 f.2.2) (hlen : l.length + 1 ≤ 100000) (hbase : base ≤ w.heap.size)
    (h : ∀ v' w', RwF w' base v' (l ++ [f]) → w.grownBy w' v.ownBlock → wpList Tryd.prog ops Q rest (a.put o.dst v') w') : wpList Tryd.prog ops Q (o :: rest) a w := by
  obtain ⟨i0, hi0, hz0, hz1, hz2⟩ := info_parts Tryd.infoFrac
  refine wpList_append_own _ hgd s x 23 ho base 30 i0 (.agg #[.bool false, .string ⟨#[]⟩, .string ⟨#[]⟩]) 3 40 Tryd.underlying23 hi0 hz0 hz1 hz2 rfl (by decide) v l.length _ hs hown ⟨g, 0, none⟩ 1 1 [.bool f.1, .string f.2.1, .string f.2.2] hx rfl ?_ ?_ (by unfold maxLen; omega) (by omega) hbase ?_
  · intro j u hj
    match j, hj with
    | 0, hj => cases hj; exact hg.c0
    | 1, hj => cases hj; exact hg.c1
    | 2, hj => cases hj; exact hg.c2
    | j + 3, hj => simp at hj
  · intro u hu
    simp only [List.mem_cons, List.not_mem_nil, or_false] at hu
    rcases hu with rfl | rfl | rfl <;> rfl
  · intro v' w' h1 h2 _
    refine h v' w' ?_ h2
    rw [RwF, List.length_append, frC_snoc]
    exact h1

end Go.Proofs.YtnnfmfdjgdgdhaaDoor


/- The document's answer: Fix. -/
namespace Go.Proofs.YtnnfmfdjgdgdhaaDoor
open Go.RowKit Go.Shelf

theorem countB_of {sizes vars : List Int} (h1 : Fine sizes) (h2 : Up vars sizes.length) : countB sizes vars = true := by
  rw [countB, Bool.and_eq_true]
  constructor
  · rw [fitB, Bool.and_eq_true, decide_eq_true_iff]
    refine ⟨⟨h1.one, h1.eight⟩, List.all_eq_true.2 fun x hx => ?_⟩
    obtain ⟨i, hi, rfl⟩ := List.getElem_of_mem hx
    rw [okSize, decide_eq_true_iff]
    exact h1.each i hi
  · rw [risB, List.all_eq_true]
    intro i hi
    have hi' := List.mem_range.1 hi
    rw [okAt, decide_eq_true_iff, getD_eq hi']
    refine ⟨(h2.each i hi').1, (h2.each i hi').2, fun h0 => ?_⟩
    rw [getD_eq (show i - 1 < vars.length by omega)]
    exact h2.lt (i - 1) i hi' (by omega)
theorem Canon_r {n : Bool} {x y : ByteArray} {w : World} (s1 : x.size + y.size ≤ 100000) :
    Calls Tryd.prog 16 #[.agg #[.bool n, .string x, .string y]] w fun e w' => e = .returned (frV (qF (val n x y))) ∧ Below w.heap.size w w' := rCanon_any n x y w (by omega) (by omega)

end Go.Proofs.YtnnfmfdjgdgdhaaDoor


/- The law's tables: what Out and Product answer there, and that the orders agree. -/
namespace Go.Proofs.YtnnfmfdjgdgdhaaDoor
open Go.RowKit Go.Shelf

/-- Sizes of the law. -/
structure Sz3 (sizes : List Int) : Prop where
  fine : Fine sizes
  three : ∀ i (h : i < sizes.length), sizes[i] ≤ 3
  many : 3 ≤ sizes.length
  few : sizes.length ≤ 5
theorem Sz3.sz {sizes : List Int} (h : Sz3 sizes) (v : Nat) : sz (toN sizes) v ≤ 3 := by
  by_cases hv : v < sizes.length
  · have := h.fine.sz_eq hv
    have := h.three v hv
    omega
  · rw [Go.Proofs.YtnnfmfdjgdgdhaaDoor.sz, List.getElem?_eq_none (by rw [toN_length]; omega)]; simp
/-- A table of the law. -/
structure TL (sizes vars : List Int) (l : List Fr) (s : Nat) : Prop where
  up : Up vars sizes.length
  len : l.length = cnt (toN sizes) (toN vars)
  sml : Sml s l
theorem TL.check {sizes vars : List Int} {l : List Fr} {s : Nat} (h : TL sizes vars l s) (hs : Sz3 sizes) : checkA sizes vars l.length = 0 := checkA_yes (countB_of hs.fine h.up) h.len
theorem cnt_few {sizes vars : List Int} (hs : Sz3 sizes) (h : Up vars sizes.length) : cnt (toN sizes) (toN vars) ≤ 243 := by
  have h1 := cnt_three hs.sz (toN vars)
  have h2 := h.length
  have h3 := hs.few
  rw [toN_length] at h1
  exact Nat.le_trans h1 (Nat.pow_le_pow_right (by decide) (show vars.length ≤ 5 by omega))
theorem TL.few {sizes vars : List Int} {l : List Fr} {s : Nat} (h : TL sizes vars l s) (hs : Sz3 sizes) : l.length ≤ 243 := by rw [h.len]; exact cnt_few hs h.up
theorem TL.fw {sizes vars : List Int} {l : List Fr} {s : Nat} (h : TL sizes vars l s) (hs : Sz3 sizes) (hS : s ≤ 30) : fw l ≤ 8192 := by
  have h1 := h.sml.fw
  have h2 := Nat.mul_le_mul (show s + 2 ≤ 32 by omega) (h.few hs)
  omega
theorem TL.out {sizes vars : List Int} {l : List Fr} {s : Nat} (h : TL sizes vars l s) (hs : Sz3 sizes) (v : Nat) (most : Bool) : TL sizes (lessN vars v) (outL (toN sizes) (toN vars) (toN (lessN vars (v : Int))) v most l) (10 * s + 3) :=
  ⟨lessN_up h.up _, outL_length _ _ _ _ _ _, h.sml.out hs.fine.pos h.len (hs.sz v) most⟩
theorem TL.prod {sizes va vb : List Int} {la lb : List Fr} {s t : Nat} (ha : TL sizes va la s) (hb : TL sizes vb lb t) (hs : Sz3 sizes) : TL sizes (togL va vb) (prodL (toN sizes) (toN va) (toN vb) (toN (togL va vb)) la lb) (s + t) :=
  ⟨togL_up ha.up hb.up, prodL_length _ _ _ _ _ _, ha.sml.prod hb.sml hs.fine.pos ha.len hb.len⟩
theorem up_len {vars sizes : List Int} (h : Up vars sizes.length) (hs : Sz3 sizes) : vars.length ≤ 140737488355328 := by have := h.length; have := hs.few; omega
theorem sz_len {sizes : List Int} (hs : Sz3 sizes) : sizes.length ≤ 140737488355328 := by have := hs.few; omega
theorem lessN_comm (l : List Int) (u v : Int) : lessN (lessN l u) v = lessN (lessN l v) u := by
  rw [lessN, lessN, lessN, lessN, List.filter_filter, List.filter_filter]
  exact List.filter_congr fun x _ => Bool.and_comm _ _
theorem mem_less {l : List Int} {x v : Int} : x ∈ lessN l v ↔ x ∈ l ∧ x ≠ v := by simp [lessN]
theorem less_in {vars : List Int} {n : Nat} (h : Up vars n) (u : Nat) : ∀ x ∈ toN vars, x = u ∨ x ∈ toN (lessN vars (u : Int)) := by
  intro x hx
  obtain ⟨y, hy, rfl⟩ := List.mem_map.1 hx
  have h1 := (up_iff.1 h).1 y hy
  by_cases e : y = (u : Int)
  · left; omega
  · exact .inr (List.mem_map.2 ⟨y, mem_less.2 ⟨hy, e⟩, rfl⟩)
theorem toN_sub {va vb : List Int} (h : ∀ x ∈ va, x ∈ vb) : ∀ x ∈ toN va, x ∈ toN vb := by
  intro x hx
  obtain ⟨y, hy, rfl⟩ := List.mem_map.1 hx
  exact List.mem_map.2 ⟨y, h y hy, rfl⟩
theorem togL_sub {va vb : List Int} {n : Nat} (hb : Up vb n) (h : ∀ x ∈ va, x ∈ vb) : togL va vb = vb :=
  rise_extI (togL_rise va vb).1 (up_iff.1 hb).2 fun x => by rw [(togL_rise va vb).2]; exact ⟨fun e => e.elim (h x) id, .inr⟩
theorem togL_sub' {va vb : List Int} {n : Nat} (hb : Up vb n) (h : ∀ x ∈ va, x ∈ vb) : togL vb va = vb :=
  rise_extI (togL_rise vb va).1 (up_iff.1 hb).2 fun x => by rw [(togL_rise vb va).2]; exact ⟨fun e => e.elim id (h x), .inl⟩
theorem out_len {S vars rest : List Nat} {v : Nat} {most : Bool} {l : List Fr} (h : cnt S rest ≤ 243) : (outL S vars rest v most l).length ≤ 100000 := by rw [outL_length]; omega

theorem up_short {sizes V : List Int} (hs : Sz3 sizes) (h : Up V sizes.length) : V.length ≤ 100000 := by have := h.length; have := hs.few; omega
end Go.Proofs.YtnnfmfdjgdgdhaaDoor


/- The document's answer: Out. -/
namespace Go.Proofs.YtnnfmfdjgdgdhaaDoor
open Go.RowKit Go.Shelf

theorem cmp_turn (p q : Rat) : 0 < cmpQ p q ↔ cmpQ q p < 0 := by
  rw [cmpQ, cmpQ]
  by_cases h1 : p < q
  · have h2 : ¬ q < p := Rat.not_lt.2 (Rat.le_of_lt h1)
    have h3 : ¬ q = p := fun h => by rw [h] at h1; exact Rat.lt_irrefl h1
    rw [if_pos h1, if_neg h2, if_neg h3]; decide
  · rw [if_neg h1]
    by_cases h2 : p = q
    · subst h2
      rw [if_neg h1, if_pos rfl]
    · have h3 : q < p := Rat.not_le.1 fun h4 => h1 (Rat.lt_of_le_of_ne h4 h2)
      rw [if_neg h2, if_pos h3]; decide
/-- What is left of the first so many; ahead of the first nothing. -/
def leftN (most : Bool) (T : Nat → Fr) (x : Nat) : Fr := if x = 0 then frZ else outN most T (x - 1)
theorem leftN_zero (most : Bool) (T : Nat → Fr) : leftN most T 0 = frZ := rfl
theorem leftN_one (most : Bool) (T : Nat → Fr) : leftN most T 1 = T 0 := rfl
theorem leftN_sum (T : Nat → Fr) {x : Nat} (h : x ≠ 0) : leftN false T (x + 1) = qF (frQ (leftN false T x) + frQ (T x)) := by
  obtain ⟨y, rfl⟩ : ∃ y, x = y + 1 := ⟨x - 1, by omega⟩
  rfl
theorem leftN_up (T : Nat → Fr) {x : Nat} (h : x ≠ 0) (hc : 0 < cmpQ (frQ (T x)) (frQ (leftN true T x))) : leftN true T (x + 1) = T x := by
  obtain ⟨y, rfl⟩ : ∃ y, x = y + 1 := ⟨x - 1, by omega⟩
  change 0 < cmpQ (frQ (T (y + 1))) (frQ (outN true T y)) at hc
  show great (outN true T y) (T (y + 1)) = _
  rw [great, if_pos ((cmp_turn _ _).1 hc)]
theorem leftN_keep (T : Nat → Fr) {x : Nat} (h : x ≠ 0) (hc : ¬ 0 < cmpQ (frQ (T x)) (frQ (leftN true T x))) : leftN true T (x + 1) = leftN true T x := by
  obtain ⟨y, rfl⟩ : ∃ y, x = y + 1 := ⟨x - 1, by omega⟩
  change ¬ 0 < cmpQ (frQ (T (y + 1))) (frQ (outN true T y)) at hc
  show great (outN true T y) (T (y + 1)) = outN true T y
  rw [great, if_neg (fun h => hc ((cmp_turn _ _).2 h))]
theorem left_ar {x : Nat} (hx : x ≤ 3) : 2 * ((x - 1 + 1) * 8192) ≤ 50000 := by omega
theorem leftN_size (most : Bool) (T : Nat → Fr) (x : Nat) (hx : x ≤ 3) (h : ∀ y, y < x → (T y).2.1.size + (T y).2.2.size + 2 ≤ 8192) : (leftN most T x).2.1.size + (leftN most T x).2.2.size ≤ 50000 := by
  by_cases h0 : x = 0
  · subst h0; rw [leftN_zero]; decide
  · have e : leftN most T x = outN most T (x - 1) := if_neg h0
    rw [e]
    exact Nat.le_trans (outN_size most T (x - 1) fun y hy => h y (by omega)) (left_ar hx)
theorem spr_with (n : Nat) (f : Nat → Nat) (v z x : Nat) : (spr n (withV f v z)).set v x = spr n (withV f v x) := by
  rw [spr_set]
  exact spr_congr fun u _ => by
    rw [withV, withV, withV]
    by_cases e : u = v
    · rw [if_pos e, if_pos e]
    · rw [if_neg e, if_neg e, if_neg e]
theorem spr_self (n : Nat) (f : Nat → Nat) (v : Nat) : spr n f = spr n (withV f v (f v)) := spr_congr fun u _ => by
  rw [withV]
  by_cases e : u = v
  · rw [if_pos e, e]
  · rw [if_neg e]
theorem left_ar2 {x : Nat} (hx : x ≤ 4) : 2 * ((x - 1 + 1) * 8192) ≤ 65536 := by omega
theorem leftN_lt (most : Bool) (T : Nat → Fr) (x : Nat) (h1 : 1 ≤ x) (hx : x ≤ 4) (h : ∀ y, y < x → (T y).2.1.size + (T y).2.2.size + 2 ≤ 8192) : (leftN most T x).2.1.size + (leftN most T x).2.2.size ≤ 65536 := by
  have e : leftN most T x = outN most T (x - 1) := if_neg (by omega)
  rw [e]
  exact Nat.le_trans (outN_size most T (x - 1) fun y hy => h y (by omega)) (left_ar2 hx)

/-- What the inner loop of Out holds. -/
def OI (V0 V : World) (G B : Nat) (n v z : Nat) (F : Nat → Nat) (f : Fr) : Prop := RowI V G (spr n (withV F v z)) ∧ Box V B f.1 f.2.1 f.2.2 ∧ Below V0.heap.size V0 V
theorem OI.step {V0 V V' : World} {G B n v z : Nat} {F : Nat → Nat} {f : Fr} (h : OI V0 V G B n v z F f) (hb : Below V.heap.size V V') : OI V0 V' G B n v z F f := ⟨h.1.below hb h.1.lt, h.2.1.below hb h.2.1.lt, h.2.2.trans (hb.mono h.2.2.size)⟩
theorem rows_apart {V : World} {G B : Nat} {l : List Nat} {n : Bool} {x y : ByteArray} (h1 : RowI V G l) (h2 : Box V B n x y) : G ≠ B := fun e => by
  subst e
  rw [RowI] at h1
  rw [Box, h1] at h2
  simp at h2

end Go.Proofs.YtnnfmfdjgdgdhaaDoor


/- The document's answer: TableBest. -/
namespace Go.Proofs.YtnnfmfdjgdgdhaaDoor
open Go.RowKit Go.Shelf

theorem bestN_up {l : List Fr} {i : Nat} (h : 1 ≤ i) (hc : 0 < cmpQ (frQ (celF l i)) (frQ (celF l (bestN l (i - 1))))) : bestN l i = i := by
  obtain ⟨k, rfl⟩ : ∃ k, i = k + 1 := ⟨i - 1, by omega⟩
  rw [Nat.add_sub_cancel] at hc
  rw [bestN, if_pos ((cmp_turn _ _).1 hc)]
theorem bestN_keep {l : List Fr} {i : Nat} (h : 1 ≤ i) (hc : ¬ 0 < cmpQ (frQ (celF l i)) (frQ (celF l (bestN l (i - 1))))) : bestN l i = bestN l (i - 1) := by
  obtain ⟨k, rfl⟩ : ∃ k, i = k + 1 := ⟨i - 1, by omega⟩
  rw [Nat.add_sub_cancel] at hc ⊢
  rw [bestN, if_neg (fun h => hc ((cmp_turn _ _).2 h))]

end Go.Proofs.YtnnfmfdjgdgdhaaDoor


/- Package table: Norm's closure. -/
namespace Go.Proofs.YtnnfmfdjgdgdhaaDoor
open Go.RowKit Go.Shelf

end Go.Proofs.YtnnfmfdjgdgdhaaDoor


/- Package table: Norm. -/
namespace Go.Proofs.YtnnfmfdjgdgdhaaDoor
open Go.RowKit Go.Shelf

theorem normL_length (l : List Fr) : (normL l).length = l.length := by simp [normL]
theorem normL_get (l : List Fr) {k : Nat} (h : k < (normL l).length) : (normL l)[k] = qF (frQ (l[k]'(by rw [normL_length] at h; exact h)) * (1 / fsum l)) := by simp [normL]
theorem qw_inv {q : Rat} (h : q ≠ 0) : qw (1 / q) ≤ qw q + 1 := by
  have e : val (sgn q) (nu q) (de q) ≠ 0 := by rw [val_own]; exact h
  have h0 := fun h => e (val_zero_iff.2 h)
  have e1 : 1 / q = val (sgn q) (de q) (nu q) := by rw [val_inv _ _ _ (fun h => h0 (.inl h)) (fun h => h0 (.inr h)), val_own, Rat.div_def, Rat.one_mul]
  rw [e1]
  refine Nat.le_trans (qw_val _ _ _) ?_
  show (B q.den).size + (B q.num.natAbs).size + 1 ≤ qw q + 1
  rw [qw]
  omega
theorem qw_sum {l : List Fr} (h : fw l ≤ 10000) : qw (fsum l) ≤ 20002 := by have := fits_qw (fits_sum l); omega

end Go.Proofs.YtnnfmfdjgdgdhaaDoor


/- The document's answer: Norm. -/
namespace Go.Proofs.YtnnfmfdjgdgdhaaDoor
open Go.RowKit Go.Shelf

end Go.Proofs.YtnnfmfdjgdgdhaaDoor

