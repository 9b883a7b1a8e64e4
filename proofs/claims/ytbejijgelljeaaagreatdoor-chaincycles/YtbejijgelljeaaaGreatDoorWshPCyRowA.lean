/- Chains, plainly: which states come to which; the equations of what is come to, and of what is still in a class, may be solved; what solves them is not below 0. -/
import Derived.Test.YtbejijgelljeaaaGreatDoorSumACyElmP
import Derived.Test.YtbejijgelljeaaaGreatDoorProg
import Derived.WalkKit
import Derived.WalkSpells
import Derived.WalkLawsBesides
import Derived.Deep.QuietTactic
import Derived.BigQuiet
import Derived.Test.YtbejijgelljeaaaGreatDoorRefACyRefG
import Derived.Test.YtbejijgelljeaaaGreatDoorCore1CyMem
import Derived.Deep.RegionHeld3
import Derived.Deep.OwnRows
import Derived.Laws.EntriesVeiled
import Derived.Laws.BitsAllLaws
import Derived.Test.YtbejijgelljeaaaGreatDoorCore6CyParseA
namespace Go.Proofs.YtbejijgelljeaaaGreatDoor
/-- Which states come to which, one state more each round that ways may lead through. -/
def wsh (R : Nat → Nat → Bool) : Nat → Nat → Nat → Bool
  | 0 => R
  | k + 1 => fun i j => wsh R k i j || wsh R k i k && wsh R k k j
theorem wsh_mono (R : Nat → Nat → Bool) : ∀ {k i j : Nat}, R i j = true → wsh R k i j = true
  | 0, _, _, h => h
  | k + 1, i, j, h => by
    show (wsh R k i j || wsh R k i k && wsh R k k j) = true
    rw [wsh_mono R h, Bool.true_or]
theorem wsh_via (R : Nat → Nat → Bool) : ∀ {k m i j : Nat}, m < k → wsh R k i m = true → wsh R k m j = true → wsh R k i j = true
  | 0, _, _, _, h, _, _ => absurd h (by omega)
  | k + 1, m, i, j, hm, h1, h2 => by
    have hk := fun {a b c : Nat} => wsh_via R (k := k) (m := a) (i := b) (j := c)
    rw [wsh] at h1 h2 ⊢
    simp only [Bool.or_eq_true, Bool.and_eq_true] at h1 h2 ⊢
    by_cases e : m = k
    · subst e
      have q1 : wsh R m i m = true := by rcases h1 with h | h; exact h; exact h.1
      have q2 : wsh R m m j = true := by rcases h2 with h | h; exact h; exact h.2
      exact .inr ⟨q1, q2⟩
    · have hlt : m < k := by omega
      rcases h1 with h1 | h1
      · rcases h2 with h2 | h2
        · exact .inl (hk hlt h1 h2)
        · exact .inr ⟨hk hlt h1 h2.1, h2.2⟩
      · rcases h2 with h2 | h2
        · exact .inr ⟨h1.1, hk hlt h1.2 h2⟩
        · exact .inr ⟨h1.1, h2.2⟩
/-- What is come to lies in each set that nothing leaves. -/
theorem wsh_shut (R : Nat → Nat → Bool) {S : Nat → Prop} {n : Nat} (hS : ∀ i j, i < n → j < n → S i → R i j = true → S j) : ∀ {k i j : Nat}, k ≤ n → i < n → j < n → S i → wsh R k i j = true → S j
  | 0, i, j, _, hi, hj, h, hw => hS i j hi hj h hw
  | k + 1, i, j, hk, hi, hj, h, hw => by
    rw [wsh] at hw
    simp only [Bool.or_eq_true, Bool.and_eq_true] at hw
    rcases hw with hw | hw
    · exact wsh_shut R hS (by omega) hi hj h hw
    · exact wsh_shut R hS (by omega) (by omega) hj (wsh_shut R hS (by omega) hi (by omega) h hw.1) hw.2
/-- It is as good in place: the rows and columns of the state that ways lead through stay. -/
theorem wsh_row (R : Nat → Nat → Bool) (k j : Nat) : wsh R (k + 1) k j = wsh R k k j := by
  show (wsh R k k j || wsh R k k k && wsh R k k j) = wsh R k k j
  cases wsh R k k j <;> simp
theorem wsh_col (R : Nat → Nat → Bool) (k i : Nat) : wsh R (k + 1) i k = wsh R k i k := by
  show (wsh R k i k || wsh R k i k && wsh R k k k) = wsh R k i k
  cases wsh R k i k <;> simp
/-- A chain: numbers not below 0, each row 1 together. -/
structure Chn (n : Nat) (P : Nat → Nat → Rat) : Prop where
  low : ∀ i j, i < n → j < n → 0 ≤ P i j
  one : ∀ i, i < n → sumR (P i) n = 1
def stepB (P : Nat → Nat → Rat) : Nat → Nat → Bool := fun i j => decide (i = j) || decide (0 < P i j)
/-- Comes to. -/
def cmsB (n : Nat) (P : Nat → Nat → Rat) : Nat → Nat → Bool := wsh (stepB P) n
theorem cms_self (n : Nat) (P : Nat → Nat → Rat) (i : Nat) : cmsB n P i i = true := wsh_mono _ (by simp [stepB])
theorem cms_step (n : Nat) (P : Nat → Nat → Rat) {i j : Nat} (h : 0 < P i j) : cmsB n P i j = true := wsh_mono _ (by simp [stepB, h])
theorem cms_trans {n : Nat} {P : Nat → Nat → Rat} {i m j : Nat} (hm : m < n) (h1 : cmsB n P i m = true) (h2 : cmsB n P m j = true) : cmsB n P i j = true := wsh_via _ hm h1 h2
theorem cms_shut {n : Nat} {P : Nat → Nat → Rat} {S : Nat → Prop} (hS : ∀ i j, i < n → j < n → S i → 0 < P i j → S j) {i j : Nat} (hi : i < n) (hj : j < n) (h : S i) (hc : cmsB n P i j = true) : S j := by
  refine wsh_shut (stepB P) (S := S) (n := n) (fun a b ha hb hsa hab => ?_) (Nat.le_refl _) hi hj h hc
  simp only [stepB, Bool.or_eq_true, decide_eq_true_eq] at hab
  rcases hab with rfl | hab
  · exact hsa
  · exact hS a b ha hb hsa hab
theorem sumR_out (f : Nat → Rat) {x : Nat} : ∀ {n : Nat}, x < n → sumR f n = f x + sumR (fun j => if j = x then 0 else f j) n
  | 0, h => absurd h (by omega)
  | n + 1, h => by
    rw [sumR, sumR]
    by_cases e : n = x
    · subst e
      rw [if_pos rfl, sumR_congr (f := fun j => if j = n then 0 else f j) (g := f) fun i hi => if_neg (by omega)]
      grind
    · have hx : x < n := by omega
      rw [if_neg e, sumR_out f hx]
      grind
/-- The sum over a list. -/
def lsm (f : Nat → Rat) : List Nat → Rat
  | [] => 0
  | x :: l => f x + lsm f l
theorem lsm_congr {f g : Nat → Rat} : ∀ {l : List Nat}, (∀ x ∈ l, f x = g x) → lsm f l = lsm g l
  | [], _ => rfl
  | x :: l, h => by rw [lsm, lsm, h x List.mem_cons_self, lsm_congr fun y hy => h y (List.mem_cons_of_mem _ hy)]
theorem lsm_le {n : Nat} : ∀ {l : List Nat} {f : Nat → Rat}, (∀ i, i < n → 0 ≤ f i) → l.Nodup → (∀ x ∈ l, x < n) → lsm f l ≤ sumR f n
  | [], f, hf, _, _ => sumR_low hf
  | x :: l, f, hf, hn, hl => by
    rw [lsm, sumR_out f (hl x List.mem_cons_self)]
    have hx : x ∉ l := (List.nodup_cons.1 hn).1
    have h1 : lsm f l = lsm (fun j => if j = x then 0 else f j) l := lsm_congr fun y hy => (if_neg (fun e : y = x => hx (e ▸ hy))).symm
    rw [h1]
    have h2 := lsm_le (l := l) (f := fun j => if j = x then 0 else f j) (fun i hi => by
      by_cases e : i = x
      · rw [if_pos e]; exact Rat.le_refl
      · rw [if_neg e]; exact hf i hi) (List.nodup_cons.1 hn).2 fun y hy => hl y (List.mem_cons_of_mem _ hy)
    grind
theorem lsm_all {n : Nat} {l : List Nat} {f : Nat → Rat} (hf : ∀ i, i < n → 0 ≤ f i) (hn : l.Nodup) (hl : ∀ x ∈ l, x < n) (hz : ∀ j, j < n → j ∉ l → f j = 0) : lsm f l = sumR f n := by
  induction l generalizing f with
  | nil => exact (sumR_zero fun i hi => hz i hi (by simp)).symm
  | cons x l ih =>
    have hx : x ∉ l := (List.nodup_cons.1 hn).1
    rw [lsm, sumR_out f (hl x List.mem_cons_self), lsm_congr (g := fun j => if j = x then 0 else f j) fun y hy => (if_neg (fun e : y = x => hx (e ▸ hy))).symm]
    congr 1
    refine ih (fun i hi => ?_) (List.nodup_cons.1 hn).2 (fun y hy => hl y (List.mem_cons_of_mem _ hy)) fun j hj hjl => ?_
    · by_cases e : i = x
      · rw [if_pos e]; exact Rat.le_refl
      · rw [if_neg e]; exact hf i hi
    · by_cases e : j = x
      · rw [if_pos e]
      · rw [if_neg e]
        exact hz j hj (by simp [e, hjl])
theorem lsm_at (f : Nat → Rat) : ∀ l : List Nat, sumR (fun k => f (l.getD k 0)) l.length = lsm f l := fun l => by
  have key : ∀ l : List Nat, ∀ m : List Nat, sumR (fun k => f ((m ++ l).getD k 0)) (m.length + l.length) = sumR (fun k => f (m.getD k 0)) m.length + lsm f l := fun l => by
    induction l with
    | nil =>
      intro m
      rw [lsm, Rat.add_zero, List.append_nil]
      rfl
    | cons x l ih =>
      intro m
      have h1 := ih (m ++ [x])
      rw [List.append_assoc, List.singleton_append, List.length_append, List.length_singleton, sumR] at h1
      rw [List.length_cons, show m.length + (l.length + 1) = m.length + 1 + l.length by omega, h1, lsm]
      have e1 : (m ++ [x]).getD m.length 0 = x := by simp
      rw [e1, sumR_congr (f := fun k => f ((m ++ [x]).getD k 0)) (g := fun k => f (m.getD k 0)) fun i hi => by simp [List.getD_eq_getElem?_getD, List.getElem?_append_left hi]]
      grind
  have h := key l []
  rw [List.nil_append, List.length_nil, Nat.zero_add, sumR, Rat.zero_add] at h
  exact h
theorem getD_mem {l : List Nat} {k : Nat} (h : k < l.length) : l.getD k 0 ∈ l := by
  rw [List.getD_eq_getElem?_getD, List.getElem?_eq_getElem h]
  exact List.getElem_mem h
theorem getD_of {l : List Nat} {x : Nat} (h : x ∈ l) : ∃ k, k < l.length ∧ l.getD k 0 = x := by
  obtain ⟨k, hk, e⟩ := List.getElem_of_mem h
  exact ⟨k, hk, by rw [List.getD_eq_getElem?_getD, List.getElem?_eq_getElem hk]; exact e⟩
theorem sumR_delta {n i : Nat} (hi : i < n) : sumR (fun j => if i = j then (1 : Rat) else 0) n = 1 := by
  have h := sumR_one (fun _ => 1) hi
  rw [sumR_congr (g := fun j => if i = j then (1 : Rat) else 0) fun j _ => Rat.mul_one _] at h
  exact h
/-- The equations of what is still in a class that nothing leaves. -/
theorem stl_class {n : Nat} {P M : Nat → Nat → Rat} {l : List Nat} (hc : Chn n P) (hn : l.Nodup) (hl : ∀ x ∈ l, x < n) (h1 : 1 ≤ l.length) (hshut : ∀ x ∈ l, ∀ y, y < n → 0 < P x y → y ∈ l) (hcom : ∀ x ∈ l, ∀ y ∈ l, cmsB n P x y = true)
    (hM : ∀ k, k < l.length - 1 → ∀ c, c < l.length → M k c = P (l.getD c 0) (l.getD k 0) - if k = c then 1 else 0) (hlast : ∀ c, c < l.length → M (l.length - 1) c = 1) : Stl l.length 0 M := by
  have hlt : ∀ k, k < l.length → l.getD k 0 < n := fun k hk => hl _ (getD_mem hk)
  have inj : ∀ i j, i < l.length → j < l.length → l.getD i 0 = l.getD j 0 → i = j := fun i j hi hj e => by
    rw [List.getD_eq_getElem?_getD, List.getD_eq_getElem?_getD, List.getElem?_eq_getElem hi, List.getElem?_eq_getElem hj] at e
    exact (List.getElem_inj hn).1 e
  have h0 : ∀ k, k < l.length → ∀ c, c < l.length → 0 ≤ P (l.getD k 0) (l.getD c 0) := fun k hk c hcl => hc.low _ _ (hlt k hk) (hlt c hcl)
  have tot : ∀ k, k < l.length → sumR (fun c => P (l.getD k 0) (l.getD c 0)) l.length = 1 := fun k hk => by
    rw [lsm_at (P (l.getD k 0)) l, lsm_all (fun j hj => hc.low _ j (hlt k hk) hj) hn hl fun j hj hjl => ?_]
    · exact hc.one _ (hlt k hk)
    · by_cases hp : 0 < P (l.getD k 0) j
      · exact absurd (hshut _ (getD_mem hk) j hj hp) hjl
      · have := hc.low _ j (hlt k hk) hj
        grind
  have hs : ∀ i, i < l.length - 1 → tailR (fun j => M j i) 0 (l.length - 1) = -P (l.getD i 0) (l.getD (l.length - 1) 0) := fun i hi => by
    have e : sumR (fun j => M j i) (l.length - 1) = sumR (fun c => P (l.getD i 0) (l.getD c 0) - if i = c then 1 else 0) (l.length - 1) := sumR_congr fun c hcl => by
      rw [hM c hcl i (by omega)]
      by_cases q : c = i
      · rw [if_pos q, if_pos q.symm]
      · rw [if_neg q, if_neg (fun e => q e.symm)]
    have t := tot i (by omega)
    have t2 : sumR (fun c => P (l.getD i 0) (l.getD c 0)) (l.length - 1 + 1) = 1 := by
      rw [show l.length - 1 + 1 = l.length by omega]
      exact t
    rw [sumR] at t2
    rw [tailR, e, sumR_sub, sumR_delta hi, sumR]
    grind
  refine ⟨⟨fun i _ h2 j _ h4 h5 => ?_, fun i _ h2 => ?_, fun C hC => ?_⟩, fun j _ h2 => ?_, fun i _ h2 => ?_⟩
  · rw [hM j h4 i (by omega), if_neg (fun e => h5 e.symm)]
    have := h0 i (by omega) j (by omega)
    grind
  · rw [hs i h2]
    have := h0 i (by omega) (l.length - 1) (by omega)
    grind
  · by_cases hex : ∃ i, 0 ≤ i ∧ i < l.length - 1 ∧ C i ∧ (tailR (fun j => M j i) 0 (l.length - 1) < 0 ∨ ∃ j, 0 ≤ j ∧ j < l.length - 1 ∧ ¬ C j ∧ 0 < M j i)
    · exact hex
    · exfalso
      obtain ⟨i0, _, c2, c3⟩ := hC
      have shut : ∀ x y, x < n → y < n → (∃ i, i < l.length - 1 ∧ C i ∧ l.getD i 0 = x) → 0 < P x y → ∃ i, i < l.length - 1 ∧ C i ∧ l.getD i 0 = y := by
        rintro x y hx hy ⟨i, a1, a2, rfl⟩ hp
        obtain ⟨j, b1, rfl⟩ := getD_of (hshut _ (getD_mem (by omega)) y hy hp)
        have hsum : ¬ tailR (fun j => M j i) 0 (l.length - 1) < 0 := fun h => hex ⟨i, Nat.zero_le _, a1, a2, .inl h⟩
        rw [hs i a1] at hsum
        by_cases hjl : j = l.length - 1
        · subst hjl
          exfalso
          grind
        · by_cases hCj : C j
          · exact ⟨j, by omega, hCj, rfl⟩
          · exfalso
            refine hex ⟨i, Nat.zero_le _, a1, a2, .inr ⟨j, Nat.zero_le _, by omega, hCj, ?_⟩⟩
            have hij : ¬ j = i := fun e => hCj (e ▸ a2)
            rw [hM j (by omega) i (by omega), if_neg hij]
            grind
      obtain ⟨k, k1, _, k3⟩ := cms_shut (S := fun x => ∃ i, i < l.length - 1 ∧ C i ∧ l.getD i 0 = x) shut (hlt i0 (by omega)) (hlt (l.length - 1) (by omega)) ⟨i0, c2, c3, rfl⟩ (hcom _ (getD_mem (by omega)) _ (getD_mem (by omega)))
      have := inj k (l.length - 1) (by omega) (by omega) k3
      omega
  · rw [hM j h2 (l.length - 1) (by omega), if_neg (by omega)]
    have := h0 (l.length - 1) (by omega) j (by omega)
    grind
  · rw [hlast i h2]
    decide
end Go.Proofs.YtbejijgelljeaaaGreatDoor

/- Chains, plainly: what is ever come to, and what is still. -/
namespace Go.Proofs.YtbejijgelljeaaaGreatDoor
theorem if_le {q : Rat} {b : Prop} [Decidable b] (h : 0 ≤ q) : q * (if b then 1 else 0) ≤ q := by
  split
  · rw [Rat.mul_one]; exact Rat.le_refl
  · rw [Rat.mul_zero]; exact h
theorem if_less (q : Rat) {b : Prop} [Decidable b] : q * (if b then 1 else 0) = q - q * (if b then 0 else 1) := by
  split <;> grind
/-- WHAT IS STILL IN A CLASS IS ABOVE 0. -/
theorem still_pos {n : Nat} {Q : Nat → Nat → Rat} {x : Nat → Rat} (low : ∀ i j, i < n → j < n → 0 ≤ Q i j) (one : ∀ i, i < n → sumR (Q i) n = 1) (irr : ∀ C : Nat → Prop, (∃ i, i < n ∧ C i) → (∃ j, j < n ∧ ¬ C j) → ∃ i j, i < n ∧ j < n ∧ C i ∧ ¬ C j ∧ 0 < Q i j)
    (still : ∀ j, j < n → sumR (fun i => x i * Q i j) n = x j) (sum : sumR x n = 1) : ∀ i, i < n → 0 < x i := by
  intro i hi
  by_cases hall : ∃ j, j < n ∧ ¬ 0 < x j
  · exfalso
    by_cases hsome : ∃ i, i < n ∧ 0 < x i
    · obtain ⟨a, b, ha, hb, h1, h2, h3⟩ := irr (fun i => 0 < x i) hsome hall
      have e1 : sumR (fun j => x j * if 0 < x j then 1 else 0) n = sumR (fun i => x i * sumR (fun j => Q i j * if 0 < x j then 1 else 0) n) n := by
        rw [sumR_congr (g := fun j => sumR (fun i => x i * Q i j * if 0 < x j then 1 else 0) n) fun j hj => by rw [sumR_mulR, still j hj], sumR_swap]
        exact sumR_congr fun i _ => by rw [← sumR_mul]; exact sumR_congr fun j _ => by rw [Rat.mul_assoc]
      have hw : ∀ i, i < n → 0 ≤ sumR (fun j => Q i j * if 0 < x j then 1 else 0) n ∧ sumR (fun j => Q i j * if 0 < x j then 1 else 0) n ≤ 1 := fun i hi => by
        refine ⟨sumR_low fun j hj => Rat.mul_nonneg (low i j hi hj) (by split <;> decide), ?_⟩
        have h0 : sumR (fun j => Q i j * if 0 < x j then 1 else 0) n ≤ sumR (Q i) n := sumR_mono fun j hj => if_le (b := 0 < x j) (low i j hi hj)
        rw [one i hi] at h0
        exact h0
      have hwa : sumR (fun j => Q a j * if 0 < x j then 1 else 0) n < 1 := by
        have h4 : sumR (fun j => Q a j * if 0 < x j then 1 else 0) n = sumR (Q a) n - sumR (fun j => Q a j * if 0 < x j then 0 else 1) n := by
          rw [← sumR_sub]
          exact sumR_congr fun j _ => if_less (b := 0 < x j) _
        have h5 := sumR_part (f := fun j => Q a j * if 0 < x j then 0 else 1) (fun j hj => Rat.mul_nonneg (low a j ha hj) (by split <;> decide)) b hb
        rw [if_neg h2, Rat.mul_one] at h5
        rw [h4, one a ha]
        grind
      have e2 : sumR (fun i => x i * ((if 0 < x i then 1 else 0) - sumR (fun j => Q i j * if 0 < x j then 1 else 0) n)) n = 0 := by
        rw [sumR_congr (g := fun i => x i * (if 0 < x i then 1 else 0) - x i * sumR (fun j => Q i j * if 0 < x j then 1 else 0) n) fun i _ => by grind, sumR_sub, e1]
        grind
      have h6 := sumR_part (f := fun i => x i * ((if 0 < x i then 1 else 0) - sumR (fun j => Q i j * if 0 < x j then 1 else 0) n)) (fun i hi => by
        by_cases q : 0 < x i
        · rw [if_pos q]
          have := (hw i hi).2
          exact Rat.mul_nonneg (Rat.le_of_lt q) (by grind)
        · rw [if_neg q]
          have h7 := Rat.mul_nonneg (a := -x i) (by grind) (hw i hi).1
          grind) a ha
      rw [e2, if_pos h1] at h6
      have h8 : 0 < x a * (1 - sumR (fun j => Q a j * if 0 < x j then 1 else 0) n) := Rat.mul_pos h1 (by grind)
      grind
    · have h1 : sumR x n ≤ 0 := by
        have := sumR_low (f := fun i => -x i) (n := n) fun i hi => by
          have : ¬ 0 < x i := fun e => hsome ⟨i, hi, e⟩
          grind
        rw [sumR_congr (g := fun i => (-1) * x i) fun i _ => by grind, sumR_mul] at this
        grind
      rw [sum] at h1
      exact absurd h1 (by decide)
  · by_cases q : 0 < x i
    · exact q
    · exact absurd ⟨i, hi, q⟩ hall
end Go.Proofs.YtbejijgelljeaaaGreatDoor

/- Shares of dice, plainly: which share a die falls into, how many fall into each. -/
namespace Go.Proofs.YtbejijgelljeaaaGreatDoor
theorem fits_tim {m k : Nat} {p q : Rat} (hp : Fits m p) (hq : Fits k q) : Fits (m + k) (p * q) := by
  obtain ⟨A, D, h1, rfl, h3, h4⟩ := hp
  obtain ⟨A', D', h1', rfl, h3', h4'⟩ := hq
  refine ⟨A * A', D * D', Nat.mul_ne_zero h1 h1', by rw [Rat.mkRat_mul_mkRat], ?_, ?_⟩
  · rw [Nat.pow_add]
    exact Nat.mul_lt_mul'' h3 h3'
  · rw [Int.natAbs_mul, Nat.pow_add]
    exact Nat.mul_lt_mul'' h4 h4'
end Go.Proofs.YtbejijgelljeaaaGreatDoor

/- Chains, plainly: how long numbers are when equations are solved. -/
namespace Go.Proofs.YtbejijgelljeaaaGreatDoor
theorem fits_neg {m : Nat} {q : Rat} (h : Fits m q) : Fits m (-q) := by
  obtain ⟨A, D, hD, rfl, h1, h2⟩ := h
  exact ⟨-A, D, hD, (Rat.neg_mkRat A D), h1, by rw [Int.natAbs_neg]; exact h2⟩
theorem mk_cancel {A : Int} {D : Nat} (h : D ≠ 0) : mkRat A D * (D : Rat) = (A : Rat) := by
  have hd : (D : Rat) ≠ 0 := by exact_mod_cast h
  rw [Rat.mkRat_eq_div, Rat.div_def, Rat.mul_assoc, Rat.inv_mul_cancel _ hd, Rat.mul_one]
theorem mk_of {A : Int} {D : Nat} {q : Rat} (h : D ≠ 0) (e : q * (D : Rat) = (A : Rat)) : q = mkRat A D := by
  have hd : (D : Rat) ≠ 0 := by exact_mod_cast h
  rw [Rat.mkRat_eq_div, ← e, Rat.div_def, Rat.mul_assoc, Rat.mul_inv_cancel _ hd, Rat.mul_one]
theorem fits_divq {m k : Nat} {p q : Rat} (hp : Fits m p) (hq : Fits k q) (h0 : q ≠ 0) : Fits (m + k) (p / q) := by
  obtain ⟨A, D, hD, rfl, h1, h2⟩ := hp
  obtain ⟨A', D', hD', rfl, h3, h4⟩ := hq
  have hA : A' ≠ 0 := fun e => h0 (by rw [e, Rat.zero_mkRat])
  have hn : A'.natAbs ≠ 0 := by omega
  refine ⟨A * (D' * A'.sign), D * A'.natAbs, Nat.mul_ne_zero hD hn, mk_of (Nat.mul_ne_zero hD hn) ?_, ?_, ?_⟩
  · have e1 := mk_cancel (A := A) hD
    have e2 := mk_cancel (A := A') hD'
    have e3 : ((A'.natAbs : Nat) : Rat) = (A' : Rat) * (A'.sign : Rat) := by
      have : ((A'.natAbs : Nat) : Int) = A' * A'.sign := by rw [Int.mul_sign_self]
      exact_mod_cast this
    generalize mkRat A D = p at *
    generalize mkRat A' D' = q at *
    have e4 : p / q * q = p := by rw [Rat.div_def, Rat.mul_assoc, Rat.inv_mul_cancel _ h0, Rat.mul_one]
    push_cast
    rw [e3, ← e1, ← e2]
    generalize p / q = r at *
    rw [← e4]
    grind
  · rw [Nat.pow_add]
    exact Nat.mul_lt_mul'' h1 h4
  · have hs : A'.sign.natAbs = 1 := by rw [Int.natAbs_sign, if_neg hA]
    rw [Int.natAbs_mul, Int.natAbs_mul, hs, Nat.mul_one, Int.natAbs_natCast, Nat.pow_add]
    exact Nat.mul_lt_mul'' h2 h3
theorem fits_up {m n : Nat} {q : Rat} (h : Fits m q) (hm : m ≤ n) : Fits n q := by
  obtain ⟨A, D, hD, e, h1, h2⟩ := h
  exact ⟨A, D, hD, e, Nat.lt_of_lt_of_le h1 (pow_mono hm), Nat.lt_of_lt_of_le h2 (pow_mono hm)⟩
theorem fits_sub {m k : Nat} {p q : Rat} (hp : Fits m p) (hq : Fits k q) : Fits (m + k + 1) (p - q) := by
  rw [Rat.sub_eq_add_neg]
  exact fits_add hp (fits_neg hq)
theorem fits_zero : Fits 1 0 := ⟨0, 1, by decide, rfl, by decide, by decide⟩
theorem fits_one : Fits 1 1 := ⟨1, 1, by decide, rfl, by decide, by decide⟩
theorem fits_sumR {c : Nat} {f : Nat → Rat} : ∀ {n : Nat}, (∀ i, i < n → Fits c (f i)) → Fits (n * (c + 1) + 1) (sumR f n)
  | 0, _ => fits_up fits_zero (by omega)
  | n + 1, h => fits_up (fits_add (fits_sumR fun i hi => h i (by omega)) (h n (by omega))) (by rw [Nat.add_mul]; omega)
def bE (b : Nat) : Nat → Nat
  | 0 => b
  | k + 1 => 4 * bE b k + 1
theorem elm_fits {n b : Nat} {M : Nat → Nat → Rat} (hb : ∀ i c, i < n → c ≤ n → Fits b (M i c)) (hp : ∀ j, j < n → elm M j j j ≠ 0) : ∀ k, k ≤ n → ∀ i c, i < n → c ≤ n → Fits (bE b k) (elm M k i c)
  | 0, _, i, c, hi, hc => hb i c hi hc
  | k + 1, hk, i, c, hi, hc => by
    have ih := elm_fits hb hp k (by omega)
    have h1 := fits_divq (ih k c (by omega) hc) (ih k k (by omega) (by omega)) (hp k (by omega))
    show Fits _ (if i = k then elm M k k c / elm M k k k else elm M k i c - elm M k k c / elm M k k k * elm M k i k)
    by_cases e : i = k
    · rw [if_pos e]
      exact fits_up h1 (by rw [bE]; omega)
    · rw [if_neg e]
      exact fits_up (fits_sub (ih i c hi hc) (fits_tim h1 (ih i k hi (by omega)))) (by rw [bE]; omega)
theorem bE_mono (b : Nat) : ∀ {k n : Nat}, k ≤ n → bE b k ≤ bE b n
  | _, 0, h => by obtain rfl := Nat.le_zero.1 h; exact Nat.le_refl _
  | k, n + 1, h => by
    rcases Nat.lt_or_ge k (n + 1) with h1 | h1
    · exact Nat.le_trans (bE_mono b (Nat.lt_succ_iff.1 h1)) (by rw [bE]; omega)
    · obtain rfl : k = n + 1 := by omega
      exact Nat.le_refl _
/-- The equations while the step k is done: row k is divided, the rows ahead of o are done. -/
def elmP (k o : Nat) (M : Nat → Nat → Rat) : Nat → Nat → Rat := fun i c => if i = k then M k c / M k k else if i < o then M i c - M k c / M k k * M i k else M i c
theorem elmP_last {n k : Nat} {M : Nat → Nat → Rat} {i : Nat} (hi : i < n) : elmP k n M i = elmS k M i := by
  funext c
  show (if i = k then _ else if i < n then _ else _) = (if i = k then _ else _)
  rw [if_pos hi]
theorem elmP_skip (k : Nat) (M : Nat → Nat → Rat) : elmP k (k + 1) M = elmP k k M := by
  funext i c
  show (if i = k then _ else if i < k + 1 then _ else _) = (if i = k then _ else if i < k then _ else _)
  by_cases e : i = k
  · rw [if_pos e, if_pos e]
  · rw [if_neg e, if_neg e]
    by_cases h : i < k
    · rw [if_pos h, if_pos (by omega)]
    · rw [if_neg h, if_neg (by omega)]
theorem elmP_next {k o : Nat} (M : Nat → Nat → Rat) (h : o ≠ k) (i : Nat) : elmP k (o + 1) M i = if i = o then (fun c => M o c - M k c / M k k * M o k) else elmP k o M i := by
  by_cases e : i = o
  · rw [if_pos e]
    subst e
    funext c
    show (if i = k then _ else if i < i + 1 then _ else _) = _
    rw [if_neg h, if_pos (by omega)]
  · rw [if_neg e]
    funext c
    show (if i = k then _ else if i < o + 1 then _ else _) = (if i = k then _ else if i < o then _ else _)
    by_cases e1 : i = k
    · rw [if_pos e1, if_pos e1]
    · rw [if_neg e1, if_neg e1]
      by_cases h1 : i < o
      · rw [if_pos h1, if_pos (by omega)]
      · rw [if_neg h1, if_neg (by omega)]
theorem elmP_zero {k : Nat} (M : Nat → Nat → Rat) (i : Nat) : elmP k 0 M i = if i = k then (fun c => M k c / M k k) else M i := by
  by_cases e : i = k
  · rw [if_pos e]; funext c; show (if i = k then _ else _) = _; rw [if_pos e]
  · rw [if_neg e]; funext c; show (if i = k then _ else if i < 0 then _ else _) = _; rw [if_neg e, if_neg (by omega)]
theorem cmpQ_pos {p q : Rat} : 0 < cmpQ p q ↔ q < p := by
  by_cases h : p < q
  · rw [cmpQ, if_pos h]; exact ⟨fun h1 => absurd h1 (by decide), fun h1 => absurd h1 (by grind)⟩
  · by_cases e : p = q
    · subst e; rw [cmpQ, if_neg Rat.lt_irrefl, if_pos rfl]; exact ⟨fun h1 => absurd h1 (by decide), fun h1 => absurd h1 Rat.lt_irrefl⟩
    · rw [cmpQ, if_neg h, if_neg e]; exact ⟨fun _ => Rat.lt_of_le_of_ne (Rat.not_lt.1 h) (Ne.symm e), fun _ => by decide⟩
end Go.Proofs.YtbejijgelljeaaaGreatDoor

/- Lists of ints in memory; the document's answer: what is in a list, sizes that may be, lists that rise. -/
namespace Go.Proofs.YtbejijgelljeaaaGreatDoor
open Go.RowKit
theorem hid {p : Prop} (h : p) : Hid p := h
/-- A list of ints, as a slice at a. -/
def IntS (w : World) (a : Option Addr) (l : List Int) : Prop := ∀ k (h : k < l.length), ∃ g o, a = some ⟨g, o, none⟩ ∧ g < w.heap.size ∧ w.cell? ⟨g, o + k, none⟩ = some (.int .i64 l[k])
theorem IntS.below {w w' : World} {a : Option Addr} {l : List Int} (h : IntS w a l) (hb : Below w.heap.size w w') : IntS w' a l := fun k hk => by
  obtain ⟨g, o, h1, h2, h3⟩ := h k hk
  exact ⟨g, o, h1, Nat.lt_of_lt_of_le h2 hb.size, (hb.cell (p := ⟨g, _, none⟩) h2).trans h3⟩
def inB (k : Int) (l : List Int) : Bool := l.any (· == k)
theorem inB_take {k : Int} {l : List Int} {i : Nat} (h : i < l.length) : inB k (l.take (i + 1)) = (inB k (l.take i) || l[i] == k) := by
  rw [List.take_succ_eq_append_getElem h, inB, inB, List.any_append]; simp
theorem inB_hit {k : Int} {l : List Int} {i : Nat} (h : i < l.length) (e : l[i] = k) : inB k l = true := by
  rw [inB, List.any_eq_true]; exact ⟨l[i], List.getElem_mem h, by simp [e]⟩
set_option maxRecDepth 100000 in
set_option maxHeartbeats 1000000 in
theorem rIn_any (k : Int) (a : Option Addr) (cap : Nat) (l : List Int) (w : World) (h : IntS w a l) (hn : l.length ≤ 140737488355328) :
    Calls Tryz.prog 12 #[.int .i64 k, .slice a l.length cap] w fun e w' => e = .returned (.bool (inB k l)) ∧ w' = w := by
  have HF := hid h
  clear h
  go_enter Tryz.func12, Tryz.ntmps12
  go_wp2_with fail
  go_loop [5] (fun iv => ∃ i : Nat, i ≤ l.length ∧ iv = .int .i64 i ∧ Hid (inB k (l.take i) = false)) (fun iv => l.length - (intOf iv).toNat)
  case atStart => exact ⟨0, Nat.zero_le _, rfl, rfl⟩
  case round =>
    obtain ⟨i, hi, rfl, HI⟩ := hrel
    by_cases hlt : i < l.length
    · obtain ⟨g, o, rfl, hg, c0⟩ := HF.out i hlt
      by_cases e : l[i] = k
      · have HE := hid (inB_hit hlt e)
        go_wp2
        go_ret
        exact ⟨by rw [HE.out]; rfl, rfl⟩
      · have HS : Hid (inB k (l.take (i + 1)) = false) := by show _ = _; rw [inB_take hlt, HI.out]; simp [e]
        have eb : (l[i] == k) = false := by simp [e]
        generalize l[i] = x at *
        go_wp2
        go_round
        case rel => exact ⟨i + 1, by omega, by go_num, HS.out⟩
        case measure => simp [intOf]; omega
    · have HE : Hid (inB k l = false) := by
        show _ = _
        have := HI.out
        rwa [List.take_of_length_le (by omega)] at this
      go_wp2
      go_ret
      exact ⟨by rw [HE.out]; rfl, rfl⟩
end Go.Proofs.YtbejijgelljeaaaGreatDoor

/- The document's answer: lists that rise. -/
namespace Go.Proofs.YtbejijgelljeaaaGreatDoor
open Go.RowKit
/-- Does the list rise, of numbers from 0 on below n? -/
def okAt (l : List Int) (n : Int) (i : Nat) : Bool := decide (0 ≤ l.getD i 0 ∧ l.getD i 0 < n ∧ (0 < i → l.getD (i - 1) 0 < l.getD i 0))
def risB (l : List Int) (n : Int) : Bool := (List.range l.length).all (okAt l n)
end Go.Proofs.YtbejijgelljeaaaGreatDoor

/- Plain facts on assignments of variables and their places in tables; nothing of the program is named here. -/
namespace Go.Proofs.YtbejijgelljeaaaGreatDoor
/-- How many values a variable has. -/
def sz (S : List Nat) (v : Nat) : Nat := S[v]?.getD 1
/-- How many assignments variables have. -/
def cnt (S : List Nat) : List Nat → Nat
  | [] => 1
  | v :: vs => sz S v * cnt S vs
/-- The assignment of a place, variable by variable: 0 for those that it hasn't. -/
def asg (S : List Nat) : List Nat → Nat → Nat → Nat
  | [], _, _ => 0
  | u :: vs, k, v => if v = u then k / cnt S vs else asg S vs (k % cnt S vs) v
theorem asg_out {S : List Nat} : ∀ {vs : List Nat} {k v : Nat}, ¬ v ∈ vs → asg S vs k v = 0
  | [], _, _, _ => rfl
  | u :: vs, k, v, h => by
    rw [asg, if_neg (fun e => h (by rw [e]; exact List.mem_cons_self))]
    exact asg_out fun e => h (List.mem_cons_of_mem _ e)
/-- How far apart two values of a variable stand. -/
def stp (S : List Nat) : List Nat → Nat → Nat
  | [], _ => 0
  | u :: vs, v => if v = u then cnt S vs else stp S vs v
theorem stp_out {S : List Nat} : ∀ {vs : List Nat} {v : Nat}, ¬ v ∈ vs → stp S vs v = 0
  | [], _, _ => rfl
  | u :: vs, v, h => by
    rw [stp, if_neg (fun e => h (by rw [e]; exact List.mem_cons_self))]
    exact stp_out fun e => h (List.mem_cons_of_mem _ e)
/-- The place of an assignment. -/
def pos (S : List Nat) (f : Nat → Nat) (vs : List Nat) : Nat := vs.foldl (fun k v => k * sz S v + f v) 0
/-- A sum over some. -/
def sumL (g : Nat → Nat) : List Nat → Nat
  | [] => 0
  | v :: vs => g v + sumL g vs
theorem sumL_append (g : Nat → Nat) (a b : List Nat) : sumL g (a ++ b) = sumL g a + sumL g b := by
  induction a with
  | nil => simp [sumL]
  | cons v a ih => simp only [List.cons_append, sumL, ih]; omega
theorem sumL_congr {g h : Nat → Nat} : ∀ {l : List Nat}, (∀ v ∈ l, g v = h v) → sumL g l = sumL h l
  | [], _ => rfl
  | v :: l, e => by rw [sumL, sumL, e v List.mem_cons_self, sumL_congr fun u hu => e u (List.mem_cons_of_mem _ hu)]
theorem foldl_pos (S : List Nat) (f : Nat → Nat) : ∀ (vs : List Nat) (k : Nat), vs.foldl (fun k v => k * sz S v + f v) k = k * cnt S vs + pos S f vs
  | [], k => by simp [pos, cnt]
  | v :: vs, k => by
    have e : pos S f (v :: vs) = f v * cnt S vs + pos S f vs := by
      show vs.foldl (fun k v => k * sz S v + f v) (0 * sz S v + f v) = _
      rw [foldl_pos S f vs, Nat.zero_mul, Nat.zero_add]
    rw [List.foldl_cons, foldl_pos S f vs, e, cnt, Nat.add_mul, Nat.mul_assoc]
    omega
theorem pos_sum (S : List Nat) (f : Nat → Nat) : ∀ {vs : List Nat}, vs.Nodup → pos S f vs = sumL (fun v => f v * stp S vs v) vs
  | [], _ => rfl
  | u :: vs, h => by
    rw [List.nodup_cons] at h
    rw [pos, List.foldl_cons, foldl_pos, sumL, pos_sum S f h.2, Nat.zero_mul, Nat.zero_add]
    congr 1
    · rw [stp, if_pos rfl]
    · exact sumL_congr fun v hv => by rw [stp, if_neg (fun e => h.1 (by rw [← e]; exact hv))]
/-- A sum over some is a sum over all of what is 0 elsewhere. -/
theorem sumL_all (g : Nat → Nat) (n : Nat) : ∀ {vs : List Nat}, vs.Nodup → (∀ v ∈ vs, v < n) → (∀ v, ¬ v ∈ vs → g v = 0) → sumL g vs = sumL g (List.range n) := by
  intro vs hn hlt h0
  have key : ∀ {vs : List Nat}, vs.Nodup → (∀ v ∈ vs, v < n) → sumL g vs = sumL (fun v => if v ∈ vs then g v else 0) (List.range n) := by
    intro vs
    induction vs with
    | nil =>
      intro _ _
      have : ∀ l : List Nat, sumL (fun v => if v ∈ ([] : List Nat) then g v else 0) l = 0 := by
        intro l
        induction l with
        | nil => rfl
        | cons x l ih => rw [sumL, ih]; simp
      rw [this]; rfl
    | cons u vs ih =>
      intro hn hlt
      rw [List.nodup_cons] at hn
      rw [sumL, ih hn.2 fun v hv => hlt v (List.mem_cons_of_mem _ hv)]
      have hu := hlt u List.mem_cons_self
      have one : ∀ m, u < m → sumL (fun v => if v ∈ u :: vs then g v else 0) (List.range m) = g u + sumL (fun v => if v ∈ vs then g v else 0) (List.range m) := by
        intro m
        induction m with
        | zero => intro h; omega
        | succ m ihm =>
          intro h
          rw [List.range_succ, sumL_append, sumL_append]
          by_cases e : u = m
          · subst e
            have : sumL (fun v => if v ∈ u :: vs then g v else 0) (List.range u) = sumL (fun v => if v ∈ vs then g v else 0) (List.range u) := sumL_congr fun v hv => by
              have : ¬ v = u := by have := List.mem_range.1 hv; omega
              simp [this]
            rw [this]
            simp [sumL, hn.1]
            omega
          · rw [ihm (by omega)]
            have : ¬ m = u := fun h => e h.symm
            simp [sumL, this]
            omega
      rw [one n hu]
  rw [key hn hlt]
  exact sumL_congr fun v _ => by
    by_cases h : v ∈ vs
    · rw [if_pos h]
    · rw [if_neg h, h0 v h]
/-- The place in another table: a sum over the variables of the first. -/
theorem stand {S vs other : List Nat} (n k : Nat) (hv : vs.Nodup) (ho : other.Nodup) (hvl : ∀ v ∈ vs, v < n) (hol : ∀ v ∈ other, v < n) : sumL (fun v => asg S vs k v * stp S other v) vs = pos S (asg S vs k) other := by
  rw [pos_sum S _ ho, sumL_all _ n hv hvl, sumL_all _ n ho hol]
  · intro v h; rw [stp_out h, Nat.mul_zero]
  · intro v h; rw [asg_out h, Nat.zero_mul]
end Go.Proofs.YtbejijgelljeaaaGreatDoor

/- Sizes and variables that may be, as natural numbers; the document's answer: how many assignments there are. -/
namespace Go.Proofs.YtbejijgelljeaaaGreatDoor
open Go.RowKit
def toN (l : List Int) : List Nat := l.map Int.toNat
end Go.Proofs.YtbejijgelljeaaaGreatDoor

/- Package table: how many assignments there are, and the place of one. -/
namespace Go.Proofs.YtbejijgelljeaaaGreatDoor
open Go.RowKit
/-- The least number that may follow. -/
def least (l : List Int) (i : Nat) : Int := if i = 0 then 0 else l.getD (i - 1) 0 + 1
end Go.Proofs.YtbejijgelljeaaaGreatDoor

/- The document's answer: the assignment of a place. -/
namespace Go.Proofs.YtbejijgelljeaaaGreatDoor
open Go.RowKit
/-- Natural numbers as ints. -/
def iL (l : List Nat) : List Int := l.map fun x : Nat => (x : Int)
theorem iL_length (l : List Nat) : (iL l).length = l.length := by simp [iL]
theorem toN_iL (l : List Nat) : toN (iL l) = l := by simp [toN, iL, Function.comp_def]
end Go.Proofs.YtbejijgelljeaaaGreatDoor

/- Package table: join. -/
namespace Go.Proofs.YtbejijgelljeaaaGreatDoor
open Go.RowKit Go.Shelf
/-- A fraction as a value. -/
abbrev frV (f : Fr) : Value := .agg #[.bool f.1, .string f.2.1, .string f.2.2]
end Go.Proofs.YtbejijgelljeaaaGreatDoor

/- Package table: the ways of joining. -/
namespace Go.Proofs.YtbejijgelljeaaaGreatDoor
open Go.RowKit Go.Shelf
abbrev frQ (f : Fr) : Rat := val f.1 f.2.1 f.2.2
end Go.Proofs.YtbejijgelljeaaaGreatDoor

/- Package graph: lists of lists, and their sets. -/
namespace Go.Proofs.YtbejijgelljeaaaGreatDoor
open Go.RowKit
/-- All lists rise. -/
def allRis (L : List (List Int)) (n : Nat) : Bool := L.all fun l => risB l n
end Go.Proofs.YtbejijgelljeaaaGreatDoor

/- Package graph: readOthers. -/
namespace Go.Proofs.YtbejijgelljeaaaGreatDoor
open Go.RowKit
/-- No list has its own number. -/
def noSelf (L : List (List Int)) : Bool := (List.range L.length).all fun v => !decide (v ∈ toN (L.getD v []))
/-- Lists of other nodes. -/
def gB (L : List (List Int)) : Bool := decide (1 ≤ L.length ∧ L.length ≤ 8) && allRis L L.length && noSelf L
end Go.Proofs.YtbejijgelljeaaaGreatDoor

/- Plain: the order of nodes, each behind its parents, the least first. -/
namespace Go.Proofs.YtbejijgelljeaaaGreatDoor
theorem iL_append (a b : List Nat) : iL (a ++ b) = iL a ++ iL b := by simp [iL]
end Go.Proofs.YtbejijgelljeaaaGreatDoor

/- Lists of names: checkNames of package net, namesOK of the document's answer. -/
namespace Go.Proofs.YtbejijgelljeaaaGreatDoor
open Go.RowKit
theorem bytes_eq {a b : ByteArray} : (a.toList == b.toList) = decide (a = b) := by
  rw [Bool.eq_iff_iff, beq_iff_eq, decide_eq_true_iff]
  constructor
  · intro h
    rw [toList_data, toList_data] at h
    obtain ⟨⟨x⟩⟩ := a
    obtain ⟨⟨y⟩⟩ := b
    simp only at h
    rw [h]
  · intro h; rw [h]
end Go.Proofs.YtbejijgelljeaaaGreatDoor

/- Rows of chances: isRow of package net. -/
namespace Go.Proofs.YtbejijgelljeaaaGreatDoor
open Go.RowKit Go.Shelf
/-- Chances: none below 0, 1 together. -/
def rowB (l : List Fr) : Bool := (l.all fun f => decide (¬ frQ f < 0)) && decide (fsum l = 1)
theorem cmp_below {p : Rat} : cmpQ p 0 < 0 ↔ p < 0 := by
  rw [cmpQ]
  by_cases h : p < 0
  · rw [if_pos h]; exact ⟨fun _ => h, fun _ => by decide⟩
  · rw [if_neg h]
    by_cases e : p = 0
    · rw [if_pos e]; exact ⟨fun h => absurd h (by decide), fun h' => absurd h' h⟩
    · rw [if_neg e]; exact ⟨fun h => absurd h (by decide), fun h' => absurd h' h⟩
theorem cmp_same {p : Rat} : (cmpQ p 1 == 0) = decide (p = 1) := by
  rw [Bool.eq_iff_iff, beq_iff_eq, decide_eq_true_iff, cmpQ]
  by_cases h : p < 1
  · rw [if_pos h]; exact ⟨fun h => absurd h (by decide), fun e => by rw [e] at h; exact absurd h (by decide)⟩
  · rw [if_neg h]
    by_cases e : p = 1
    · rw [if_pos e]; exact ⟨fun _ => e, fun _ => rfl⟩
    · rw [if_neg e]; exact ⟨fun h => absurd h (by decide), fun h' => absurd h' e⟩
theorem rowB_neg {l : List Fr} {i : Nat} (h : i < l.length) (e : frQ l[i] < 0) : rowB l = false := by
  have : (l.all fun f => decide (¬ frQ f < 0)) = false := by
    rw [List.all_eq_false]; exact ⟨l[i], List.getElem_mem h, by simpa using e⟩
  rw [rowB, this]; rfl
theorem rowB_all {l : List Fr} (h : ∀ i (hi : i < l.length), ¬ frQ l[i] < 0) : rowB l = decide (fsum l = 1) := by
  have : (l.all fun f => decide (¬ frQ f < 0)) = true := by
    rw [List.all_eq_true]
    intro f hf
    obtain ⟨i, hi, rfl⟩ := List.getElem_of_mem hf
    exact decide_eq_true (h i hi)
  rw [rowB, this, Bool.true_and]
theorem qw_one2 : qw 1 ≤ 2 := by
  show (B 1).size + (B 1).size ≤ 2
  have := B_one_size
  omega
theorem fw_each {l : List Fr} {i : Nat} (h : i < l.length) (hw : fw l ≤ 10000) : l[i].2.1.size + l[i].2.2.size ≤ 10000 := by have := fw_mem (List.getElem_mem h); omega
end Go.Proofs.YtbejijgelljeaaaGreatDoor
