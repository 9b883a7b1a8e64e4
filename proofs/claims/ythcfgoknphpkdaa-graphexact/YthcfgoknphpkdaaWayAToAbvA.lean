/- Plain: open ways: where one that may come to a node twice goes to y, one goes there that comes to each node at most once (what the document's answer tries is what isOpen comes to). -/
import Derived.Test.YthcfgoknphpkdaaTreCToFilO
import Derived.Test.YthcfgoknphpkdaaFilAToTreB
import Derived.Maps.OwnSet
import Derived.DeepKeys4
import Derived.Test.YthcfgoknphpkdaaChiAToTreF
namespace Go.Proofs.Ythcfgoknphpkdaa
open Go.RowKit Go.Shelf

/-- One stands somewhere above another. -/
inductive Abv (Pa : Nat → Nat → Prop) : Nat → Nat → Prop
  | one {u v : Nat} : Pa u v → Abv Pa u v
  | more {u v w : Nat} : Abv Pa u v → Pa v w → Abv Pa u w
/-- Two that stand beside each other. -/
def AdjW (Pa : Nat → Nat → Prop) (u v : Nat) : Prop := Pa u v ∨ Pa v u
/-- A way may go through u, from p to v. -/
def OkW (Pa : Nat → Nat → Prop) (Z An : Nat → Prop) (p u v : Nat) : Prop := (Pa p u → Pa v u → An u) ∧ (¬ (Pa p u ∧ Pa v u) → ¬ Z u)
/-- A way of k steps. -/
structure WyF (Pa : Nat → Nat → Prop) (Z An : Nat → Prop) (k : Nat) (f : Nat → Nat) : Prop where
  adj : ∀ t, t < k → AdjW Pa (f t) (f (t + 1))
  ok : ∀ t, t + 1 < k → OkW Pa Z An (f t) (f (t + 1)) (f (t + 2))
/-- Whoever goes down and comes back has met one that is seen through. -/
theorem WyF.down {Pa : Nat → Nat → Prop} {Z An : Nat → Prop} {k : Nat} {f : Nat → Nat} (h : WyF Pa Z An k f) (hac : ∀ v, ¬ Abv Pa v v) (hup : ∀ u v, Pa u v → An v → An u) {i j : Nat} (hij : i < j) (hj : j ≤ k) (he : f j = f i) (hd : Pa (f i) (f (i + 1))) : An (f i) := by
  have key : ∀ d t, t + d = j → i < t → Abv Pa (f i) (f t) → Pa (f (t - 1)) (f t) → An (f i) := fun d => by
    induction d with
    | zero =>
      intro t ht _ ha _
      rw [show t = j by omega, he] at ha
      exact absurd ha (hac _)
    | succ d ih =>
      intro t ht hit ha hp
      have hok := h.ok (t - 1) (by omega)
      rw [show t - 1 + 1 = t by omega, show t - 1 + 2 = t + 1 by omega] at hok
      rcases h.adj t (by omega) with hn | hn
      · exact ih (t + 1) (by omega) (by omega) (.more ha hn) (by rw [show t + 1 - 1 = t by omega]; exact hn)
      · have hat := hok.1 hp hn
        have : ∀ u v, Abv Pa u v → An v → An u := fun u v huv => by
          induction huv with
          | one h => exact hup _ _ h
          | more _ h ih => exact fun hv => ih (hup _ _ h hv)
        exact this _ _ ha hat
  exact key (j - (i + 1)) (i + 1) (by omega) (by omega) (.one hd) (by rw [show i + 1 - 1 = i by omega]; exact hd)
/-- What lies between two places at one node is left out. -/
def cutF (f : Nat → Nat) (i j t : Nat) : Nat := if t ≤ i then f t else f (t + (j - i))
theorem WyF.cut {Pa : Nat → Nat → Prop} {Z An : Nat → Prop} {k : Nat} {f : Nat → Nat} (h : WyF Pa Z An k f) (hac : ∀ v, ¬ Abv Pa v v) (hup : ∀ u v, Pa u v → An v → An u) {i j : Nat} (hij : i < j) (hj : j ≤ k) (he : f j = f i) : WyF Pa Z An (k - (j - i)) (cutF f i j) := by
  have hlow : ∀ t, t ≤ i → cutF f i j t = f t := fun t ht => if_pos ht
  have hhigh : ∀ t, i ≤ t → cutF f i j t = f (t + (j - i)) := fun t ht => by
    rcases Nat.lt_or_ge i t with h1 | h1
    · exact if_neg (by omega)
    · rw [hlow t h1, show t = i by omega, show i + (j - i) = j by omega, he]
  have hself : ∀ u v, Pa u v → ¬ Pa v u := fun u v h1 h2 => hac u (.more (.one h1) h2)
  refine ⟨fun t ht => ?_, fun t ht => ?_⟩
  · rcases Nat.lt_or_ge t i with h1 | h1
    · rw [hlow t (by omega), hlow (t + 1) (by omega)]; exact h.adj t (by omega)
    · rw [hhigh t h1, hhigh (t + 1) (by omega), show t + 1 + (j - i) = t + (j - i) + 1 by omega]; exact h.adj _ (by omega)
  · rcases Nat.lt_or_ge (t + 1) i with h1 | h1
    · rw [hlow t (by omega), hlow (t + 1) (by omega), hlow (t + 2) (by omega)]; exact h.ok t (by omega)
    · rcases Nat.lt_or_ge i (t + 1) with h2 | h2
      · rw [hhigh t (by omega), hhigh (t + 1) (by omega), hhigh (t + 2) (by omega), show t + 1 + (j - i) = t + (j - i) + 1 by omega, show t + 2 + (j - i) = t + (j - i) + 2 by omega]
        exact h.ok _ (by omega)
      · -- The place itself.
        obtain rfl : i = t + 1 := by omega
        rw [hlow t (by omega), hlow (t + 1) (Nat.le_refl _), hhigh (t + 2) (by omega)]
        rw [show t + 2 + (j - (t + 1)) = j + 1 by omega]
        have hf := h.ok t (by omega)
        have hl := h.ok (j - 1) (by omega)
        rw [show j - 1 + 1 = j by omega, show j - 1 + 2 = j + 1 by omega, he] at hl
        refine ⟨fun hp hq => ?_, fun hn hz => ?_⟩
        · rcases h.adj (t + 1) (by omega) with hd | hd
          · exact h.down hac hup hij hj he hd
          · exact hf.1 hp hd
        · by_cases hp : Pa (f t) (f (t + 1))
          · have hq : ¬ Pa (f (j + 1)) (f (t + 1)) := fun hq => hn ⟨hp, hq⟩
            exact hl.2 (fun h => hq h.2) hz
          · exact hf.2 (fun h => hp h.1) hz
/-- A way that comes to none twice, and to its end just at the end. -/
theorem WyF.plain {Pa : Nat → Nat → Prop} {Z An : Nat → Prop} {X Y : Nat → Prop} (hac : ∀ v, ¬ Abv Pa v v) (hup : ∀ u v, Pa u v → An v → An u) : ∀ m k f, k ≤ m → WyF Pa Z An k f → X (f 0) → Y (f k) → ∃ k' f', WyF Pa Z An k' f' ∧ X (f' 0) ∧ Y (f' k') ∧ (∀ i j, i ≤ k' → j ≤ k' → f' i = f' j → i = j) ∧ ∀ i, i < k' → ¬ Y (f' i) := fun m => by
  induction m with
  | zero =>
    intro k f hk h hx hy
    obtain rfl : k = 0 := by omega
    exact ⟨0, f, h, hx, hy, fun i j hi hj _ => by omega, fun i hi => absurd hi (Nat.not_lt_zero _)⟩
  | succ m ih =>
    intro k f hk h hx hy
    by_cases h1 : ∃ i, i < k ∧ Y (f i)
    · obtain ⟨i, hi, hyi⟩ := h1
      exact ih i f (by omega) ⟨fun t ht => h.adj t (by omega), fun t ht => h.ok t (by omega)⟩ hx hyi
    · by_cases h2 : ∃ i j, i < j ∧ j ≤ k ∧ f j = f i
      · obtain ⟨i, j, hij, hj, he⟩ := h2
        refine ih (k - (j - i)) (cutF f i j) (by omega) (h.cut hac hup hij hj he) ?_ ?_
        · rw [cutF, if_pos (Nat.zero_le _)]; exact hx
        · rw [cutF]
          by_cases hc : k - (j - i) ≤ i
          · rw [if_pos hc]
            have : j = k := by omega
            rw [show k - (j - i) = i by omega, ← he, this]; exact hy
          · rw [if_neg hc, show k - (j - i) + (j - i) = k by omega]; exact hy
      · refine ⟨k, f, h, hx, hy, fun i j hi hj e => ?_, fun i hi hyi => h1 ⟨i, hi, hyi⟩⟩
        rcases Nat.lt_trichotomy i j with h3 | h3 | h3
        · exact absurd ⟨i, j, h3, hj, e.symm⟩ h2
        · exact h3
        · exact absurd ⟨j, i, h3, hi, e⟩ h2
/-- What is come to, step by step: from a child (true), or from a parent. -/
inductive RcW (Pa : Nat → Nat → Prop) (X Z An : Nat → Prop) : Nat → Bool → Prop
  | start {x : Nat} : X x → RcW Pa X Z An x true
  | up {v p : Nat} : RcW Pa X Z An v true → ¬ Z v → Pa p v → RcW Pa X Z An p true
  | down {v w : Nat} {c : Bool} : RcW Pa X Z An v c → ¬ Z v → Pa v w → RcW Pa X Z An w false
  | meet {v p : Nat} : RcW Pa X Z An v false → An v → Pa p v → RcW Pa X Z An p true
/-- One step more. -/
theorem WyF.snoc {Pa : Nat → Nat → Prop} {Z An : Nat → Prop} {k : Nat} {f : Nat → Nat} (h : WyF Pa Z An k f) (v : Nat) (ha : AdjW Pa (f k) v) (ho : 0 < k → OkW Pa Z An (f (k - 1)) (f k) v) : WyF Pa Z An (k + 1) (fun t => if t ≤ k then f t else v) := by
  have hl : ∀ t, t ≤ k → (if t ≤ k then f t else v) = f t := fun t ht => if_pos ht
  refine ⟨fun t ht => ?_, fun t ht => ?_⟩
  · show AdjW Pa (if t ≤ k then f t else v) (if t + 1 ≤ k then f (t + 1) else v)
    rw [hl t (by omega)]
    rcases Nat.lt_or_ge t k with h1 | h1
    · rw [hl (t + 1) (by omega)]; exact h.adj t h1
    · rw [if_neg (by omega), show t = k by omega]; exact ha
  · show OkW Pa Z An (if t ≤ k then f t else v) (if t + 1 ≤ k then f (t + 1) else v) (if t + 2 ≤ k then f (t + 2) else v)
    rw [hl t (by omega), hl (t + 1) (by omega)]
    rcases Nat.lt_or_ge (t + 1) k with h1 | h1
    · rw [hl (t + 2) (by omega)]; exact h.ok t h1
    · rw [if_neg (by omega)]
      have := ho (by omega)
      rw [show k - 1 = t by omega, show k = t + 1 by omega] at this
      exact this
theorem RcW.way {Pa : Nat → Nat → Prop} {X Z An : Nat → Prop} (hac : ∀ v, ¬ Abv Pa v v) {v : Nat} {c : Bool} (h : RcW Pa X Z An v c) : ∃ k f, WyF Pa Z An k f ∧ X (f 0) ∧ f k = v ∧ (c = true → k = 0 ∨ Pa v (f (k - 1))) ∧ (c = false → 0 < k ∧ Pa (f (k - 1)) v) := by
  have hself : ∀ u v, Pa u v → ¬ Pa v u := fun u v h1 h2 => hac u (.more (.one h1) h2)
  induction h with
  | @start x hx => exact ⟨0, fun _ => x, ⟨fun t ht => absurd ht (Nat.not_lt_zero _), fun t ht => absurd ht (Nat.not_lt_zero _)⟩, hx, rfl, fun _ => .inl rfl, fun e => by cases e⟩
  | @up v p _ hz hp ih =>
    obtain ⟨k, f, h1, h2, h3, h4, _⟩ := ih
    refine ⟨k + 1, _, h1.snoc p (.inr (by rw [h3]; exact hp)) (fun hk => ?_), ?_, ?_, fun _ => .inr ?_, fun e => by cases e⟩
    · have hc := (h4 rfl).resolve_left (by omega)
      rw [h3]
      exact ⟨fun h5 _ => absurd h5 (hself _ _ hc), fun _ => hz⟩
    · show X (if 0 ≤ k then f 0 else p); rw [if_pos (Nat.zero_le _)]; exact h2
    · show (if k + 1 ≤ k then f (k + 1) else p) = p; rw [if_neg (by omega)]
    · show Pa p (if k + 1 - 1 ≤ k then f (k + 1 - 1) else p); rw [if_pos (by omega), show k + 1 - 1 = k by omega, h3]; exact hp
  | @down v w c _ hz hp ih =>
    obtain ⟨k, f, h1, h2, h3, h4, h5⟩ := ih
    refine ⟨k + 1, _, h1.snoc w (.inl (by rw [h3]; exact hp)) (fun hk => ?_), ?_, ?_, (fun e => by cases e), fun _ => ⟨by omega, ?_⟩⟩
    · rw [h3]
      exact ⟨fun _ h6 => absurd h6 (hself _ _ hp), fun _ => hz⟩
    · show X (if 0 ≤ k then f 0 else w); rw [if_pos (Nat.zero_le _)]; exact h2
    · show (if k + 1 ≤ k then f (k + 1) else w) = w; rw [if_neg (by omega)]
    · show Pa (if k + 1 - 1 ≤ k then f (k + 1 - 1) else w) w; rw [if_pos (by omega), show k + 1 - 1 = k by omega, h3]; exact hp
  | @meet v p _ hm hp ih =>
    obtain ⟨k, f, h1, h2, h3, _, h5⟩ := ih
    refine ⟨k + 1, _, h1.snoc p (.inr (by rw [h3]; exact hp)) (fun hk => ?_), ?_, ?_, fun _ => .inr ?_, fun e => by cases e⟩
    · rw [h3]
      exact ⟨fun _ _ => hm, fun hn => absurd ⟨(h5 rfl).2, hp⟩ hn⟩
    · show X (if 0 ≤ k then f 0 else p); rw [if_pos (Nat.zero_le _)]; exact h2
    · show (if k + 1 ≤ k then f (k + 1) else p) = p; rw [if_neg (by omega)]
    · show Pa p (if k + 1 - 1 ≤ k then f (k + 1 - 1) else p); rw [if_pos (by omega), show k + 1 - 1 = k by omega, h3]; exact hp
/-- Backwards: along an open way all is come to. -/
theorem WyF.reach {Pa : Nat → Nat → Prop} {X Z An : Nat → Prop} (hxz : ∀ v, X v → ¬ Z v) {k : Nat} {f : Nat → Nat} (h : WyF Pa Z An k f) (hac : ∀ v, ¬ Abv Pa v v) (hx : X (f 0)) : ∀ t, t ≤ k → ∃ c, RcW Pa X Z An (f t) c ∧ (c = true → t = 0 ∨ Pa (f t) (f (t - 1))) ∧ (c = false → 0 < t ∧ Pa (f (t - 1)) (f t))
  | 0, _ => ⟨true, .start hx, fun _ => .inl rfl, fun e => by cases e⟩
  | t + 1, ht => by
    have hself : ∀ u v, Pa u v → ¬ Pa v u := fun u v h1 h2 => hac u (.more (.one h1) h2)
    obtain ⟨c, h1, h2, h3⟩ := WyF.reach hxz h hac hx t (by omega)
    have hok : 0 < t → OkW Pa Z An (f (t - 1)) (f t) (f (t + 1)) := fun h0 => by
      have := h.ok (t - 1) (by omega)
      rwa [show t - 1 + 1 = t by omega, show t - 1 + 2 = t + 1 by omega] at this
    rcases h.adj t (by omega) with hd | hd
    · have hz : ¬ Z (f t) := by
        rcases Nat.eq_zero_or_pos t with h0 | h0
        · rw [h0]; exact hxz _ hx
        · exact (hok h0).2 fun hb => hself _ _ hd hb.2
      exact ⟨false, .down h1 hz hd, (fun e => by cases e), fun _ => ⟨by omega, by rw [show t + 1 - 1 = t by omega]; exact hd⟩⟩
    · cases c with
      | true =>
        have hz : ¬ Z (f t) := by
          rcases h2 rfl with h0 | hc
          · rw [h0]; exact hxz _ hx
          · rcases Nat.eq_zero_or_pos t with h0 | h0
            · rw [h0]; exact hxz _ hx
            · exact (hok h0).2 fun hb => hself _ _ hc hb.1
        exact ⟨true, .up h1 hz hd, fun _ => .inr (by rw [show t + 1 - 1 = t by omega]; exact hd), fun e => by cases e⟩
      | false =>
        obtain ⟨h0, hp⟩ := h3 rfl
        exact ⟨true, .meet h1 ((hok h0).1 hp hd) hd, fun _ => .inr (by rw [show t + 1 - 1 = t by omega]; exact hd), fun e => by cases e⟩
def paB (P : List (List Nat)) (u v : Nat) : Bool := decide (u ∈ P.getD v [])
/-- May a way (its last one first) go on to v? -/
def psB (P : List (List Nat)) (zb an : Nat → Bool) (u : Nat) (r : List Nat) (v : Nat) : Bool := match r with
  | [] => true
  | p :: _ => if (paB P p u && paB P v u) = true then an u else !zb u
/-- All ways that go on from this one, each node at most once. -/
def opF (P : List (List Nat)) (n : Nat) (yb zb an : Nat → Bool) : Nat → List Nat → Bool
  | 0, _ => false
  | _ + 1, [] => false
  | f + 1, u :: r => yb u || (List.range n).any fun v => !decide (v ∈ u :: r) && ((paB P v u || paB P u v) && (psB P zb an u r v && opF P n yb zb an f (v :: u :: r)))
theorem opF_reach {P : List (List Nat)} {n : Nat} {yb zb an : Nat → Bool} {X : Nat → Prop} (hxz : ∀ v, X v → zb v = false) (hac : ∀ v, ¬ Abv (fun u v => u ∈ P.getD v []) v v) : ∀ f u r, opF P n yb zb an f (u :: r) = true → (∃ c, RcW (fun u v => u ∈ P.getD v []) X (fun v => zb v = true) (fun v => an v = true) u c ∧ (c = true → (r = [] ∧ X u) ∨ ∃ p l, r = p :: l ∧ u ∈ P.getD p []) ∧ (c = false → ∃ p l, r = p :: l ∧ p ∈ P.getD u [])) → ∃ y c, yb y = true ∧ RcW (fun u v => u ∈ P.getD v []) X (fun v => zb v = true) (fun v => an v = true) y c
  | 0, u, r, h, _ => by cases h
  | f + 1, u, r, h, ⟨c, hr, h1, h2⟩ => by
    have hself : ∀ u v : Nat, u ∈ P.getD v [] → ¬ v ∈ P.getD u [] := fun u v a b => hac u (.more (.one a) b)
    rw [opF, Bool.or_eq_true] at h
    rcases h with h | h
    · exact ⟨u, c, h, hr⟩
    · obtain ⟨v, _, hv⟩ := List.any_eq_true.1 h
      rw [Bool.and_eq_true, Bool.and_eq_true, Bool.and_eq_true, Bool.or_eq_true] at hv
      obtain ⟨_, ha, hp, ho⟩ := hv
      refine opF_reach hxz hac f v (u :: r) ho ?_
      by_cases hd : u ∈ P.getD v []
      · have hz : ¬ zb u = true := fun hz => by
          cases c with
          | true =>
            rcases h1 rfl with ⟨rfl, hx⟩ | ⟨p, l, rfl, hc⟩
            · rw [hxz u hx] at hz; cases hz
            · rw [psB, if_neg (by rw [paB, decide_eq_false (hself _ _ hc), Bool.false_and]; decide), hz] at hp; cases hp
          | false =>
            obtain ⟨p, l, rfl, hc⟩ := h2 rfl
            rw [psB, if_neg (by rw [paB, paB, decide_eq_false (hself _ _ hd), Bool.and_false]; decide), hz] at hp; cases hp
        exact ⟨false, .down hr hz hd, (fun e => by cases e), fun _ => ⟨u, r, rfl, hd⟩⟩
      · have hup : v ∈ P.getD u [] := ha.elim (fun a => of_decide_eq_true a) fun a => absurd (of_decide_eq_true a) hd
        refine ⟨true, ?_, fun _ => .inr ⟨u, r, rfl, hup⟩, fun e => by cases e⟩
        cases c with
        | true =>
          refine .up hr (fun hz => ?_) hup
          rcases h1 rfl with ⟨rfl, hx⟩ | ⟨p, l, rfl, hc⟩
          · rw [hxz u hx] at hz; cases hz
          · rw [psB, if_neg (by rw [paB, decide_eq_false (hself _ _ hc), Bool.false_and]; decide), hz] at hp; cases hp
        | false =>
          obtain ⟨p, l, rfl, hc⟩ := h2 rfl
          rw [psB, if_pos (by rw [paB, paB, decide_eq_true hc, decide_eq_true hup]; rfl)] at hp
          exact .meet hr hp hup
/-- The nodes of a way as far as t, the last one first. -/
def wlF (f : Nat → Nat) : Nat → List Nat
  | 0 => [f 0]
  | t + 1 => f (t + 1) :: wlF f t
theorem wlF_mem {f : Nat → Nat} {v : Nat} : ∀ {t : Nat}, v ∈ wlF f t → ∃ i, i ≤ t ∧ v = f i
  | 0, h => ⟨0, Nat.le_refl _, List.mem_singleton.1 h⟩
  | t + 1, h => by
    rcases List.mem_cons.1 h with e | h
    · exact ⟨t + 1, Nat.le_refl _, e⟩
    · obtain ⟨i, hi, e⟩ := wlF_mem h
      exact ⟨i, by omega, e⟩
theorem wlF_head (f : Nat → Nat) (t : Nat) : ∃ l, wlF f t = f t :: l ∧ (t = 0 → l = []) ∧ (0 < t → ∃ l', l = f (t - 1) :: l') := by
  cases t with
  | zero => exact ⟨[], rfl, fun _ => rfl, fun h => absurd h (Nat.lt_irrefl _)⟩
  | succ t =>
    refine ⟨wlF f t, rfl, (fun e => by omega), fun _ => ?_⟩
    cases t with
    | zero => exact ⟨[], rfl⟩
    | succ t => exact ⟨wlF f t, rfl⟩
theorem opF_way {P : List (List Nat)} {n : Nat} {yb zb an : Nat → Bool} {k : Nat} {f : Nat → Nat} (h : WyF (fun u v => u ∈ P.getD v []) (fun v => zb v = true) (fun v => an v = true) k f) (hy : yb (f k) = true) (hi : ∀ i j, i ≤ k → j ≤ k → f i = f j → i = j) (hlt : ∀ i, i ≤ k → f i < n) (e : Nat) : ∀ d, d ≤ k → opF P n yb zb an (d + 1 + e) (wlF f (k - d)) = true
  | 0, _ => by
    obtain ⟨l, hl, _⟩ := wlF_head f k
    rw [Nat.sub_zero, hl, show 0 + 1 + e = e + 1 by omega, opF, hy, Bool.true_or]
  | d + 1, hd => by
    have ih := opF_way h hy hi hlt e d (by omega)
    obtain ⟨l, hl, l0, l1⟩ := wlF_head f (k - (d + 1))
    obtain ⟨t, ht⟩ : ∃ t, t = k - (d + 1) := ⟨_, rfl⟩
    rw [← ht] at hl l0 l1 ⊢
    have htk : k - d = t + 1 := by omega
    rw [htk] at ih
    rw [hl, show d + 1 + 1 + e = (d + 1 + e) + 1 by omega, opF, Bool.or_eq_true]
    refine .inr (List.any_eq_true.2 ⟨f (t + 1), List.mem_range.2 (hlt _ (by omega)), ?_⟩)
    have hwl : wlF f (t + 1) = f (t + 1) :: f t :: l := by rw [wlF, hl]
    rw [hwl] at ih
    have hnot : ¬ f (t + 1) ∈ f t :: l := fun hm => by
      rw [← hl] at hm
      obtain ⟨i, h1, h2⟩ := wlF_mem hm
      have := hi (t + 1) i (by omega) (by omega) h2
      omega
    have hadj := h.adj t (by omega)
    rw [decide_eq_false hnot, ih, Bool.not_false, Bool.true_and, Bool.and_true, Bool.and_eq_true, Bool.or_eq_true]
    refine ⟨hadj.elim (fun a => .inr (decide_eq_true a)) fun a => .inl (decide_eq_true a), ?_⟩
    rcases Nat.eq_zero_or_pos t with h0 | h0
    · rw [l0 h0]; rfl
    · obtain ⟨l', rfl⟩ := l1 h0
      have hok := h.ok (t - 1) (by omega)
      rw [show t - 1 + 1 = t by omega, show t - 1 + 2 = t + 1 by omega] at hok
      rw [psB]
      by_cases hc : (paB P (f (t - 1)) (f t) && paB P (f (t + 1)) (f t)) = true
      · rw [if_pos hc]
        rw [Bool.and_eq_true] at hc
        exact hok.1 (of_decide_eq_true hc.1) (of_decide_eq_true hc.2)
      · rw [if_neg hc]
        have := hok.2 fun hb => hc (by rw [paB, paB, decide_eq_true hb.1, decide_eq_true hb.2]; rfl)
        cases hz : zb (f t)
        · rfl
        · exact absurd hz this
theorem inj_le {f : Nat → Nat} {k n : Nat} (hi : ∀ i j, i ≤ k → j ≤ k → f i = f j → i = j) (hlt : ∀ i, i ≤ k → f i < n) : k + 1 ≤ n := by
  have hnd : ((List.range (k + 1)).map f).Nodup := List.pairwise_map.2 (List.nodup_range.imp_of_mem fun {a b} ha hb hab e => hab (hi a b (by have := List.mem_range.1 ha; omega) (by have := List.mem_range.1 hb; omega) e))
  have := nd_len hnd (m := List.range n) fun x hx => by
    obtain ⟨i, h1, rfl⟩ := List.mem_map.1 hx
    exact List.mem_range.2 (hlt i (by have := List.mem_range.1 h1; omega))
  simpa using this
/-- Of all ways, one goes to y: as what is come to tells. -/
theorem opF_iff {P : List (List Nat)} {n : Nat} {yb zb an : Nat → Bool} {X : Nat → Prop} (hxz : ∀ v, X v → zb v = false) (hac : ∀ v, ¬ Abv (fun u v => u ∈ P.getD v []) v v) (hup : ∀ u v, u ∈ P.getD v [] → an v = true → an u = true) (hP : ∀ v, ∀ u ∈ P.getD v [], u < n ∧ v < n) (hX : ∀ v, X v → v < n) : (∃ x, X x ∧ opF P n yb zb an n [x] = true) ↔ ∃ y c, yb y = true ∧ RcW (fun u v => u ∈ P.getD v []) X (fun v => zb v = true) (fun v => an v = true) y c := by
  constructor
  · rintro ⟨x, hx, ho⟩
    exact opF_reach hxz hac n x [] ho ⟨true, .start hx, fun _ => .inl ⟨rfl, hx⟩, fun e => by cases e⟩
  · rintro ⟨y, c, hy, hr⟩
    obtain ⟨k, f, h1, h2, h3, _⟩ := hr.way hac
    obtain ⟨k', f', g1, g2, g3, g4, _⟩ := WyF.plain (X := X) (Y := fun v => yb v = true) hac hup k k f (Nat.le_refl _) h1 h2 (by rw [h3]; exact hy)
    have hlt : ∀ i, i ≤ k' → f' i < n := fun i hi => by
      rcases Nat.eq_zero_or_pos i with h0 | h0
      · rw [h0]; exact hX _ g2
      · have := g1.adj (i - 1) (by omega)
        rw [show i - 1 + 1 = i by omega] at this
        exact this.elim (fun a => (hP _ _ a).2) fun a => (hP _ _ a).1
    have hkn := inj_le g4 hlt
    have := opF_way g1 g3 g4 hlt (n - (k' + 1)) k' (Nat.le_refl _)
    rw [Nat.sub_self, show k' + 1 + (n - (k' + 1)) = n by omega] at this
    exact ⟨f' 0, g2, this⟩
end Go.Proofs.Ythcfgoknphpkdaa


/- Package graph: isOpen: the map of comings, and what is come to. -/
namespace Go.Proofs.Ythcfgoknphpkdaa
open Go.RowKit Go.Shelf

/-- A coming as a key. -/
def keyV (p : Nat × Bool) : Value := .agg #[.int .i64 (p.1 : Nat), .bool p.2]
theorem laidOutO : laidOutB Try.prog = true := by kernel_rfl
theorem keyedC : Maps.Keyed Try.prog 77 := Maps.Keyed.of_law (deep_law_laid laidOutO (m := 3) (by decide) (of_decide_eq_true (by kernel_rfl)) (by kernel_rfl) (by kernel_rfl))
theorem key_some (v : Nat) (c : Bool) (hv : v < 8) : (keyOf Try.prog 77 (keyV (v, c))).isSome = true := by
  have h : v = 0 ∨ v = 1 ∨ v = 2 ∨ v = 3 ∨ v = 4 ∨ v = 5 ∨ v = 6 ∨ v = 7 := by omega
  rcases h with rfl | rfl | rfl | rfl | rfl | rfl | rfl | rfl
  all_goals
    cases c
    all_goals exact of_decide_eq_true (by kernel_rfl)
theorem key_fun : ∃ kl : Nat × Bool → Lit, ∀ p : Nat × Bool, p.1 < 8 → keyOf Try.prog 77 (keyV p) = some (kl p) := by
  refine ⟨fun p => (keyOf Try.prog 77 (keyV p)).getD (.bool false), fun p hp => ?_⟩
  obtain ⟨l, hl⟩ := Option.isSome_iff_exists.1 (key_some p.1 p.2 hp)
  have hl' : keyOf Try.prog 77 (keyV p) = some l := hl
  show _ = some ((keyOf Try.prog 77 (keyV p)).getD (.bool false))
  rw [hl']; rfl
theorem key_inj {kl : Nat × Bool → Lit} (hk : ∀ p : Nat × Bool, p.1 < 8 → keyOf Try.prog 77 (keyV p) = some (kl p)) {p q : Nat × Bool} (hp : p.1 < 8) (hq : q.1 < 8) (h : kl p = kl q) : p = q := by
  have h1 := hk p hp
  have h2 := hk q hq
  rw [h] at h1
  have e := keyedC.inj h1 h2
  obtain ⟨p1, p2⟩ := p
  obtain ⟨q1, q2⟩ := q
  simp only [keyV, Value.agg.injEq, Array.mk.injEq, List.cons.injEq, Value.int.injEq, Value.bool.injEq, true_and, and_true] at e
  obtain ⟨e1, e2⟩ := e
  have : p1 = q1 := by omega
  rw [this, e2]
/-- The map holds just these. -/
structure BnM (kl : Nat × Bool → Lit) (W : World) (b : Nat) (S : List (Nat × Bool)) (D : DataW Unit) : Prop where
  own : W.ownsMap Try.prog 77 (unitElem (H := Unit)) b S.length D
  has : ∀ p : Nat × Bool, p.1 < 8 → Maps.has D (kl p) = decide (p ∈ S)
theorem BnM.new (kl : Nat × Bool → Lit) (w : World) : BnM kl (w.alloc (.map #[] 0)) w.heap.size [] (.map []) := ⟨World.ownsMap_made w _ _ _, fun _ _ => rfl⟩
theorem BnM.put {kl : Nat × Bool → Lit} (hk : ∀ p : Nat × Bool, p.1 < 8 → keyOf Try.prog 77 (keyV p) = some (kl p)) {W W' : World} {b : Nat} {S : List (Nat × Bool)} {D : DataW Unit} (h : BnM kl W b S D) {p : Nat × Bool} (hp : p.1 < 8) {d : DataW Unit} (h' : W'.ownsMap Try.prog 77 (unitElem (H := Unit)) b (S.length + 1) (D.put (kl p) d)) : BnM kl W' b (p :: S) (D.put (kl p) d) := by
  refine ⟨h', fun q hq => ?_⟩
  by_cases e : kl q = kl p
  · have e' := key_inj hk hq hp e
    rw [e', Maps.has_put_same h.own.isMap (keyedC.key (hk p hp)), decide_eq_true List.mem_cons_self]
  · rw [Maps.has_put_other e, h.has q hq]
    refine decide_eq_decide.2 ⟨List.mem_cons_of_mem _, fun hm => ?_⟩
    rcases List.mem_cons.1 hm with e' | hm
    · exact absurd (by rw [e']) e
    · exact hm
theorem BnM.kept {kl : Nat × Bool → Lit} {W W' : World} {b : Nat} {S : List (Nat × Bool)} {D : DataW Unit} (h : BnM kl W b S D) {row : Option Nat} (hg : W.grownBy W' row) (hne : some b ≠ row) : BnM kl W' b S D := ⟨h.own.kept hg hne, h.has⟩
end Go.Proofs.Ythcfgoknphpkdaa


/- Package graph: above. -/
namespace Go.Proofs.Ythcfgoknphpkdaa
open Go.RowKit Go.Shelf

attribute [local go_sem] Oper.semAt_some

/-- A set, and what stands right above those of it below k. -/
def abK (P : List (List Nat)) (t : List Nat) (k : Nat) : List Nat := t ++ (memU t k).flatMap fun v => P.getD v []
theorem abK_zero (P : List (List Nat)) (t : List Nat) : abK P t 0 = t := by simp [abK, memU]
theorem abK_yes {P : List (List Nat)} {t : List Nat} {k : Nat} (h : k ∈ t) : abK P t (k + 1) = abK P t k ++ P.getD k [] := by rw [abK, memU_yes h, List.flatMap_append, ← List.append_assoc, abK]; simp
theorem abK_no {P : List (List Nat)} {t : List Nat} {k : Nat} (h : ¬ k ∈ t) : abK P t (k + 1) = abK P t k := by rw [abK, memU_no h, abK]
/-- A set and all that stands at most so many steps above it. -/
def abS (P : List (List Nat)) (s : List Nat) : Nat → List Nat
  | 0 => s
  | r + 1 => abK P (abS P s r) 8
theorem abK_lt {n : Nat} {P : List (List Nat)} {t : List Nat} (hP : ∀ v, ∀ u ∈ P.getD v [], u < n) (ht : ∀ u ∈ t, u < n) (k : Nat) : ∀ u ∈ abK P t k, u < n := fun u hu => by
  rcases List.mem_append.1 hu with h | h
  · exact ht u h
  · obtain ⟨v, _, h2⟩ := List.mem_flatMap.1 h
    exact hP v u h2
theorem abS_lt {n : Nat} {P : List (List Nat)} {s : List Nat} (hP : ∀ v, ∀ u ∈ P.getD v [], u < n) (hs : ∀ u ∈ s, u < n) : ∀ r, ∀ u ∈ abS P s r, u < n
  | 0 => hs
  | r + 1 => abK_lt hP (abS_lt hP hs r) 8
/-- What a call of above leaves with. -/
def AbL (w : World) (G n c m : Nat) (W : World) : Prop := Boxed W w.heap.size 40 (.slice (some ⟨G, 0, none⟩) n c) ∧ Boxed W (w.heap.size + 1) 46 (.int .u32 (m : Nat)) ∧ Below w.heap.size w W
theorem AbL.shut {w : World} {G n c m lo : Nat} (hlo : w.heap.size + 1 < lo) (W : World) (r : Nat) (h : AbL w G n c m W) (hr : lo ≤ r) (hd : W.heap[r]? = some (.deferred (some []))) : AbL w G n c m (W.putObj r (.deferred none)) :=
  ⟨(World.putObj_heap_other (by omega)).trans h.1, (World.putObj_heap_other (by omega)).trans h.2.1, h.2.2.trans (belowK_b (w := w) (Nat.le_refl _) W r _ _ (by omega) hd rfl rfl)⟩
theorem AbL.own {β : Type} {w : World} {G n c B : Nat} (f : β → Nat) (hB : w.heap.size ≤ B) : OwnFrom B (fun (s : β) W => AbL w G n c (f s) W) :=
  OwnFrom.and (Own.from (boxed_own _ _ (fun _ => _)) _) (OwnFrom.and (Own.from (boxed_own _ _ (fun s : β => .int .u32 (f s : Nat))) _) (ownFrom_below (Nat.le_refl _) hB))

set_option maxRecDepth 100000 in
set_option maxHeartbeats 4000000 in
theorem above_any (G n c : Nat) (P : List (List Nat)) (s : List Nat) (w : World) (hn : P.length = n) (h8 : n ≤ 8) (hU : RowU w G (P.map mskN)) (hP : ∀ p ∈ P, ∀ u ∈ p, u < n) (hs : ∀ u ∈ s, u < n) :
    Calls Try.prog 29 #[.slice (some ⟨G, 0, none⟩) n c, .int .u32 (mskN s : Nat)] w fun e w' => e = .returned (.int .u32 (mskN (abS P s n) : Nat)) ∧ Below w.heap.size w w' := by
  refine (callsIn_wide (n := 6)).1 ?_
  have hG := hU.lt
  have hPd : ∀ v, ∀ u ∈ P.getD v [], u < n := fun v u hu => by
    by_cases hv : v < P.length
    · rw [List.getD_eq_getElem?_getD, List.getElem?_eq_getElem hv] at hu
      exact hP _ (List.getElem_mem hv) u hu
    · rw [List.getD_eq_getElem?_getD, List.getElem?_eq_none (by omega)] at hu
      simp at hu
  have HKU : Hid (∀ (V : World) (v : Nat), Below w.heap.size w V → v < n → V.cell? ⟨G, v, none⟩ = some (.int .u32 (mskN (P.getD v []) : Nat))) := fun V v hB hv => by
    have := (hU.below hB hG).cell v (by rw [List.length_map]; omega)
    rwa [mapU_get (by omega)] at this
  have HLT := hid (fun r => abS_lt hPd hs r)
  have HOR := hid (fun (r k : Nat) => bits_or (abK P (abS P s r) k) (P.getD k []) (fun u hu => by have := abK_lt hPd (abS_lt hPd hs r) k u hu; omega) (fun u hu => by have := hPd k u hu; omega))
  have HY := hid (fun (r k : Nat) (h : k ∈ abS P s r) => abK_yes (P := P) h)
  have HN := hid (fun (r k : Nat) (h : ¬ k ∈ abS P s r) => abK_no (P := P) h)
  have HZ := hid (fun (r : Nat) => abK_zero P (abS P s r))
  have HSU : Hid (∀ r, abK P (abS P s r) 8 = abS P s (r + 1)) := fun r => rfl
  have h0 : abS P s 0 = s := rfl
  clear hU hP hPd hs
  refine callsIn_of_wp_marks Try.func29 rfl trivial ?_ rfl
  simp only [Try.ntmps29, List.size_toArray, List.length_cons, List.length_nil, Nat.reduceAdd, Nat.reduceSub, Array.replicate_succ, Array.replicate_zero, List.push_toArray, List.append_toArray, List.nil_append, List.cons_append]
  obtain ⟨W2, hW2⟩ : ∃ W2, W2 = (w.alloc (.cells #[.slice (some ⟨G, 0, none⟩) n c] 40)).alloc (.cells #[.int .u32 (mskN s : Nat)] 46) := ⟨_, rfl⟩
  have hL2 : AbL w G n c (mskN (abS P s 0)) W2 := by
    rw [hW2, h0]
    refine ⟨(Boxed.new w _ _).alloc _, ?_, ((Below.refl _ w).alloc (Nat.le_refl _) _).alloc (by simp) _⟩
    have h := Boxed.new (w.alloc (.cells #[.slice (some ⟨G, 0, none⟩) n c] 40)) 46 (.int .u32 (mskN s : Nat))
    rwa [World.size_alloc] at h
  have k0 := hL2.1.cell
  rw [hW2] at k0
  gi_wp2
  rw [← hW2]
  have hs2 : W2.heap.size = w.heap.size + 2 := by rw [hW2]; simp
  have HL2 := hid hL2
  clear hW2 hL2 k0 h0
  generalize hab : abS P s = ab at *
  have HAB := hid hab
  clear hab
  generalize mskN s = m00 at *
  refine wpIn_loop (fun a' w' => ∃ (r : Nat) (ds : List Deferred) (u9 u10 u11 u19 : Value), a' = { tmps := #[.slice (some ⟨G, 0, none⟩) n c, .int .u32 (m00 : Nat), .pointer (some ⟨w.heap.size, 0, none⟩), .pointer (some ⟨w.heap.size + 1, 0, none⟩), .int .u32 0, undef, .slice (some ⟨G, 0, none⟩) n c, .int .i64 (n : Nat), .int .i64 (r : Nat), u9, u10, u11, undef, undef, undef, undef, undef, undef, undef, u19, undef], defers := ds } ∧ r ≤ n ∧ Hid (AbL w G n c (mskN (ab r)) w') ∧ Hid (Shut (w.heap.size + 2) w'.heap.size ds w')) (fun a' _ => n - (intOf (a'.tmps.getD 8 undef)).toNat) ?_ ?_
  · exact ⟨0, [], _, _, _, _, rfl, Nat.zero_le _, HL2, trivial⟩
  intro a' wr hinv
  obtain ⟨r, ds, u9, u10, u11, u19, rfl, hr, HLr, HSH⟩ := hinv
  clear HL2
  by_cases hlt : r < n
  · have ht := HLT.out r
    have HYr := hid (HY.out r)
    have HNr := hid (HN.out r)
    have HOr := hid (HOR.out r)
    have hZr := HZ.out r
    have hSr := HSU.out r
    have hlr : w.heap.size + 1 < wr.heap.size := HLr.out.2.1.lt
    have ks := HLr.out.2.1.cell
    have ht8 : ∀ u ∈ ab r, u < 8 := fun u hu => by have := ht u hu; omega
    generalize ab r = t at *
    gi_wp2
    clear ks
    have hL3 := HLr.out
    rw [← hZr] at hL3
    refine wp_each (by omega) t ht8 rfl rfl
      (fun k V => AbL w G n c (mskN (abK P t k)) V ∧ (wr.heap.size ≤ V.heap.size ∧ Shut (w.heap.size + 2) wr.heap.size ds V))
      (OwnFrom.and (AbL.own (fun k : Nat => mskN (abK P t k)) (by omega)) shut_own)
      ⟨hL3, Nat.le_refl _, HSH.out⟩
      (fun k => { tmps := #[.slice (some ⟨G, 0, none⟩) n c, .int .u32 (m00 : Nat), .pointer (some ⟨w.heap.size, 0, none⟩), .pointer (some ⟨w.heap.size + 1, 0, none⟩), .int .u32 0, .int .i64 (k : Nat), .slice (some ⟨G, 0, none⟩) n c, .int .i64 (n : Nat), .int .i64 (r : Nat), .bool true, .int .u32 (mskN t : Nat), .func (.func 38) #[.int .u32 (mskN t : Nat)] #[], .int .i64 (k : Nat), undef, undef, undef, undef, undef, undef, u19, undef], defers := [] }) ?assign ?body ?skip ?done
    case assign =>
      intro l k W K hK
      gi_wp2
      exact hK
    case body =>
      rintro l k V hk hm ⟨h0, hsV, hshV⟩
      have hkn := ht k hm
      have k0 := h0.1.cell
      have kG := HKU.out V k h0.2.2 hkn
      have hOR := HOr.out k
      have HYk := hid (HYr.out k hm)
      have ks := h0.2.1.cell
      have fs := h0.2.1.frozen
      generalize hm1 : mskN (abK P t k ++ P.getD k []) = m1 at *
      have HM1 := hid hm1
      clear hm1
      generalize mskN (abK P t k) = m0 at *
      generalize mskN (P.getD k []) = mu at *
      generalize mskN t = mt at *
      gi_wp2_with fail
      refine region_round (fun u => u.cell? ⟨w.heap.size, 0, none⟩ = some (.slice (some ⟨G, 0, none⟩) n c) ∧ u.cell? ⟨G, k, none⟩ = some (.int .u32 (mu : Nat))) (by kernel_rfl) (by kernel_rfl) (fun ⟨_, _, h⟩ => h) ⟨k0, kG⟩ ?_
      intro hSd
      have hD : KeepsOthers V V.drew := KeepsOthers.drew V
      have q0 : AbL w G n c m0 V.drew := ⟨h0.1, h0.2.1, h0.2.2.drew⟩
      have qS : Shut (w.heap.size + 2) wr.heap.size ds V.drew := hshV.keep fun _ _ => rfl
      have qz : wr.heap.size ≤ V.drew.heap.size := hsV
      have ks2 : V.drew.cell? ⟨w.heap.size + 1, 0, none⟩ = some (.int .u32 (m0 : Nat)) := ks
      have fs2 : V.drew.frozen? ⟨w.heap.size + 1, 0, none⟩ = false := fs
      clear k0 kG ks fs h0 hshV hsV hL3
      generalize V.drew = U0 at *
      (try simp only [List.getElem_toArray, List.getElem_cons_zero, List.getElem_cons_succ])
      (try simp only [Act.put, List.setIfInBounds_toArray, List.set_cons_zero, List.set_cons_succ])
      refine wpAnyH_take (i := 1) (oi := _) (v := .slice (some ⟨G, 0, none⟩) n c) rfl (by kernel_rfl) (by kernel_rfl) (by kernel_rfl) (fun _ _ _ h => h) (Or.inl ⟨by rfl, ?_⟩) (by assumption) ?_
      · intro u' hSu
        (try simp only [List.getElem_toArray, List.getElem_cons_zero, List.getElem_cons_succ])
        obtain ⟨s0, s1⟩ := hSu
        go_simp
      (try simp only [List.getElem_toArray, List.getElem_cons_zero, List.getElem_cons_succ])
      (try simp only [Act.put, List.setIfInBounds_toArray, List.set_cons_zero, List.set_cons_succ])
      refine wpAnyH_take (i := 2) (oi := _) (v := .int .i64 (k : Nat)) rfl (by kernel_rfl) (by kernel_rfl) (by kernel_rfl) (fun _ _ _ h => h) (Or.inl ⟨by rfl, ?_⟩) (by assumption) ?_
      · intro u' hSu
        (try simp only [List.getElem_toArray, List.getElem_cons_zero, List.getElem_cons_succ])
        go_simp
      (try simp only [List.getElem_toArray, List.getElem_cons_zero, List.getElem_cons_succ])
      (try simp only [Act.put, List.setIfInBounds_toArray, List.set_cons_zero, List.set_cons_succ])
      refine wpAnyH_take (i := 3) (oi := _) (v := .pointer (some ⟨G, k, none⟩)) rfl (by kernel_rfl) (by kernel_rfl) (by kernel_rfl) (fun _ _ _ h => h) (Or.inl ⟨by rfl, ?_⟩) (by assumption) ?_
      · intro u' hSu
        (try simp only [List.getElem_toArray, List.getElem_cons_zero, List.getElem_cons_succ])
        go_simp
      (try simp only [List.getElem_toArray, List.getElem_cons_zero, List.getElem_cons_succ])
      (try simp only [Act.put, List.setIfInBounds_toArray, List.set_cons_zero, List.set_cons_succ])
      refine wpAnyH_take (i := 4) (oi := _) (v := .int .u32 (mu : Nat)) rfl (by kernel_rfl) (by kernel_rfl) (by kernel_rfl) (fun _ _ _ h => h) (Or.inl ⟨by rfl, ?_⟩) (by assumption) ?_
      · intro u' hSu
        (try simp only [List.getElem_toArray, List.getElem_cons_zero, List.getElem_cons_succ])
        obtain ⟨s0, s1⟩ := hSu
        go_simp
      (try simp only [List.getElem_toArray, List.getElem_cons_zero, List.getElem_cons_succ])
      (try simp only [Act.put, List.setIfInBounds_toArray, List.set_cons_zero, List.set_cons_succ])
      refine wpAnyH_ready (rs := [0]) (by kernel_rfl) (by simp) (AllReadyH.cons rfl ?_ (AllReadyH.nil))
      · intro K' hK'
        (try simp only [List.getElem_toArray, List.getElem_cons_zero])
        go_simp
        refine hK'.out _ _ hSd (fun hSe => ?_)
        clear hK' K' hSe
        (try simp only [List.getElem_toArray, List.getElem_cons_zero, List.getElem_cons_succ])
        (try simp only [Act.put, List.setIfInBounds_toArray, List.set_cons_zero, List.set_cons_succ])
        refine wpAnyH_take (i := 5) (oi := _) (v := .int .u32 (m1 : Nat)) rfl (by kernel_rfl) (by kernel_rfl) (by kernel_rfl) (fun _ _ _ h => h) (Or.inl ⟨by rfl, ?_⟩) (by assumption) ?_
        · intro u' hSu
          (try simp only [List.getElem_toArray, List.getElem_cons_zero, List.getElem_cons_succ])
          go_simp
        (try simp only [List.getElem_toArray, List.getElem_cons_zero, List.getElem_cons_succ])
        (try simp only [Act.put, List.setIfInBounds_toArray, List.set_cons_zero, List.set_cons_succ])
        refine wpAnyH_ready (rs := [6]) (by kernel_rfl) (by simp) (AllReadyH.cons rfl ?_ (AllReadyH.nil))
        · intro K' hK'
          (try simp only [List.getElem_toArray, List.getElem_cons_zero, List.getElem_cons_succ])
          go_simp
          refine hK'.out _ _ ⟨(boxed_offB q0.1 (w.heap.size + 1) 0 _ (by omega)).cell, (World.cell?_setCell_other _ _ _ _ (fun e => (show ¬ w.heap.size + 1 = G by omega) (congrArg Addr.block e))).trans hSd.2⟩ (fun _ => wpAnyH_done (by kernel_rfl) ?_ _)
          clear hK' K' hSd
          gi_wp2
          exact ⟨(hD.trans (KeepsOthers.setCell U0 _ _)).from _, ⟨boxed_offB q0.1 (w.heap.size + 1) 0 _ (by omega), by rw [HYk.out, HM1.out]; exact q0.2.1.set _, q0.2.2.setCell (p := ⟨w.heap.size + 1, 0, none⟩) (by simp) _⟩, by simpa using qz, qS.putAt (by omega) _⟩
    case skip =>
      rintro k V hk hm h
      rw [HNr.out k hm]
      exact h
    case done =>
      rintro D V hD ⟨h0, hsV, hshV⟩ hK
      rw [hSr] at h0
      have hDX : D < V.heap.size := (Array.getElem?_eq_some_iff.1 hK).1
      have HSX : Hid (Shut (w.heap.size + 2) V.heap.size ({ target := .collected D, args := #[] } :: ds) V) := ⟨D, by omega, hDX, rfl, hK, hshV.mono hD⟩
      have HLX := hid h0
      clear h0 hshV hK
      gi_wp2
      refine ⟨⟨r + 1, _, _, _, _, _, rfl, by omega, HLX, HSX⟩, ?_⟩
      simp [intOf]
      omega
  · obtain rfl : r = n := by omega
    have kc := HLr.out.2.1.cell
    gi_wp2
    refine leaves_shut (lo := w.heap.size + 2) (K := AbL w G r c (mskN (ab r))) (AbL.shut (by omega)) (fun Z hZ => ⟨_, results_tmp rfl _ _ _, by rw [HAB.out]; rfl, hZ.2.2⟩) _ wr.heap.size wr HSH.out HLr.out
end Go.Proofs.Ythcfgoknphpkdaa

