/- Plain: open ways: where one that may come to a node twice goes to y, one goes there that comes to each node at most once (what the document's answer tries is what isOpen comes to). -/
import Derived.Test.YtockhhleapbpiaaTreEToFilO
namespace Go.Proofs.Ytockhhleapbpiaa
open Go.RowKit Go.Shelf

/-- One stands somewhere above another. -/
def Abv (Pa : Nat → Nat → Prop) (u v : Nat) : Prop := ∀ M : Nat → Prop, (∀ v, Pa u v → M v) → (∀ v w, M v → Pa v w → M w) → M v
theorem Abv.one {Pa : Nat → Nat → Prop} {u v : Nat} (h : Pa u v) : Abv Pa u v := fun _ h1 _ => h1 _ h
theorem Abv.more {Pa : Nat → Nat → Prop} {u v w : Nat} (h : Abv Pa u v) (hp : Pa v w) : Abv Pa u w := fun M h1 h2 => h2 _ _ (h M h1 h2) hp
theorem Abv.ind {Pa : Nat → Nat → Prop} {u : Nat} {M : ∀ v, Abv Pa u v → Prop} (one : ∀ {v : Nat} (h : Pa u v), M v (.one h)) (more : ∀ {v w : Nat} (h : Abv Pa u v) (hp : Pa v w), M v h → M w (h.more hp)) : ∀ {v : Nat} (h : Abv Pa u v), M v h := fun {_} h => by
  obtain ⟨_, k⟩ := h (fun v => ∃ h, M v h) (fun _ hp => ⟨_, one hp⟩) (fun _ _ ⟨_, ih⟩ hp => ⟨_, more _ hp ih⟩)
  exact k
theorem Abv.last {Pa : Nat → Nat → Prop} {u w : Nat} (h : Abv Pa u w) : Pa u w ∨ ∃ v, Abv Pa u v ∧ Pa v w := by
  induction h using Abv.ind with
  | one hp => exact .inl hp
  | more h hp _ => exact .inr ⟨_, h, hp⟩
/-- Two that stand beside each other. -/
def AdjW (Pa : Nat → Nat → Prop) (u v : Nat) : Prop := Pa u v ∨ Pa v u
/-- A way may go through u, from p to v. -/
def OkW (Pa : Nat → Nat → Prop) (Z An : Nat → Prop) (p u v : Nat) : Prop := (Pa p u → Pa v u → An u) ∧ (¬ (Pa p u ∧ Pa v u) → ¬ Z u)
/-- A way of k steps. -/
structure WyF (Pa : Nat → Nat → Prop) (Z An : Nat → Prop) (k : Nat) (f : Nat → Nat) : Prop where
  adj : ∀ t, t < k → AdjW Pa (f t) (f (t + 1))
  ok : ∀ t, t + 1 < k → OkW Pa Z An (f t) (f (t + 1)) (f (t + 2))
/-- Whoever goes down and comes back has met one that is seen through. -/
theorem WyF.down {Pa : Nat → Nat → Prop} {Z An : Nat → Prop} {k : Nat} {f : Nat → Nat} (h : WyF Pa Z An k f) (hac : ∀ v, ¬ Abv Pa v v) (hup : ∀ u v, Pa u v → An v → An u) {i j : Nat} (hij : i < j) (hj : j ≤ k) (he : f j = f i) (hd : Pa (f i) (f (i + 1))) : An (f i) := by
  have key : ∀ d t, t + d = j → i < t → Abv Pa (f i) (f t) → Pa (f (t - 1)) (f t) → An (f i) := fun d => by
    induction d with
    | zero =>
      intro t ht _ ha _
      rw [show t = j by omega, he] at ha
      exact absurd ha (hac _)
    | succ d ih =>
      intro t ht hit ha hp
      have hok := h.ok (t - 1) (by omega)
      rw [show t - 1 + 1 = t by omega, show t - 1 + 2 = t + 1 by omega] at hok
      rcases h.adj t (by omega) with hn | hn
      · exact ih (t + 1) (by omega) (by omega) (.more ha hn) (by rw [show t + 1 - 1 = t by omega]; exact hn)
      · have hat := hok.1 hp hn
        have : ∀ u v, Abv Pa u v → An v → An u := fun u v huv => by
          induction huv using Abv.ind with
          | one h => exact hup _ _ h
          | more _ h ih => exact fun hv => ih (hup _ _ h hv)
        exact this _ _ ha hat
  exact key (j - (i + 1)) (i + 1) (by omega) (by omega) (.one hd) (by rw [show i + 1 - 1 = i by omega]; exact hd)
/-- What lies between two places at one node is left out. -/
def cutF (f : Nat → Nat) (i j t : Nat) : Nat := if t ≤ i then f t else f (t + (j - i))
theorem WyF.cut {Pa : Nat → Nat → Prop} {Z An : Nat → Prop} {k : Nat} {f : Nat → Nat} (h : WyF Pa Z An k f) (hac : ∀ v, ¬ Abv Pa v v) (hup : ∀ u v, Pa u v → An v → An u) {i j : Nat} (hij : i < j) (hj : j ≤ k) (he : f j = f i) : WyF Pa Z An (k - (j - i)) (cutF f i j) := by
  have hlow : ∀ t, t ≤ i → cutF f i j t = f t := fun t ht => if_pos ht
  have hhigh : ∀ t, i ≤ t → cutF f i j t = f (t + (j - i)) := fun t ht => by
    rcases Nat.lt_or_ge i t with h1 | h1
    · exact if_neg (by omega)
    · rw [hlow t h1, show t = i by omega, show i + (j - i) = j by omega, he]
  have hself : ∀ u v, Pa u v → ¬ Pa v u := fun u v h1 h2 => hac u (.more (.one h1) h2)
  refine ⟨fun t ht => ?_, fun t ht => ?_⟩
  · rcases Nat.lt_or_ge t i with h1 | h1
    · rw [hlow t (by omega), hlow (t + 1) (by omega)]; exact h.adj t (by omega)
    · rw [hhigh t h1, hhigh (t + 1) (by omega), show t + 1 + (j - i) = t + (j - i) + 1 by omega]; exact h.adj _ (by omega)
  · rcases Nat.lt_or_ge (t + 1) i with h1 | h1
    · rw [hlow t (by omega), hlow (t + 1) (by omega), hlow (t + 2) (by omega)]; exact h.ok t (by omega)
    · rcases Nat.lt_or_ge i (t + 1) with h2 | h2
      · rw [hhigh t (by omega), hhigh (t + 1) (by omega), hhigh (t + 2) (by omega), show t + 1 + (j - i) = t + (j - i) + 1 by omega, show t + 2 + (j - i) = t + (j - i) + 2 by omega]
        exact h.ok _ (by omega)
      · -- The place itself.
        obtain rfl : i = t + 1 := by omega
        rw [hlow t (by omega), hlow (t + 1) (Nat.le_refl _), hhigh (t + 2) (by omega)]
        rw [show t + 2 + (j - (t + 1)) = j + 1 by omega]
        have hf := h.ok t (by omega)
        have hl := h.ok (j - 1) (by omega)
        rw [show j - 1 + 1 = j by omega, show j - 1 + 2 = j + 1 by omega, he] at hl
        refine ⟨fun hp hq => ?_, fun hn hz => ?_⟩
        · rcases h.adj (t + 1) (by omega) with hd | hd
          · exact h.down hac hup hij hj he hd
          · exact hf.1 hp hd
        · by_cases hp : Pa (f t) (f (t + 1))
          · have hq : ¬ Pa (f (j + 1)) (f (t + 1)) := fun hq => hn ⟨hp, hq⟩
            exact hl.2 (fun h => hq h.2) hz
          · exact hf.2 (fun h => hp h.1) hz
/-- A way that comes to none twice, and to its end just at the end. -/
theorem WyF.plain {Pa : Nat → Nat → Prop} {Z An : Nat → Prop} {X Y : Nat → Prop} (hac : ∀ v, ¬ Abv Pa v v) (hup : ∀ u v, Pa u v → An v → An u) : ∀ m k f, k ≤ m → WyF Pa Z An k f → X (f 0) → Y (f k) → ∃ k' f', WyF Pa Z An k' f' ∧ X (f' 0) ∧ Y (f' k') ∧ (∀ i j, i ≤ k' → j ≤ k' → f' i = f' j → i = j) ∧ ∀ i, i < k' → ¬ Y (f' i) := fun m => by
  induction m with
  | zero =>
    intro k f hk h hx hy
    obtain rfl : k = 0 := by omega
    exact ⟨0, f, h, hx, hy, fun i j hi hj _ => by omega, fun i hi => absurd hi (Nat.not_lt_zero _)⟩
  | succ m ih =>
    intro k f hk h hx hy
    by_cases h1 : ∃ i, i < k ∧ Y (f i)
    · obtain ⟨i, hi, hyi⟩ := h1
      exact ih i f (by omega) ⟨fun t ht => h.adj t (by omega), fun t ht => h.ok t (by omega)⟩ hx hyi
    · by_cases h2 : ∃ i j, i < j ∧ j ≤ k ∧ f j = f i
      · obtain ⟨i, j, hij, hj, he⟩ := h2
        refine ih (k - (j - i)) (cutF f i j) (by omega) (h.cut hac hup hij hj he) ?_ ?_
        · rw [cutF, if_pos (Nat.zero_le _)]; exact hx
        · rw [cutF]
          by_cases hc : k - (j - i) ≤ i
          · rw [if_pos hc]
            have : j = k := by omega
            rw [show k - (j - i) = i by omega, ← he, this]; exact hy
          · rw [if_neg hc, show k - (j - i) + (j - i) = k by omega]; exact hy
      · refine ⟨k, f, h, hx, hy, fun i j hi hj e => ?_, fun i hi hyi => h1 ⟨i, hi, hyi⟩⟩
        rcases Nat.lt_trichotomy i j with h3 | h3 | h3
        · exact absurd ⟨i, j, h3, hj, e.symm⟩ h2
        · exact h3
        · exact absurd ⟨j, i, h3, hi, e⟩ h2
/-- What is come to, step by step: from a child (true), or from a parent. -/
def RcW (Pa : Nat → Nat → Prop) (X Z An : Nat → Prop) (v : Nat) (c : Bool) : Prop := ∀ M : Nat → Bool → Prop, (∀ x, X x → M x true) → (∀ v p, M v true → ¬ Z v → Pa p v → M p true) → (∀ v w c, M v c → ¬ Z v → Pa v w → M w false) → (∀ v p, M v false → An v → Pa p v → M p true) → M v c
theorem RcW.start {Pa : Nat → Nat → Prop} {X Z An : Nat → Prop} {x : Nat} (h : X x) : RcW Pa X Z An x true := fun _ h1 _ _ _ => h1 _ h
theorem RcW.up {Pa : Nat → Nat → Prop} {X Z An : Nat → Prop} {v p : Nat} (h : RcW Pa X Z An v true) (hz : ¬ Z v) (hp : Pa p v) : RcW Pa X Z An p true := fun M h1 h2 h3 h4 => h2 _ _ (h M h1 h2 h3 h4) hz hp
theorem RcW.down {Pa : Nat → Nat → Prop} {X Z An : Nat → Prop} {v w : Nat} {c : Bool} (h : RcW Pa X Z An v c) (hz : ¬ Z v) (hp : Pa v w) : RcW Pa X Z An w false := fun M h1 h2 h3 h4 => h3 _ _ _ (h M h1 h2 h3 h4) hz hp
theorem RcW.meet {Pa : Nat → Nat → Prop} {X Z An : Nat → Prop} {v p : Nat} (h : RcW Pa X Z An v false) (ha : An v) (hp : Pa p v) : RcW Pa X Z An p true := fun M h1 h2 h3 h4 => h4 _ _ (h M h1 h2 h3 h4) ha hp
theorem RcW.ind {Pa : Nat → Nat → Prop} {X Z An : Nat → Prop} {M : ∀ v c, RcW Pa X Z An v c → Prop} (start : ∀ {x : Nat} (h : X x), M x true (.start h)) (up : ∀ {v p : Nat} (h : RcW Pa X Z An v true) (hz : ¬ Z v) (hp : Pa p v), M v true h → M p true (h.up hz hp)) (down : ∀ {v w : Nat} {c : Bool} (h : RcW Pa X Z An v c) (hz : ¬ Z v) (hp : Pa v w), M v c h → M w false (h.down hz hp)) (meet : ∀ {v p : Nat} (h : RcW Pa X Z An v false) (ha : An v) (hp : Pa p v), M v false h → M p true (h.meet ha hp)) : ∀ {v : Nat} {c : Bool} (h : RcW Pa X Z An v c), M v c h := fun {_ _} h => by
  obtain ⟨_, k⟩ := h (fun v c => ∃ h, M v c h) (fun _ h => ⟨_, start h⟩) (fun _ _ ⟨_, ih⟩ hz hp => ⟨_, up _ hz hp ih⟩) (fun _ _ _ ⟨_, ih⟩ hz hp => ⟨_, down _ hz hp ih⟩) (fun _ _ ⟨_, ih⟩ ha hp => ⟨_, meet _ ha hp ih⟩)
  exact k
/-- One step more. -/
theorem WyF.snoc {Pa : Nat → Nat → Prop} {Z An : Nat → Prop} {k : Nat} {f : Nat → Nat} (h : WyF Pa Z An k f) (v : Nat) (ha : AdjW Pa (f k) v) (ho : 0 < k → OkW Pa Z An (f (k - 1)) (f k) v) : WyF Pa Z An (k + 1) (fun t => if t ≤ k then f t else v) := by
  have hl : ∀ t, t ≤ k → (if t ≤ k then f t else v) = f t := fun t ht => if_pos ht
  refine ⟨fun t ht => ?_, fun t ht => ?_⟩
  · show AdjW Pa (if t ≤ k then f t else v) (if t + 1 ≤ k then f (t + 1) else v)
    rw [hl t (by omega)]
    rcases Nat.lt_or_ge t k with h1 | h1
    · rw [hl (t + 1) (by omega)]; exact h.adj t h1
    · rw [if_neg (by omega), show t = k by omega]; exact ha
  · show OkW Pa Z An (if t ≤ k then f t else v) (if t + 1 ≤ k then f (t + 1) else v) (if t + 2 ≤ k then f (t + 2) else v)
    rw [hl t (by omega), hl (t + 1) (by omega)]
    rcases Nat.lt_or_ge (t + 1) k with h1 | h1
    · rw [hl (t + 2) (by omega)]; exact h.ok t h1
    · rw [if_neg (by omega)]
      have := ho (by omega)
      rw [show k - 1 = t by omega, show k = t + 1 by omega] at this
      exact this
theorem RcW.way {Pa : Nat → Nat → Prop} {X Z An : Nat → Prop} (hac : ∀ v, ¬ Abv Pa v v) {v : Nat} {c : Bool} (h : RcW Pa X Z An v c) : ∃ k f, WyF Pa Z An k f ∧ X (f 0) ∧ f k = v ∧ (c = true → k = 0 ∨ Pa v (f (k - 1))) ∧ (c = false → 0 < k ∧ Pa (f (k - 1)) v) := by
  have hself : ∀ u v, Pa u v → ¬ Pa v u := fun u v h1 h2 => hac u (.more (.one h1) h2)
  induction h using RcW.ind with
  | @start x hx => exact ⟨0, fun _ => x, ⟨fun t ht => absurd ht (Nat.not_lt_zero _), fun t ht => absurd ht (Nat.not_lt_zero _)⟩, hx, rfl, fun _ => .inl rfl, fun e => by cases e⟩
  | @up v p _ hz hp ih =>
    obtain ⟨k, f, h1, h2, h3, h4, _⟩ := ih
    refine ⟨k + 1, _, h1.snoc p (.inr (by rw [h3]; exact hp)) (fun hk => ?_), ?_, ?_, fun _ => .inr ?_, fun e => by cases e⟩
    · have hc := (h4 rfl).resolve_left (by omega)
      rw [h3]
      exact ⟨fun h5 _ => absurd h5 (hself _ _ hc), fun _ => hz⟩
    · show X (if 0 ≤ k then f 0 else p); rw [if_pos (Nat.zero_le _)]; exact h2
    · show (if k + 1 ≤ k then f (k + 1) else p) = p; rw [if_neg (by omega)]
    · show Pa p (if k + 1 - 1 ≤ k then f (k + 1 - 1) else p); rw [if_pos (by omega), show k + 1 - 1 = k by omega, h3]; exact hp
  | @down v w c _ hz hp ih =>
    obtain ⟨k, f, h1, h2, h3, h4, h5⟩ := ih
    refine ⟨k + 1, _, h1.snoc w (.inl (by rw [h3]; exact hp)) (fun hk => ?_), ?_, ?_, (fun e => by cases e), fun _ => ⟨by omega, ?_⟩⟩
    · rw [h3]
      exact ⟨fun _ h6 => absurd h6 (hself _ _ hp), fun _ => hz⟩
    · show X (if 0 ≤ k then f 0 else w); rw [if_pos (Nat.zero_le _)]; exact h2
    · show (if k + 1 ≤ k then f (k + 1) else w) = w; rw [if_neg (by omega)]
    · show Pa (if k + 1 - 1 ≤ k then f (k + 1 - 1) else w) w; rw [if_pos (by omega), show k + 1 - 1 = k by omega, h3]; exact hp
  | @meet v p _ hm hp ih =>
    obtain ⟨k, f, h1, h2, h3, _, h5⟩ := ih
    refine ⟨k + 1, _, h1.snoc p (.inr (by rw [h3]; exact hp)) (fun hk => ?_), ?_, ?_, fun _ => .inr ?_, fun e => by cases e⟩
    · rw [h3]
      exact ⟨fun _ _ => hm, fun hn => absurd ⟨(h5 rfl).2, hp⟩ hn⟩
    · show X (if 0 ≤ k then f 0 else p); rw [if_pos (Nat.zero_le _)]; exact h2
    · show (if k + 1 ≤ k then f (k + 1) else p) = p; rw [if_neg (by omega)]
    · show Pa p (if k + 1 - 1 ≤ k then f (k + 1 - 1) else p); rw [if_pos (by omega), show k + 1 - 1 = k by omega, h3]; exact hp
/-- Backwards: along an open way all is come to. -/
theorem WyF.reach {Pa : Nat → Nat → Prop} {X Z An : Nat → Prop} (hxz : ∀ v, X v → ¬ Z v) {k : Nat} {f : Nat → Nat} (h : WyF Pa Z An k f) (hac : ∀ v, ¬ Abv Pa v v) (hx : X (f 0)) : ∀ t, t ≤ k → ∃ c, RcW Pa X Z An (f t) c ∧ (c = true → t = 0 ∨ Pa (f t) (f (t - 1))) ∧ (c = false → 0 < t ∧ Pa (f (t - 1)) (f t))
  | 0, _ => ⟨true, .start hx, fun _ => .inl rfl, fun e => by cases e⟩
  | t + 1, ht => by
    have hself : ∀ u v, Pa u v → ¬ Pa v u := fun u v h1 h2 => hac u (.more (.one h1) h2)
    obtain ⟨c, h1, h2, h3⟩ := WyF.reach hxz h hac hx t (by omega)
    have hok : 0 < t → OkW Pa Z An (f (t - 1)) (f t) (f (t + 1)) := fun h0 => by
      have := h.ok (t - 1) (by omega)
      rwa [show t - 1 + 1 = t by omega, show t - 1 + 2 = t + 1 by omega] at this
    rcases h.adj t (by omega) with hd | hd
    · have hz : ¬ Z (f t) := by
        rcases Nat.eq_zero_or_pos t with h0 | h0
        · rw [h0]; exact hxz _ hx
        · exact (hok h0).2 fun hb => hself _ _ hd hb.2
      exact ⟨false, .down h1 hz hd, (fun e => by cases e), fun _ => ⟨by omega, by rw [show t + 1 - 1 = t by omega]; exact hd⟩⟩
    · cases c with
      | true =>
        have hz : ¬ Z (f t) := by
          rcases h2 rfl with h0 | hc
          · rw [h0]; exact hxz _ hx
          · rcases Nat.eq_zero_or_pos t with h0 | h0
            · rw [h0]; exact hxz _ hx
            · exact (hok h0).2 fun hb => hself _ _ hc hb.1
        exact ⟨true, .up h1 hz hd, fun _ => .inr (by rw [show t + 1 - 1 = t by omega]; exact hd), fun e => by cases e⟩
      | false =>
        obtain ⟨h0, hp⟩ := h3 rfl
        exact ⟨true, .meet h1 ((hok h0).1 hp hd) hd, fun _ => .inr (by rw [show t + 1 - 1 = t by omega]; exact hd), fun e => by cases e⟩
def paB (P : List (List Nat)) (u v : Nat) : Bool := decide (u ∈ P.getD v [])
/-- May a way (its last one first) go on to v? -/
def psB (P : List (List Nat)) (zb an : Nat → Bool) (u : Nat) (r : List Nat) (v : Nat) : Bool := match r with
  | [] => true
  | p :: _ => if (paB P p u && paB P v u) = true then an u else !zb u
/-- All ways that go on from this one, each node at most once. -/
def opF (P : List (List Nat)) (n : Nat) (yb zb an : Nat → Bool) : Nat → List Nat → Bool
  | 0, _ => false
  | _ + 1, [] => false
  | f + 1, u :: r => yb u || (List.range n).any fun v => !decide (v ∈ u :: r) && ((paB P v u || paB P u v) && (psB P zb an u r v && opF P n yb zb an f (v :: u :: r)))
theorem opF_reach {P : List (List Nat)} {n : Nat} {yb zb an : Nat → Bool} {X : Nat → Prop} (hxz : ∀ v, X v → zb v = false) (hac : ∀ v, ¬ Abv (fun u v => u ∈ P.getD v []) v v) : ∀ f u r, opF P n yb zb an f (u :: r) = true → (∃ c, RcW (fun u v => u ∈ P.getD v []) X (fun v => zb v = true) (fun v => an v = true) u c ∧ (c = true → (r = [] ∧ X u) ∨ ∃ p l, r = p :: l ∧ u ∈ P.getD p []) ∧ (c = false → ∃ p l, r = p :: l ∧ p ∈ P.getD u [])) → ∃ y c, yb y = true ∧ RcW (fun u v => u ∈ P.getD v []) X (fun v => zb v = true) (fun v => an v = true) y c
  | 0, u, r, h, _ => by cases h
  | f + 1, u, r, h, ⟨c, hr, h1, h2⟩ => by
    have hself : ∀ u v : Nat, u ∈ P.getD v [] → ¬ v ∈ P.getD u [] := fun u v a b => hac u (.more (.one a) b)
    rw [opF, Bool.or_eq_true] at h
    rcases h with h | h
    · exact ⟨u, c, h, hr⟩
    · obtain ⟨v, _, hv⟩ := List.any_eq_true.1 h
      rw [Bool.and_eq_true, Bool.and_eq_true, Bool.and_eq_true, Bool.or_eq_true] at hv
      obtain ⟨_, ha, hp, ho⟩ := hv
      refine opF_reach hxz hac f v (u :: r) ho ?_
      by_cases hd : u ∈ P.getD v []
      · have hz : ¬ zb u = true := fun hz => by
          cases c with
          | true =>
            rcases h1 rfl with ⟨rfl, hx⟩ | ⟨p, l, rfl, hc⟩
            · rw [hxz u hx] at hz; cases hz
            · rw [psB, if_neg (by rw [paB, decide_eq_false (hself _ _ hc), Bool.false_and]; decide), hz] at hp; cases hp
          | false =>
            obtain ⟨p, l, rfl, hc⟩ := h2 rfl
            rw [psB, if_neg (by rw [paB, paB, decide_eq_false (hself _ _ hd), Bool.and_false]; decide), hz] at hp; cases hp
        exact ⟨false, .down hr hz hd, (fun e => by cases e), fun _ => ⟨u, r, rfl, hd⟩⟩
      · have hup : v ∈ P.getD u [] := ha.elim (fun a => of_decide_eq_true a) fun a => absurd (of_decide_eq_true a) hd
        refine ⟨true, ?_, fun _ => .inr ⟨u, r, rfl, hup⟩, fun e => by cases e⟩
        cases c with
        | true =>
          refine .up hr (fun hz => ?_) hup
          rcases h1 rfl with ⟨rfl, hx⟩ | ⟨p, l, rfl, hc⟩
          · rw [hxz u hx] at hz; cases hz
          · rw [psB, if_neg (by rw [paB, decide_eq_false (hself _ _ hc), Bool.false_and]; decide), hz] at hp; cases hp
        | false =>
          obtain ⟨p, l, rfl, hc⟩ := h2 rfl
          rw [psB, if_pos (by rw [paB, paB, decide_eq_true hc, decide_eq_true hup]; rfl)] at hp
          exact .meet hr hp hup
/-- The nodes of a way as far as t, the last one first. -/
def wlF (f : Nat → Nat) : Nat → List Nat
  | 0 => [f 0]
  | t + 1 => f (t + 1) :: wlF f t
theorem wlF_mem {f : Nat → Nat} {v : Nat} : ∀ {t : Nat}, v ∈ wlF f t → ∃ i, i ≤ t ∧ v = f i
  | 0, h => ⟨0, Nat.le_refl _, List.mem_singleton.1 h⟩
  | t + 1, h => by
    rcases List.mem_cons.1 h with e | h
    · exact ⟨t + 1, Nat.le_refl _, e⟩
    · obtain ⟨i, hi, e⟩ := wlF_mem h
      exact ⟨i, by omega, e⟩
theorem wlF_head (f : Nat → Nat) (t : Nat) : ∃ l, wlF f t = f t :: l ∧ (t = 0 → l = []) ∧ (0 < t → ∃ l', l = f (t - 1) :: l') := by
  cases t with
  | zero => exact ⟨[], rfl, fun _ => rfl, fun h => absurd h (Nat.lt_irrefl _)⟩
  | succ t =>
    refine ⟨wlF f t, rfl, (fun e => by omega), fun _ => ?_⟩
    cases t with
    | zero => exact ⟨[], rfl⟩
    | succ t => exact ⟨wlF f t, rfl⟩
theorem opF_way {P : List (List Nat)} {n : Nat} {yb zb an : Nat → Bool} {k : Nat} {f : Nat → Nat} (h : WyF (fun u v => u ∈ P.getD v []) (fun v => zb v = true) (fun v => an v = true) k f) (hy : yb (f k) = true) (hi : ∀ i j, i ≤ k → j ≤ k → f i = f j → i = j) (hlt : ∀ i, i ≤ k → f i < n) (e : Nat) : ∀ d, d ≤ k → opF P n yb zb an (d + 1 + e) (wlF f (k - d)) = true
  | 0, _ => by
    obtain ⟨l, hl, _⟩ := wlF_head f k
    rw [Nat.sub_zero, hl, show 0 + 1 + e = e + 1 by omega, opF, hy, Bool.true_or]
  | d + 1, hd => by
    have ih := opF_way h hy hi hlt e d (by omega)
    obtain ⟨l, hl, l0, l1⟩ := wlF_head f (k - (d + 1))
    obtain ⟨t, ht⟩ : ∃ t, t = k - (d + 1) := ⟨_, rfl⟩
    rw [← ht] at hl l0 l1 ⊢
    have htk : k - d = t + 1 := by omega
    rw [htk] at ih
    rw [hl, show d + 1 + 1 + e = (d + 1 + e) + 1 by omega, opF, Bool.or_eq_true]
    refine .inr (List.any_eq_true.2 ⟨f (t + 1), List.mem_range.2 (hlt _ (by omega)), ?_⟩)
    have hwl : wlF f (t + 1) = f (t + 1) :: f t :: l := by rw [wlF, hl]
    rw [hwl] at ih
    have hnot : ¬ f (t + 1) ∈ f t :: l := fun hm => by
      rw [← hl] at hm
      obtain ⟨i, h1, h2⟩ := wlF_mem hm
      have := hi (t + 1) i (by omega) (by omega) h2
      omega
    have hadj := h.adj t (by omega)
    rw [decide_eq_false hnot, ih, Bool.not_false, Bool.true_and, Bool.and_true, Bool.and_eq_true, Bool.or_eq_true]
    refine ⟨hadj.elim (fun a => .inr (decide_eq_true a)) fun a => .inl (decide_eq_true a), ?_⟩
    rcases Nat.eq_zero_or_pos t with h0 | h0
    · rw [l0 h0]; rfl
    · obtain ⟨l', rfl⟩ := l1 h0
      have hok := h.ok (t - 1) (by omega)
      rw [show t - 1 + 1 = t by omega, show t - 1 + 2 = t + 1 by omega] at hok
      rw [psB]
      by_cases hc : (paB P (f (t - 1)) (f t) && paB P (f (t + 1)) (f t)) = true
      · rw [if_pos hc]
        rw [Bool.and_eq_true] at hc
        exact hok.1 (of_decide_eq_true hc.1) (of_decide_eq_true hc.2)
      · rw [if_neg hc]
        have := hok.2 fun hb => hc (by rw [paB, paB, decide_eq_true hb.1, decide_eq_true hb.2]; rfl)
        cases hz : zb (f t)
        · rfl
        · exact absurd hz this
theorem inj_le {f : Nat → Nat} {k n : Nat} (hi : ∀ i j, i ≤ k → j ≤ k → f i = f j → i = j) (hlt : ∀ i, i ≤ k → f i < n) : k + 1 ≤ n := by
  have hnd : ((List.range (k + 1)).map f).Nodup := List.pairwise_map.2 (List.nodup_range.imp_of_mem fun {a b} ha hb hab e => hab (hi a b (by have := List.mem_range.1 ha; omega) (by have := List.mem_range.1 hb; omega) e))
  have := nd_len hnd (m := List.range n) fun x hx => by
    obtain ⟨i, h1, rfl⟩ := List.mem_map.1 hx
    exact List.mem_range.2 (hlt i (by have := List.mem_range.1 h1; omega))
  simpa using this
/-- Of all ways, one goes to y: as what is come to tells. -/
theorem opF_iff {P : List (List Nat)} {n : Nat} {yb zb an : Nat → Bool} {X : Nat → Prop} (hxz : ∀ v, X v → zb v = false) (hac : ∀ v, ¬ Abv (fun u v => u ∈ P.getD v []) v v) (hup : ∀ u v, u ∈ P.getD v [] → an v = true → an u = true) (hP : ∀ v, ∀ u ∈ P.getD v [], u < n ∧ v < n) (hX : ∀ v, X v → v < n) : (∃ x, X x ∧ opF P n yb zb an n [x] = true) ↔ ∃ y c, yb y = true ∧ RcW (fun u v => u ∈ P.getD v []) X (fun v => zb v = true) (fun v => an v = true) y c := by
  constructor
  · rintro ⟨x, hx, ho⟩
    exact opF_reach hxz hac n x [] ho ⟨true, .start hx, fun _ => .inl ⟨rfl, hx⟩, fun e => by cases e⟩
  · rintro ⟨y, c, hy, hr⟩
    obtain ⟨k, f, h1, h2, h3, _⟩ := hr.way hac
    obtain ⟨k', f', g1, g2, g3, g4, _⟩ := WyF.plain (X := X) (Y := fun v => yb v = true) hac hup k k f (Nat.le_refl _) h1 h2 (by rw [h3]; exact hy)
    have hlt : ∀ i, i ≤ k' → f' i < n := fun i hi => by
      rcases Nat.eq_zero_or_pos i with h0 | h0
      · rw [h0]; exact hX _ g2
      · have := g1.adj (i - 1) (by omega)
        rw [show i - 1 + 1 = i by omega] at this
        exact this.elim (fun a => (hP _ _ a).2) fun a => (hP _ _ a).1
    have hkn := inj_le g4 hlt
    have := opF_way g1 g3 g4 hlt (n - (k' + 1)) k' (Nat.le_refl _)
    rw [Nat.sub_self, show k' + 1 + (n - (k' + 1)) = n by omega] at this
    exact ⟨f' 0, g2, this⟩
end Go.Proofs.Ytockhhleapbpiaa

