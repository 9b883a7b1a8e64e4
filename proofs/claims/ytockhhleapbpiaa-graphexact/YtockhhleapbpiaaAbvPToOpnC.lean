/- Plain: what stands above what, who is beside whom: what the program and the document's answer say come to the same. -/
import Derived.Test.YtockhhleapbpiaaWayAOwn
import Derived.Test.YtockhhleapbpiaaOpnAToAbvB
import Derived.Test.YtockhhleapbpiaaMorAOwn
import Derived.Test.YtockhhleapbpiaaOrdCToNeaA
import Derived.Test.YtockhhleapbpiaaTreGToOrdD
import Derived.Deep.LoopGhost
namespace Go.Proofs.Ytockhhleapbpiaa
open Go.RowKit Go.Shelf

theorem ord_new {P : List (List Nat)} {k v : Nat} (h : nextV P (ordN P k) = some v) : ¬ v ∈ ordN P k ∧ ∀ u ∈ P.getD v [], u ∈ ordN P k := by
  have := List.find?_some h
  rw [freeB, Bool.and_eq_true, Bool.not_eq_true', decide_eq_false_iff_not, decide_eq_true_iff] at this
  exact this
theorem ord_nodup (P : List (List Nat)) : ∀ k, (ordN P k).Nodup
  | 0 => List.nodup_nil
  | k + 1 => by
    rw [ordN]
    cases e : nextV P (ordN P k) with
    | none => exact ord_nodup P k
    | some v =>
      refine List.nodup_append.2 ⟨ord_nodup P k, by simp, fun a ha b hb => ?_⟩
      rw [List.mem_singleton.1 hb]
      exact fun e' => (ord_new e).1 (e' ▸ ha)
/-- A node stands behind its parents. -/
theorem ord_split {P : List (List Nat)} {v : Nat} : ∀ k, v ∈ ordN P k → ∃ A B, ordN P k = A ++ v :: B ∧ ¬ v ∈ A ∧ ∀ u ∈ P.getD v [], u ∈ A
  | 0, h => by cases h
  | k + 1, h => by
    rw [ordN] at h ⊢
    cases e : nextV P (ordN P k) with
    | none =>
      rw [e] at h
      exact ord_split k h
    | some w =>
      rw [e] at h
      show ∃ A B, ordN P k ++ [w] = A ++ v :: B ∧ _
      rcases List.mem_append.1 h with h | h
      · obtain ⟨A, B, h1, h2, h3⟩ := ord_split k h
        exact ⟨A, B ++ [w], by rw [h1]; simp, h2, h3⟩
      · obtain rfl := List.mem_singleton.1 h
        exact ⟨ordN P k, [], rfl, (ord_new e).1, (ord_new e).2⟩
/-- Where a node stands. -/
def rkN (P : List (List Nat)) (v : Nat) : Nat := (ordN P P.length).idxOf v
theorem rk_less {P : List (List Nat)} {u v : Nat} (hv : v ∈ ordN P P.length) (hu : u ∈ P.getD v []) : rkN P u < rkN P v := by
  obtain ⟨A, B, h1, h2, h3⟩ := ord_split P.length hv
  have hA := h3 u hu
  rw [rkN, rkN, h1, List.idxOf_append, List.idxOf_append, if_pos hA, if_neg h2, List.idxOf_cons_self, Nat.zero_add]
  exact List.idxOf_lt_length_of_mem hA
theorem gc_parts {L : List (List Int)} (h : gcE L = 0) : gB L = true ∧ ∀ v, v < L.length → v ∈ ordN (parN L) (parN L).length := by
  have hg := gcE_gB h
  refine ⟨hg, fun v hv => ?_⟩
  rw [gcE, if_pos hg] at h
  have hl : ¬ (ordN (parN L) L.length).length < L.length := fun hc => by rw [if_pos hc] at h; cases h
  rw [parN_length]
  refine Classical.byContradiction fun hno => ?_
  have := nd_len (l := v :: ordN (parN L) L.length) (m := List.range L.length) (List.nodup_cons.2 ⟨hno, ord_nodup _ _⟩) fun x hx => by
    rcases List.mem_cons.1 hx with rfl | hx
    · exact List.mem_range.2 hv
    · have := ord_lt (parN L) L.length x hx
      rw [parN_length] at this
      exact List.mem_range.2 this
  rw [List.length_cons, List.length_range] at this
  omega
theorem pa_lt {L : List (List Int)} (hg : gB L = true) {u v : Nat} (h : u ∈ (parN L).getD v []) : u < L.length ∧ v < L.length := by
  have hv : v < L.length := by
    rcases Nat.lt_or_ge v L.length with h1 | h1
    · exact h1
    · rw [List.getD_eq_getElem?_getD, List.getElem?_eq_none (by rw [parN_length]; exact h1)] at h; cases h
  refine ⟨?_, hv⟩
  rw [List.getD_eq_getElem?_getD, List.getElem?_eq_getElem (by rw [parN_length]; exact hv)] at h
  exact par_lt hg _ (List.getElem_mem _) u h
theorem rk_pa {L : List (List Int)} (h : gcE L = 0) {u v : Nat} (hu : u ∈ (parN L).getD v []) : rkN (parN L) u < rkN (parN L) v :=
  rk_less ((gc_parts h).2 v (pa_lt (gc_parts h).1 hu).2) hu
theorem rk_top {L : List (List Int)} (h : gcE L = 0) {v : Nat} (hv : v < L.length) : rkN (parN L) v < L.length := by
  have h1 := List.idxOf_lt_length_of_mem ((gc_parts h).2 v hv)
  have h2 := ord_len (parN L) (parN L).length
  rw [parN_length] at h2
  rw [rkN]
  rw [parN_length] at h1 ⊢
  omega
theorem abv_rk {L : List (List Int)} (h : gcE L = 0) {u v : Nat} (ha : Abv (fun u v => u ∈ (parN L).getD v []) u v) : rkN (parN L) u < rkN (parN L) v := by
  induction ha using Abv.ind with
  | one hp => exact rk_pa h hp
  | more _ hp ih => exact Nat.lt_trans ih (rk_pa h hp)
theorem abv_no {L : List (List Int)} (h : gcE L = 0) (v : Nat) : ¬ Abv (fun u v => u ∈ (parN L).getD v []) v v := fun ha => Nat.lt_irrefl _ (abv_rk h ha)
/-- Is a the node b, or above it? (As the document's answer asks, so many steps at most.) -/
def abF (P : List (List Nat)) (a : Nat) : Nat → Nat → Bool
  | 0, b => decide (a = b)
  | f + 1, b => decide (a = b) || (P.getD b []).any (abF P a f)
theorem abF_iff {L : List (List Int)} (h : gcE L = 0) (a : Nat) : ∀ f b, rkN (parN L) b ≤ f → (abF (parN L) a f b = true ↔ a = b ∨ Abv (fun u v => u ∈ (parN L).getD v []) a b)
  | 0, b, hf => by
    rw [abF, decide_eq_true_iff]
    refine ⟨.inl, fun hh => hh.elim id fun ha => ?_⟩
    have := abv_rk h ha
    omega
  | f + 1, b, hf => by
    rw [abF, Bool.or_eq_true, decide_eq_true_iff, List.any_eq_true]
    constructor
    · rintro (e | ⟨c, hc, h1⟩)
      · exact .inl e
      · have := rk_pa h hc
        rcases (abF_iff h a f c (by omega)).1 h1 with rfl | h2
        · exact .inr (.one hc)
        · exact .inr (.more h2 hc)
    · rintro (e | ha)
      · exact .inl e
      · refine .inr ?_
        rcases Abv.last ha with hp | ⟨v, h1, hp⟩
        · exact ⟨a, hp, by cases f <;> simp [abF]⟩
        · have := rk_pa h hp
          exact ⟨v, hp, (abF_iff h a f v (by omega)).2 (.inr h1)⟩
theorem abS_mono {P : List (List Nat)} {s : List Nat} {u : Nat} : ∀ {r : Nat} (d : Nat), u ∈ abS P s r → u ∈ abS P s (r + d)
  | _, 0, h => h
  | r, d + 1, h => by
    show u ∈ abK P (abS P s (r + d)) 8
    exact List.mem_append_left _ (abS_mono d h)
theorem abS_up {L : List (List Int)} (h : gcE L = 0) {s : List Nat} (h8 : L.length ≤ 8) : ∀ m j v, rkN (parN L) v ≤ m → v < L.length → v ∈ abS (parN L) s j → ∀ a, Abv (fun u v => u ∈ (parN L).getD v []) a v → a ∈ abS (parN L) s (j + m) := fun m => by
  induction m with
  | zero =>
    intro j v hm _ _ a ha
    have := abv_rk h ha
    omega
  | succ m ih =>
    intro j v hm hv hs a ha
    have one : ∀ w, w ∈ (parN L).getD v [] → w ∈ abS (parN L) s (j + 1) := fun w hw => List.mem_append_right _ (List.mem_flatMap.2 ⟨v, memU_mem.2 ⟨by omega, hs⟩, hw⟩)
    rcases Abv.last ha with hp | ⟨w, h1, hp⟩
    · rw [show j + (m + 1) = (j + 1) + m by omega]; exact abS_mono m (one a hp)
    · have := rk_pa h hp
      rw [show j + (m + 1) = (j + 1) + m by omega]
      exact ih (j + 1) w (by omega) (pa_lt (gc_parts h).1 hp).1 (one w hp) a h1
theorem abS_iff {L : List (List Int)} (h : gcE L = 0) {s : List Nat} (h8 : L.length ≤ 8) (hs : ∀ v ∈ s, v < L.length) (a : Nat) : a ∈ abS (parN L) s L.length ↔ ∃ b ∈ s, a = b ∨ Abv (fun u v => u ∈ (parN L).getD v []) a b := by
  constructor
  · have : ∀ r a, a ∈ abS (parN L) s r → ∃ b ∈ s, a = b ∨ Abv (fun u v => u ∈ (parN L).getD v []) a b := fun r => by
      induction r with
      | zero => exact fun a ha => ⟨a, ha, .inl rfl⟩
      | succ r ih =>
        intro a ha
        rcases List.mem_append.1 ha with ha | ha
        · exact ih a ha
        · obtain ⟨v, hv, hp⟩ := List.mem_flatMap.1 ha
          obtain ⟨b, hb, h1⟩ := ih v (memU_mem.1 hv).2
          refine ⟨b, hb, .inr ?_⟩
          rcases h1 with rfl | h1
          · exact .one hp
          · clear hb
            induction h1 using Abv.ind with
            | one h2 => exact .more (.one hp) h2
            | more _ h2 ih2 => exact .more ih2 h2
    exact this _ a
  · rintro ⟨b, hb, rfl | ha⟩
    · have := abS_mono (P := parN L) (s := s) (r := 0) L.length hb
      rwa [Nat.zero_add] at this
    · have h1 := rk_top h (hs b hb)
      have := abS_up h h8 L.length 0 b (by omega) (hs b hb) hb a ha
      rwa [Nat.zero_add] at this
/-- Whether u stands beside v when parents of one child are wed. -/
def mrB (P : List (List Nat)) (n v u : Nat) : Bool := (decide (u ∈ P.getD v []) || decide (v ∈ P.getD u [])) || (List.range n).any fun w => decide (u ∈ P.getD w []) && decide (v ∈ P.getD w [])
theorem mrL_mem {P : List (List Nat)} {u x : Nat} : ∀ {n : Nat}, x ∈ mrL P u n ↔ x ≠ u ∧ ∃ v, v < n ∧ u ∈ famL P v ∧ x ∈ famL P v
  | 0 => by simp [mrL]
  | n + 1 => by
    have ih := mrL_mem (P := P) (u := u) (x := x) (n := n)
    rw [mrL]
    by_cases h : u ∈ famL P n
    · rw [if_pos h, List.mem_append, ih, List.mem_filter, decide_eq_true_iff]
      constructor
      · rintro (⟨a, v, b, c⟩ | ⟨a, b⟩)
        · exact ⟨a, v, by omega, c⟩
        · exact ⟨b, n, by omega, h, a⟩
      · rintro ⟨a, v, b, c, d⟩
        rcases Nat.lt_or_ge v n with h1 | h1
        · exact .inl ⟨a, v, h1, c, d⟩
        · rw [show v = n by omega] at d
          exact .inr ⟨d, a⟩
    · rw [if_neg h, ih]
      refine and_congr_right fun _ => ⟨fun ⟨v, a, b⟩ => ⟨v, by omega, b⟩, fun ⟨v, a, b, c⟩ => ⟨v, ?_, b, c⟩⟩
      rcases Nat.lt_or_ge v n with h1 | h1
      · exact h1
      · rw [show v = n by omega] at b; exact absurd b h
theorem mr_iff {P : List (List Nat)} {n v u : Nat} (hu : u < n) (hv : v < n) : u ∈ mrL P v n ↔ (mrB P n v u && decide (u ≠ v)) = true := by
  rw [mrL_mem, Bool.and_eq_true, decide_eq_true_iff, mrB, Bool.or_eq_true, Bool.or_eq_true, decide_eq_true_iff, decide_eq_true_iff, List.any_eq_true]
  constructor
  · rintro ⟨hne, w, hw, h1, h2⟩
    refine ⟨?_, hne⟩
    rcases List.mem_cons.1 h1 with rfl | h1
    · rcases List.mem_cons.1 h2 with rfl | h2
      · exact absurd rfl hne
      · exact .inl (.inl h2)
    · rcases List.mem_cons.1 h2 with rfl | h2
      · exact .inl (.inr h1)
      · exact .inr ⟨w, List.mem_range.2 hw, by rw [decide_eq_true h2, decide_eq_true h1]; rfl⟩
  · rintro ⟨(h1 | h1) | ⟨w, hw, h1⟩, hne⟩
    · exact ⟨hne, v, hv, List.mem_cons_self, List.mem_cons_of_mem _ h1⟩
    · exact ⟨hne, u, hu, List.mem_cons_of_mem _ h1, List.mem_cons_self⟩
    · rw [Bool.and_eq_true, decide_eq_true_iff, decide_eq_true_iff] at h1
      exact ⟨hne, w, List.mem_range.1 hw, List.mem_cons_of_mem _ h1.2, List.mem_cons_of_mem _ h1.1⟩
/-- The list of those beside v, as the document's answer gathers it. -/
def mrR (P : List (List Nat)) (n v u : Nat) : List Nat := (List.range u).filter fun u => mrB P n v u && decide (u ≠ v)
theorem mr_list {P : List (List Nat)} {n v : Nat} (hP : ∀ v, ∀ u ∈ P.getD v [], u < n ∧ v < n) (h8 : n ≤ 8) (hv : v < n) : iL (mrR P n v n) = memL (mrL P v n) := by
  have hlt : ∀ x, x ∈ mrL P v n → x < n := fun x hx => by
    obtain ⟨_, w, hw, _, h2⟩ := mrL_mem.1 hx
    rcases List.mem_cons.1 h2 with rfl | h2
    · exact hw
    · exact (hP _ _ h2).1
  have e : ∀ d, memU (mrL P v n) (n + d) = memU (mrL P v n) n := fun d => by
    induction d with
    | zero => rfl
    | succ d ih =>
      rw [show n + (d + 1) = (n + d) + 1 by omega, memU_no, ih]
      intro hm
      have := hlt _ hm
      omega
  have e8 := e (8 - n)
  rw [show n + (8 - n) = 8 by omega] at e8
  rw [memL, e8, mrR, memU]
  congr 1
  refine List.filter_congr fun u hu => Bool.eq_iff_iff.2 ?_
  rw [← mr_iff (List.mem_range.1 hu) hv, decide_eq_true_iff]
end Go.Proofs.Ytockhhleapbpiaa


/- Plain: what isOpen has met and what waits: at the end just what is come to. -/
namespace Go.Proofs.Ytockhhleapbpiaa
open Go.RowKit Go.Shelf

/-- What comes behind a coming. -/
def sucC (P : List (List Nat)) (n : Nat) (z an : List Nat) (p : Nat × Bool) : List (Nat × Bool) :=
  (if (p.2 && !decide (p.1 ∈ z) || !p.2 && decide (p.1 ∈ an)) = true then (memU (P.getD p.1 []) 8).map fun u => (u, true) else []) ++ (if p.1 ∈ z then [] else (memU (chL P p.1 n) 8).map fun u => (u, false))
/-- What was met, and what waits. -/
structure OpS (P : List (List Nat)) (n : Nat) (x y z an : List Nat) (S W : List (Nat × Bool)) : Prop where
  low : ∀ p, p ∈ S ∨ p ∈ W → p.1 < n ∧ RcW (fun u v => u ∈ P.getD v []) (· ∈ x) (· ∈ z) (· ∈ an) p.1 p.2
  nd : S.Nodup
  noy : ∀ p ∈ S, ¬ p.1 ∈ y
  suc : ∀ p ∈ S, ∀ q ∈ sucC P n z an p, q ∈ S ∨ q ∈ W
  start : ∀ v ∈ x, (v, true) ∈ S ∨ (v, true) ∈ W
  len : W.length ≤ 8 + 16 * S.length
theorem OpS.new {P : List (List Nat)} {n : Nat} {x y z an : List Nat} (hx : ∀ v ∈ x, v < n) (h8 : n ≤ 8) : OpS P n x y z an [] ((memU x 8).map fun u => (u, true)) := by
  refine ⟨fun p hp => ?_, List.nodup_nil, (fun p hp => by cases hp), (fun p hp => by cases hp), fun v hv => .inr (List.mem_map.2 ⟨v, memU_mem.2 ⟨by have := hx v hv; omega, hv⟩, rfl⟩), ?_⟩
  · rcases hp with hp | hp
    · cases hp
    · obtain ⟨v, hv, rfl⟩ := List.mem_map.1 hp
      exact ⟨hx v (memU_mem.1 hv).2, .start (memU_mem.1 hv).2⟩
  · have := memU_len x 8
    rw [List.length_map, List.length_nil]
    omega
/-- It was met before. -/
theorem OpS.skip {P : List (List Nat)} {n : Nat} {x y z an : List Nat} {S T : List (Nat × Bool)} {p : Nat × Bool} (h : OpS P n x y z an S (T ++ [p])) (hp : p ∈ S) : OpS P n x y z an S T := by
  have sub : ∀ q, q ∈ S ∨ q ∈ T ++ [p] → q ∈ S ∨ q ∈ T := fun q hq => by
    rcases hq with hq | hq
    · exact .inl hq
    · rcases List.mem_append.1 hq with hq | hq
      · exact .inr hq
      · rw [List.mem_singleton.1 hq]; exact .inl hp
  refine ⟨fun q hq => h.low q (hq.imp id fun hq => List.mem_append_left _ hq), h.nd, h.noy, fun q hq r hr => sub r (h.suc q hq r hr), fun v hv => sub _ (h.start v hv), ?_⟩
  have := h.len
  rw [List.length_append, List.length_singleton] at this
  omega
/-- It is new. -/
theorem OpS.add {P : List (List Nat)} {n : Nat} {x y z an : List Nat} (hP : ∀ v, ∀ u ∈ P.getD v [], u < n ∧ v < n) {S T : List (Nat × Bool)} {p : Nat × Bool} (h : OpS P n x y z an S (T ++ [p])) (hp : ¬ p ∈ S) (hy : ¬ p.1 ∈ y) : OpS P n x y z an (p :: S) (T ++ sucC P n z an p) := by
  obtain ⟨hpl, hpr⟩ := h.low p (.inr (List.mem_append_right _ List.mem_cons_self))
  have sub : ∀ q, q ∈ S ∨ q ∈ T ++ [p] → q ∈ p :: S ∨ q ∈ T ++ sucC P n z an p := fun q hq => by
    rcases hq with hq | hq
    · exact .inl (List.mem_cons_of_mem _ hq)
    · rcases List.mem_append.1 hq with hq | hq
      · exact .inr (List.mem_append_left _ hq)
      · rw [List.mem_singleton.1 hq]; exact .inl List.mem_cons_self
  have hsuc : ∀ q ∈ sucC P n z an p, q.1 < n ∧ RcW (fun u v => u ∈ P.getD v []) (· ∈ x) (· ∈ z) (· ∈ an) q.1 q.2 := fun q hq => by
    rcases List.mem_append.1 hq with hq | hq
    · by_cases hc : (p.2 && !decide (p.1 ∈ z) || !p.2 && decide (p.1 ∈ an)) = true
      · rw [if_pos hc] at hq
        obtain ⟨u, hu, rfl⟩ := List.mem_map.1 hq
        have hu' := (memU_mem.1 hu).2
        refine ⟨(hP _ _ hu').1, ?_⟩
        obtain ⟨v, c⟩ := p
        cases c with
        | true =>
          have hz : ¬ v ∈ z := fun hz => by simp [hz] at hc
          exact .up hpr hz hu'
        | false =>
          have ha : v ∈ an := by simpa using hc
          exact .meet hpr ha hu'
      · rw [if_neg hc] at hq; cases hq
    · by_cases hz : p.1 ∈ z
      · rw [if_pos hz] at hq; cases hq
      · rw [if_neg hz] at hq
        obtain ⟨u, hu, rfl⟩ := List.mem_map.1 hq
        obtain ⟨h1, h2⟩ := chL_mem.1 (memU_mem.1 hu).2
        exact ⟨h1, .down hpr hz h2⟩
  refine ⟨fun q hq => ?_, List.nodup_cons.2 ⟨hp, h.nd⟩, fun q hq => ?_, fun q hq r hr => ?_, fun v hv => sub _ (h.start v hv), ?_⟩
  · rcases hq with hq | hq
    · rcases List.mem_cons.1 hq with rfl | hq
      · exact ⟨hpl, hpr⟩
      · exact h.low q (.inl hq)
    · rcases List.mem_append.1 hq with hq | hq
      · exact h.low q (.inr (List.mem_append_left _ hq))
      · exact hsuc q hq
  · rcases List.mem_cons.1 hq with rfl | hq
    · exact hy
    · exact h.noy q hq
  · rcases List.mem_cons.1 hq with rfl | hq
    · exact .inr (List.mem_append_right _ hr)
    · exact sub r (h.suc q hq r hr)
  · have h1 := h.len
    have h2 : (sucC P n z an p).length ≤ 16 := by
      have a1 := memU_len (P.getD p.1 []) 8
      have a2 := memU_len (chL P p.1 n) 8
      rw [sucC, List.length_append]
      split <;> split <;> simp only [List.length_map, List.length_nil] <;> omega
    rw [List.length_append, List.length_singleton] at h1
    rw [List.length_append, List.length_cons]
    omega
/-- Nothing waits: all that is come to was met. -/
theorem OpS.fin {P : List (List Nat)} {n : Nat} {x y z an : List Nat} (hP : ∀ v, ∀ u ∈ P.getD v [], u < n ∧ v < n) (h8 : n ≤ 8) {S : List (Nat × Bool)} (h : OpS P n x y z an S []) : ¬ ∃ v c, v ∈ y ∧ RcW (fun u v => u ∈ P.getD v []) (· ∈ x) (· ∈ z) (· ∈ an) v c := by
  have key : ∀ v c, RcW (fun u v => u ∈ P.getD v []) (· ∈ x) (· ∈ z) (· ∈ an) v c → (v, c) ∈ S := fun v c hr => by
    have sub : ∀ p q, p ∈ S → q ∈ sucC P n z an p → q ∈ S := fun p q hp hq => (h.suc p hp q hq).elim id fun h => by cases h
    induction hr using RcW.ind with
    | start hx => exact (h.start _ hx).elim id fun h => by cases h
    | @up v p _ hz hp ih => exact sub _ _ ih (List.mem_append_left _ (by
        rw [if_pos (by simp [hz])]
        exact List.mem_map.2 ⟨p, memU_mem.2 ⟨by have := (hP _ _ hp).1; omega, hp⟩, rfl⟩))
    | @down v w c _ hz hp ih => exact sub _ _ ih (List.mem_append_right _ (by
        rw [if_neg hz]
        exact List.mem_map.2 ⟨w, memU_mem.2 ⟨by have := (hP _ _ hp).2; omega, chL_mem.2 ⟨(hP _ _ hp).2, hp⟩⟩, rfl⟩))
    | @meet v p _ ha hp ih => exact sub _ _ ih (List.mem_append_left _ (by
        rw [if_pos (by simp [ha])]
        exact List.mem_map.2 ⟨p, memU_mem.2 ⟨by have := (hP _ _ hp).1; omega, hp⟩, rfl⟩))
  rintro ⟨v, c, hy, hr⟩
  exact h.noy _ (key v c hr) hy
theorem OpS.few {P : List (List Nat)} {n : Nat} {x y z an : List Nat} {S W : List (Nat × Bool)} (h : OpS P n x y z an S W) (h8 : n ≤ 8) : S.length ≤ 16 := by
  have hnd : (S.map fun p => p.1 * 2 + (if p.2 = true then 1 else 0)).Nodup := List.pairwise_map.2 (h.nd.imp fun {a b} hab e => hab (by
    obtain ⟨a1, a2⟩ := a
    obtain ⟨b1, b2⟩ := b
    cases a2 <;> cases b2 <;> simp at e ⊢ <;> omega))
  have := nd_len hnd (m := List.range 16) fun v hv => by
    obtain ⟨p, hp, rfl⟩ := List.mem_map.1 hv
    have := (h.low p (.inl hp)).1
    refine List.mem_range.2 ?_
    split <;> omega
  simpa using this
end Go.Proofs.Ytockhhleapbpiaa


/- Package graph: isOpen. -/
namespace Go.Proofs.Ytockhhleapbpiaa
open Go.RowKit Go.Shelf

theorem zeroU (w : World) : (zeroValue 94).run Try.prog w = .ok (.agg #[]) w := by
  obtain ⟨i0, hi0, hz0, hz1, hz2⟩ := info_parts (show (Try.prog.info? 94).map (fun i => (i.zero, i.size, i.bytes)) = some (some (.agg #[]), 0, 0) by kernel_rfl)
  simp [zeroValue, typeInfo, hi0, hz0]
/-- What isOpen's memory holds. -/
structure OpM (kl : Nat × Bool → Lit) (W3 : World) (b : Nat) (S W : List (Nat × Bool)) (D : DataW Unit) (wv : Value) (V : World) : Prop where
  map : BnM kl V b S D
  row : OwC V W3.heap.size wv W
  fr : W3.grownBy V (some b)
theorem OpM.size {kl : Nat × Bool → Lit} {W3 : World} {b : Nat} {S W : List (Nat × Bool)} {D : DataW Unit} {wv : Value} {V : World} (h : OpM kl W3 b S W D wv V) : W3.heap.size ≤ V.heap.size := h.fr.size
theorem OpM.alloc {kl : Nat × Bool → Lit} {W3 : World} {b : Nat} {S W : List (Nat × Bool)} {D : DataW Unit} {wv : Value} {V : World} (h : OpM kl W3 b S W D wv V) (o : Obj) : OpM kl W3 b S W D wv (V.alloc o) :=
  ⟨h.map.kept (World.grownBy_alloc V o none) (by simp), World.ownsRow.alloc h.row o, by
    have hA := (Below.refl V.heap.size V).alloc (Nat.le_refl _) o
    exact ⟨hA.os.trans h.fr.os, hA.tape.trans h.fr.tape, hA.output.trans h.fr.output, Nat.le_trans h.fr.size hA.size, fun k hk hne => (hA.block k (Nat.lt_of_lt_of_le hk h.fr.size)).trans (h.fr.block k hk hne)⟩⟩
theorem OpM.put {kl : Nat × Bool → Lit} (hk : ∀ p : Nat × Bool, p.1 < 8 → keyOf Try.prog 93 (keyV p) = some (kl p)) {W3 : World} {b : Nat} {S W : List (Nat × Bool)} {D : DataW Unit} {wv : Value} {V V' : World} (h : OpM kl W3 b S W D wv V) (hb : b < W3.heap.size) {p : Nat × Bool} (hp : p.1 < 8) {d : DataW Unit} (ho : V'.ownsMap Try.prog 93 (unitElem (H := Unit)) b (S.length + 1) (D.put (kl p) d)) (hg : V.grownBy V' (some b)) : OpM kl W3 b (p :: S) W (D.put (kl p) d) wv V' := by
  refine ⟨h.map.put hk hp ho, World.ownsRow.kept h.row hg ?_, ⟨hg.os.trans h.fr.os, hg.tape.trans h.fr.tape, hg.output.trans h.fr.output, Nat.le_trans h.fr.size hg.size, fun k hk' hne => (hg.block k (Nat.lt_of_lt_of_le hk' h.fr.size) hne).trans (h.fr.block k hk' hne)⟩⟩
  cases e : wv.ownBlock with
  | none => exact .inl rfl
  | some g =>
    refine .inr fun e' => ?_
    cases e'
    have := own_from h.row b e
    omega
theorem OpM.more {kl : Nat × Bool → Lit} {W3 : World} {b : Nat} {S W W' : List (Nat × Bool)} {D : DataW Unit} {wv v : Value} {V V' : World} (h : OpM kl W3 b S W D wv V) (hb : b < W3.heap.size) (hr : OwC V' W3.heap.size v W') (hg : GrS V V' wv v) : OpM kl W3 b S W' D v V' := by
  have hne : ∀ k, k < W3.heap.size → some k ≠ wv.ownBlock := fun k hk e => by
    have := own_from h.row k e.symm
    omega
  exact ⟨h.map.kept hg.1 (hne b hb), hr, ⟨hg.1.os.trans h.fr.os, hg.1.tape.trans h.fr.tape, hg.1.output.trans h.fr.output, Nat.le_trans h.fr.size hg.1.size, fun k hk hn => (hg.1.block k (Nat.lt_of_lt_of_le hk h.fr.size) (hne k hk)).trans (h.fr.block k hk hn)⟩⟩
/-- The last one is left out. -/
theorem OwC.init {w : World} {B : Nat} {d : Option Addr} {n c : Nat} {T : List (Nat × Bool)} {p : Nat × Bool} (h : OwC w B (.slice d n c) (T ++ [p])) : ∃ g, d = some ⟨g, 0, none⟩ ∧ n = T.length + 1 ∧ T.length ≤ c ∧ T.length + 1 ≤ c ∧ B ≤ g ∧ g < w.heap.size ∧ w.cell? ⟨g, T.length * 2, none⟩ = some (.int .i64 (p.1 : Nat)) ∧ w.cell? ⟨g, T.length * 2 + 1, none⟩ = some (.bool p.2) ∧ OwC w B (.slice (some ⟨g, 0, none⟩) T.length c) T := by
  have hl : (T ++ [p]).length = T.length + 1 := by simp
  have hcl := cmC_length T
  rcases h.2 with ⟨h1, h2⟩ | ⟨g, cap, cur, h1, h2, h3, h4, h5, h6, h7⟩
  · rw [hl] at h2
    omega
  · injection h1 with e1 e2 e3
    subst e1
    subst e3
    rw [hl] at h4 h7 e2
    rw [cmC_append] at h7
    have hcells : ∀ j u, (cmC T ++ cmC [p])[j]? = some u → w.cell? ⟨g, j, none⟩ = some u := fun j u hj => by
      rw [cell_of_row w g j _ _ (0, 0) h3]
      have : j < (T.length + 1) * 2 := by
        have := (List.getElem?_eq_some_iff.1 hj).1
        rw [List.length_append, hcl] at this
        simp [cmC] at this
        omega
      rw [← h7, List.getElem?_take, if_pos this, Array.getElem?_toList] at hj
      exact hj
    refine ⟨g, rfl, e2, by omega, h4, h2, (Array.getElem?_eq_some_iff.1 h3).1, hcells _ _ ?_, hcells _ _ ?_, cmC_length T, .inr ⟨g, c, cur, rfl, h2, h3, by omega, h5, h6, ?_⟩⟩
    · rw [List.getElem?_append_right (by omega), hcl, Nat.sub_self]; rfl
    · rw [List.getElem?_append_right (by omega), hcl, show T.length * 2 + 1 - T.length * 2 = 1 by omega]; rfl
    · have := congrArg (List.take (T.length * 2)) h7
      rw [List.take_take, show min (T.length * 2) ((T.length + 1) * 2) = T.length * 2 by omega] at this
      rw [this, ← hcl, List.take_left]
end Go.Proofs.Ytockhhleapbpiaa

