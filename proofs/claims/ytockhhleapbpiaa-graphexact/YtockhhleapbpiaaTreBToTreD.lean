/- Plain: cliques linked one by one, each time two that have the most in common: those that have some are linked through such alone. -/
import Derived.Test.YtockhhleapbpiaaComAToTreA
namespace Go.Proofs.Ytockhhleapbpiaa

theorem CnE.mono {α : Type} {has : α → Nat → Prop} {K : α → Prop} {E F : List (α × α)} (h : CnE has K E) (hm : ∀ x y, AdjE E x y → AdjE F x y) : CnE has K F := fun X x y hx hy h1 h2 => by
  have hw := h X x y hx hy h1 h2
  clear hx hy h1 h2
  induction hw using WayE.ind with
  | here hp => exact .here hp
  | step hp ha _ ih => exact .step hp (hm _ _ ha) ih
/-- Links that come one by one. -/
def PrimL {α : Type} (has : α → Nat → Prop) (K W : α → Prop) (a b : α) : Prop := ∀ c d, K c → K d → W c → ¬ W d → (∀ v, has a v → has b v → has c v ∧ has d v) → ∀ v, has c v → has d v → has a v ∧ has b v
def Prim {α : Type} (has : α → Nat → Prop) (K : α → Prop) (C : List (α × α)) (W : α → Prop) : Prop := ∀ M : List (α × α) → (α → Prop) → Prop, (∀ x, K x → M [] (fun y => y = x)) → (∀ C W a b, M C W → K b → W a → ¬ W b → PrimL has K W a b → M (C ++ [(a, b)]) (fun y => W y ∨ y = b)) → M C W
theorem Prim.start {α : Type} {has : α → Nat → Prop} {K : α → Prop} {x : α} (h : K x) : Prim has K [] (fun y => y = x) := fun _ h1 _ => h1 _ h
theorem Prim.link {α : Type} {has : α → Nat → Prop} {K : α → Prop} {C : List (α × α)} {W : α → Prop} {a b : α} (h : Prim has K C W) (hb : K b) (ha : W a) (hn : ¬ W b) (hl : ∀ c d, K c → K d → W c → ¬ W d → (∀ v, has a v → has b v → has c v ∧ has d v) → ∀ v, has c v → has d v → has a v ∧ has b v) : Prim has K (C ++ [(a, b)]) (fun y => W y ∨ y = b) := fun M h1 h2 => h2 _ _ _ _ (h M h1 h2) hb ha hn hl
theorem Prim.ind {α : Type} {has : α → Nat → Prop} {K : α → Prop} {M : ∀ C W, Prim has K C W → Prop} (start : ∀ {x : α} (h : K x), M [] (fun y => y = x) (.start h)) (link : ∀ {C : List (α × α)} {W : α → Prop} {a b : α} (h : Prim has K C W) (hb : K b) (ha : W a) (hn : ¬ W b) (hl : ∀ c d, K c → K d → W c → ¬ W d → (∀ v, has a v → has b v → has c v ∧ has d v) → ∀ v, has c v → has d v → has a v ∧ has b v), M C W h → M (C ++ [(a, b)]) (fun y => W y ∨ y = b) (h.link hb ha hn hl)) : ∀ {C : List (α × α)} {W : α → Prop} (h : Prim has K C W), M C W h := fun {_ _} h => by
  obtain ⟨_, k⟩ := h (fun C W => ∃ h, M C W h) (fun _ h => ⟨_, start h⟩) (fun _ _ _ _ ⟨_, ih⟩ hb ha hn hl => ⟨_, link _ hb ha hn hl ih⟩)
  exact k
theorem Prim.inside {α : Type} {has : α → Nat → Prop} {K : α → Prop} {C : List (α × α)} {W : α → Prop} (h : Prim has K C W) : (∀ x, W x → K x) ∧ ∀ x y, AdjE C x y → W x ∧ W y := by
  induction h using Prim.ind with
  | start hx => exact ⟨fun y e => e ▸ hx, fun x y h => h.elim (fun h => absurd h List.not_mem_nil) (fun h => absurd h List.not_mem_nil)⟩
  | @link C W a b _ hb ha _ _ ih =>
    refine ⟨fun x hx => hx.elim (ih.1 x) fun e => e ▸ hb, fun x y h => ?_⟩
    rcases h with h | h
    · rcases List.mem_append.1 h with h | h
      · exact ⟨.inl (ih.2 x y (.inl h)).1, .inl (ih.2 x y (.inl h)).2⟩
      · obtain ⟨rfl, rfl⟩ := Prod.mk.inj (List.mem_singleton.1 h)
        exact ⟨.inl ha, .inr rfl⟩
    · rcases List.mem_append.1 h with h | h
      · exact ⟨.inl (ih.2 x y (.inr h)).1, .inl (ih.2 x y (.inr h)).2⟩
      · obtain ⟨rfl, rfl⟩ := Prod.mk.inj (List.mem_singleton.1 h)
        exact ⟨.inr rfl, .inl ha⟩
theorem filter_less {α : Type} {p : α → Bool} {x : α} : ∀ {l : List α}, x ∈ l → p x = false → (l.filter p).length + 1 ≤ l.length
  | y :: l, h, hp => by
    rcases List.mem_cons.1 h with rfl | h
    · rw [List.filter_cons_of_neg (by simp [hp]), List.length_cons]
      exact Nat.succ_le_succ (List.length_filter_le _ _)
    · have := filter_less h hp
      cases hy : p y
      · rw [List.filter_cons_of_neg (by simp [hy]), List.length_cons]; omega
      · rw [List.filter_cons_of_pos hy, List.length_cons, List.length_cons]; omega
theorem Prim.within {α : Type} [DecidableEq α] {has : α → Nat → Prop} {K : α → Prop} {E0 : List (α × α)} (h0 : CnE has K E0) (hE0 : ∀ x y, AdjE E0 x y → K x ∧ K y) {C : List (α × α)} {W : α → Prop} (h : Prim has K C W) : ∃ D, CnE has K (C ++ D) ∧ (∀ x y, AdjE D x y → K x ∧ K y) ∧ C.length + D.length ≤ E0.length := by
  induction h using Prim.ind with
  | start _ => exact ⟨E0, h0, hE0, by simp⟩
  | @link C W a b hp hb ha hnb hmax ih =>
    obtain ⟨D, h1, h2, h3⟩ := ih
    obtain ⟨i1, i2⟩ := hp.inside
    have hE : ∀ x y, AdjE (C ++ D) x y → K x ∧ K y := fun x y h => by
      rcases h with h | h
      · rcases List.mem_append.1 h with h | h
        · exact ⟨i1 _ (i2 x y (.inl h)).1, i1 _ (i2 x y (.inl h)).2⟩
        · exact h2 x y (.inl h)
      · rcases List.mem_append.1 h with h | h
        · exact ⟨i1 _ (i2 x y (.inr h)).1, i1 _ (i2 x y (.inr h)).2⟩
        · exact h2 x y (.inr h)
    obtain ⟨c, d, hc, hd, hcd, hs⟩ := h1.swap hE (i1 a ha) hb ha hnb hmax
    refine ⟨D.filter fun e => !(decide (e = (c, d)) || decide (e = (d, c))), hs.mono fun x y h => ?_, fun x y h => h2 x y (h.imp (fun h => (List.mem_filter.1 h).1) (fun h => (List.mem_filter.1 h).1)), ?_⟩
    · have key : ∀ e, e ∈ swapE (C ++ D) c d a b → e ∈ (C ++ [(a, b)]) ++ D.filter fun e => !(decide (e = (c, d)) || decide (e = (d, c))) := fun e he => by
        rcases List.mem_append.1 he with he | he
        · obtain ⟨he, hf⟩ := List.mem_filter.1 he
          rcases List.mem_append.1 he with he | he
          · exact List.mem_append.2 (.inl (List.mem_append.2 (.inl he)))
          · exact List.mem_append.2 (.inr (List.mem_filter.2 ⟨he, hf⟩))
        · exact List.mem_append.2 (.inl (List.mem_append.2 (.inr he)))
      exact h.imp (key _) (key _)
    · have hD : (c, d) ∈ D ∨ (d, c) ∈ D := by
        rcases hcd with h | h
        · exact .inl ((List.mem_append.1 h).resolve_left fun h => hd (i2 c d (.inl h)).2)
        · exact .inr ((List.mem_append.1 h).resolve_left fun h => hd (i2 c d (.inr h)).2)
      have hl : (D.filter fun e => !(decide (e = (c, d)) || decide (e = (d, c)))).length + 1 ≤ D.length := hD.elim (fun h => filter_less h (by simp)) (fun h => filter_less h (by simp))
      rw [List.length_append, List.length_singleton]
      omega
/-- As many links as need be: all is linked. -/
theorem Prim.all {α : Type} [DecidableEq α] {has : α → Nat → Prop} {K : α → Prop} {E0 : List (α × α)} (h0 : CnE has K E0) (hE0 : ∀ x y, AdjE E0 x y → K x ∧ K y) {C : List (α × α)} {W : α → Prop} (h : Prim has K C W) (hn : E0.length ≤ C.length) : CnE has K C := by
  obtain ⟨D, h1, _, h3⟩ := h.within h0 hE0
  have : D = [] := List.length_eq_zero_iff.1 (by omega)
  rw [this, List.append_nil] at h1
  exact h1
end Go.Proofs.Ytockhhleapbpiaa


/- Plain: the outermost bags of an elimination can be linked so that those that have some are linked through such alone. -/
namespace Go.Proofs.Ytockhhleapbpiaa

/-- A bag is in another. -/
def SubB (has : Nat → Nat → Prop) (i j : Nat) : Prop := ∀ v, has i v → has j v
/-- The outermost of the bags from k on. -/
def OutB (has : Nat → Nat → Prop) (n k i : Nat) : Prop := (k ≤ i ∧ i < n) ∧ ∀ j, k ≤ j → j < n → SubB has i j → j = i
/-- Bags: each has one that no later one has, and what else it has is in a later one. -/
structure Elim (has : Nat → Nat → Prop) (n : Nat) (own : Nat → Nat) : Prop where
  mine : ∀ i, i < n → has i (own i)
  out : ∀ i j, i < j → j < n → ¬ has j (own i)
  in' : ∀ i, i + 1 < n → ∃ j, i < j ∧ j < n ∧ ∀ v, has i v → v = own i ∨ has j v
/-- Each is in an outermost one. -/
theorem Elim.above {has : Nat → Nat → Prop} {n : Nat} {own : Nat → Nat} (h : Elim has n own) (k : Nat) {j : Nat} (hk : k ≤ j) (hj : j < n) : ∃ i, OutB has n k i ∧ SubB has j i := by
  -- A bag that is in another is later than it: go down until there is none.
  have key : ∀ (m j : Nat), k ≤ j → j < n → j ≤ m → ∃ i, OutB has n k i ∧ SubB has j i := fun m => by
    induction m with
    | zero =>
      intro j h1 h2 h3
      obtain rfl : j = 0 := by omega
      refine ⟨0, ⟨⟨h1, h2⟩, fun i _ h5 hs => ?_⟩, fun _ h => h⟩
      rcases Nat.eq_zero_or_pos i with e | e
      · exact e
      · exact absurd (hs _ (h.mine 0 h2)) (h.out 0 i e h5)
    | succ m ih =>
      intro j h1 h2 h3
      by_cases hc : ∀ i, k ≤ i → i < n → SubB has j i → i = j
      · exact ⟨j, ⟨⟨h1, h2⟩, hc⟩, fun _ h => h⟩
      · obtain ⟨i, hi⟩ := Classical.not_forall.1 hc
        have a : k ≤ i := Classical.byContradiction fun e => hi fun h => absurd h e
        have b : i < n := Classical.byContradiction fun e => hi fun _ h => absurd h e
        have c : SubB has j i := Classical.byContradiction fun e => hi fun _ _ h => absurd h e
        have d : i ≠ j := fun e => hi fun _ _ _ => e
        have hij : i < j := by
          rcases Nat.lt_or_ge i j with h' | h'
          · exact h'
          · exact absurd (c _ (h.mine j h2)) (h.out j i (by omega) b)
        obtain ⟨t, h4, h5⟩ := ih i a b (by omega)
        exact ⟨t, h4, fun v hv => h5 v (c v hv)⟩
  exact key j j hk hj (Nat.le_refl _)
theorem WayE.map {E F : List (Nat × Nat)} {P Q : Nat → Prop} (f : Nat → Nat) (hf : ∀ x y, AdjE E x y → AdjE F (f x) (f y)) (hq : ∀ x, P x → Q (f x)) {x y : Nat} (h : WayE E P x y) : WayE F Q (f x) (f y) := by
  induction h using WayE.ind with
  | here hp => exact .here (hq _ hp)
  | step hp ha _ ih => exact .step (hq _ hp) (hf _ _ ha) ih
theorem Elim.tree {has : Nat → Nat → Prop} {n : Nat} {own : Nat → Nat} (h : Elim has n own) : ∀ (m k : Nat), k < n → n - k = m + 1 → ∃ (K : List Nat) (E : List (Nat × Nat)), K.Nodup ∧ (∀ i, i ∈ K ↔ OutB has n k i) ∧ CnE has (· ∈ K) E ∧ (∀ x y, AdjE E x y → x ∈ K ∧ y ∈ K) ∧ E.length + 1 = K.length
  | 0, k, hk, e => by
    refine ⟨[k], [], by simp, fun i => ?_, fun X x y hx hy h1 _ => ?_, fun x y h => h.elim (fun h => absurd h List.not_mem_nil) (fun h => absurd h List.not_mem_nil), rfl⟩
    · rw [List.mem_singleton]
      refine ⟨fun e' => ⟨⟨by omega, by omega⟩, fun j _ _ _ => by omega⟩, fun h => by have := h.1; omega⟩
    · have e1 : x = k := List.mem_singleton.1 hx
      have e2 : y = k := List.mem_singleton.1 hy
      rw [e2, ← e1]
      exact .here h1
  | m + 1, k, hk, e => by
    obtain ⟨K, E, hn, hK, hC, hE, hl⟩ := Elim.tree h m (k + 1) (by omega) (by omega)
    obtain ⟨j, hj1, hj2, hj3⟩ := h.in' k (by omega)
    obtain ⟨t, ht, hjt⟩ := h.above (k + 1) (show k + 1 ≤ j from hj1) hj2
    have hkt : ∀ v, has k v → v = own k ∨ has t v := fun v hv => (hj3 v hv).imp id (hjt v)
    have htK : t ∈ K := (hK t).2 ht
    have hlow : ∀ x ∈ K, k + 1 ≤ x ∧ x < n := fun x hx => ((hK x).1 hx).1
    have hkK : ¬ k ∈ K := fun hx => by have := (hlow k hx).1; omega
    have hown : ∀ x ∈ K, ¬ has x (own k) := fun x hx => h.out k x (by have := (hlow x hx).1; omega) (hlow x hx).2
    -- What k shares with a later one is in t.
    have hin : ∀ (X : Nat → Prop) x, x ∈ K → (∀ v, X v → has k v) → (∀ v, X v → has x v) → ∀ v, X v → has t v := fun X x hx h1 h2 v hv => (hkt v (h1 v hv)).resolve_left fun e => hown x hx (e ▸ h2 v hv)
    have hnot : ∀ i, k + 1 ≤ i → i < n → ¬ SubB has k i := fun i h1 h2 hs => h.out k i (by omega) h2 (hs _ (h.mine k hk))
    by_cases hs : SubB has t k
    · -- k takes the place of t.
      let f : Nat → Nat := fun x => if x = t then k else x
      have ft : f t = k := if_pos rfl
      have fo : ∀ x, x ≠ t → f x = x := fun x hx => if_neg hx
      refine ⟨K.map f, E.map fun e => (f e.1, f e.2), ?_, fun i => ?_, ?_, fun x y h' => ?_, by simpa using hl⟩
      · refine List.pairwise_map.2 (hn.imp_of_mem fun {a b} ha hb hab => ?_)
        by_cases ea : a = t
        · rw [ea, ft, fo b fun eb => hab (by rw [ea, eb])]
          exact fun e => hkK (e ▸ hb)
        · by_cases eb : b = t
          · rw [eb, ft, fo a ea]; exact fun e => hkK (e ▸ ha)
          · rw [fo a ea, fo b eb]; exact hab
      · rw [List.mem_map]
        constructor
        · rintro ⟨x, hx, rfl⟩
          by_cases ex : x = t
          · rw [ex, ft]
            refine ⟨⟨Nat.le_refl _, hk⟩, fun j h1 h2 h3 => ?_⟩
            rcases Nat.lt_or_ge k j with h4 | h4
            · exact absurd h3 (hnot j h4 h2)
            · omega
          · rw [fo x ex]
            obtain ⟨⟨h1, h2⟩, h3⟩ := (hK x).1 hx
            refine ⟨⟨by omega, h2⟩, fun j h4 h5 h6 => ?_⟩
            rcases Nat.lt_or_ge k j with h7 | h7
            · exact h3 j h7 h5 h6
            · obtain rfl : j = k := by omega
              have : SubB has x t := fun v hv => (hkt v (h6 v hv)).resolve_left fun e => hown x hx (e ▸ hv)
              exact absurd (h3 t ht.1.1 ht.1.2 this).symm ex
        · rintro ⟨⟨h1, h2⟩, h3⟩
          rcases Nat.lt_or_ge k i with h4 | h4
          · have hi : i ∈ K := (hK i).2 ⟨⟨h4, h2⟩, fun j h5 h6 h7 => h3 j (by omega) h6 h7⟩
            have ei : i ≠ t := fun e => by
              have := h3 k (Nat.le_refl _) hk (e ▸ hs)
              omega
            exact ⟨i, hi, fo i ei⟩
          · exact ⟨t, htK, by rw [ft]; omega⟩
      · have hfE : ∀ x y, AdjE E x y → AdjE (E.map fun e => (f e.1, f e.2)) (f x) (f y) := fun x y h' => h'.imp (fun h' => List.mem_map.2 ⟨_, h', rfl⟩) (fun h' => List.mem_map.2 ⟨_, h', rfl⟩)
        intro X x y hx hy h1 h2
        obtain ⟨a, ha, rfl⟩ := List.mem_map.1 hx
        obtain ⟨b, hb, rfl⟩ := List.mem_map.1 hy
        have up : ∀ c, (∀ v, X v → has c v) → ∀ v, X v → has (f c) v := fun c hc v hv => by
          by_cases ec : c = t
          · rw [ec, ft]; exact hs v (by rw [← ec]; exact hc v hv)
          · rw [fo c ec]; exact hc v hv
        by_cases ea : a = t
        · by_cases eb : b = t
          · rw [eb, ← ea]; exact .here h1
          · have h1' : ∀ v, X v → has k v := by rw [ea, ft] at h1; exact h1
            have h2' : ∀ v, X v → has b v := by rw [fo b eb] at h2; exact h2
            exact (hC X a b ha hb (by rw [ea]; exact hin X b hb h1' h2') h2').map f hfE up
        · have h1' : ∀ v, X v → has a v := by rw [fo a ea] at h1; exact h1
          by_cases eb : b = t
          · have h2' : ∀ v, X v → has k v := by rw [eb, ft] at h2; exact h2
            exact (hC X a b ha hb h1' (by rw [eb]; exact hin X a ha h2' h1')).map f hfE up
          · have h2' : ∀ v, X v → has b v := by rw [fo b eb] at h2; exact h2
            exact (hC X a b ha hb h1' h2').map f hfE up
      · have key : ∀ x y, (x, y) ∈ E.map (fun e => (f e.1, f e.2)) → x ∈ K.map f ∧ y ∈ K.map f := fun x y h' => by
          obtain ⟨e, he, h6⟩ := List.mem_map.1 h'
          obtain ⟨rfl, rfl⟩ := Prod.mk.inj h6
          have := hE e.1 e.2 (.inl he)
          exact ⟨List.mem_map.2 ⟨_, this.1, rfl⟩, List.mem_map.2 ⟨_, this.2, rfl⟩⟩
        exact h'.elim (key x y) fun h' => (key y x h').symm
    · -- k is linked to t.
      refine ⟨k :: K, (k, t) :: E, List.nodup_cons.2 ⟨hkK, hn⟩, fun i => ?_, ?_, fun x y h' => ?_, by rw [List.length_cons, List.length_cons, hl]⟩
      · rw [List.mem_cons]
        constructor
        · rintro (rfl | hi)
          · refine ⟨⟨Nat.le_refl _, hk⟩, fun j h1 h2 h3 => ?_⟩
            rcases Nat.lt_or_ge i j with h4 | h4
            · exact absurd h3 (hnot j h4 h2)
            · omega
          · obtain ⟨⟨h1, h2⟩, h3⟩ := (hK i).1 hi
            refine ⟨⟨by omega, h2⟩, fun j h4 h5 h6 => ?_⟩
            rcases Nat.lt_or_ge k j with h7 | h7
            · exact h3 j h7 h5 h6
            · obtain rfl : j = k := by omega
              have h8 : SubB has i t := fun v hv => (hkt v (h6 v hv)).resolve_left fun e => hown i hi (e ▸ hv)
              have h9 := h3 t ht.1.1 ht.1.2 h8
              exact absurd (by rw [h9]; exact h6) hs
        · rintro ⟨⟨h1, h2⟩, h3⟩
          rcases Nat.lt_or_ge k i with h4 | h4
          · exact .inr ((hK i).2 ⟨⟨h4, h2⟩, fun j h5 h6 h7 => h3 j (by omega) h6 h7⟩)
          · exact .inl (by omega)
      · have hmE : ∀ x y, AdjE E x y → AdjE ((k, t) :: E) x y := fun x y h' => h'.imp (List.mem_cons_of_mem _) (List.mem_cons_of_mem _)
        have one : ∀ (X : Nat → Prop) y, y ∈ K → (∀ v, X v → has k v) → (∀ v, X v → has y v) → WayE ((k, t) :: E) (fun c => ∀ v, X v → has c v) k y := fun X y hy h1 h2 =>
          .step h1 (.inl List.mem_cons_self) ((hC X t y htK hy (hin X y hy h1 h2) h2).map id hmE fun _ h => h)
        intro X x y hx hy h1 h2
        rcases List.mem_cons.1 hx with ex | hx'
        · rcases List.mem_cons.1 hy with ey | hy'
          · rw [ey, ← ex]; exact .here h1
          · rw [ex] at h1 ⊢; exact one X y hy' h1 h2
        · rcases List.mem_cons.1 hy with ey | hy'
          · rw [ey] at h2 ⊢; exact (one X x hx' h2 h1).back
          · exact (hC X x y hx' hy' h1 h2).map id hmE fun _ h => h
      · have key : ∀ x y, (x, y) ∈ (k, t) :: E → x ∈ k :: K ∧ y ∈ k :: K := fun x y h' => by
          rcases List.mem_cons.1 h' with h' | h'
          · obtain ⟨rfl, rfl⟩ := Prod.mk.inj h'
            exact ⟨List.mem_cons_self, List.mem_cons_of_mem _ htK⟩
          · have := hE x y (.inl h')
            exact ⟨List.mem_cons_of_mem _ this.1, List.mem_cons_of_mem _ this.2⟩
        exact h'.elim (key x y) fun h' => (key y x h').symm
end Go.Proofs.Ytockhhleapbpiaa


/- Plain: nodes taken out one by one, their neighbours linked: their bags are as TreC wants them. -/
namespace Go.Proofs.Ytockhhleapbpiaa

/-- What is near what, while nodes are taken out in this order. -/
structure Outs (n : Nat) (ord : Nat → Nat) (nr : Nat → Nat → Nat → Prop) : Prop where
  all : ∀ v, v < n → ∃ i, i < n ∧ ord i = v
  inj : ∀ i j, i < n → j < n → ord i = ord j → i = j
  lt : ∀ u w, nr 0 u w → u < n ∧ w < n
  self : ∀ u, ¬ nr 0 u u
  symm : ∀ u w, nr 0 u w → nr 0 w u
  step : ∀ i, i < n → ∀ u w, nr (i + 1) u w ↔ u ≠ ord i ∧ w ≠ ord i ∧ u ≠ w ∧ (nr i u w ∨ nr i u (ord i) ∧ nr i (ord i) w)
/-- A node and its neighbours at its time. -/
def bagB (ord : Nat → Nat) (nr : Nat → Nat → Nat → Prop) (i w : Nat) : Prop := w = ord i ∨ nr i (ord i) w
theorem Outs.facts {n : Nat} {ord : Nat → Nat} {nr : Nat → Nat → Nat → Prop} (h : Outs n ord nr) : ∀ i, i ≤ n → (∀ u w, nr i u w → nr i w u ∧ u ≠ w ∧ u < n ∧ w < n) ∧ ∀ k, k < i → ∀ u, ¬ nr i u (ord k)
  | 0, _ => ⟨fun u w hw => ⟨h.symm u w hw, fun e => h.self u (e ▸ hw), h.lt u w hw⟩, fun k hk => absurd hk (Nat.not_lt_zero _)⟩
  | i + 1, hi => by
    obtain ⟨h1, h2⟩ := Outs.facts h i (by omega)
    refine ⟨fun u w hw => ?_, fun k hk u hu => ?_⟩
    · obtain ⟨a, b, c, d⟩ := (h.step i (by omega) u w).1 hw
      refine ⟨(h.step i (by omega) w u).2 ⟨b, a, fun e => c e.symm, d.imp (fun d => (h1 u w d).1) fun d => ⟨(h1 _ _ d.2).1, (h1 _ _ d.1).1⟩⟩, c, ?_⟩
      rcases d with d | d
      · exact (h1 u w d).2.2
      · exact ⟨(h1 _ _ d.1).2.2.1, (h1 _ _ d.2).2.2.2⟩
    · obtain ⟨_, b, _, d⟩ := (h.step i (by omega) u (ord k)).1 hu
      rcases Nat.lt_or_ge k i with hki | hki
      · exact d.elim (h2 k hki u) fun d => h2 k hki _ d.2
      · exact b (by rw [show k = i from by omega])
/-- What is near stays near until one of the two is taken out. -/
theorem Outs.stay {n : Nat} {ord : Nat → Nat} {nr : Nat → Nat → Nat → Prop} (h : Outs n ord nr) {i u w : Nat} (hu : nr i u w) : ∀ d, i + d ≤ n → (∀ k, i ≤ k → k < i + d → u ≠ ord k ∧ w ≠ ord k) → nr (i + d) u w
  | 0, _, _ => hu
  | d + 1, hd, hk => by
    have ih := Outs.stay h hu d (by omega) fun k h1 h2 => hk k h1 (by omega)
    have hk' := hk (i + d) (by omega) (by omega)
    exact (h.step (i + d) (by omega) u w).2 ⟨hk'.1, hk'.2, ((h.facts (i + d) (by omega)).1 u w ih).2.1, .inl ih⟩
theorem Outs.elim {n : Nat} {ord : Nat → Nat} {nr : Nat → Nat → Nat → Prop} (h : Outs n ord nr) : Elim (bagB ord nr) n ord := by
  refine ⟨fun i _ => .inl rfl, fun i j hij hj hb => ?_, fun i hi => ?_⟩
  · rcases hb with e | hb
    · exact absurd (h.inj i j (by omega) hj e) (by omega)
    · exact (h.facts j (by omega)).2 i hij _ hb
  · by_cases hne : ∃ w, nr i (ord i) w
    · -- The first of the neighbours that is taken out.
      have hidx : ∀ w, nr i (ord i) w → ∃ j, i < j ∧ j < n ∧ ord j = w := fun w hw => by
        obtain ⟨f1, f2⟩ := h.facts i (by omega)
        obtain ⟨j, hj, e⟩ := h.all w (f1 _ _ hw).2.2.2
        refine ⟨j, ?_, hj, e⟩
        rcases Nat.lt_trichotomy i j with h' | h' | h'
        · exact h'
        · exact absurd (by rw [h', e]) (f1 _ _ hw).2.1
        · exact absurd (e ▸ hw) (f2 j h' _)
      have hfirst : ∀ m, (∃ j, j ≤ m ∧ i < j ∧ j < n ∧ nr i (ord i) (ord j)) → ∃ j, i < j ∧ j < n ∧ nr i (ord i) (ord j) ∧ ∀ k, i < k → k < j → ¬ nr i (ord i) (ord k) := fun m => by
        induction m with
        | zero => rintro ⟨j, h1, h2, _⟩; omega
        | succ m ih =>
          rintro ⟨j, h1, h2, h3, h4⟩
          by_cases hc : ∃ k, k ≤ m ∧ i < k ∧ k < n ∧ nr i (ord i) (ord k)
          · exact ih hc
          · refine ⟨j, h2, h3, h4, fun k h5 h6 h7 => hc ⟨k, by omega, h5, by omega, h7⟩⟩
      obtain ⟨w, hw⟩ := hne
      obtain ⟨j0, a1, a2, a3⟩ := hidx w hw
      obtain ⟨j, b1, b2, b3, b4⟩ := hfirst j0 ⟨j0, Nat.le_refl _, a1, a2, a3 ▸ hw⟩
      refine ⟨j, b1, b2, fun v hv => ?_⟩
      rcases hv with e | hv
      · exact .inl e
      · refine .inr ?_
        by_cases ev : v = ord j
        · exact .inl ev
        · obtain ⟨f1, f2⟩ := h.facts i (by omega)
          have h1 : nr (i + 1) (ord j) v := (h.step i (by omega) _ _).2 ⟨fun e => (f1 _ _ b3).2.1 e.symm, fun e => (f1 _ _ hv).2.1 e.symm, fun e => ev e.symm, .inr ⟨(f1 _ _ b3).1, hv⟩⟩
          have h2 := h.stay h1 (j - (i + 1)) (by omega) fun k h3 h4 => ⟨fun e => absurd (h.inj j k b2 (by omega) e) (by omega), fun e => b4 k (by omega) (by omega) (e ▸ hv)⟩
          rw [show i + 1 + (j - (i + 1)) = j from by omega] at h2
          exact .inr h2
    · exact ⟨i + 1, by omega, hi, fun v hv => hv.imp id fun hv => absurd ⟨v, hv⟩ hne⟩
/-- The outermost bags, linked one by one with the most in common: those that have some are linked through such alone. -/
theorem Outs.links {n : Nat} {ord : Nat → Nat} {nr : Nat → Nat → Nat → Prop} (h : Outs n ord nr) (hn : 0 < n) {C : List (Nat × Nat)} {W : Nat → Prop} {K : List Nat} (hK : ∀ i, i ∈ K ↔ OutB (bagB ord nr) n 0 i) (hd : K.Nodup) (hC : Prim (bagB ord nr) (· ∈ K) C W) (hl : K.length ≤ C.length + 1) : CnE (bagB ord nr) (· ∈ K) C := by
  obtain ⟨K', E, h1, h2, h3, h4, h5⟩ := h.elim.tree (n - 1) 0 hn (by omega)
  have hp : K'.Perm K := (List.perm_ext_iff_of_nodup h1 hd).2 fun i => (h2 i).trans (hK i).symm
  refine hC.all (E0 := E) (fun X x y hx hy => h3 X x y (hp.mem_iff.2 hx) (hp.mem_iff.2 hy)) (fun x y hxy => ⟨hp.mem_iff.1 (h4 x y hxy).1, hp.mem_iff.1 (h4 x y hxy).2⟩) ?_
  have := hp.length_eq
  omega
/-- Each node is in an outermost bag, and each edge. -/
theorem Outs.node {n : Nat} {ord : Nat → Nat} {nr : Nat → Nat → Nat → Prop} (h : Outs n ord nr) {v : Nat} (hv : v < n) : ∃ i, OutB (bagB ord nr) n 0 i ∧ bagB ord nr i v := by
  obtain ⟨j, hj, e⟩ := h.all v hv
  obtain ⟨i, h1, h2⟩ := h.elim.above 0 (Nat.zero_le j) hj
  exact ⟨i, h1, h2 v (.inl e.symm)⟩
theorem Outs.edge {n : Nat} {ord : Nat → Nat} {nr : Nat → Nat → Nat → Prop} (h : Outs n ord nr) {u w : Nat} (hu : nr 0 u w) : ∃ i, OutB (bagB ord nr) n 0 i ∧ bagB ord nr i u ∧ bagB ord nr i w := by
  have one : ∀ {u w i j : Nat}, nr 0 u w → i < n → j < n → ord i = u → ord j = w → i < j → ∃ t, OutB (bagB ord nr) n 0 t ∧ bagB ord nr t u ∧ bagB ord nr t w := fun {u w i j} hu hi hj ei ej hij => by
    have h1 := h.stay hu i (by omega) fun k _ h2 => ⟨fun e => absurd (h.inj i k hi (by omega) (ei.trans e)) (by omega), fun e => absurd (h.inj j k hj (by omega) (ej.trans e)) (by omega)⟩
    rw [Nat.zero_add] at h1
    obtain ⟨t, h2, h3⟩ := h.elim.above 0 (Nat.zero_le i) hi
    exact ⟨t, h2, h3 u (.inl ei.symm), h3 w (.inr (by rw [ei]; exact h1))⟩
  obtain ⟨hlu, hlw⟩ := h.lt u w hu
  obtain ⟨i, hi, ei⟩ := h.all u hlu
  obtain ⟨j, hj, ej⟩ := h.all w hlw
  rcases Nat.lt_trichotomy i j with hij | hij | hij
  · exact one hu hi hj ei ej hij
  · exact absurd (by rw [← ei, hij, ej] at hu; exact hu) (h.self w)
  · obtain ⟨t, h1, h2, h3⟩ := one (h.symm u w hu) hj hi ej ei hij
    exact ⟨t, h1, h3, h2⟩
end Go.Proofs.Ytockhhleapbpiaa

