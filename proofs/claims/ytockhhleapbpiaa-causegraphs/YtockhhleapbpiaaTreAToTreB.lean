/- Plain: cliques that are linked: a link may be put in another's place (what makes the tree of cliques). -/
import Derived.Test.YtockhhleapbpiaaTabR1ToTabR3
namespace Go.Proofs.Ytockhhleapbpiaa

/-- Two that are linked. -/
def AdjE {α : Type} (E : List (α × α)) (x y : α) : Prop := (x, y) ∈ E ∨ (y, x) ∈ E
theorem AdjE.symm {α : Type} {E : List (α × α)} {x y : α} (h : AdjE E x y) : AdjE E y x := h.elim .inr .inl
/-- A way along links through such alone. -/
def WayE {α : Type} (E : List (α × α)) (P : α → Prop) (x y : α) : Prop := ∀ M : α → α → Prop, (∀ x, P x → M x x) → (∀ x y z, P x → AdjE E x y → M y z → M x z) → M x y
theorem WayE.here {α : Type} {E : List (α × α)} {P : α → Prop} {x : α} (h : P x) : WayE E P x x := fun _ h1 _ => h1 _ h
theorem WayE.step {α : Type} {E : List (α × α)} {P : α → Prop} {x y z : α} (h : P x) (ha : AdjE E x y) (hw : WayE E P y z) : WayE E P x z := fun M h1 h2 => h2 _ _ _ h ha (hw M h1 h2)
theorem WayE.ind {α : Type} {E : List (α × α)} {P : α → Prop} {M : ∀ x y, WayE E P x y → Prop} (here : ∀ {x : α} (h : P x), M x x (.here h)) (step : ∀ {x y z : α} (h : P x) (ha : AdjE E x y) (hw : WayE E P y z), M y z hw → M x z (.step h ha hw)) : ∀ {x y : α} (h : WayE E P x y), M x y h := fun {_ _} h => by
  obtain ⟨_, k⟩ := h (fun x y => ∃ h, M x y h) (fun _ h => ⟨_, here h⟩) (fun _ _ _ h ha ⟨_, ih⟩ => ⟨_, step h ha _ ih⟩)
  exact k
theorem WayE.fst {α : Type} {E : List (α × α)} {P : α → Prop} {x y : α} (h : WayE E P x y) : P x := by
  induction h using WayE.ind with
  | here h => exact h
  | step h _ _ _ => exact h
theorem WayE.lst {α : Type} {E : List (α × α)} {P : α → Prop} {x y : α} (h : WayE E P x y) : P y := by
  induction h using WayE.ind with
  | here h => exact h
  | step _ _ _ ih => exact ih
theorem WayE.trans {α : Type} {E : List (α × α)} {P : α → Prop} {x y z : α} (h : WayE E P x y) (h' : WayE E P y z) : WayE E P x z := by
  induction h using WayE.ind with
  | here _ => exact h'
  | step hp ha _ ih => exact .step hp ha (ih h')
theorem WayE.back {α : Type} {E : List (α × α)} {P : α → Prop} {x y : α} (h : WayE E P x y) : WayE E P y x := by
  induction h using WayE.ind with
  | here h => exact .here h
  | step hp ha hw ih => exact ih.trans (.step hw.fst ha.symm (.here hp))
theorem WayE.weak {α : Type} {E : List (α × α)} {P Q : α → Prop} {x y : α} (h : WayE E P x y) (hq : ∀ z, P z → Q z) : WayE E Q x y := by
  induction h using WayE.ind with
  | here h => exact .here (hq _ h)
  | step hp ha _ ih => exact .step (hq _ hp) ha ih
/-- Each is linked to the next. -/
def ChnE {α : Type} (E : List (α × α)) : List α → Prop
  | [] => True
  | x :: l => (∀ y, l.head? = some y → AdjE E x y) ∧ ChnE E l
theorem ChnE.right {α : Type} {E : List (α × α)} : ∀ {s t : List α}, ChnE E (s ++ t) → ChnE E t
  | [], _, h => h
  | _ :: _, _, h => ChnE.right h.2
theorem ChnE.left {α : Type} {E : List (α × α)} : ∀ {s t : List α}, ChnE E (s ++ t) → ChnE E s
  | [], _, _ => trivial
  | [x], t, _ => ⟨fun y h => by simp at h, trivial⟩
  | x :: y :: s, t, h => ⟨fun z hz => h.1 z hz, ChnE.left (s := y :: s) h.2⟩
/-- A way that comes to none twice. -/
theorem WayE.plain {α : Type} [DecidableEq α] {E : List (α × α)} {P : α → Prop} {x y : α} (h : WayE E P x y) : ∃ l, (x :: l).Nodup ∧ ChnE E (x :: l) ∧ (∀ z ∈ x :: l, P z) ∧ (x :: l).getLast? = some y := by
  induction h using WayE.ind with
  | @here x h => exact ⟨[], by simp, ⟨fun y h => by simp at h, trivial⟩, by simpa using h, rfl⟩
  | @step x y z hp ha _ ih =>
    obtain ⟨l, h1, h2, h3, h4⟩ := ih
    by_cases hx : x ∈ y :: l
    · obtain ⟨s, t, e⟩ := List.append_of_mem hx
      rw [e] at h1 h2 h3 h4
      refine ⟨t, (List.nodup_append.1 h1).2.1, h2.right, fun z hz => h3 z (List.mem_append.2 (.inr hz)), ?_⟩
      rw [List.getLast?_append] at h4
      cases hl : (x :: t).getLast? with
      | none => simp at hl
      | some w => rw [hl] at h4; simpa using h4
    · refine ⟨y :: l, List.nodup_cons.2 ⟨hx, h1⟩, ⟨fun w hw => ?_, h2⟩, fun z hz => ?_, ?_⟩
      · simp only [List.head?_cons, Option.some.injEq] at hw
        rw [← hw]; exact ha
      · rcases List.mem_cons.1 hz with rfl | hz
        · exact hp
        · exact h3 z hz
      · rw [List.getLast?_cons_cons]; exact h4
/-- Along a list. -/
theorem ChnE.way {α : Type} {E : List (α × α)} {P : α → Prop} : ∀ {l : List α} {x y : α}, ChnE E (x :: l) → (∀ z ∈ x :: l, P z) → (x :: l).getLast? = some y → WayE E P x y
  | [], x, y, _, h2, h3 => by
    simp only [List.getLast?_singleton, Option.some.injEq] at h3
    rw [← h3]; exact .here (h2 x List.mem_cons_self)
  | z :: l, x, y, h1, h2, h3 => by
    rw [List.getLast?_cons_cons] at h3
    exact .step (h2 x List.mem_cons_self) (h1.1 z rfl) (ChnE.way h1.2 (fun w hw => h2 w (List.mem_cons_of_mem _ hw)) h3)
/-- Where a list leaves a set. -/
theorem leave {α : Type} {W : α → Prop} : ∀ {l : List α} {x y : α}, W x → ¬ W y → (x :: l).getLast? = some y → ∃ p c d s, x :: l = p ++ c :: d :: s ∧ W c ∧ ¬ W d
  | [], x, y, hx, hy, h => by
    simp only [List.getLast?_singleton, Option.some.injEq] at h
    exact absurd (h ▸ hx) hy
  | z :: l, x, y, hx, hy, h => by
    rw [List.getLast?_cons_cons] at h
    by_cases hz : W z
    · obtain ⟨p, c, d, s, e, hc, hd⟩ := leave hz hy h
      exact ⟨x :: p, c, d, s, by rw [e]; rfl, hc, hd⟩
    · exact ⟨[], x, z, l, rfl, hx, hz⟩
/-- All that have some are linked through such alone. -/
def CnE {α : Type} (has : α → Nat → Prop) (K : α → Prop) (E : List (α × α)) : Prop := ∀ (X : Nat → Prop) x y, K x → K y → (∀ v, X v → has x v) → (∀ v, X v → has y v) → WayE E (fun c => ∀ v, X v → has c v) x y
/-- A link is taken out, another put in. -/
def swapE {α : Type} [DecidableEq α] (E : List (α × α)) (c d a b : α) : List (α × α) := (E.filter fun e => !(decide (e = (c, d)) || decide (e = (d, c)))) ++ [(a, b)]
theorem swapE_in {α : Type} [DecidableEq α] {E : List (α × α)} {c d a b x y : α} (h : AdjE E x y) (h1 : ¬ (x = c ∧ y = d)) (h2 : ¬ (x = d ∧ y = c)) : AdjE (swapE E c d a b) x y := by
  rcases h with h | h
  · refine .inl (List.mem_append.2 (.inl (List.mem_filter.2 ⟨h, ?_⟩)))
    simp only [Prod.mk.injEq, Bool.not_eq_true', Bool.or_eq_false_iff, decide_eq_false_iff_not]
    exact ⟨h1, h2⟩
  · refine .inr (List.mem_append.2 (.inl (List.mem_filter.2 ⟨h, ?_⟩)))
    simp only [Prod.mk.injEq, Bool.not_eq_true', Bool.or_eq_false_iff, decide_eq_false_iff_not]
    exact ⟨fun e => h2 ⟨e.2, e.1⟩, fun e => h1 ⟨e.2, e.1⟩⟩
theorem swapE_chn {α : Type} [DecidableEq α] {E : List (α × α)} {c d a b : α} : ∀ {l : List α}, ChnE E l → (¬ c ∈ l ∨ ¬ d ∈ l) → ChnE (swapE E c d a b) l
  | [], _, _ => trivial
  | x :: l, h, hn => by
    refine ⟨fun y hy => ?_, swapE_chn h.2 (hn.imp (fun h e => h (List.mem_cons_of_mem _ e)) (fun h e => h (List.mem_cons_of_mem _ e)))⟩
    have hyl : y ∈ l := List.mem_of_mem_head? hy
    refine swapE_in (h.1 y hy) (fun e => ?_) (fun e => ?_)
    · rcases hn with hn | hn
      · exact hn (e.1 ▸ List.mem_cons_self)
      · exact hn (e.2 ▸ List.mem_cons_of_mem _ hyl)
    · rcases hn with hn | hn
      · exact hn (e.2 ▸ List.mem_cons_of_mem _ hyl)
      · exact hn (e.1 ▸ List.mem_cons_self)
/-- Of those that go out of a set, one with the most in common may be taken. -/
theorem CnE.swap {α : Type} [DecidableEq α] {has : α → Nat → Prop} {K : α → Prop} {E : List (α × α)} (h : CnE has K E) (hE : ∀ x y, AdjE E x y → K x ∧ K y) {W : α → Prop} {a b : α} (ha : K a) (hb : K b) (hWa : W a) (hWb : ¬ W b)
    (hmax : ∀ c d, K c → K d → W c → ¬ W d → (∀ v, has a v → has b v → has c v ∧ has d v) → ∀ v, has c v → has d v → has a v ∧ has b v) :
    ∃ c d, W c ∧ ¬ W d ∧ AdjE E c d ∧ CnE has K (swapE E c d a b) := by
  obtain ⟨l, h1, h2, h3, h4⟩ := (h (fun v => has a v ∧ has b v) a b ha hb (fun v h => h.1) (fun v h => h.2)).plain
  obtain ⟨p, c, d, s, e, hc, hd⟩ := leave hWa hWb h4
  rw [e] at h1 h2 h3 h4
  have hcd : AdjE E c d := (ChnE.right h2).1 d rfl
  have hx0 : ∀ v, has c v → has d v → has a v ∧ has b v := hmax c d (hE c d hcd).1 (hE c d hcd).2 hc hd fun v h5 h6 => ⟨h3 c (by simp) v ⟨h5, h6⟩, h3 d (by simp) v ⟨h5, h6⟩⟩
  obtain ⟨n1, n2, n3⟩ := List.nodup_append.1 h1
  rw [List.nodup_cons] at n2
  -- From a to c, and from d to b.
  have hpre : ChnE (swapE E c d a b) (p ++ [c]) := swapE_chn (ChnE.left (t := d :: s) (by simpa using h2)) (.inr fun hm => by
    rcases List.mem_append.1 hm with hm | hm
    · exact n3 d hm d (by simp) rfl
    · exact n2.1 (by rw [← List.mem_singleton.1 hm]; exact List.mem_cons_self))
  have hsuf : ChnE (swapE E c d a b) (d :: s) := swapE_chn (ChnE.right (s := p ++ [c]) (by simpa using h2)) (.inl n2.1)
  have hab : AdjE (swapE E c d a b) a b := .inl (List.mem_append.2 (.inr List.mem_cons_self))
  refine ⟨c, d, hc, hd, hcd, fun X x y hx hy hXx hXy => ?_⟩
  -- The link that is gone is gone round.
  have round : (∀ v, X v → has c v) → (∀ v, X v → has d v) → WayE (swapE E c d a b) (fun c => ∀ v, X v → has c v) c d := fun hXc hXd => by
    have hall : ∀ z, z ∈ p ++ c :: d :: s → ∀ v, X v → has z v := fun z hz v hv => h3 z hz v (hx0 v (hXc v hv) (hXd v hv))
    have w1 : WayE (swapE E c d a b) (fun c => ∀ v, X v → has c v) a c := by
      cases p with
      | nil =>
        have ea : a = c := by simpa using (List.cons.inj e).1
        rw [ea]; exact .here hXc
      | cons q p =>
        obtain rfl : q = a := (List.cons.inj e).1.symm
        exact ChnE.way (l := p ++ [c]) hpre (fun z hz => hall z (by
          have : z ∈ (q :: p) ++ [c] := hz
          rcases List.mem_append.1 this with hm | hm
          · exact List.mem_append.2 (.inl hm)
          · exact List.mem_append.2 (.inr (by rw [List.mem_singleton.1 hm]; exact List.mem_cons_self)))) (by rw [← List.cons_append, List.getLast?_concat])
    have w2 : WayE (swapE E c d a b) (fun c => ∀ v, X v → has c v) d b := ChnE.way hsuf (fun z hz => hall z (List.mem_append.2 (.inr (List.mem_cons_of_mem _ hz)))) (by
      rw [List.getLast?_append, List.getLast?_cons_cons] at h4
      cases hl : (d :: s).getLast? with
      | none => simp at hl
      | some w => rw [hl] at h4; simpa using h4)
    exact w1.back.trans (.step w1.fst hab w2.back)
  have hw := h X x y hx hy hXx hXy
  clear hXx hXy hx hy
  induction hw using WayE.ind with
  | here hp => exact .here hp
  | @step x y z hp ha' hw ih =>
    by_cases e1 : x = c ∧ y = d
    · obtain ⟨rfl, rfl⟩ := e1
      exact (round hp hw.fst).trans ih
    · by_cases e2 : x = d ∧ y = c
      · obtain ⟨rfl, rfl⟩ := e2
        exact (round hw.fst hp).back.trans ih
      · exact .step hp (swapE_in ha' e1 e2) ih
end Go.Proofs.Ytockhhleapbpiaa


/- Plain: cliques linked one by one, each time two that have the most in common: those that have some are linked through such alone. -/
namespace Go.Proofs.Ytockhhleapbpiaa

theorem CnE.mono {α : Type} {has : α → Nat → Prop} {K : α → Prop} {E F : List (α × α)} (h : CnE has K E) (hm : ∀ x y, AdjE E x y → AdjE F x y) : CnE has K F := fun X x y hx hy h1 h2 => by
  have hw := h X x y hx hy h1 h2
  clear hx hy h1 h2
  induction hw using WayE.ind with
  | here hp => exact .here hp
  | step hp ha _ ih => exact .step hp (hm _ _ ha) ih
/-- Links that come one by one. -/
def PrimL {α : Type} (has : α → Nat → Prop) (K W : α → Prop) (a b : α) : Prop := ∀ c d, K c → K d → W c → ¬ W d → (∀ v, has a v → has b v → has c v ∧ has d v) → ∀ v, has c v → has d v → has a v ∧ has b v
def Prim {α : Type} (has : α → Nat → Prop) (K : α → Prop) (C : List (α × α)) (W : α → Prop) : Prop := ∀ M : List (α × α) → (α → Prop) → Prop, (∀ x, K x → M [] (fun y => y = x)) → (∀ C W a b, M C W → K b → W a → ¬ W b → PrimL has K W a b → M (C ++ [(a, b)]) (fun y => W y ∨ y = b)) → M C W
theorem Prim.start {α : Type} {has : α → Nat → Prop} {K : α → Prop} {x : α} (h : K x) : Prim has K [] (fun y => y = x) := fun _ h1 _ => h1 _ h
theorem Prim.link {α : Type} {has : α → Nat → Prop} {K : α → Prop} {C : List (α × α)} {W : α → Prop} {a b : α} (h : Prim has K C W) (hb : K b) (ha : W a) (hn : ¬ W b) (hl : ∀ c d, K c → K d → W c → ¬ W d → (∀ v, has a v → has b v → has c v ∧ has d v) → ∀ v, has c v → has d v → has a v ∧ has b v) : Prim has K (C ++ [(a, b)]) (fun y => W y ∨ y = b) := fun M h1 h2 => h2 _ _ _ _ (h M h1 h2) hb ha hn hl
theorem Prim.ind {α : Type} {has : α → Nat → Prop} {K : α → Prop} {M : ∀ C W, Prim has K C W → Prop} (start : ∀ {x : α} (h : K x), M [] (fun y => y = x) (.start h)) (link : ∀ {C : List (α × α)} {W : α → Prop} {a b : α} (h : Prim has K C W) (hb : K b) (ha : W a) (hn : ¬ W b) (hl : ∀ c d, K c → K d → W c → ¬ W d → (∀ v, has a v → has b v → has c v ∧ has d v) → ∀ v, has c v → has d v → has a v ∧ has b v), M C W h → M (C ++ [(a, b)]) (fun y => W y ∨ y = b) (h.link hb ha hn hl)) : ∀ {C : List (α × α)} {W : α → Prop} (h : Prim has K C W), M C W h := fun {_ _} h => by
  obtain ⟨_, k⟩ := h (fun C W => ∃ h, M C W h) (fun _ h => ⟨_, start h⟩) (fun _ _ _ _ ⟨_, ih⟩ hb ha hn hl => ⟨_, link _ hb ha hn hl ih⟩)
  exact k
theorem Prim.inside {α : Type} {has : α → Nat → Prop} {K : α → Prop} {C : List (α × α)} {W : α → Prop} (h : Prim has K C W) : (∀ x, W x → K x) ∧ ∀ x y, AdjE C x y → W x ∧ W y := by
  induction h using Prim.ind with
  | start hx => exact ⟨fun y e => e ▸ hx, fun x y h => h.elim (fun h => absurd h List.not_mem_nil) (fun h => absurd h List.not_mem_nil)⟩
  | @link C W a b _ hb ha _ _ ih =>
    refine ⟨fun x hx => hx.elim (ih.1 x) fun e => e ▸ hb, fun x y h => ?_⟩
    rcases h with h | h
    · rcases List.mem_append.1 h with h | h
      · exact ⟨.inl (ih.2 x y (.inl h)).1, .inl (ih.2 x y (.inl h)).2⟩
      · obtain ⟨rfl, rfl⟩ := Prod.mk.inj (List.mem_singleton.1 h)
        exact ⟨.inl ha, .inr rfl⟩
    · rcases List.mem_append.1 h with h | h
      · exact ⟨.inl (ih.2 x y (.inr h)).1, .inl (ih.2 x y (.inr h)).2⟩
      · obtain ⟨rfl, rfl⟩ := Prod.mk.inj (List.mem_singleton.1 h)
        exact ⟨.inr rfl, .inl ha⟩
theorem filter_less {α : Type} {p : α → Bool} {x : α} : ∀ {l : List α}, x ∈ l → p x = false → (l.filter p).length + 1 ≤ l.length
  | y :: l, h, hp => by
    rcases List.mem_cons.1 h with rfl | h
    · rw [List.filter_cons_of_neg (by simp [hp]), List.length_cons]
      exact Nat.succ_le_succ (List.length_filter_le _ _)
    · have := filter_less h hp
      cases hy : p y
      · rw [List.filter_cons_of_neg (by simp [hy]), List.length_cons]; omega
      · rw [List.filter_cons_of_pos hy, List.length_cons, List.length_cons]; omega
theorem Prim.within {α : Type} [DecidableEq α] {has : α → Nat → Prop} {K : α → Prop} {E0 : List (α × α)} (h0 : CnE has K E0) (hE0 : ∀ x y, AdjE E0 x y → K x ∧ K y) {C : List (α × α)} {W : α → Prop} (h : Prim has K C W) : ∃ D, CnE has K (C ++ D) ∧ (∀ x y, AdjE D x y → K x ∧ K y) ∧ C.length + D.length ≤ E0.length := by
  induction h using Prim.ind with
  | start _ => exact ⟨E0, h0, hE0, by simp⟩
  | @link C W a b hp hb ha hnb hmax ih =>
    obtain ⟨D, h1, h2, h3⟩ := ih
    obtain ⟨i1, i2⟩ := hp.inside
    have hE : ∀ x y, AdjE (C ++ D) x y → K x ∧ K y := fun x y h => by
      rcases h with h | h
      · rcases List.mem_append.1 h with h | h
        · exact ⟨i1 _ (i2 x y (.inl h)).1, i1 _ (i2 x y (.inl h)).2⟩
        · exact h2 x y (.inl h)
      · rcases List.mem_append.1 h with h | h
        · exact ⟨i1 _ (i2 x y (.inr h)).1, i1 _ (i2 x y (.inr h)).2⟩
        · exact h2 x y (.inr h)
    obtain ⟨c, d, hc, hd, hcd, hs⟩ := h1.swap hE (i1 a ha) hb ha hnb hmax
    refine ⟨D.filter fun e => !(decide (e = (c, d)) || decide (e = (d, c))), hs.mono fun x y h => ?_, fun x y h => h2 x y (h.imp (fun h => (List.mem_filter.1 h).1) (fun h => (List.mem_filter.1 h).1)), ?_⟩
    · have key : ∀ e, e ∈ swapE (C ++ D) c d a b → e ∈ (C ++ [(a, b)]) ++ D.filter fun e => !(decide (e = (c, d)) || decide (e = (d, c))) := fun e he => by
        rcases List.mem_append.1 he with he | he
        · obtain ⟨he, hf⟩ := List.mem_filter.1 he
          rcases List.mem_append.1 he with he | he
          · exact List.mem_append.2 (.inl (List.mem_append.2 (.inl he)))
          · exact List.mem_append.2 (.inr (List.mem_filter.2 ⟨he, hf⟩))
        · exact List.mem_append.2 (.inl (List.mem_append.2 (.inr he)))
      exact h.imp (key _) (key _)
    · have hD : (c, d) ∈ D ∨ (d, c) ∈ D := by
        rcases hcd with h | h
        · exact .inl ((List.mem_append.1 h).resolve_left fun h => hd (i2 c d (.inl h)).2)
        · exact .inr ((List.mem_append.1 h).resolve_left fun h => hd (i2 c d (.inr h)).2)
      have hl : (D.filter fun e => !(decide (e = (c, d)) || decide (e = (d, c)))).length + 1 ≤ D.length := hD.elim (fun h => filter_less h (by simp)) (fun h => filter_less h (by simp))
      rw [List.length_append, List.length_singleton]
      omega
/-- As many links as need be: all is linked. -/
theorem Prim.all {α : Type} [DecidableEq α] {has : α → Nat → Prop} {K : α → Prop} {E0 : List (α × α)} (h0 : CnE has K E0) (hE0 : ∀ x y, AdjE E0 x y → K x ∧ K y) {C : List (α × α)} {W : α → Prop} (h : Prim has K C W) (hn : E0.length ≤ C.length) : CnE has K C := by
  obtain ⟨D, h1, _, h3⟩ := h.within h0 hE0
  have : D = [] := List.length_eq_zero_iff.1 (by omega)
  rw [this, List.append_nil] at h1
  exact h1
end Go.Proofs.Ytockhhleapbpiaa

