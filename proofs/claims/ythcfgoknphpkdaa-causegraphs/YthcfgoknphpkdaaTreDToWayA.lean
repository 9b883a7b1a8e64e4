/- Plain: nodes taken out one by one, their neighbours linked: their bags are as TreC wants them. -/
import Derived.Test.YthcfgoknphpkdaaFillCToTreC
namespace Go.Proofs.Ythcfgoknphpkdaa

/-- What is near what, while nodes are taken out in this order. -/
structure Outs (n : Nat) (ord : Nat → Nat) (nr : Nat → Nat → Nat → Prop) : Prop where
  all : ∀ v, v < n → ∃ i, i < n ∧ ord i = v
  inj : ∀ i j, i < n → j < n → ord i = ord j → i = j
  lt : ∀ u w, nr 0 u w → u < n ∧ w < n
  self : ∀ u, ¬ nr 0 u u
  symm : ∀ u w, nr 0 u w → nr 0 w u
  step : ∀ i, i < n → ∀ u w, nr (i + 1) u w ↔ u ≠ ord i ∧ w ≠ ord i ∧ u ≠ w ∧ (nr i u w ∨ nr i u (ord i) ∧ nr i (ord i) w)
/-- A node and its neighbours at its time. -/
def bagB (ord : Nat → Nat) (nr : Nat → Nat → Nat → Prop) (i w : Nat) : Prop := w = ord i ∨ nr i (ord i) w
theorem Outs.facts {n : Nat} {ord : Nat → Nat} {nr : Nat → Nat → Nat → Prop} (h : Outs n ord nr) : ∀ i, i ≤ n → (∀ u w, nr i u w → nr i w u ∧ u ≠ w ∧ u < n ∧ w < n) ∧ ∀ k, k < i → ∀ u, ¬ nr i u (ord k)
  | 0, _ => ⟨fun u w hw => ⟨h.symm u w hw, fun e => h.self u (e ▸ hw), h.lt u w hw⟩, fun k hk => absurd hk (Nat.not_lt_zero _)⟩
  | i + 1, hi => by
    obtain ⟨h1, h2⟩ := Outs.facts h i (by omega)
    refine ⟨fun u w hw => ?_, fun k hk u hu => ?_⟩
    · obtain ⟨a, b, c, d⟩ := (h.step i (by omega) u w).1 hw
      refine ⟨(h.step i (by omega) w u).2 ⟨b, a, fun e => c e.symm, d.imp (fun d => (h1 u w d).1) fun d => ⟨(h1 _ _ d.2).1, (h1 _ _ d.1).1⟩⟩, c, ?_⟩
      rcases d with d | d
      · exact (h1 u w d).2.2
      · exact ⟨(h1 _ _ d.1).2.2.1, (h1 _ _ d.2).2.2.2⟩
    · obtain ⟨_, b, _, d⟩ := (h.step i (by omega) u (ord k)).1 hu
      rcases Nat.lt_or_ge k i with hki | hki
      · exact d.elim (h2 k hki u) fun d => h2 k hki _ d.2
      · exact b (by rw [show k = i from by omega])
/-- What is near stays near until one of the two is taken out. -/
theorem Outs.stay {n : Nat} {ord : Nat → Nat} {nr : Nat → Nat → Nat → Prop} (h : Outs n ord nr) {i u w : Nat} (hu : nr i u w) : ∀ d, i + d ≤ n → (∀ k, i ≤ k → k < i + d → u ≠ ord k ∧ w ≠ ord k) → nr (i + d) u w
  | 0, _, _ => hu
  | d + 1, hd, hk => by
    have ih := Outs.stay h hu d (by omega) fun k h1 h2 => hk k h1 (by omega)
    have hk' := hk (i + d) (by omega) (by omega)
    exact (h.step (i + d) (by omega) u w).2 ⟨hk'.1, hk'.2, ((h.facts (i + d) (by omega)).1 u w ih).2.1, .inl ih⟩
theorem Outs.elim {n : Nat} {ord : Nat → Nat} {nr : Nat → Nat → Nat → Prop} (h : Outs n ord nr) : Elim (bagB ord nr) n ord := by
  refine ⟨fun i _ => .inl rfl, fun i j hij hj hb => ?_, fun i hi => ?_⟩
  · rcases hb with e | hb
    · exact absurd (h.inj i j (by omega) hj e) (by omega)
    · exact (h.facts j (by omega)).2 i hij _ hb
  · by_cases hne : ∃ w, nr i (ord i) w
    · -- The first of the neighbours that is taken out.
      have hidx : ∀ w, nr i (ord i) w → ∃ j, i < j ∧ j < n ∧ ord j = w := fun w hw => by
        obtain ⟨f1, f2⟩ := h.facts i (by omega)
        obtain ⟨j, hj, e⟩ := h.all w (f1 _ _ hw).2.2.2
        refine ⟨j, ?_, hj, e⟩
        rcases Nat.lt_trichotomy i j with h' | h' | h'
        · exact h'
        · exact absurd (by rw [h', e]) (f1 _ _ hw).2.1
        · exact absurd (e ▸ hw) (f2 j h' _)
      have hfirst : ∀ m, (∃ j, j ≤ m ∧ i < j ∧ j < n ∧ nr i (ord i) (ord j)) → ∃ j, i < j ∧ j < n ∧ nr i (ord i) (ord j) ∧ ∀ k, i < k → k < j → ¬ nr i (ord i) (ord k) := fun m => by
        induction m with
        | zero => rintro ⟨j, h1, h2, _⟩; omega
        | succ m ih =>
          rintro ⟨j, h1, h2, h3, h4⟩
          by_cases hc : ∃ k, k ≤ m ∧ i < k ∧ k < n ∧ nr i (ord i) (ord k)
          · exact ih hc
          · refine ⟨j, h2, h3, h4, fun k h5 h6 h7 => hc ⟨k, by omega, h5, by omega, h7⟩⟩
      obtain ⟨w, hw⟩ := hne
      obtain ⟨j0, a1, a2, a3⟩ := hidx w hw
      obtain ⟨j, b1, b2, b3, b4⟩ := hfirst j0 ⟨j0, Nat.le_refl _, a1, a2, a3 ▸ hw⟩
      refine ⟨j, b1, b2, fun v hv => ?_⟩
      rcases hv with e | hv
      · exact .inl e
      · refine .inr ?_
        by_cases ev : v = ord j
        · exact .inl ev
        · obtain ⟨f1, f2⟩ := h.facts i (by omega)
          have h1 : nr (i + 1) (ord j) v := (h.step i (by omega) _ _).2 ⟨fun e => (f1 _ _ b3).2.1 e.symm, fun e => (f1 _ _ hv).2.1 e.symm, fun e => ev e.symm, .inr ⟨(f1 _ _ b3).1, hv⟩⟩
          have h2 := h.stay h1 (j - (i + 1)) (by omega) fun k h3 h4 => ⟨fun e => absurd (h.inj j k b2 (by omega) e) (by omega), fun e => b4 k (by omega) (by omega) (e ▸ hv)⟩
          rw [show i + 1 + (j - (i + 1)) = j from by omega] at h2
          exact .inr h2
    · exact ⟨i + 1, by omega, hi, fun v hv => hv.imp id fun hv => absurd ⟨v, hv⟩ hne⟩
/-- The outermost bags, linked one by one with the most in common: those that have some are linked through such alone. -/
theorem Outs.links {n : Nat} {ord : Nat → Nat} {nr : Nat → Nat → Nat → Prop} (h : Outs n ord nr) (hn : 0 < n) {C : List (Nat × Nat)} {W : Nat → Prop} {K : List Nat} (hK : ∀ i, i ∈ K ↔ OutB (bagB ord nr) n 0 i) (hd : K.Nodup) (hC : Prim (bagB ord nr) (· ∈ K) C W) (hl : K.length ≤ C.length + 1) : CnE (bagB ord nr) (· ∈ K) C := by
  obtain ⟨K', E, h1, h2, h3, h4, h5⟩ := h.elim.tree (n - 1) 0 hn (by omega)
  have hp : K'.Perm K := (List.perm_ext_iff_of_nodup h1 hd).2 fun i => (h2 i).trans (hK i).symm
  refine hC.all (E0 := E) (fun X x y hx hy => h3 X x y (hp.mem_iff.2 hx) (hp.mem_iff.2 hy)) (fun x y hxy => ⟨hp.mem_iff.1 (h4 x y hxy).1, hp.mem_iff.1 (h4 x y hxy).2⟩) ?_
  have := hp.length_eq
  omega
/-- Each node is in an outermost bag, and each edge. -/
theorem Outs.node {n : Nat} {ord : Nat → Nat} {nr : Nat → Nat → Nat → Prop} (h : Outs n ord nr) {v : Nat} (hv : v < n) : ∃ i, OutB (bagB ord nr) n 0 i ∧ bagB ord nr i v := by
  obtain ⟨j, hj, e⟩ := h.all v hv
  obtain ⟨i, h1, h2⟩ := h.elim.above 0 (Nat.zero_le j) hj
  exact ⟨i, h1, h2 v (.inl e.symm)⟩
theorem Outs.edge {n : Nat} {ord : Nat → Nat} {nr : Nat → Nat → Nat → Prop} (h : Outs n ord nr) {u w : Nat} (hu : nr 0 u w) : ∃ i, OutB (bagB ord nr) n 0 i ∧ bagB ord nr i u ∧ bagB ord nr i w := by
  have one : ∀ {u w i j : Nat}, nr 0 u w → i < n → j < n → ord i = u → ord j = w → i < j → ∃ t, OutB (bagB ord nr) n 0 t ∧ bagB ord nr t u ∧ bagB ord nr t w := fun {u w i j} hu hi hj ei ej hij => by
    have h1 := h.stay hu i (by omega) fun k _ h2 => ⟨fun e => absurd (h.inj i k hi (by omega) (ei.trans e)) (by omega), fun e => absurd (h.inj j k hj (by omega) (ej.trans e)) (by omega)⟩
    rw [Nat.zero_add] at h1
    obtain ⟨t, h2, h3⟩ := h.elim.above 0 (Nat.zero_le i) hi
    exact ⟨t, h2, h3 u (.inl ei.symm), h3 w (.inr (by rw [ei]; exact h1))⟩
  obtain ⟨hlu, hlw⟩ := h.lt u w hu
  obtain ⟨i, hi, ei⟩ := h.all u hlu
  obtain ⟨j, hj, ej⟩ := h.all w hlw
  rcases Nat.lt_trichotomy i j with hij | hij | hij
  · exact one hu hi hj ei ej hij
  · exact absurd (by rw [← ei, hij, ej] at hu; exact hu) (h.self w)
  · obtain ⟨t, h1, h2, h3⟩ := one (h.symm u w hu) hj hi ej ei hij
    exact ⟨t, h1, h3, h2⟩
end Go.Proofs.Ythcfgoknphpkdaa


/- Plain: of sets, one in the other and not more: they are the same (Prim's condition from counts). -/
namespace Go.Proofs.Ythcfgoknphpkdaa

theorem count_same {p q : Nat → Bool} : ∀ {l : List Nat}, (∀ v ∈ l, p v = true → q v = true) → l.countP q ≤ l.countP p → ∀ v ∈ l, q v = true → p v = true
  | x :: l, h, hc, v, hv, hq => by
    have hl : ∀ v ∈ l, p v = true → q v = true := fun v hv => h v (List.mem_cons_of_mem _ hv)
    have hm : l.countP p ≤ l.countP q := List.countP_mono_left hl
    rw [List.countP_cons, List.countP_cons] at hc
    have hx := h x List.mem_cons_self
    have hpq : p x = q x := by
      cases hp : p x <;> cases hq : q x <;> simp_all <;> omega
    have hc' : l.countP q ≤ l.countP p := by rw [hpq] at hc; omega
    rcases List.mem_cons.1 hv with rfl | hv
    · rw [hpq]; exact hq
    · exact count_same hl hc' v hv hq
/-- The most in common. -/
theorem most_common {has : Nat → Nat → Bool} {K W : Nat → Prop} {m a b : Nat} (hlt : ∀ c v, has c v = true → v < m) (hmax : ∀ c d, K c → K d → W c → ¬ W d → (List.range m).countP (fun v => has c v && has d v) ≤ (List.range m).countP (fun v => has a v && has b v)) :
    ∀ c d, K c → K d → W c → ¬ W d → (∀ v, has a v = true → has b v = true → has c v = true ∧ has d v = true) → ∀ v, has c v = true → has d v = true → has a v = true ∧ has b v = true := fun c d hc hd hW hn h v h1 h2 => by
  have := count_same (p := fun v => has a v && has b v) (q := fun v => has c v && has d v) (l := List.range m) (fun v _ hv => by
    rw [Bool.and_eq_true] at hv ⊢
    exact h v hv.1 hv.2) (hmax c d hc hd hW hn) v (List.mem_range.2 (hlt c v h1)) (by rw [Bool.and_eq_true]; exact ⟨h1, h2⟩)
  rwa [Bool.and_eq_true] at this
end Go.Proofs.Ythcfgoknphpkdaa


/- Plain: nodes taken out one by one, as fill does it: order, what is left, what is near what; these are Outs (TreD). -/
namespace Go.Proofs.Ythcfgoknphpkdaa
open Go.RowKit Go.Shelf

theorem nd_len : ∀ {l m : List Nat}, l.Nodup → (∀ x ∈ l, x ∈ m) → l.length ≤ m.length
  | [], _, _, _ => Nat.zero_le _
  | a :: l, m, hn, hs => by
    have ha : a ∈ m := hs a (List.mem_cons_self ..)
    have h1 := List.nodup_cons.1 hn
    have := nd_len (l := l) (m := m.erase a) h1.2 (fun x hx => (List.mem_erase_of_ne (fun e => h1.1 (by rw [← e]; exact hx))).2 (hs x (List.mem_cons_of_mem _ hx)))
    rw [List.length_erase_of_mem ha] at this
    have hp := List.length_pos_of_mem ha
    show l.length + 1 ≤ m.length
    omega
/-- The node that is taken out next. -/
def outV (P : List (List Nat)) (n i : Nat) : Nat := fewV (flS P n i).nei (flS P n i).lft
theorem flS_ord (P : List (List Nat)) (n : Nat) : ∀ k, (flS P n k).bag = (List.range k).map fun i => outV P n i :: (flS P n i).nei.getD (outV P n i) []
  | 0 => rfl
  | k + 1 => by rw [List.range_succ, List.map_append, ← flS_ord P n k]; rfl
theorem fwN_some {f : Nat → Nat} {s : List Nat} : ∀ {k x : Nat}, x < k → x ∈ s → ∃ b m, fwN f s k = some (b, m)
  | k + 1, x, hx, hs => by
    rw [fwN]
    by_cases hk : k ∈ s
    · rw [if_pos hk]
      cases fwN f s k with
      | none => exact ⟨_, _, rfl⟩
      | some p =>
        obtain ⟨b, m⟩ := p
        simp only
        split
        · exact ⟨_, _, rfl⟩
        · exact ⟨_, _, rfl⟩
    · rw [if_neg hk]
      exact fwN_some (by rcases Nat.lt_or_ge x k with h | h; exact h; exact absurd (by rw [show k = x by omega]; exact hs) hk) hs
theorem fewV_in {P : List (List Nat)} {s : List Nat} {x : Nat} (hx : x < 8) (hs : x ∈ s) : fewV P s ∈ s := by
  obtain ⟨b, m, e⟩ := fwN_some (f := lackN P) hx hs
  rw [fewV, e]
  exact fwN_in e
/-- What holds while nodes are taken out. -/
structure FI (P : List (List Nat)) (n k : Nat) : Prop where
  left : ∀ x, x ∈ (flS P n k).lft ↔ x < n ∧ ∀ i, i < k → outV P n i ≠ x
  inj : ∀ i j, i < k → j < k → outV P n i = outV P n j → i = j
  lt : ∀ i, i < k → outV P n i < n
  sym : ∀ u, u ∈ (flS P n k).lft → ∀ w, w ∈ (flS P n k).nei.getD u [] → w ∈ (flS P n k).lft ∧ u ∈ (flS P n k).nei.getD w [] ∧ u ≠ w
theorem FI.here {P : List (List Nat)} {n k : Nat} (h : FI P n k) (hk : k < n) (h8 : n ≤ 8) : outV P n k ∈ (flS P n k).lft := by
  have hne : ∃ x, x ∈ (flS P n k).lft := by
    refine Classical.byContradiction fun hno => ?_
    have hall : ∀ x ∈ List.range n, x ∈ (List.range k).map (outV P n) := fun x hx => by
      refine Classical.byContradiction fun hm => hno ⟨x, (h.left x).2 ⟨List.mem_range.1 hx, fun i hi e => hm (List.mem_map.2 ⟨i, List.mem_range.2 hi, e⟩)⟩⟩
    have := nd_len List.nodup_range hall
    rw [List.length_range, List.length_map, List.length_range] at this
    omega
  obtain ⟨x, hx⟩ := hne
  exact fewV_in (by have := ((h.left x).1 hx).1; omega) hx
theorem takeL_at {P : List (List Nat)} {v u : Nat} (hu : u < P.length) : (takeL P v).getD u [] = if u < 8 ∧ u ∈ P.getD v [] then newN P v u else P.getD u [] := by
  rw [List.getD_eq_getElem?_getD, List.getElem?_eq_getElem (by rw [takeL, tkS_length]; exact hu)]
  simp [takeL, tkS]
theorem FI.next {P : List (List Nat)} {n k : Nat} (hN : Nbr n P) (h : FI P n k) (hk : k < n) (h8 : n ≤ 8) {u w : Nat} (hu : u ∈ (flS P n k).lft) (_hne : u ≠ outV P n k) : w ∈ (flS P n (k + 1)).nei.getD u [] ↔ w ≠ outV P n k ∧ u ≠ w ∧ (w ∈ (flS P n k).nei.getD u [] ∨ outV P n k ∈ (flS P n k).nei.getD u [] ∧ w ∈ (flS P n k).nei.getD (outV P n k) []) := by
  have hl := (flS_ok hN k).1
  have hun : u < n := ((h.left u).1 hu).1
  have hv := h.here hk h8
  show w ∈ (takeL (flS P n k).nei (outV P n k)).getD u [] ↔ _
  rw [takeL_at (by rw [hl.len]; exact hun)]
  by_cases hc : u ∈ (flS P n k).nei.getD (outV P n k) []
  · rw [if_pos ⟨by omega, hc⟩, newN_mem]
    have hs := (h.sym _ hv u hc).2.1
    exact ⟨fun ⟨a, b, c⟩ => ⟨c, fun e => b e.symm, a.imp id fun a => ⟨hs, a⟩⟩, fun ⟨a, b, c⟩ => ⟨c.imp id fun c => c.2, fun e => b e.symm, a⟩⟩
  · rw [if_neg fun e => hc e.2]
    constructor
    · intro hw
      have hs := h.sym u hu w hw
      exact ⟨fun e => hc (by rw [← e]; exact hs.2.1), hs.2.2, .inl hw⟩
    · rintro ⟨_, _, c | c⟩
      · exact c
      · exact absurd (h.sym u hu _ c.1).2.1 hc
theorem FI.step {P : List (List Nat)} {n k : Nat} (hN : Nbr n P) (h : FI P n k) (hk : k < n) (h8 : n ≤ 8) : FI P n (k + 1) := by
  have hv := h.here hk h8
  have hlft : ∀ x, x ∈ (flS P n (k + 1)).lft ↔ x ∈ (flS P n k).lft ∧ x ≠ outV P n k := fun x => by
    show x ∈ (flS P n k).lft.filter (fun u => decide (u ≠ outV P n k)) ↔ _
    rw [List.mem_filter, decide_eq_true_iff]
  have hnew : ∀ i, i < k → outV P n i ≠ outV P n k := ((h.left _).1 hv).2
  refine ⟨fun x => ?_, fun i j hi hj e => ?_, fun i hi => ?_, fun u hu w hw => ?_⟩
  · rw [hlft, h.left]
    constructor
    · rintro ⟨⟨a, b⟩, c⟩
      refine ⟨a, fun i hi e => ?_⟩
      rcases Nat.lt_or_ge i k with h' | h'
      · exact b i h' e
      · exact c (by rw [← e, show i = k by omega])
    · rintro ⟨a, b⟩
      exact ⟨⟨a, fun i hi => b i (by omega)⟩, fun e => b k (by omega) e.symm⟩
  · rcases Nat.lt_or_ge i k with h1 | h1
    · rcases Nat.lt_or_ge j k with h2 | h2
      · exact h.inj i j h1 h2 e
      · exact absurd (by rw [e, show j = k by omega]) (hnew i h1)
    · rcases Nat.lt_or_ge j k with h2 | h2
      · exact absurd (by rw [← e, show i = k by omega]) (hnew j h2)
      · omega
  · rcases Nat.lt_or_ge i k with h1 | h1
    · exact h.lt i h1
    · rw [show i = k by omega]; exact ((h.left _).1 hv).1
  · rw [hlft] at hu
    obtain ⟨a, b, c⟩ := (h.next hN hk h8 hu.1 hu.2).1 hw
    have hwl : w ∈ (flS P n k).lft := by
      rcases c with c | c
      · exact (h.sym u hu.1 w c).1
      · exact (h.sym _ hv w c.2).1
    refine ⟨(hlft w).2 ⟨hwl, a⟩, (h.next hN hk h8 hwl a).2 ⟨hu.2, fun e => b e.symm, ?_⟩, b⟩
    rcases c with c | c
    · exact .inl (h.sym u hu.1 w c).2.1
    · exact .inr ⟨(h.sym _ hv w c.2).2.1, (h.sym u hu.1 _ c.1).2.1⟩
theorem FI.all {P : List (List Nat)} {n : Nat} (hN : Nbr n P) (hs : ∀ u, u < n → ∀ w, w ∈ P.getD u [] → u ∈ P.getD w []) (h8 : n ≤ 8) : ∀ k, k ≤ n → FI P n k
  | 0, _ => ⟨fun x => ⟨fun h => ⟨upL_mem.1 h, fun i hi => absurd hi (Nat.not_lt_zero _)⟩, fun h => upL_mem.2 h.1⟩, fun i _ hi => absurd hi (Nat.not_lt_zero _), fun i hi => absurd hi (Nat.not_lt_zero _), fun u hu w hw => by
    have hu' : u < n := upL_mem.1 hu
    exact ⟨upL_mem.2 (hN.at u w hw), hs u hu' w hw, fun e => hN.self u (by rw [← e] at hw; exact hw)⟩⟩
  | k + 1, hk => (FI.all hN hs h8 k (by omega)).step hN (by omega) h8
/-- What is near what of those that are left. -/
def nrO (P : List (List Nat)) (n i u w : Nat) : Prop := u ∈ (flS P n i).lft ∧ w ∈ (flS P n i).nei.getD u []
theorem fill_outs {P : List (List Nat)} {n : Nat} (hN : Nbr n P) (hs : ∀ u, u < n → ∀ w, w ∈ P.getD u [] → u ∈ P.getD w []) (h8 : n ≤ 8) : Outs n (outV P n) (nrO P n) := by
  have hF := FI.all hN hs h8
  refine ⟨fun v hv => ?_, fun i j hi hj e => (hF n (Nat.le_refl _)).inj i j hi hj e, fun u w hw => ⟨upL_mem.1 hw.1, hN.at u w hw.2⟩, fun u hu => hN.self u hu.2, fun u w hw => ⟨upL_mem.2 (hN.at u w hw.2), hs u (upL_mem.1 hw.1) w hw.2⟩, fun i hi u w => ?_⟩
  · refine Classical.byContradiction fun hno => ?_
    have hnd : (v :: (List.range n).map (outV P n)).Nodup := by
      refine List.nodup_cons.2 ⟨fun hm => ?_, ?_⟩
      · obtain ⟨i, hi, e⟩ := List.mem_map.1 hm
        exact hno ⟨i, List.mem_range.1 hi, e⟩
      · refine List.pairwise_map.2 (List.nodup_range.imp_of_mem fun {a b} ha hb hab e => hab ((hF n (Nat.le_refl _)).inj a b (List.mem_range.1 ha) (List.mem_range.1 hb) e))
    have := nd_len hnd (m := List.range n) fun x hx => by
      rcases List.mem_cons.1 hx with rfl | hx
      · exact List.mem_range.2 hv
      · obtain ⟨i, hi, e⟩ := List.mem_map.1 hx
        rw [← e]
        exact List.mem_range.2 ((hF n (Nat.le_refl _)).lt i (List.mem_range.1 hi))
    rw [List.length_cons, List.length_map, List.length_range] at this
    omega
  · have h := hF i (by omega)
    have hv := h.here hi h8
    have hl : u ∈ (flS P n (i + 1)).lft ↔ u ∈ (flS P n i).lft ∧ u ≠ outV P n i := by
      show u ∈ (flS P n i).lft.filter (fun u => decide (u ≠ outV P n i)) ↔ _
      rw [List.mem_filter, decide_eq_true_iff]
    constructor
    · rintro ⟨a, b⟩
      obtain ⟨a1, a2⟩ := hl.1 a
      obtain ⟨c1, c2, c3⟩ := (h.next hN hi h8 a1 a2).1 b
      exact ⟨a2, c1, c2, c3.imp (fun c => ⟨a1, c⟩) fun c => ⟨⟨a1, c.1⟩, ⟨hv, c.2⟩⟩⟩
    · rintro ⟨a, b, c, d⟩
      have a1 : u ∈ (flS P n i).lft := d.elim (fun d => d.1) fun d => d.1.1
      exact ⟨hl.2 ⟨a1, a⟩, (h.next hN hi h8 a1 a).2 ⟨b, c, d.imp (fun d => d.2) fun d => ⟨d.1.2, d.2.2⟩⟩⟩
end Go.Proofs.Ythcfgoknphpkdaa


/- Plain: open ways: where one that may come to a node twice goes to y, one goes there that comes to each node at most once (what the document's answer tries is what isOpen comes to). -/
namespace Go.Proofs.Ythcfgoknphpkdaa
open Go.RowKit Go.Shelf

/-- One stands somewhere above another. -/
inductive Abv (Pa : Nat → Nat → Prop) : Nat → Nat → Prop
  | one {u v : Nat} : Pa u v → Abv Pa u v
  | more {u v w : Nat} : Abv Pa u v → Pa v w → Abv Pa u w
/-- Two that stand beside each other. -/
def AdjW (Pa : Nat → Nat → Prop) (u v : Nat) : Prop := Pa u v ∨ Pa v u
/-- A way may go through u, from p to v. -/
def OkW (Pa : Nat → Nat → Prop) (Z An : Nat → Prop) (p u v : Nat) : Prop := (Pa p u → Pa v u → An u) ∧ (¬ (Pa p u ∧ Pa v u) → ¬ Z u)
/-- A way of k steps. -/
structure WyF (Pa : Nat → Nat → Prop) (Z An : Nat → Prop) (k : Nat) (f : Nat → Nat) : Prop where
  adj : ∀ t, t < k → AdjW Pa (f t) (f (t + 1))
  ok : ∀ t, t + 1 < k → OkW Pa Z An (f t) (f (t + 1)) (f (t + 2))
/-- Whoever goes down and comes back has met one that is seen through. -/
theorem WyF.down {Pa : Nat → Nat → Prop} {Z An : Nat → Prop} {k : Nat} {f : Nat → Nat} (h : WyF Pa Z An k f) (hac : ∀ v, ¬ Abv Pa v v) (hup : ∀ u v, Pa u v → An v → An u) {i j : Nat} (hij : i < j) (hj : j ≤ k) (he : f j = f i) (hd : Pa (f i) (f (i + 1))) : An (f i) := by
  have key : ∀ d t, t + d = j → i < t → Abv Pa (f i) (f t) → Pa (f (t - 1)) (f t) → An (f i) := fun d => by
    induction d with
    | zero =>
      intro t ht _ ha _
      rw [show t = j by omega, he] at ha
      exact absurd ha (hac _)
    | succ d ih =>
      intro t ht hit ha hp
      have hok := h.ok (t - 1) (by omega)
      rw [show t - 1 + 1 = t by omega, show t - 1 + 2 = t + 1 by omega] at hok
      rcases h.adj t (by omega) with hn | hn
      · exact ih (t + 1) (by omega) (by omega) (.more ha hn) (by rw [show t + 1 - 1 = t by omega]; exact hn)
      · have hat := hok.1 hp hn
        have : ∀ u v, Abv Pa u v → An v → An u := fun u v huv => by
          induction huv with
          | one h => exact hup _ _ h
          | more _ h ih => exact fun hv => ih (hup _ _ h hv)
        exact this _ _ ha hat
  exact key (j - (i + 1)) (i + 1) (by omega) (by omega) (.one hd) (by rw [show i + 1 - 1 = i by omega]; exact hd)
/-- What lies between two places at one node is left out. -/
def cutF (f : Nat → Nat) (i j t : Nat) : Nat := if t ≤ i then f t else f (t + (j - i))
theorem WyF.cut {Pa : Nat → Nat → Prop} {Z An : Nat → Prop} {k : Nat} {f : Nat → Nat} (h : WyF Pa Z An k f) (hac : ∀ v, ¬ Abv Pa v v) (hup : ∀ u v, Pa u v → An v → An u) {i j : Nat} (hij : i < j) (hj : j ≤ k) (he : f j = f i) : WyF Pa Z An (k - (j - i)) (cutF f i j) := by
  have hlow : ∀ t, t ≤ i → cutF f i j t = f t := fun t ht => if_pos ht
  have hhigh : ∀ t, i ≤ t → cutF f i j t = f (t + (j - i)) := fun t ht => by
    rcases Nat.lt_or_ge i t with h1 | h1
    · exact if_neg (by omega)
    · rw [hlow t h1, show t = i by omega, show i + (j - i) = j by omega, he]
  have hself : ∀ u v, Pa u v → ¬ Pa v u := fun u v h1 h2 => hac u (.more (.one h1) h2)
  refine ⟨fun t ht => ?_, fun t ht => ?_⟩
  · rcases Nat.lt_or_ge t i with h1 | h1
    · rw [hlow t (by omega), hlow (t + 1) (by omega)]; exact h.adj t (by omega)
    · rw [hhigh t h1, hhigh (t + 1) (by omega), show t + 1 + (j - i) = t + (j - i) + 1 by omega]; exact h.adj _ (by omega)
  · rcases Nat.lt_or_ge (t + 1) i with h1 | h1
    · rw [hlow t (by omega), hlow (t + 1) (by omega), hlow (t + 2) (by omega)]; exact h.ok t (by omega)
    · rcases Nat.lt_or_ge i (t + 1) with h2 | h2
      · rw [hhigh t (by omega), hhigh (t + 1) (by omega), hhigh (t + 2) (by omega), show t + 1 + (j - i) = t + (j - i) + 1 by omega, show t + 2 + (j - i) = t + (j - i) + 2 by omega]
        exact h.ok _ (by omega)
      · -- The place itself.
        obtain rfl : i = t + 1 := by omega
        rw [hlow t (by omega), hlow (t + 1) (Nat.le_refl _), hhigh (t + 2) (by omega)]
        rw [show t + 2 + (j - (t + 1)) = j + 1 by omega]
        have hf := h.ok t (by omega)
        have hl := h.ok (j - 1) (by omega)
        rw [show j - 1 + 1 = j by omega, show j - 1 + 2 = j + 1 by omega, he] at hl
        refine ⟨fun hp hq => ?_, fun hn hz => ?_⟩
        · rcases h.adj (t + 1) (by omega) with hd | hd
          · exact h.down hac hup hij hj he hd
          · exact hf.1 hp hd
        · by_cases hp : Pa (f t) (f (t + 1))
          · have hq : ¬ Pa (f (j + 1)) (f (t + 1)) := fun hq => hn ⟨hp, hq⟩
            exact hl.2 (fun h => hq h.2) hz
          · exact hf.2 (fun h => hp h.1) hz
/-- A way that comes to none twice, and to its end just at the end. -/
theorem WyF.plain {Pa : Nat → Nat → Prop} {Z An : Nat → Prop} {X Y : Nat → Prop} (hac : ∀ v, ¬ Abv Pa v v) (hup : ∀ u v, Pa u v → An v → An u) : ∀ m k f, k ≤ m → WyF Pa Z An k f → X (f 0) → Y (f k) → ∃ k' f', WyF Pa Z An k' f' ∧ X (f' 0) ∧ Y (f' k') ∧ (∀ i j, i ≤ k' → j ≤ k' → f' i = f' j → i = j) ∧ ∀ i, i < k' → ¬ Y (f' i) := fun m => by
  induction m with
  | zero =>
    intro k f hk h hx hy
    obtain rfl : k = 0 := by omega
    exact ⟨0, f, h, hx, hy, fun i j hi hj _ => by omega, fun i hi => absurd hi (Nat.not_lt_zero _)⟩
  | succ m ih =>
    intro k f hk h hx hy
    by_cases h1 : ∃ i, i < k ∧ Y (f i)
    · obtain ⟨i, hi, hyi⟩ := h1
      exact ih i f (by omega) ⟨fun t ht => h.adj t (by omega), fun t ht => h.ok t (by omega)⟩ hx hyi
    · by_cases h2 : ∃ i j, i < j ∧ j ≤ k ∧ f j = f i
      · obtain ⟨i, j, hij, hj, he⟩ := h2
        refine ih (k - (j - i)) (cutF f i j) (by omega) (h.cut hac hup hij hj he) ?_ ?_
        · rw [cutF, if_pos (Nat.zero_le _)]; exact hx
        · rw [cutF]
          by_cases hc : k - (j - i) ≤ i
          · rw [if_pos hc]
            have : j = k := by omega
            rw [show k - (j - i) = i by omega, ← he, this]; exact hy
          · rw [if_neg hc, show k - (j - i) + (j - i) = k by omega]; exact hy
      · refine ⟨k, f, h, hx, hy, fun i j hi hj e => ?_, fun i hi hyi => h1 ⟨i, hi, hyi⟩⟩
        rcases Nat.lt_trichotomy i j with h3 | h3 | h3
        · exact absurd ⟨i, j, h3, hj, e.symm⟩ h2
        · exact h3
        · exact absurd ⟨j, i, h3, hi, e⟩ h2
/-- What is come to, step by step: from a child (true), or from a parent. -/
inductive RcW (Pa : Nat → Nat → Prop) (X Z An : Nat → Prop) : Nat → Bool → Prop
  | start {x : Nat} : X x → RcW Pa X Z An x true
  | up {v p : Nat} : RcW Pa X Z An v true → ¬ Z v → Pa p v → RcW Pa X Z An p true
  | down {v w : Nat} {c : Bool} : RcW Pa X Z An v c → ¬ Z v → Pa v w → RcW Pa X Z An w false
  | meet {v p : Nat} : RcW Pa X Z An v false → An v → Pa p v → RcW Pa X Z An p true
/-- One step more. -/
theorem WyF.snoc {Pa : Nat → Nat → Prop} {Z An : Nat → Prop} {k : Nat} {f : Nat → Nat} (h : WyF Pa Z An k f) (v : Nat) (ha : AdjW Pa (f k) v) (ho : 0 < k → OkW Pa Z An (f (k - 1)) (f k) v) : WyF Pa Z An (k + 1) (fun t => if t ≤ k then f t else v) := by
  have hl : ∀ t, t ≤ k → (if t ≤ k then f t else v) = f t := fun t ht => if_pos ht
  refine ⟨fun t ht => ?_, fun t ht => ?_⟩
  · show AdjW Pa (if t ≤ k then f t else v) (if t + 1 ≤ k then f (t + 1) else v)
    rw [hl t (by omega)]
    rcases Nat.lt_or_ge t k with h1 | h1
    · rw [hl (t + 1) (by omega)]; exact h.adj t h1
    · rw [if_neg (by omega), show t = k by omega]; exact ha
  · show OkW Pa Z An (if t ≤ k then f t else v) (if t + 1 ≤ k then f (t + 1) else v) (if t + 2 ≤ k then f (t + 2) else v)
    rw [hl t (by omega), hl (t + 1) (by omega)]
    rcases Nat.lt_or_ge (t + 1) k with h1 | h1
    · rw [hl (t + 2) (by omega)]; exact h.ok t h1
    · rw [if_neg (by omega)]
      have := ho (by omega)
      rw [show k - 1 = t by omega, show k = t + 1 by omega] at this
      exact this
theorem RcW.way {Pa : Nat → Nat → Prop} {X Z An : Nat → Prop} (hac : ∀ v, ¬ Abv Pa v v) {v : Nat} {c : Bool} (h : RcW Pa X Z An v c) : ∃ k f, WyF Pa Z An k f ∧ X (f 0) ∧ f k = v ∧ (c = true → k = 0 ∨ Pa v (f (k - 1))) ∧ (c = false → 0 < k ∧ Pa (f (k - 1)) v) := by
  have hself : ∀ u v, Pa u v → ¬ Pa v u := fun u v h1 h2 => hac u (.more (.one h1) h2)
  induction h with
  | @start x hx => exact ⟨0, fun _ => x, ⟨fun t ht => absurd ht (Nat.not_lt_zero _), fun t ht => absurd ht (Nat.not_lt_zero _)⟩, hx, rfl, fun _ => .inl rfl, fun e => by cases e⟩
  | @up v p _ hz hp ih =>
    obtain ⟨k, f, h1, h2, h3, h4, _⟩ := ih
    refine ⟨k + 1, _, h1.snoc p (.inr (by rw [h3]; exact hp)) (fun hk => ?_), ?_, ?_, fun _ => .inr ?_, fun e => by cases e⟩
    · have hc := (h4 rfl).resolve_left (by omega)
      rw [h3]
      exact ⟨fun h5 _ => absurd h5 (hself _ _ hc), fun _ => hz⟩
    · show X (if 0 ≤ k then f 0 else p); rw [if_pos (Nat.zero_le _)]; exact h2
    · show (if k + 1 ≤ k then f (k + 1) else p) = p; rw [if_neg (by omega)]
    · show Pa p (if k + 1 - 1 ≤ k then f (k + 1 - 1) else p); rw [if_pos (by omega), show k + 1 - 1 = k by omega, h3]; exact hp
  | @down v w c _ hz hp ih =>
    obtain ⟨k, f, h1, h2, h3, h4, h5⟩ := ih
    refine ⟨k + 1, _, h1.snoc w (.inl (by rw [h3]; exact hp)) (fun hk => ?_), ?_, ?_, (fun e => by cases e), fun _ => ⟨by omega, ?_⟩⟩
    · rw [h3]
      exact ⟨fun _ h6 => absurd h6 (hself _ _ hp), fun _ => hz⟩
    · show X (if 0 ≤ k then f 0 else w); rw [if_pos (Nat.zero_le _)]; exact h2
    · show (if k + 1 ≤ k then f (k + 1) else w) = w; rw [if_neg (by omega)]
    · show Pa (if k + 1 - 1 ≤ k then f (k + 1 - 1) else w) w; rw [if_pos (by omega), show k + 1 - 1 = k by omega, h3]; exact hp
  | @meet v p _ hm hp ih =>
    obtain ⟨k, f, h1, h2, h3, _, h5⟩ := ih
    refine ⟨k + 1, _, h1.snoc p (.inr (by rw [h3]; exact hp)) (fun hk => ?_), ?_, ?_, fun _ => .inr ?_, fun e => by cases e⟩
    · rw [h3]
      exact ⟨fun _ _ => hm, fun hn => absurd ⟨(h5 rfl).2, hp⟩ hn⟩
    · show X (if 0 ≤ k then f 0 else p); rw [if_pos (Nat.zero_le _)]; exact h2
    · show (if k + 1 ≤ k then f (k + 1) else p) = p; rw [if_neg (by omega)]
    · show Pa p (if k + 1 - 1 ≤ k then f (k + 1 - 1) else p); rw [if_pos (by omega), show k + 1 - 1 = k by omega, h3]; exact hp
/-- Backwards: along an open way all is come to. -/
theorem WyF.reach {Pa : Nat → Nat → Prop} {X Z An : Nat → Prop} (hxz : ∀ v, X v → ¬ Z v) {k : Nat} {f : Nat → Nat} (h : WyF Pa Z An k f) (hac : ∀ v, ¬ Abv Pa v v) (hx : X (f 0)) : ∀ t, t ≤ k → ∃ c, RcW Pa X Z An (f t) c ∧ (c = true → t = 0 ∨ Pa (f t) (f (t - 1))) ∧ (c = false → 0 < t ∧ Pa (f (t - 1)) (f t))
  | 0, _ => ⟨true, .start hx, fun _ => .inl rfl, fun e => by cases e⟩
  | t + 1, ht => by
    have hself : ∀ u v, Pa u v → ¬ Pa v u := fun u v h1 h2 => hac u (.more (.one h1) h2)
    obtain ⟨c, h1, h2, h3⟩ := WyF.reach hxz h hac hx t (by omega)
    have hok : 0 < t → OkW Pa Z An (f (t - 1)) (f t) (f (t + 1)) := fun h0 => by
      have := h.ok (t - 1) (by omega)
      rwa [show t - 1 + 1 = t by omega, show t - 1 + 2 = t + 1 by omega] at this
    rcases h.adj t (by omega) with hd | hd
    · have hz : ¬ Z (f t) := by
        rcases Nat.eq_zero_or_pos t with h0 | h0
        · rw [h0]; exact hxz _ hx
        · exact (hok h0).2 fun hb => hself _ _ hd hb.2
      exact ⟨false, .down h1 hz hd, (fun e => by cases e), fun _ => ⟨by omega, by rw [show t + 1 - 1 = t by omega]; exact hd⟩⟩
    · cases c with
      | true =>
        have hz : ¬ Z (f t) := by
          rcases h2 rfl with h0 | hc
          · rw [h0]; exact hxz _ hx
          · rcases Nat.eq_zero_or_pos t with h0 | h0
            · rw [h0]; exact hxz _ hx
            · exact (hok h0).2 fun hb => hself _ _ hc hb.1
        exact ⟨true, .up h1 hz hd, fun _ => .inr (by rw [show t + 1 - 1 = t by omega]; exact hd), fun e => by cases e⟩
      | false =>
        obtain ⟨h0, hp⟩ := h3 rfl
        exact ⟨true, .meet h1 ((hok h0).1 hp hd) hd, fun _ => .inr (by rw [show t + 1 - 1 = t by omega]; exact hd), fun e => by cases e⟩
def paB (P : List (List Nat)) (u v : Nat) : Bool := decide (u ∈ P.getD v [])
/-- May a way (its last one first) go on to v? -/
def psB (P : List (List Nat)) (zb an : Nat → Bool) (u : Nat) (r : List Nat) (v : Nat) : Bool := match r with
  | [] => true
  | p :: _ => if (paB P p u && paB P v u) = true then an u else !zb u
/-- All ways that go on from this one, each node at most once. -/
def opF (P : List (List Nat)) (n : Nat) (yb zb an : Nat → Bool) : Nat → List Nat → Bool
  | 0, _ => false
  | _ + 1, [] => false
  | f + 1, u :: r => yb u || (List.range n).any fun v => !decide (v ∈ u :: r) && ((paB P v u || paB P u v) && (psB P zb an u r v && opF P n yb zb an f (v :: u :: r)))
theorem opF_reach {P : List (List Nat)} {n : Nat} {yb zb an : Nat → Bool} {X : Nat → Prop} (hxz : ∀ v, X v → zb v = false) (hac : ∀ v, ¬ Abv (fun u v => u ∈ P.getD v []) v v) : ∀ f u r, opF P n yb zb an f (u :: r) = true → (∃ c, RcW (fun u v => u ∈ P.getD v []) X (fun v => zb v = true) (fun v => an v = true) u c ∧ (c = true → (r = [] ∧ X u) ∨ ∃ p l, r = p :: l ∧ u ∈ P.getD p []) ∧ (c = false → ∃ p l, r = p :: l ∧ p ∈ P.getD u [])) → ∃ y c, yb y = true ∧ RcW (fun u v => u ∈ P.getD v []) X (fun v => zb v = true) (fun v => an v = true) y c
  | 0, u, r, h, _ => by cases h
  | f + 1, u, r, h, ⟨c, hr, h1, h2⟩ => by
    have hself : ∀ u v : Nat, u ∈ P.getD v [] → ¬ v ∈ P.getD u [] := fun u v a b => hac u (.more (.one a) b)
    rw [opF, Bool.or_eq_true] at h
    rcases h with h | h
    · exact ⟨u, c, h, hr⟩
    · obtain ⟨v, _, hv⟩ := List.any_eq_true.1 h
      rw [Bool.and_eq_true, Bool.and_eq_true, Bool.and_eq_true, Bool.or_eq_true] at hv
      obtain ⟨_, ha, hp, ho⟩ := hv
      refine opF_reach hxz hac f v (u :: r) ho ?_
      by_cases hd : u ∈ P.getD v []
      · have hz : ¬ zb u = true := fun hz => by
          cases c with
          | true =>
            rcases h1 rfl with ⟨rfl, hx⟩ | ⟨p, l, rfl, hc⟩
            · rw [hxz u hx] at hz; cases hz
            · rw [psB, if_neg (by rw [paB, decide_eq_false (hself _ _ hc), Bool.false_and]; decide), hz] at hp; cases hp
          | false =>
            obtain ⟨p, l, rfl, hc⟩ := h2 rfl
            rw [psB, if_neg (by rw [paB, paB, decide_eq_false (hself _ _ hd), Bool.and_false]; decide), hz] at hp; cases hp
        exact ⟨false, .down hr hz hd, (fun e => by cases e), fun _ => ⟨u, r, rfl, hd⟩⟩
      · have hup : v ∈ P.getD u [] := ha.elim (fun a => of_decide_eq_true a) fun a => absurd (of_decide_eq_true a) hd
        refine ⟨true, ?_, fun _ => .inr ⟨u, r, rfl, hup⟩, fun e => by cases e⟩
        cases c with
        | true =>
          refine .up hr (fun hz => ?_) hup
          rcases h1 rfl with ⟨rfl, hx⟩ | ⟨p, l, rfl, hc⟩
          · rw [hxz u hx] at hz; cases hz
          · rw [psB, if_neg (by rw [paB, decide_eq_false (hself _ _ hc), Bool.false_and]; decide), hz] at hp; cases hp
        | false =>
          obtain ⟨p, l, rfl, hc⟩ := h2 rfl
          rw [psB, if_pos (by rw [paB, paB, decide_eq_true hc, decide_eq_true hup]; rfl)] at hp
          exact .meet hr hp hup
/-- The nodes of a way as far as t, the last one first. -/
def wlF (f : Nat → Nat) : Nat → List Nat
  | 0 => [f 0]
  | t + 1 => f (t + 1) :: wlF f t
theorem wlF_mem {f : Nat → Nat} {v : Nat} : ∀ {t : Nat}, v ∈ wlF f t → ∃ i, i ≤ t ∧ v = f i
  | 0, h => ⟨0, Nat.le_refl _, List.mem_singleton.1 h⟩
  | t + 1, h => by
    rcases List.mem_cons.1 h with e | h
    · exact ⟨t + 1, Nat.le_refl _, e⟩
    · obtain ⟨i, hi, e⟩ := wlF_mem h
      exact ⟨i, by omega, e⟩
theorem wlF_head (f : Nat → Nat) (t : Nat) : ∃ l, wlF f t = f t :: l ∧ (t = 0 → l = []) ∧ (0 < t → ∃ l', l = f (t - 1) :: l') := by
  cases t with
  | zero => exact ⟨[], rfl, fun _ => rfl, fun h => absurd h (Nat.lt_irrefl _)⟩
  | succ t =>
    refine ⟨wlF f t, rfl, (fun e => by omega), fun _ => ?_⟩
    cases t with
    | zero => exact ⟨[], rfl⟩
    | succ t => exact ⟨wlF f t, rfl⟩
theorem opF_way {P : List (List Nat)} {n : Nat} {yb zb an : Nat → Bool} {k : Nat} {f : Nat → Nat} (h : WyF (fun u v => u ∈ P.getD v []) (fun v => zb v = true) (fun v => an v = true) k f) (hy : yb (f k) = true) (hi : ∀ i j, i ≤ k → j ≤ k → f i = f j → i = j) (hlt : ∀ i, i ≤ k → f i < n) (e : Nat) : ∀ d, d ≤ k → opF P n yb zb an (d + 1 + e) (wlF f (k - d)) = true
  | 0, _ => by
    obtain ⟨l, hl, _⟩ := wlF_head f k
    rw [Nat.sub_zero, hl, show 0 + 1 + e = e + 1 by omega, opF, hy, Bool.true_or]
  | d + 1, hd => by
    have ih := opF_way h hy hi hlt e d (by omega)
    obtain ⟨l, hl, l0, l1⟩ := wlF_head f (k - (d + 1))
    obtain ⟨t, ht⟩ : ∃ t, t = k - (d + 1) := ⟨_, rfl⟩
    rw [← ht] at hl l0 l1 ⊢
    have htk : k - d = t + 1 := by omega
    rw [htk] at ih
    rw [hl, show d + 1 + 1 + e = (d + 1 + e) + 1 by omega, opF, Bool.or_eq_true]
    refine .inr (List.any_eq_true.2 ⟨f (t + 1), List.mem_range.2 (hlt _ (by omega)), ?_⟩)
    have hwl : wlF f (t + 1) = f (t + 1) :: f t :: l := by rw [wlF, hl]
    rw [hwl] at ih
    have hnot : ¬ f (t + 1) ∈ f t :: l := fun hm => by
      rw [← hl] at hm
      obtain ⟨i, h1, h2⟩ := wlF_mem hm
      have := hi (t + 1) i (by omega) (by omega) h2
      omega
    have hadj := h.adj t (by omega)
    rw [decide_eq_false hnot, ih, Bool.not_false, Bool.true_and, Bool.and_true, Bool.and_eq_true, Bool.or_eq_true]
    refine ⟨hadj.elim (fun a => .inr (decide_eq_true a)) fun a => .inl (decide_eq_true a), ?_⟩
    rcases Nat.eq_zero_or_pos t with h0 | h0
    · rw [l0 h0]; rfl
    · obtain ⟨l', rfl⟩ := l1 h0
      have hok := h.ok (t - 1) (by omega)
      rw [show t - 1 + 1 = t by omega, show t - 1 + 2 = t + 1 by omega] at hok
      rw [psB]
      by_cases hc : (paB P (f (t - 1)) (f t) && paB P (f (t + 1)) (f t)) = true
      · rw [if_pos hc]
        rw [Bool.and_eq_true] at hc
        exact hok.1 (of_decide_eq_true hc.1) (of_decide_eq_true hc.2)
      · rw [if_neg hc]
        have := hok.2 fun hb => hc (by rw [paB, paB, decide_eq_true hb.1, decide_eq_true hb.2]; rfl)
        cases hz : zb (f t)
        · rfl
        · exact absurd hz this
theorem inj_le {f : Nat → Nat} {k n : Nat} (hi : ∀ i j, i ≤ k → j ≤ k → f i = f j → i = j) (hlt : ∀ i, i ≤ k → f i < n) : k + 1 ≤ n := by
  have hnd : ((List.range (k + 1)).map f).Nodup := List.pairwise_map.2 (List.nodup_range.imp_of_mem fun {a b} ha hb hab e => hab (hi a b (by have := List.mem_range.1 ha; omega) (by have := List.mem_range.1 hb; omega) e))
  have := nd_len hnd (m := List.range n) fun x hx => by
    obtain ⟨i, h1, rfl⟩ := List.mem_map.1 hx
    exact List.mem_range.2 (hlt i (by have := List.mem_range.1 h1; omega))
  simpa using this
/-- Of all ways, one goes to y: as what is come to tells. -/
theorem opF_iff {P : List (List Nat)} {n : Nat} {yb zb an : Nat → Bool} {X : Nat → Prop} (hxz : ∀ v, X v → zb v = false) (hac : ∀ v, ¬ Abv (fun u v => u ∈ P.getD v []) v v) (hup : ∀ u v, u ∈ P.getD v [] → an v = true → an u = true) (hP : ∀ v, ∀ u ∈ P.getD v [], u < n ∧ v < n) (hX : ∀ v, X v → v < n) : (∃ x, X x ∧ opF P n yb zb an n [x] = true) ↔ ∃ y c, yb y = true ∧ RcW (fun u v => u ∈ P.getD v []) X (fun v => zb v = true) (fun v => an v = true) y c := by
  constructor
  · rintro ⟨x, hx, ho⟩
    exact opF_reach hxz hac n x [] ho ⟨true, .start hx, fun _ => .inl ⟨rfl, hx⟩, fun e => by cases e⟩
  · rintro ⟨y, c, hy, hr⟩
    obtain ⟨k, f, h1, h2, h3, _⟩ := hr.way hac
    obtain ⟨k', f', g1, g2, g3, g4, _⟩ := WyF.plain (X := X) (Y := fun v => yb v = true) hac hup k k f (Nat.le_refl _) h1 h2 (by rw [h3]; exact hy)
    have hlt : ∀ i, i ≤ k' → f' i < n := fun i hi => by
      rcases Nat.eq_zero_or_pos i with h0 | h0
      · rw [h0]; exact hX _ g2
      · have := g1.adj (i - 1) (by omega)
        rw [show i - 1 + 1 = i by omega] at this
        exact this.elim (fun a => (hP _ _ a).2) fun a => (hP _ _ a).1
    have hkn := inj_le g4 hlt
    have := opF_way g1 g3 g4 hlt (n - (k' + 1)) k' (Nat.le_refl _)
    rw [Nat.sub_self, show k' + 1 + (n - (k' + 1)) = n by omega] at this
    exact ⟨f' 0, g2, this⟩
end Go.Proofs.Ythcfgoknphpkdaa

