/- Plain: of sets, one in the other and not more: they are the same (Prim's condition from counts). -/
import Derived.Test.YtockhhleapbpiaaTreBToTreD
import Derived.Test.YtockhhleapbpiaaFillCOwn
namespace Go.Proofs.Ytockhhleapbpiaa

theorem count_same {p q : Nat → Bool} : ∀ {l : List Nat}, (∀ v ∈ l, p v = true → q v = true) → l.countP q ≤ l.countP p → ∀ v ∈ l, q v = true → p v = true
  | x :: l, h, hc, v, hv, hq => by
    have hl : ∀ v ∈ l, p v = true → q v = true := fun v hv => h v (List.mem_cons_of_mem _ hv)
    have hm : l.countP p ≤ l.countP q := List.countP_mono_left hl
    rw [List.countP_cons, List.countP_cons] at hc
    have hx := h x List.mem_cons_self
    have hpq : p x = q x := by
      cases hp : p x <;> cases hq : q x <;> simp_all <;> omega
    have hc' : l.countP q ≤ l.countP p := by rw [hpq] at hc; omega
    rcases List.mem_cons.1 hv with rfl | hv
    · rw [hpq]; exact hq
    · exact count_same hl hc' v hv hq
/-- The most in common. -/
theorem most_common {has : Nat → Nat → Bool} {K W : Nat → Prop} {m a b : Nat} (hlt : ∀ c v, has c v = true → v < m) (hmax : ∀ c d, K c → K d → W c → ¬ W d → (List.range m).countP (fun v => has c v && has d v) ≤ (List.range m).countP (fun v => has a v && has b v)) :
    ∀ c d, K c → K d → W c → ¬ W d → (∀ v, has a v = true → has b v = true → has c v = true ∧ has d v = true) → ∀ v, has c v = true → has d v = true → has a v = true ∧ has b v = true := fun c d hc hd hW hn h v h1 h2 => by
  have := count_same (p := fun v => has a v && has b v) (q := fun v => has c v && has d v) (l := List.range m) (fun v _ hv => by
    rw [Bool.and_eq_true] at hv ⊢
    exact h v hv.1 hv.2) (hmax c d hc hd hW hn) v (List.mem_range.2 (hlt c v h1)) (by rw [Bool.and_eq_true]; exact ⟨h1, h2⟩)
  rwa [Bool.and_eq_true] at this
end Go.Proofs.Ytockhhleapbpiaa


/- Plain: nodes taken out one by one, as fill does it: order, what is left, what is near what; these are Outs (TreD). -/
namespace Go.Proofs.Ytockhhleapbpiaa
open Go.RowKit Go.Shelf

theorem nd_len : ∀ {l m : List Nat}, l.Nodup → (∀ x ∈ l, x ∈ m) → l.length ≤ m.length
  | [], _, _, _ => Nat.zero_le _
  | a :: l, m, hn, hs => by
    have ha : a ∈ m := hs a (List.mem_cons_self ..)
    have h1 := List.nodup_cons.1 hn
    have := nd_len (l := l) (m := m.erase a) h1.2 (fun x hx => (List.mem_erase_of_ne (fun e => h1.1 (by rw [← e]; exact hx))).2 (hs x (List.mem_cons_of_mem _ hx)))
    rw [List.length_erase_of_mem ha] at this
    have hp := List.length_pos_of_mem ha
    show l.length + 1 ≤ m.length
    omega
/-- The node that is taken out next. -/
def outV (P : List (List Nat)) (n i : Nat) : Nat := fewV (flS P n i).nei (flS P n i).lft
theorem flS_ord (P : List (List Nat)) (n : Nat) : ∀ k, (flS P n k).bag = (List.range k).map fun i => outV P n i :: (flS P n i).nei.getD (outV P n i) []
  | 0 => rfl
  | k + 1 => by rw [List.range_succ, List.map_append, ← flS_ord P n k]; rfl
theorem fwN_some {f : Nat → Nat} {s : List Nat} : ∀ {k x : Nat}, x < k → x ∈ s → ∃ b m, fwN f s k = some (b, m)
  | k + 1, x, hx, hs => by
    rw [fwN]
    by_cases hk : k ∈ s
    · rw [if_pos hk]
      cases fwN f s k with
      | none => exact ⟨_, _, rfl⟩
      | some p =>
        obtain ⟨b, m⟩ := p
        simp only
        split
        · exact ⟨_, _, rfl⟩
        · exact ⟨_, _, rfl⟩
    · rw [if_neg hk]
      exact fwN_some (by rcases Nat.lt_or_ge x k with h | h; exact h; exact absurd (by rw [show k = x by omega]; exact hs) hk) hs
theorem fewV_in {P : List (List Nat)} {s : List Nat} {x : Nat} (hx : x < 8) (hs : x ∈ s) : fewV P s ∈ s := by
  obtain ⟨b, m, e⟩ := fwN_some (f := lackN P) hx hs
  rw [fewV, e]
  exact fwN_in e
/-- What holds while nodes are taken out. -/
structure FI (P : List (List Nat)) (n k : Nat) : Prop where
  left : ∀ x, x ∈ (flS P n k).lft ↔ x < n ∧ ∀ i, i < k → outV P n i ≠ x
  inj : ∀ i j, i < k → j < k → outV P n i = outV P n j → i = j
  lt : ∀ i, i < k → outV P n i < n
  sym : ∀ u, u ∈ (flS P n k).lft → ∀ w, w ∈ (flS P n k).nei.getD u [] → w ∈ (flS P n k).lft ∧ u ∈ (flS P n k).nei.getD w [] ∧ u ≠ w
theorem FI.here {P : List (List Nat)} {n k : Nat} (h : FI P n k) (hk : k < n) (h8 : n ≤ 8) : outV P n k ∈ (flS P n k).lft := by
  have hne : ∃ x, x ∈ (flS P n k).lft := by
    refine Classical.byContradiction fun hno => ?_
    have hall : ∀ x ∈ List.range n, x ∈ (List.range k).map (outV P n) := fun x hx => by
      refine Classical.byContradiction fun hm => hno ⟨x, (h.left x).2 ⟨List.mem_range.1 hx, fun i hi e => hm (List.mem_map.2 ⟨i, List.mem_range.2 hi, e⟩)⟩⟩
    have := nd_len List.nodup_range hall
    rw [List.length_range, List.length_map, List.length_range] at this
    omega
  obtain ⟨x, hx⟩ := hne
  exact fewV_in (by have := ((h.left x).1 hx).1; omega) hx
theorem takeL_at {P : List (List Nat)} {v u : Nat} (hu : u < P.length) : (takeL P v).getD u [] = if u < 8 ∧ u ∈ P.getD v [] then newN P v u else P.getD u [] := by
  rw [List.getD_eq_getElem?_getD, List.getElem?_eq_getElem (by rw [takeL, tkS_length]; exact hu)]
  simp [takeL, tkS]
theorem FI.next {P : List (List Nat)} {n k : Nat} (hN : Nbr n P) (h : FI P n k) (hk : k < n) (h8 : n ≤ 8) {u w : Nat} (hu : u ∈ (flS P n k).lft) (_hne : u ≠ outV P n k) : w ∈ (flS P n (k + 1)).nei.getD u [] ↔ w ≠ outV P n k ∧ u ≠ w ∧ (w ∈ (flS P n k).nei.getD u [] ∨ outV P n k ∈ (flS P n k).nei.getD u [] ∧ w ∈ (flS P n k).nei.getD (outV P n k) []) := by
  have hl := (flS_ok hN k).1
  have hun : u < n := ((h.left u).1 hu).1
  have hv := h.here hk h8
  show w ∈ (takeL (flS P n k).nei (outV P n k)).getD u [] ↔ _
  rw [takeL_at (by rw [hl.len]; exact hun)]
  by_cases hc : u ∈ (flS P n k).nei.getD (outV P n k) []
  · rw [if_pos ⟨by omega, hc⟩, newN_mem]
    have hs := (h.sym _ hv u hc).2.1
    exact ⟨fun ⟨a, b, c⟩ => ⟨c, fun e => b e.symm, a.imp id fun a => ⟨hs, a⟩⟩, fun ⟨a, b, c⟩ => ⟨c.imp id fun c => c.2, fun e => b e.symm, a⟩⟩
  · rw [if_neg fun e => hc e.2]
    constructor
    · intro hw
      have hs := h.sym u hu w hw
      exact ⟨fun e => hc (by rw [← e]; exact hs.2.1), hs.2.2, .inl hw⟩
    · rintro ⟨_, _, c | c⟩
      · exact c
      · exact absurd (h.sym u hu _ c.1).2.1 hc
theorem FI.step {P : List (List Nat)} {n k : Nat} (hN : Nbr n P) (h : FI P n k) (hk : k < n) (h8 : n ≤ 8) : FI P n (k + 1) := by
  have hv := h.here hk h8
  have hlft : ∀ x, x ∈ (flS P n (k + 1)).lft ↔ x ∈ (flS P n k).lft ∧ x ≠ outV P n k := fun x => by
    show x ∈ (flS P n k).lft.filter (fun u => decide (u ≠ outV P n k)) ↔ _
    rw [List.mem_filter, decide_eq_true_iff]
  have hnew : ∀ i, i < k → outV P n i ≠ outV P n k := ((h.left _).1 hv).2
  refine ⟨fun x => ?_, fun i j hi hj e => ?_, fun i hi => ?_, fun u hu w hw => ?_⟩
  · rw [hlft, h.left]
    constructor
    · rintro ⟨⟨a, b⟩, c⟩
      refine ⟨a, fun i hi e => ?_⟩
      rcases Nat.lt_or_ge i k with h' | h'
      · exact b i h' e
      · exact c (by rw [← e, show i = k by omega])
    · rintro ⟨a, b⟩
      exact ⟨⟨a, fun i hi => b i (by omega)⟩, fun e => b k (by omega) e.symm⟩
  · rcases Nat.lt_or_ge i k with h1 | h1
    · rcases Nat.lt_or_ge j k with h2 | h2
      · exact h.inj i j h1 h2 e
      · exact absurd (by rw [e, show j = k by omega]) (hnew i h1)
    · rcases Nat.lt_or_ge j k with h2 | h2
      · exact absurd (by rw [← e, show i = k by omega]) (hnew j h2)
      · omega
  · rcases Nat.lt_or_ge i k with h1 | h1
    · exact h.lt i h1
    · rw [show i = k by omega]; exact ((h.left _).1 hv).1
  · rw [hlft] at hu
    obtain ⟨a, b, c⟩ := (h.next hN hk h8 hu.1 hu.2).1 hw
    have hwl : w ∈ (flS P n k).lft := by
      rcases c with c | c
      · exact (h.sym u hu.1 w c).1
      · exact (h.sym _ hv w c.2).1
    refine ⟨(hlft w).2 ⟨hwl, a⟩, (h.next hN hk h8 hwl a).2 ⟨hu.2, fun e => b e.symm, ?_⟩, b⟩
    rcases c with c | c
    · exact .inl (h.sym u hu.1 w c).2.1
    · exact .inr ⟨(h.sym _ hv w c.2).2.1, (h.sym u hu.1 _ c.1).2.1⟩
theorem FI.all {P : List (List Nat)} {n : Nat} (hN : Nbr n P) (hs : ∀ u, u < n → ∀ w, w ∈ P.getD u [] → u ∈ P.getD w []) (h8 : n ≤ 8) : ∀ k, k ≤ n → FI P n k
  | 0, _ => ⟨fun x => ⟨fun h => ⟨upL_mem.1 h, fun i hi => absurd hi (Nat.not_lt_zero _)⟩, fun h => upL_mem.2 h.1⟩, fun i _ hi => absurd hi (Nat.not_lt_zero _), fun i hi => absurd hi (Nat.not_lt_zero _), fun u hu w hw => by
    have hu' : u < n := upL_mem.1 hu
    exact ⟨upL_mem.2 (hN.at u w hw), hs u hu' w hw, fun e => hN.self u (by rw [← e] at hw; exact hw)⟩⟩
  | k + 1, hk => (FI.all hN hs h8 k (by omega)).step hN (by omega) h8
/-- What is near what of those that are left. -/
def nrO (P : List (List Nat)) (n i u w : Nat) : Prop := u ∈ (flS P n i).lft ∧ w ∈ (flS P n i).nei.getD u []
theorem fill_outs {P : List (List Nat)} {n : Nat} (hN : Nbr n P) (hs : ∀ u, u < n → ∀ w, w ∈ P.getD u [] → u ∈ P.getD w []) (h8 : n ≤ 8) : Outs n (outV P n) (nrO P n) := by
  have hF := FI.all hN hs h8
  refine ⟨fun v hv => ?_, fun i j hi hj e => (hF n (Nat.le_refl _)).inj i j hi hj e, fun u w hw => ⟨upL_mem.1 hw.1, hN.at u w hw.2⟩, fun u hu => hN.self u hu.2, fun u w hw => ⟨upL_mem.2 (hN.at u w hw.2), hs u (upL_mem.1 hw.1) w hw.2⟩, fun i hi u w => ?_⟩
  · refine Classical.byContradiction fun hno => ?_
    have hnd : (v :: (List.range n).map (outV P n)).Nodup := by
      refine List.nodup_cons.2 ⟨fun hm => ?_, ?_⟩
      · obtain ⟨i, hi, e⟩ := List.mem_map.1 hm
        exact hno ⟨i, List.mem_range.1 hi, e⟩
      · refine List.pairwise_map.2 (List.nodup_range.imp_of_mem fun {a b} ha hb hab e => hab ((hF n (Nat.le_refl _)).inj a b (List.mem_range.1 ha) (List.mem_range.1 hb) e))
    have := nd_len hnd (m := List.range n) fun x hx => by
      rcases List.mem_cons.1 hx with rfl | hx
      · exact List.mem_range.2 hv
      · obtain ⟨i, hi, e⟩ := List.mem_map.1 hx
        rw [← e]
        exact List.mem_range.2 ((hF n (Nat.le_refl _)).lt i (List.mem_range.1 hi))
    rw [List.length_cons, List.length_map, List.length_range] at this
    omega
  · have h := hF i (by omega)
    have hv := h.here hi h8
    have hl : u ∈ (flS P n (i + 1)).lft ↔ u ∈ (flS P n i).lft ∧ u ≠ outV P n i := by
      show u ∈ (flS P n i).lft.filter (fun u => decide (u ≠ outV P n i)) ↔ _
      rw [List.mem_filter, decide_eq_true_iff]
    constructor
    · rintro ⟨a, b⟩
      obtain ⟨a1, a2⟩ := hl.1 a
      obtain ⟨c1, c2, c3⟩ := (h.next hN hi h8 a1 a2).1 b
      exact ⟨a2, c1, c2, c3.imp (fun c => ⟨a1, c⟩) fun c => ⟨⟨a1, c.1⟩, ⟨hv, c.2⟩⟩⟩
    · rintro ⟨a, b, c, d⟩
      have a1 : u ∈ (flS P n i).lft := d.elim (fun d => d.1) fun d => d.1.1
      exact ⟨hl.2 ⟨a1, a⟩, (h.next hN hi h8 a1 a).2 ⟨b, c, d.imp (fun d => d.2) fun d => ⟨d.1.2, d.2.2⟩⟩⟩
end Go.Proofs.Ytockhhleapbpiaa

