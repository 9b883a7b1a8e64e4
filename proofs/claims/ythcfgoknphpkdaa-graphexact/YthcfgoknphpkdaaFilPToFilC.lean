/- Plain: what fill does and what the document says of it come to the same: edges that lack, the first least, bags, who is near whom. -/
import Derived.Test.YthcfgoknphpkdaaTreCToFilO
import Derived.Test.YthcfgoknphpkdaaChiAToTreF
import Derived.Test.YthcfgoknphpkdaaNrsAToOrdE
import Derived.Test.YthcfgoknphpkdaaFilAToTreB
namespace Go.Proofs.Ythcfgoknphpkdaa
open Go.RowKit Go.Shelf

/-- The bag of a step, as a list that rises. -/
def bagN (P : List (List Nat)) (n k : Nat) : List Nat := memU (outV P n k :: (flS P n k).nei.getD (outV P n k) []) 8
/-- The matrix of edges, step by step: edges come in, none goes. -/
def emB (P : List (List Nat)) (n : Nat) : Nat → Nat → Nat → Bool
  | 0, v, u => decide (u ∈ P.getD v [])
  | k + 1, v, u => emB P n k v u || (decide (v ≠ u) && (decide (v ∈ bagN P n k) && decide (u ∈ bagN P n k)))
theorem flS_seq (P : List (List Nat)) (n : Nat) : ∀ k, (flS P n k).ord = (List.range k).map (outV P n)
  | 0 => rfl
  | k + 1 => by rw [List.range_succ, List.map_append, ← flS_seq P n k]; rfl
theorem flS_bags (P : List (List Nat)) (n k : Nat) : (flS P n k).bag.map memL = (List.range k).map fun i => iL (bagN P n i) := by rw [flS_ord, List.map_map]; rfl
theorem FI.gone {P : List (List Nat)} {n k : Nat} (h : FI P n k) {v : Nat} (hv : v < n) : v ∈ (flS P n k).lft ↔ ¬ v ∈ (List.range k).map (outV P n) := by
  rw [h.left]
  constructor
  · rintro ⟨_, h2⟩ hm
    obtain ⟨i, hi, e⟩ := List.mem_map.1 hm
    exact h2 i (List.mem_range.1 hi) e
  · exact fun hm => ⟨hv, fun i hi e => hm (List.mem_map.2 ⟨i, List.mem_range.2 hi, e⟩)⟩
theorem FI.bag {P : List (List Nat)} {n k : Nat} (h : FI P n k) (hk : k < n) (h8 : n ≤ 8) {u : Nat} : u ∈ bagN P n k ↔ u = outV P n k ∨ u ∈ (flS P n k).nei.getD (outV P n k) [] := by
  have hv := h.here hk h8
  rw [bagN, memU_mem, List.mem_cons]
  refine ⟨fun h => h.2, fun hu => ⟨?_, hu⟩⟩
  rcases hu with e | hu
  · have := ((h.left _).1 hv).1; omega
  · have := ((h.left _).1 (h.sym _ hv u hu).1).1; omega
theorem FI.em {P : List (List Nat)} {n : Nat} (hN : Nbr n P) (hF : ∀ k, k ≤ n → FI P n k) (h8 : n ≤ 8) : ∀ k, k ≤ n → ∀ u w, u ∈ (flS P n k).lft → w ∈ (flS P n k).lft → (emB P n k u w = true ↔ w ∈ (flS P n k).nei.getD u [])
  | 0, _, u, w, _, _ => by rw [emB, decide_eq_true_iff]; exact Iff.rfl
  | k + 1, hk, u, w, hu, hw => by
    have h := hF k (by omega)
    have hl : ∀ x, x ∈ (flS P n (k + 1)).lft ↔ x ∈ (flS P n k).lft ∧ x ≠ outV P n k := fun x => by
      show x ∈ (flS P n k).lft.filter (fun u => decide (u ≠ outV P n k)) ↔ _
      rw [List.mem_filter, decide_eq_true_iff]
    obtain ⟨u1, u2⟩ := (hl u).1 hu
    obtain ⟨w1, w2⟩ := (hl w).1 hw
    have hv := h.here (by omega) h8
    rw [h.next hN (by omega) h8 u1 u2, emB, Bool.or_eq_true, FI.em hN hF h8 k (by omega) u w u1 w1, Bool.and_eq_true, Bool.and_eq_true, decide_eq_true_iff, decide_eq_true_iff, decide_eq_true_iff, h.bag (by omega) h8, h.bag (by omega) h8]
    constructor
    · rintro (a | ⟨a, b, c⟩)
      · exact ⟨w2, (h.sym u u1 w a).2.2, .inl a⟩
      · exact ⟨w2, a, .inr ⟨(h.sym _ hv u (b.resolve_left u2)).2.1, c.resolve_left w2⟩⟩
    · rintro ⟨_, a, b | b⟩
      · exact .inl b
      · exact .inr ⟨a, .inr (h.sym u u1 _ b.1).2.1, .inr b.2⟩
/-- How many, as far as m. -/
def cntB (f : Nat → Bool) : Nat → Nat
  | 0 => 0
  | m + 1 => cntB f m + (if f m = true then 1 else 0)
/-- How many pairs, the first the greater one, as far as m. -/
def prsB (f : Nat → Nat → Bool) : Nat → Nat
  | 0 => 0
  | m + 1 => prsB f m + cntB (f m) m
def sumN (f : Nat → Nat) : Nat → Nat
  | 0 => 0
  | m + 1 => sumN f m + f m
theorem cntB_congr {f g : Nat → Bool} : ∀ {m : Nat}, (∀ x, x < m → f x = g x) → cntB f m = cntB g m
  | 0, _ => rfl
  | m + 1, h => by rw [cntB, cntB, cntB_congr fun x hx => h x (by omega), h m (by omega)]
theorem prsB_congr {f g : Nat → Nat → Bool} : ∀ {m : Nat}, (∀ x y, x < m → y < x → f x y = g x y) → prsB f m = prsB g m
  | 0, _ => rfl
  | m + 1, h => by rw [prsB, prsB, prsB_congr fun x y hx hy => h x y (by omega) hy, cntB_congr fun y hy => h m y (by omega) hy]
theorem sumN_congr {f g : Nat → Nat} : ∀ {m : Nat}, (∀ x, x < m → f x = g x) → sumN f m = sumN g m
  | 0, _ => rfl
  | m + 1, h => by rw [sumN, sumN, sumN_congr fun x hx => h x (by omega), h m (by omega)]
theorem sumN_add (f g : Nat → Nat) : ∀ m, sumN (fun x => f x + g x) m = sumN f m + sumN g m
  | 0 => rfl
  | m + 1 => by rw [sumN, sumN, sumN, sumN_add f g m]; omega
theorem cntB_none {f : Nat → Bool} : ∀ {m : Nat}, (∀ x, x < m → f x = false) → cntB f m = 0
  | 0, _ => rfl
  | m + 1, h => by rw [cntB, cntB_none fun x hx => h x (by omega), h m (by omega)]; rfl
theorem sum_ind (f : Nat → Bool) : ∀ m, sumN (fun x => if f x = true then 1 else 0) m = cntB f m
  | 0 => rfl
  | m + 1 => by rw [sumN, cntB, sum_ind f m]
/-- Pairs counted from both ends. -/
theorem both_ends {g : Nat → Nat → Bool} (hs : ∀ a b, g a b = g b a) (hi : ∀ a, g a a = false) : ∀ m, sumN (fun u => cntB (g u) m) m = 2 * prsB g m
  | 0 => rfl
  | m + 1 => by
    have ih := both_ends hs hi m
    have e1 : sumN (fun u => cntB (g u) (m + 1)) m = sumN (fun u => cntB (g u) m) m + cntB (g m) m := by
      have : sumN (fun u => cntB (g u) (m + 1)) m = sumN (fun u => cntB (g u) m + (if g u m = true then 1 else 0)) m := rfl
      rw [this, sumN_add, sum_ind fun u => g u m]
      congr 1
      exact cntB_congr fun x _ => hs x m
    have e2 : cntB (g m) (m + 1) = cntB (g m) m := by rw [cntB, hi]; rfl
    rw [sumN, e1, e2, ih, prsB]
    omega
theorem prsB_wide {g : Nat → Nat → Bool} {n : Nat} (h : ∀ a b, g a b = true → a < n) : ∀ d, prsB g (n + d) = prsB g n
  | 0 => rfl
  | d + 1 => by
    have e : cntB (g (n + d)) (n + d) = 0 := cntB_none fun x _ => by
      cases hg : g (n + d) x
      · rfl
      · have := h _ _ hg; omega
    rw [show n + (d + 1) = (n + d) + 1 by omega, prsB, e, prsB_wide h d, Nat.add_zero]
theorem memU_cnt (s : List Nat) : ∀ k, (memU s k).length = cntB (fun x => decide (x ∈ s)) k
  | 0 => rfl
  | k + 1 => by
    by_cases h : k ∈ s
    · rw [memU_yes h, List.length_append, memU_cnt s k, cntB, if_pos (decide_eq_true h)]; rfl
    · rw [memU_no h, memU_cnt s k, cntB, if_neg (by rw [decide_eq_true_iff]; exact h), Nat.add_zero]
theorem endsN_sum (B : List (List Nat)) (v : Nat) : ∀ k, endsN B v k = sumN (fun u => if u ∈ B.getD v [] then lackE B v u else 0) k
  | 0 => by simp [endsN, memU, sumN]
  | k + 1 => by
    by_cases h : k ∈ B.getD v []
    · rw [endsN, memU_yes h, List.map_append, List.sum_append, sumN, if_pos h, ← endsN_sum B v k, endsN]; simp
    · rw [endsN, memU_no h, sumN, if_neg h, ← endsN_sum B v k, endsN, Nat.add_zero]
/-- What the document's answer counts. -/
def lkF (e : Nat → Nat → Bool) (o : List Nat) (v a b : Nat) : Bool := !decide (a ∈ o) && (!decide (b ∈ o) && (e v a && (e v b && !e a b)))
theorem FI.lacks {P : List (List Nat)} {n k : Nat} (hN : Nbr n P) (hF : ∀ k, k ≤ n → FI P n k) (h8 : n ≤ 8) (hk : k ≤ n) {v : Nat} (hv : v ∈ (flS P n k).lft) : prsB (lkF (emB P n k) ((List.range k).map (outV P n)) v) n = lackN (flS P n k).nei v := by
  have h := hF k hk
  have hem := FI.em hN hF h8 k hk
  let g : Nat → Nat → Bool := fun a b => decide (a ∈ (flS P n k).nei.getD v []) && (decide (b ∈ (flS P n k).nei.getD v []) && (decide (a ≠ b) && !decide (b ∈ (flS P n k).nei.getD a [])))
  have hlft : ∀ a, a ∈ (flS P n k).nei.getD v [] → a ∈ (flS P n k).lft := fun a ha => (h.sym v hv a ha).1
  have hg : ∀ a b, g a b = true ↔ a ∈ (flS P n k).nei.getD v [] ∧ b ∈ (flS P n k).nei.getD v [] ∧ a ≠ b ∧ ¬ b ∈ (flS P n k).nei.getD a [] := fun a b => by
    show (decide _ && (decide _ && (decide _ && !decide _))) = true ↔ _
    rw [Bool.and_eq_true, Bool.and_eq_true, Bool.and_eq_true, Bool.not_eq_true', decide_eq_true_iff, decide_eq_true_iff, decide_eq_true_iff, decide_eq_false_iff_not]
  have hgs : ∀ a b, g a b = g b a := fun a b => Bool.eq_iff_iff.2 <| by
    rw [hg, hg]
    exact ⟨fun ⟨p, q, r, s⟩ => ⟨q, p, fun e => r e.symm, fun hm => s (h.sym b (hlft b q) a hm).2.1⟩, fun ⟨p, q, r, s⟩ => ⟨q, p, fun e => r e.symm, fun hm => s (h.sym a (hlft a q) b hm).2.1⟩⟩
  have hgi : ∀ a, g a a = false := fun a => by
    cases e : g a a
    · rfl
    · exact absurd rfl ((hg a a).1 e).2.2.1
  have hln : ∀ a b, g a b = true → a < n := fun a b e => ((h.left a).1 (hlft a ((hg a b).1 e).1)).1
  have e1 : prsB (lkF (emB P n k) ((List.range k).map (outV P n)) v) n = prsB g n := prsB_congr fun a b ha hb => by
    refine Bool.eq_iff_iff.2 ?_
    rw [hg, lkF, Bool.and_eq_true, Bool.and_eq_true, Bool.and_eq_true, Bool.and_eq_true, Bool.not_eq_true', Bool.not_eq_true', Bool.not_eq_true', decide_eq_false_iff_not, decide_eq_false_iff_not, ← h.gone ha, ← h.gone (show b < n by omega)]
    constructor
    · rintro ⟨p, q, r, s, t⟩
      refine ⟨(hem v a hv p).1 r, (hem v b hv q).1 s, by omega, fun hm => ?_⟩
      rw [(hem a b p q).2 hm] at t
      cases t
    · rintro ⟨p, q, r, s⟩
      refine ⟨hlft a p, hlft b q, (hem v a hv (hlft a p)).2 p, (hem v b hv (hlft b q)).2 q, ?_⟩
      cases e : emB P n k a b
      · rfl
      · exact absurd ((hem a b (hlft a p) (hlft b q)).1 e) s
  have e2 : prsB g 8 = prsB g n := by
    have := prsB_wide hln (8 - n)
    rwa [show n + (8 - n) = 8 by omega] at this
  have e3 : endsN (flS P n k).nei v 8 = sumN (fun u => cntB (g u) 8) 8 := by
    rw [endsN_sum]
    refine sumN_congr fun u _ => ?_
    by_cases hu : u ∈ (flS P n k).nei.getD v []
    · rw [if_pos hu, lackE, memU_cnt]
      refine cntB_congr fun x _ => Bool.eq_iff_iff.2 ?_
      rw [hg, decide_eq_true_iff, List.mem_filter, List.mem_filter, decide_eq_true_iff, decide_eq_true_iff]
      exact ⟨fun ⟨⟨a, b⟩, c⟩ => ⟨hu, a, fun e => c e.symm, b⟩, fun ⟨_, a, b, c⟩ => ⟨⟨a, c⟩, fun e => b e.symm⟩⟩
    · rw [if_neg hu]
      refine (cntB_none fun x _ => ?_).symm
      cases e : g u x
      · rfl
      · exact absurd ((hg u x).1 e).1 hu
  rw [e1, lackN, e3, both_ends hgs hgi, e2]
  omega
/-- The first least from j on, found from the last on. -/
def dnN (f : Nat → Nat) (s : List Nat) (n : Nat) : Nat → Option (Nat × Nat)
  | 0 => none
  | d + 1 => if n - 1 - d ∈ s then (match dnN f s n d with | none => some (n - 1 - d, f (n - 1 - d)) | some (b, m) => if f (n - 1 - d) ≤ m then some (n - 1 - d, f (n - 1 - d)) else some (b, m)) else dnN f s n d
/-- A first least one. -/
def FLs (f : Nat → Nat) (s : List Nat) (lo hi : Nat) (r : Option (Nat × Nat)) : Prop := match r with
  | none => ∀ x, x ∈ s → lo ≤ x → x < hi → False
  | some (b, m) => m = f b ∧ b ∈ s ∧ lo ≤ b ∧ b < hi ∧ ∀ x, x ∈ s → lo ≤ x → x < hi → f b < f x ∨ (f b = f x ∧ b ≤ x)
theorem FLs.one {f : Nat → Nat} {s : List Nat} {lo hi : Nat} {r r' : Option (Nat × Nat)} (h : FLs f s lo hi r) (h' : FLs f s lo hi r') : r = r' := by
  cases r with
  | none =>
    cases r' with
    | none => rfl
    | some p =>
      obtain ⟨b, m⟩ := p
      exact (h b h'.2.1 h'.2.2.1 h'.2.2.2.1).elim
  | some p =>
    obtain ⟨b, m⟩ := p
    cases r' with
    | none => exact (h' b h.2.1 h.2.2.1 h.2.2.2.1).elim
    | some p' =>
      obtain ⟨b', m'⟩ := p'
      obtain ⟨rfl, a2, a3, a4, a5⟩ := h
      obtain ⟨rfl, c2, c3, c4, c5⟩ := h'
      have h1 := a5 b' c2 c3 c4
      have h2 := c5 b a2 a3 a4
      obtain rfl : b = b' := by omega
      rfl
theorem fwN_spec {f : Nat → Nat} {s : List Nat} : ∀ k, FLs f s 0 k (fwN f s k)
  | 0 => fun x _ _ h => absurd h (Nat.not_lt_zero _)
  | k + 1 => by
    have ih := fwN_spec (f := f) (s := s) k
    rw [fwN]
    by_cases hk : k ∈ s
    · rw [if_pos hk]
      cases hf : fwN f s k with
      | none =>
        rw [hf] at ih
        refine ⟨rfl, hk, Nat.zero_le _, by omega, fun x hx h0 hl => ?_⟩
        rcases Nat.lt_or_ge x k with h | h
        · exact (ih x hx h0 h).elim
        · exact .inr ⟨by rw [show x = k by omega], h⟩
      | some p =>
        obtain ⟨b, m⟩ := p
        rw [hf] at ih
        obtain ⟨rfl, a2, a3, a4, a5⟩ := ih
        simp only
        by_cases hl : f k < f b
        · rw [if_pos hl]
          refine ⟨rfl, hk, Nat.zero_le _, by omega, fun x hx h0 hx' => ?_⟩
          rcases Nat.lt_or_ge x k with h | h
          · have := a5 x hx h0 h; omega
          · exact .inr ⟨by rw [show x = k by omega], h⟩
        · rw [if_neg hl]
          refine ⟨rfl, a2, a3, by omega, fun x hx h0 hx' => ?_⟩
          rcases Nat.lt_or_ge x k with h | h
          · exact a5 x hx h0 h
          · obtain rfl : x = k := by omega
            omega
    · rw [if_neg hk]
      revert ih
      cases fwN f s k with
      | none =>
        intro ih x hx h0 hx'
        rcases Nat.lt_or_ge x k with h | h
        · exact ih x hx h0 h
        · exact hk (by rw [show k = x by omega]; exact hx)
      | some p =>
        obtain ⟨b, m⟩ := p
        rintro ⟨a1, a2, a3, a4, a5⟩
        refine ⟨a1, a2, a3, by omega, fun x hx h0 hx' => ?_⟩
        rcases Nat.lt_or_ge x k with h | h
        · exact a5 x hx h0 h
        · exact absurd (by rw [show k = x by omega]; exact hx) hk
theorem dnN_spec {f : Nat → Nat} {s : List Nat} {n : Nat} : ∀ d, d ≤ n → FLs f s (n - d) n (dnN f s n d)
  | 0, _ => fun x _ h h' => by omega
  | d + 1, hd => by
    have ih := dnN_spec (f := f) (s := s) (n := n) d (by omega)
    rw [dnN]
    generalize hj : n - 1 - d = j
    have hj1 : n - d = j + 1 := by omega
    have hj2 : n - (d + 1) = j := by omega
    rw [hj1] at ih
    rw [hj2]
    by_cases hk : j ∈ s
    · rw [if_pos hk]
      cases hf : dnN f s n d with
      | none =>
        rw [hf] at ih
        refine ⟨rfl, hk, Nat.le_refl _, by omega, fun x hx h0 hl => ?_⟩
        rcases Nat.lt_or_ge j x with h | h
        · exact (ih x hx h hl).elim
        · exact .inr ⟨by rw [show x = j by omega], h0⟩
      | some p =>
        obtain ⟨b, m⟩ := p
        rw [hf] at ih
        obtain ⟨rfl, a2, a3, a4, a5⟩ := ih
        simp only
        by_cases hl : f j ≤ f b
        · rw [if_pos hl]
          refine ⟨rfl, hk, Nat.le_refl _, by omega, fun x hx h0 hx' => ?_⟩
          rcases Nat.lt_or_ge j x with h | h
          · have := a5 x hx h hx'; omega
          · exact .inr ⟨by rw [show x = j by omega], h0⟩
        · rw [if_neg hl]
          refine ⟨rfl, a2, by omega, a4, fun x hx h0 hx' => ?_⟩
          rcases Nat.lt_or_ge j x with h | h
          · exact a5 x hx h hx'
          · obtain rfl : x = j := by omega
            omega
    · rw [if_neg hk]
      revert ih
      cases dnN f s n d with
      | none =>
        intro ih x hx h0 hx'
        rcases Nat.lt_or_ge j x with h | h
        · exact ih x hx h hx'
        · exact hk (by rw [show j = x by omega]; exact hx)
      | some p =>
        obtain ⟨b, m⟩ := p
        rintro ⟨a1, a2, a3, a4, a5⟩
        refine ⟨a1, a2, by omega, a4, fun x hx h0 hx' => ?_⟩
        rcases Nat.lt_or_ge j x with h | h
        · exact a5 x hx h hx'
        · exact absurd (by rw [show j = x by omega]; exact hx) hk
theorem dn_few {P : List (List Nat)} {s : List Nat} {n : Nat} (h8 : n ≤ 8) (hs : ∀ u ∈ s, u < n) : fwB (dnN (lackN P) s n n) = fewV P s := by
  have h1 := dnN_spec (f := lackN P) (s := s) (n := n) n (Nat.le_refl _)
  have h2 := fwN_spec (f := lackN P) (s := s) 8
  rw [Nat.sub_self] at h1
  rw [fewV]
  congr 1
  refine h1.one (hi := n) ?_
  revert h2
  cases fwN (lackN P) s 8 with
  | none => exact fun h x hx h0 hl => h x hx h0 (by omega)
  | some p =>
    obtain ⟨b, m⟩ := p
    rintro ⟨a1, a2, a3, a4, a5⟩
    exact ⟨a1, a2, a3, hs b a2, fun x hx h0 hl => a5 x hx h0 (by omega)⟩
/-- The bag as the document's answer gathers it, as far as u. -/
def bgL (P : List (List Nat)) (n k u : Nat) : List Nat := (List.range u).filter fun u => !decide (u ∈ (List.range k).map (outV P n)) && (decide (u = outV P n k) || emB P n k (outV P n k) u)
theorem FI.bgL {P : List (List Nat)} {n k : Nat} (hN : Nbr n P) (hF : ∀ k, k ≤ n → FI P n k) (h8 : n ≤ 8) (hk : k < n) : bgL P n k n = bagN P n k := by
  have h := hF k (by omega)
  have hv := h.here hk h8
  have hem := FI.em hN hF h8 k (by omega)
  have e : ∀ d, memU (outV P n k :: (flS P n k).nei.getD (outV P n k) []) (n + d) = memU (outV P n k :: (flS P n k).nei.getD (outV P n k) []) n := fun d => by
    induction d with
    | zero => rfl
    | succ d ih =>
      rw [show n + (d + 1) = (n + d) + 1 by omega, memU_no, ih]
      intro hm
      rcases List.mem_cons.1 hm with e | hm
      · have := ((h.left _).1 hv).1; omega
      · have := ((h.left _).1 (h.sym _ hv _ hm).1).1; omega
  have e8 := e (8 - n)
  rw [show n + (8 - n) = 8 by omega] at e8
  rw [bagN, e8, Go.Proofs.Ythcfgoknphpkdaa.bgL, memU]
  refine List.filter_congr fun u hu => Bool.eq_iff_iff.2 ?_
  have hu' := List.mem_range.1 hu
  rw [Bool.and_eq_true, Bool.or_eq_true, Bool.not_eq_true', decide_eq_false_iff_not, decide_eq_true_iff, decide_eq_true_iff, List.mem_cons, ← h.gone hu']
  constructor
  · rintro ⟨a, b | b⟩
    · exact .inl b
    · exact .inr ((hem _ u hv a).1 b)
  · rintro (b | b)
    · exact ⟨by rw [b]; exact hv, .inl b⟩
    · exact ⟨(h.sym _ hv u b).1, .inr ((hem _ u hv (h.sym _ hv u b).1).2 b)⟩
/-- Neighbours of neighbours. -/
theorem near_iff {L : List (List Int)} (hg : gB L = true) : nearB L = true ↔ ∀ v u, v < L.length → u < L.length → (decide (u ∈ (parN L).getD v []) = decide (v ∈ (parN L).getD u [])) := by
  rw [nearB, hg, Bool.true_and, decide_eq_true_iff, masks_par]
  have hl : ∀ v, v < L.length → v < (parN L).length := fun v hv => by rw [parN_length]; exact hv
  have hlt := par_lt hg
  have hat : ∀ v, v < L.length → ∀ u, u ∈ (parN L).getD v [] → u < L.length := fun v hv u hu => by
    rw [List.getD_eq_getElem?_getD, List.getElem?_eq_getElem (hl v hv)] at hu
    exact hlt _ (List.getElem_mem (hl v hv)) u hu
  have key : ∀ v, v < L.length → ((((parN L).map mskN)[v]? = ((chA (parN L) L.length L.length).map mskN)[v]?) ↔ ∀ u, u < L.length → (decide (u ∈ (parN L).getD v []) = decide (v ∈ (parN L).getD u []))) := fun v hv => by
    have e1 : ((parN L).map mskN)[v]? = some (mskN ((parN L).getD v [])) := by rw [List.getElem?_map, List.getD_eq_getElem?_getD, List.getElem?_eq_getElem (hl v hv)]; rfl
    have e2 : ((chA (parN L) L.length L.length).map mskN)[v]? = some (mskN (chL (parN L) v L.length)) := by simp [chA, hv]
    rw [e1, e2]
    constructor
    · intro e u hu
      have e' := Option.some.inj e
      have h1 := msk_bit ((parN L).getD v []) u
      have h2 := msk_bit (chL (parN L) v L.length) u
      rw [← h1, e', h2, decide_eq_decide, chL_mem]
      exact ⟨fun h => h.2, fun h => ⟨hu, h⟩⟩
    · intro h
      congr 1
      refine msk_ext fun u => ?_
      rw [chL_mem]
      constructor
      · intro hu
        have := hat v hv u hu
        exact ⟨this, (decide_eq_decide.1 (h u this)).1 hu⟩
      · exact fun hu => (decide_eq_decide.1 (h u hu.1)).2 hu.2
  constructor
  · intro e v u hv hu
    exact (key v hv).1 (by rw [e]) u hu
  · intro h
    refine List.ext_getElem? fun v => ?_
    rcases Nat.lt_or_ge v L.length with hv | hv
    · exact (key v hv).2 fun u hu => h v u hv hu
    · rw [List.getElem?_eq_none (by rw [List.length_map, parN_length]; exact hv), List.getElem?_eq_none (by rw [List.length_map, chA_length]; exact hv)]
end Go.Proofs.Ythcfgoknphpkdaa


/- Plain: what Tree does and what the document says of it come to the same: bags that are kept, what two have in common, links. -/
namespace Go.Proofs.Ythcfgoknphpkdaa
open Go.RowKit Go.Shelf

theorem sorted_ext : ∀ {a b : List Nat}, a.Pairwise (· < ·) → b.Pairwise (· < ·) → (∀ x, x ∈ a ↔ x ∈ b) → a = b
  | [], [], _, _, _ => rfl
  | [], y :: b, _, _, h => absurd ((h y).2 List.mem_cons_self) List.not_mem_nil
  | x :: a, [], _, _, h => absurd ((h x).1 List.mem_cons_self) List.not_mem_nil
  | x :: a, y :: b, ha, hb, h => by
    obtain ⟨a1, a2⟩ := List.pairwise_cons.1 ha
    obtain ⟨b1, b2⟩ := List.pairwise_cons.1 hb
    obtain rfl : x = y := by
      rcases List.mem_cons.1 ((h x).1 List.mem_cons_self) with e | h1
      · exact e
      · rcases List.mem_cons.1 ((h y).2 List.mem_cons_self) with e | h2
        · exact e.symm
        · have := b1 x h1; have := a1 y h2; omega
    congr 1
    refine sorted_ext a2 b2 fun z => ⟨fun hz => ?_, fun hz => ?_⟩
    · rcases List.mem_cons.1 ((h z).1 (List.mem_cons_of_mem _ hz)) with e | h1
      · have := a1 z hz; omega
      · exact h1
    · rcases List.mem_cons.1 ((h z).2 (List.mem_cons_of_mem _ hz)) with e | h1
      · have := b1 z hz; omega
      · exact h1
theorem Up.toNat {l : List Int} {n : Nat} (h : Up l n) : (toN l).Pairwise (· < ·) := List.pairwise_iff_getElem.2 fun i j hi hj hij => by
  rw [toN_length] at hi hj
  rw [toN_get hi, toN_get hj]
  have := h.lt i j hj hij
  have := (h.each i hi).1
  omega
theorem iL_toN {l : List Int} (h : ∀ x ∈ l, 0 ≤ x) : iL (toN l) = l := by
  rw [iL, toN, List.map_map]
  refine (List.map_congr_left fun x hx => ?_).trans (List.map_id l)
  have := h x hx
  show ((x.toNat : Nat) : Int) = x
  omega
theorem Up.low {l : List Int} {n : Nat} (h : Up l n) : ∀ x ∈ l, 0 ≤ x ∧ x < n := fun x hx => by
  obtain ⟨i, hi, rfl⟩ := List.getElem_of_mem hx
  exact h.each i hi
/-- A list that rises is what its set lists. -/
theorem memL_ris {l : List Int} (h : risB l 8 = true) : memL (toN l) = l := by
  have hu := ris_up (n := 8) h
  have e : memU (toN l) 8 = toN l := sorted_ext (List.Pairwise.filter _ List.pairwise_lt_range) hu.toNat fun x => by
    rw [memU_mem]
    refine ⟨fun h => h.2, fun h => ⟨?_, h⟩⟩
    obtain ⟨y, hy, rfl⟩ := List.mem_map.1 h
    have := hu.low y hy
    omega
  rw [memL, e, iL_toN fun x hx => (hu.low x hx).1]
/-- All of a list are in another. -/
def insI (a b : List Int) (k : Nat) : Bool := (a.take k).all fun x => inB x b
theorem insI_all (a b : List Int) : insI a b a.length = a.all fun x => inB x b := by rw [insI, List.take_length]
theorem insI_step {a b : List Int} {k : Nat} (h : k < a.length) : insI a b (k + 1) = (insI a b k && inB a[k] b) := by
  rw [insI, insI, List.take_succ_eq_append_getElem h, List.all_append]; simp
/-- A bag stands in another one, as far as k. -/
def covR (L : List (List Int)) (i : Nat) : Nat → Bool
  | 0 => false
  | k + 1 => covR L i k || (decide (k ≠ i) && ((L.getD i []).all (fun x => inB x (L.getD k [])) && (decide ((L.getD i []).length < (L.getD k []).length) || decide (k < i))))
theorem getD_ris {L : List (List Int)} {n i : Nat} (h : allRis L n = true) : risB (L.getD i []) n = true := by
  by_cases hi : i < L.length
  · rw [List.getD_eq_getElem?_getD, List.getElem?_eq_getElem hi]; exact allRis_at h hi
  · rw [List.getD_eq_getElem?_getD, List.getElem?_eq_none (by omega)]; rfl
theorem par_getD (L : List (List Int)) (i : Nat) : (parN L).getD i [] = toN (L.getD i []) := by
  rw [List.getD_eq_getElem?_getD, List.getD_eq_getElem?_getD, parN, List.getElem?_map]
  cases L[i]? <;> rfl
theorem nodup_up {l : List Nat} (h : l.Pairwise (· < ·)) : l.Nodup := h.imp fun h => Nat.ne_of_lt h
theorem sub_nat {a b : List Int} (ha : ∀ x ∈ a, 0 ≤ x) (hb : ∀ x ∈ b, 0 ≤ x) : (a.all fun x => inB x b) = true ↔ ∀ x ∈ toN a, x ∈ toN b := by
  rw [List.all_eq_true]
  constructor
  · intro h x hx
    obtain ⟨y, hy, rfl⟩ := List.mem_map.1 hx
    exact List.mem_map.2 ⟨y, inB_mem.1 (h y hy), rfl⟩
  · intro h x hx
    obtain ⟨y, hy, e⟩ := List.mem_map.1 (h x.toNat (List.mem_map.2 ⟨x, hx, rfl⟩))
    have h1 := ha x hx
    have h2 := hb y hy
    exact inB_mem.2 (by rw [show x = y by omega]; exact hy)
/-- Of two, one in the other: longer means more. -/
theorem len_more {a b : List Nat} (ha : a.Pairwise (· < ·)) (hb : b.Pairwise (· < ·)) (hs : ∀ x ∈ a, x ∈ b) : a.length < b.length ↔ mskN b ≠ mskN a := by
  constructor
  · intro hl e
    have : ∀ x ∈ b, x ∈ a := fun x hx => by
      have h1 := msk_bit a x
      have h2 := msk_bit b x
      rw [e, h1] at h2
      exact (decide_eq_decide.1 h2).2 hx
    have := nd_len (nodup_up hb) this
    omega
  · intro hne
    have hx : ∃ x, x ∈ b ∧ ¬ x ∈ a := by
      refine Classical.byContradiction fun hno => hne (msk_ext fun x => ⟨fun hx => Classical.byContradiction fun hn => hno ⟨x, hx, hn⟩, hs x⟩)
    obtain ⟨x, h1, h2⟩ := hx
    have := nd_len (l := x :: a) (m := b) (List.nodup_cons.2 ⟨h2, nodup_up ha⟩) fun y hy => by
      rcases List.mem_cons.1 hy with rfl | hy
      · exact h1
      · exact hs y hy
    rw [List.length_cons] at this
    omega
theorem covR_any {L : List (List Int)} (h : allRis L 8 = true) (i : Nat) : ∀ k, covR L i k = (List.range k).any fun j => covB (parN L) i j
  | 0 => rfl
  | k + 1 => by
    rw [covR, covR_any h i k, List.range_succ, List.any_append, List.any_cons, List.any_nil, Bool.or_false]
    congr 1
    have ui := ris_up (n := 8) (getD_ris (i := i) h)
    have uk := ris_up (n := 8) (getD_ris (i := k) h)
    rw [covB, par_getD, par_getD]
    refine Bool.eq_iff_iff.2 ?_
    rw [Bool.and_eq_true, Bool.and_eq_true, Bool.or_eq_true, decide_eq_true_iff, decide_eq_true_iff, decide_eq_true_iff, decide_eq_true_iff, sub_nat (fun x hx => (ui.low x hx).1) fun x hx => (uk.low x hx).1]
    refine and_congr_right fun _ => and_congr_right fun hs => or_congr_left ?_
    rw [← len_more ui.toNat uk.toNat hs, toN_length, toN_length]
theorem covR_kept {L : List (List Int)} (h : allRis L 8 = true) (i : Nat) : covR L i L.length = !keptB (parN L) i := by
  rw [covR_any h, keptB, parN_length, List.not_all_eq_any_not]
  simp
/-- The bags that are kept, as far as i. -/
def kpL (L : List (List Int)) (i : Nat) : List (List Int) := ((List.range i).filter fun j => !covR L j L.length).map fun j => L.getD j []
theorem kpL_yes {L : List (List Int)} {i : Nat} (h : covR L i L.length = false) : kpL L (i + 1) = kpL L i ++ [L.getD i []] := by rw [kpL, List.range_succ, List.filter_append, List.map_append, kpL]; simp [h]
theorem kpL_no {L : List (List Int)} {i : Nat} (h : covR L i L.length = true) : kpL L (i + 1) = kpL L i := by rw [kpL, List.range_succ, List.filter_append, List.map_append, kpL]; simp [h]
theorem kpL_ous {L : List (List Int)} (h : allRis L 8 = true) (i : Nat) : kpL L i = (ousL (parN L) i).map memL := by
  rw [kpL, ousL, List.map_map]
  have e : (fun j => !covR L j L.length) = keptB (parN L) := funext fun j => by rw [covR_kept h, Bool.not_not]
  rw [e]
  refine List.map_congr_left fun j _ => ?_
  show _ = memL ((parN L).getD j [])
  rw [par_getD, memL_ris (getD_ris h)]
/-- What two have in common, as far as k. -/
def comI (a b : List Int) (k : Nat) : List Int := (a.take k).filter fun x => inB x b
theorem comI_yes {a b : List Int} {k : Nat} (h : k < a.length) (hi : inB a[k] b = true) : comI a b (k + 1) = comI a b k ++ [a[k]] := by
  rw [comI, comI, List.take_succ_eq_append_getElem h, List.filter_append]; simp [hi]
theorem comI_no {a b : List Int} {k : Nat} (h : k < a.length) (hi : inB a[k] b = false) : comI a b (k + 1) = comI a b k := by
  rw [comI, comI, List.take_succ_eq_append_getElem h, List.filter_append]; simp [hi]
theorem inB_memL (x : Nat) (s : List Nat) : inB (x : Int) (memL s) = decide (x < 8 ∧ x ∈ s) := by
  refine Bool.eq_iff_iff.2 ?_
  rw [inB_mem, decide_eq_true_iff, memL, iL, List.mem_map]
  constructor
  · rintro ⟨y, hy, e⟩
    obtain rfl : y = x := by omega
    exact memU_mem.1 hy
  · exact fun h => ⟨x, memU_mem.2 h, rfl⟩
theorem comI_sep (C : List (List Nat)) (i j : Nat) : comI (memL (C.getD i [])) (memL (C.getD j [])) (memL (C.getD i [])).length = memL (sepN C i j) := by
  rw [comI, List.take_length]
  show ((memU (C.getD i []) 8).map fun x : Nat => (x : Int)).filter (fun x => inB x (memL (C.getD j []))) = (memU (sepN C i j) 8).map fun x : Nat => (x : Int)
  rw [List.filter_map]
  congr 1
  rw [memU, memU, sepN, List.filter_filter]
  refine List.filter_congr fun x hx => Bool.eq_iff_iff.2 ?_
  have := List.mem_range.1 hx
  show (inB (x : Int) (memL (C.getD j [])) && _) = true ↔ _
  rw [inB_memL, Bool.and_eq_true, decide_eq_true_iff, decide_eq_true_iff, decide_eq_true_iff, List.mem_filter, decide_eq_true_iff]
  exact ⟨fun ⟨⟨_, a⟩, b⟩ => ⟨b, a⟩, fun ⟨a, b⟩ => ⟨⟨this, b⟩, a⟩⟩
theorem sep_len (C : List (List Nat)) (i j : Nat) : (memL (sepN C i j)).length = comN C i j := by rw [memL, iL_length, comN, sepN]
theorem nrI_wide {C : List (List Nat)} {s : List Nat} {n : Nat} (hs : ∀ u ∈ s, u < n) : ∀ d, nrI C s (n + d) = nrI C s n
  | 0 => rfl
  | d + 1 => by
    rw [show n + (d + 1) = (n + d) + 1 by omega, nrI, if_neg fun h => by have := hs _ h; omega, nrI_wide hs d]
theorem nrJ_spec {C : List (List Nat)} {s : List Nat} {i : Nat} {st : NSt} : ∀ j, (nrJ C s i st j = st ∨ (nrJ C s i st j).a = i ∧ ¬ (nrJ C s i st j).b ∈ s ∧ (nrJ C s i st j).b < j ∧ (nrJ C s i st j).m = (comN C i (nrJ C s i st j).b : Int)) ∧ st.m ≤ (nrJ C s i st j).m ∧ ∀ j', j' < j → ¬ j' ∈ s → (comN C i j' : Int) ≤ (nrJ C s i st j).m
  | 0 => ⟨.inl rfl, Int.le_refl _, fun j' h => absurd h (Nat.not_lt_zero _)⟩
  | j + 1 => by
    obtain ⟨h1, h2, h3⟩ := nrJ_spec (C := C) (s := s) (i := i) (st := st) j
    rw [nrJ]
    by_cases hc : ¬ j ∈ s ∧ (nrJ C s i st j).m < (comN C i j : Int)
    · rw [if_pos hc]
      refine ⟨.inr ⟨rfl, hc.1, by show j < j + 1; omega, rfl⟩, ?_, fun j' h4 h5 => ?_⟩
      · show st.m ≤ (comN C i j : Int)
        omega
      · show (comN C i j' : Int) ≤ (comN C i j : Int)
        rcases Nat.lt_or_ge j' j with h6 | h6
        · have := h3 j' h6 h5; omega
        · rw [show j' = j by omega]; exact Int.le_refl _
    · rw [if_neg hc]
      refine ⟨h1.imp id fun ⟨a, b, c, d⟩ => ⟨a, b, by omega, d⟩, h2, fun j' h4 h5 => ?_⟩
      rcases Nat.lt_or_ge j' j with h6 | h6
      · exact h3 j' h6 h5
      · obtain rfl : j' = j := by omega
        have : ¬ (nrJ C s i st j').m < (comN C i j' : Int) := fun h => hc ⟨h5, h⟩
        omega
/-- Of one that is there and one that is not: the most in common. -/
theorem nrI_spec {C : List (List Nat)} {s : List Nat} : ∀ k, ((nrI C s k).m = -1 ∨ (nrI C s k).a ∈ s ∧ ¬ (nrI C s k).b ∈ s ∧ (nrI C s k).b < C.length ∧ (nrI C s k).m = (comN C (nrI C s k).a (nrI C s k).b : Int)) ∧ -1 ≤ (nrI C s k).m ∧ ∀ i, i < k → i ∈ s → ∀ j, j < C.length → ¬ j ∈ s → (comN C i j : Int) ≤ (nrI C s k).m
  | 0 => ⟨.inl rfl, Int.le_refl _, fun i h => absurd h (Nat.not_lt_zero _)⟩
  | k + 1 => by
    obtain ⟨h1, h2, h3⟩ := nrI_spec (C := C) (s := s) k
    rw [nrI]
    by_cases hk : k ∈ s
    · rw [if_pos hk]
      obtain ⟨g1, g2, g3⟩ := nrJ_spec (C := C) (s := s) (i := k) (st := nrI C s k) C.length
      refine ⟨?_, by omega, fun i h4 h5 j h6 h7 => ?_⟩
      · rcases g1 with e | ⟨a, b, c, d⟩
        · rw [e]; exact h1
        · exact .inr ⟨by rw [a]; exact hk, b, c, by rw [d, a]⟩
      · rcases Nat.lt_or_ge i k with h8 | h8
        · have := h3 i h8 h5 j h6 h7; omega
        · rw [show i = k by omega]; exact g3 j h6 h7
    · rw [if_neg hk]
      refine ⟨h1, h2, fun i h4 h5 j h6 h7 => ?_⟩
      rcases Nat.lt_or_ge i k with h8 | h8
      · exact h3 i h8 h5 j h6 h7
      · exact absurd (by rw [show k = i by omega]; exact h5) hk
theorem nrI_best {C : List (List Nat)} {s : List Nat} (h8 : C.length ≤ 8) (hs : ∀ u ∈ s, u < C.length) {i j : Nat} (hi : i ∈ s) (hj : j < C.length) (hjs : ¬ j ∈ s) : (nrI C s 8).a ∈ s ∧ ¬ (nrI C s 8).b ∈ s ∧ (nrI C s 8).b < C.length ∧ ∀ i, i ∈ s → ∀ j, j < C.length → ¬ j ∈ s → comN C i j ≤ comN C (nrI C s 8).a (nrI C s 8).b := by
  obtain ⟨h1, _, h3⟩ := nrI_spec (C := C) (s := s) 8
  have h4 := h3 i (by have := hs i hi; omega) hi j hj hjs
  rcases h1 with e | ⟨a, b, c, d⟩
  · omega
  · refine ⟨a, b, c, fun i hi j hj hjs => ?_⟩
    have := h3 i (by have := hs i hi; omega) hi j hj hjs
    omega
/-- Those that stand there: one more each time. -/
theorem thR_facts {C : List (List Nat)} (h8 : C.length ≤ 8) : ∀ t, t + 1 ≤ C.length → (thR C t).Nodup ∧ (thR C t).length = t + 1 ∧ 0 ∈ thR C t
  | 0, _ => ⟨by simp [thR], rfl, List.mem_cons_self⟩
  | t + 1, ht => by
    obtain ⟨h1, h2, h3⟩ := thR_facts h8 t (by omega)
    have hthl := thR_lt (C := C) (by omega) t
    obtain ⟨j, hj, hjs⟩ : ∃ j, j < C.length ∧ ¬ j ∈ thR C t := by
      refine Classical.byContradiction fun hno => ?_
      have := nd_len (l := List.range C.length) (m := thR C t) List.nodup_range fun x hx => Classical.byContradiction fun hx' => hno ⟨x, List.mem_range.1 hx, hx'⟩
      rw [List.length_range] at this
      omega
    obtain ⟨_, b2, _⟩ := nrI_best h8 hthl h3 hj hjs
    exact ⟨List.nodup_cons.2 ⟨b2, h1⟩, by rw [thR, List.length_cons, h2], List.mem_cons_of_mem _ h3⟩
/-- The two that are linked next. -/
theorem nrI_next {C : List (List Nat)} (h8 : C.length ≤ 8) {t : Nat} (ht : t + 1 < C.length) : (nrI C (thR C t) 8).m = (comN C (nrI C (thR C t) 8).a (nrI C (thR C t) 8).b : Int) ∧ nrI C (thR C t) 8 = nrI C (thR C t) C.length := by
  obtain ⟨h1, h2, h3⟩ := thR_facts h8 t (by omega)
  have hthl := thR_lt (C := C) (by omega) t
  obtain ⟨j, hj, hjs⟩ : ∃ j, j < C.length ∧ ¬ j ∈ thR C t := by
    refine Classical.byContradiction fun hno => ?_
    have := nd_len (l := List.range C.length) (m := thR C t) List.nodup_range fun x hx => Classical.byContradiction fun hx' => hno ⟨x, List.mem_range.1 hx, hx'⟩
    rw [List.length_range] at this
    omega
  have hw := nrI_wide (C := C) hthl (8 - C.length)
  rw [show C.length + (8 - C.length) = 8 by omega] at hw
  refine ⟨?_, hw⟩
  obtain ⟨g1, _, g3⟩ := nrI_spec (C := C) (s := thR C t) 8
  rcases g1 with g1 | g1
  · have := g3 0 (by omega) h3 j hj hjs
    omega
  · exact g1.2.2.2
/-- One clique held against those as far as b. -/
def nrB (C : List (List Nat)) (s : List Nat) (a b : Nat) : NSt := if a ∈ s then nrJ C s a (nrI C s a) b else nrI C s a
theorem nrB_zero (C : List (List Nat)) (s : List Nat) (a : Nat) : nrB C s a 0 = nrI C s a := by
  rw [nrB]; split <;> rfl
theorem nrB_all (C : List (List Nat)) (s : List Nat) (a : Nat) : nrB C s a C.length = nrI C s (a + 1) := rfl
theorem nrB_out {C : List (List Nat)} {s : List Nat} {a : Nat} (h : ¬ a ∈ s) (b : Nat) : nrB C s a (b + 1) = nrB C s a b := by rw [nrB, nrB, if_neg h, if_neg h]
theorem nrB_in {C : List (List Nat)} {s : List Nat} {a : Nat} (b : Nat) (h2 : b ∈ s) : nrB C s a (b + 1) = nrB C s a b := by
  by_cases h : a ∈ s
  · rw [nrB, nrB, if_pos h, if_pos h, nrJ, if_neg fun h' => h'.1 h2]
  · exact nrB_out h b
theorem nrB_yes {C : List (List Nat)} {s : List Nat} {a : Nat} {b : Nat} (h : a ∈ s) (h2 : ¬ b ∈ s) (hm : (nrB C s a b).m < (comN C a b : Int)) : nrB C s a (b + 1) = ⟨a, b, (comN C a b : Int)⟩ := by
  rw [nrB, if_pos h] at hm
  rw [nrB, if_pos h, nrJ, if_pos ⟨h2, hm⟩]
theorem nrB_no {C : List (List Nat)} {s : List Nat} {a : Nat} {b : Nat} (h : a ∈ s) (hm : ¬ (nrB C s a b).m < (comN C a b : Int)) : nrB C s a (b + 1) = nrB C s a b := by
  rw [nrB, if_pos h] at hm
  rw [nrB, nrB, if_pos h, if_pos h, nrJ, if_neg fun h' => hm h'.2]
theorem bags_ris {L : List (List Int)} {i : Nat} (h : i < L.length) (e : risB L[i] 8 = false) : bagsB L = false := by
  rw [bagsB, allRis_bad h e]; simp
theorem bags_nil {L : List (List Int)} {i : Nat} (h : i < L.length) (e : L[i] = []) : bagsB L = false := by
  have : 0 ∈ masks L := List.mem_map.2 ⟨L[i], List.getElem_mem h, by rw [e]; rfl⟩
  rw [bagsB, decide_eq_true this]; simp
theorem bags_len {L : List (List Int)} (h : ¬ (1 ≤ L.length ∧ L.length ≤ 8)) : bagsB L = false := by
  rw [bagsB, decide_eq_false h]; rfl
theorem bags_good {L : List (List Int)} (h : 1 ≤ L.length ∧ L.length ≤ 8) (hi : ∀ i (hi : i < L.length), risB L[i] 8 = true ∧ L[i] ≠ []) : bagsB L = true ∧ allRis L 8 = true := by
  have hr : allRis L 8 = true := List.all_eq_true.2 fun l hl => by
    obtain ⟨i, h1, rfl⟩ := List.getElem_of_mem hl
    exact (hi i h1).1
  have hz : ¬ 0 ∈ masks L := fun hm => by
    obtain ⟨l, hl, e⟩ := List.mem_map.1 hm
    obtain ⟨i, h1, rfl⟩ := List.getElem_of_mem hl
    obtain ⟨g1, g2⟩ := hi i h1
    obtain ⟨x, hx⟩ := List.exists_mem_of_ne_nil _ g2
    have hb := msk_bit (toN L[i]) x.toNat
    rw [e, decide_eq_true (p := x.toNat ∈ toN L[i]) (List.mem_map.2 ⟨x, hx, rfl⟩), Nat.zero_testBit] at hb
    cases hb
  exact ⟨by rw [bagsB, decide_eq_true h, hr, decide_eq_false hz]; rfl, hr⟩
end Go.Proofs.Ythcfgoknphpkdaa


/- The document's answers: inside, common, lacks. -/
namespace Go.Proofs.Ythcfgoknphpkdaa
open Go.RowKit Go.Shelf

end Go.Proofs.Ythcfgoknphpkdaa


/- The document's answer: lacks. -/
namespace Go.Proofs.Ythcfgoknphpkdaa
open Go.RowKit Go.Shelf

theorem prsB_succ (f : Nat → Nat → Bool) (m : Nat) : prsB f (m + 1) = prsB f m + cntB (f m) m := rfl
theorem cntB_yes {f : Nat → Bool} {m : Nat} (h : f m = true) : cntB f (m + 1) = cntB f m + 1 := by rw [cntB, if_pos h]
theorem cntB_no {f : Nat → Bool} {m : Nat} (h : f m = false) : cntB f (m + 1) = cntB f m := by rw [cntB, if_neg (by rw [h]; decide), Nat.add_zero]
theorem cntB_le (f : Nat → Bool) : ∀ m, cntB f m ≤ m
  | 0 => Nat.le_refl _
  | m + 1 => by
    have := cntB_le f m
    cases h : f m
    · rw [cntB_no h]; omega
    · rw [cntB_yes h]; omega
theorem prsB_le (f : Nat → Nat → Bool) : ∀ m, prsB f m ≤ m * m
  | 0 => Nat.le_refl _
  | m + 1 => by
    have h1 := prsB_le f m
    have h2 := cntB_le (f m) m
    rw [prsB_succ, Nat.add_mul, Nat.mul_add]
    omega

end Go.Proofs.Ythcfgoknphpkdaa

