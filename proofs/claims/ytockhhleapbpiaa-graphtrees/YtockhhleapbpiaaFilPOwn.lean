/- Plain: what fill does and what the document says of it come to the same: edges that lack, the first least, bags, who is near whom. -/
import Derived.Test.YtockhhleapbpiaaFilOOwn
import Derived.Test.YtockhhleapbpiaaOrdCToNeaA
namespace Go.Proofs.Ytockhhleapbpiaa
open Go.RowKit Go.Shelf

/-- The bag of a step, as a list that rises. -/
def bagN (P : List (List Nat)) (n k : Nat) : List Nat := memU (outV P n k :: (flS P n k).nei.getD (outV P n k) []) 8
/-- The matrix of edges, step by step: edges come in, none goes. -/
def emB (P : List (List Nat)) (n : Nat) : Nat → Nat → Nat → Bool
  | 0, v, u => decide (u ∈ P.getD v [])
  | k + 1, v, u => emB P n k v u || (decide (v ≠ u) && (decide (v ∈ bagN P n k) && decide (u ∈ bagN P n k)))
theorem flS_seq (P : List (List Nat)) (n : Nat) : ∀ k, (flS P n k).ord = (List.range k).map (outV P n)
  | 0 => rfl
  | k + 1 => by rw [List.range_succ, List.map_append, ← flS_seq P n k]; rfl
theorem flS_bags (P : List (List Nat)) (n k : Nat) : (flS P n k).bag.map memL = (List.range k).map fun i => iL (bagN P n i) := by rw [flS_ord, List.map_map]; rfl
theorem FI.gone {P : List (List Nat)} {n k : Nat} (h : FI P n k) {v : Nat} (hv : v < n) : v ∈ (flS P n k).lft ↔ ¬ v ∈ (List.range k).map (outV P n) := by
  rw [h.left]
  constructor
  · rintro ⟨_, h2⟩ hm
    obtain ⟨i, hi, e⟩ := List.mem_map.1 hm
    exact h2 i (List.mem_range.1 hi) e
  · exact fun hm => ⟨hv, fun i hi e => hm (List.mem_map.2 ⟨i, List.mem_range.2 hi, e⟩)⟩
theorem FI.bag {P : List (List Nat)} {n k : Nat} (h : FI P n k) (hk : k < n) (h8 : n ≤ 8) {u : Nat} : u ∈ bagN P n k ↔ u = outV P n k ∨ u ∈ (flS P n k).nei.getD (outV P n k) [] := by
  have hv := h.here hk h8
  rw [bagN, memU_mem, List.mem_cons]
  refine ⟨fun h => h.2, fun hu => ⟨?_, hu⟩⟩
  rcases hu with e | hu
  · have := ((h.left _).1 hv).1; omega
  · have := ((h.left _).1 (h.sym _ hv u hu).1).1; omega
theorem FI.em {P : List (List Nat)} {n : Nat} (hN : Nbr n P) (hF : ∀ k, k ≤ n → FI P n k) (h8 : n ≤ 8) : ∀ k, k ≤ n → ∀ u w, u ∈ (flS P n k).lft → w ∈ (flS P n k).lft → (emB P n k u w = true ↔ w ∈ (flS P n k).nei.getD u [])
  | 0, _, u, w, _, _ => by rw [emB, decide_eq_true_iff]; exact Iff.rfl
  | k + 1, hk, u, w, hu, hw => by
    have h := hF k (by omega)
    have hl : ∀ x, x ∈ (flS P n (k + 1)).lft ↔ x ∈ (flS P n k).lft ∧ x ≠ outV P n k := fun x => by
      show x ∈ (flS P n k).lft.filter (fun u => decide (u ≠ outV P n k)) ↔ _
      rw [List.mem_filter, decide_eq_true_iff]
    obtain ⟨u1, u2⟩ := (hl u).1 hu
    obtain ⟨w1, w2⟩ := (hl w).1 hw
    have hv := h.here (by omega) h8
    rw [h.next hN (by omega) h8 u1 u2, emB, Bool.or_eq_true, FI.em hN hF h8 k (by omega) u w u1 w1, Bool.and_eq_true, Bool.and_eq_true, decide_eq_true_iff, decide_eq_true_iff, decide_eq_true_iff, h.bag (by omega) h8, h.bag (by omega) h8]
    constructor
    · rintro (a | ⟨a, b, c⟩)
      · exact ⟨w2, (h.sym u u1 w a).2.2, .inl a⟩
      · exact ⟨w2, a, .inr ⟨(h.sym _ hv u (b.resolve_left u2)).2.1, c.resolve_left w2⟩⟩
    · rintro ⟨_, a, b | b⟩
      · exact .inl b
      · exact .inr ⟨a, .inr (h.sym u u1 _ b.1).2.1, .inr b.2⟩
/-- How many, as far as m. -/
def cntB (f : Nat → Bool) : Nat → Nat
  | 0 => 0
  | m + 1 => cntB f m + (if f m = true then 1 else 0)
/-- How many pairs, the first the greater one, as far as m. -/
def prsB (f : Nat → Nat → Bool) : Nat → Nat
  | 0 => 0
  | m + 1 => prsB f m + cntB (f m) m
def sumN (f : Nat → Nat) : Nat → Nat
  | 0 => 0
  | m + 1 => sumN f m + f m
theorem cntB_congr {f g : Nat → Bool} : ∀ {m : Nat}, (∀ x, x < m → f x = g x) → cntB f m = cntB g m
  | 0, _ => rfl
  | m + 1, h => by rw [cntB, cntB, cntB_congr fun x hx => h x (by omega), h m (by omega)]
theorem prsB_congr {f g : Nat → Nat → Bool} : ∀ {m : Nat}, (∀ x y, x < m → y < x → f x y = g x y) → prsB f m = prsB g m
  | 0, _ => rfl
  | m + 1, h => by rw [prsB, prsB, prsB_congr fun x y hx hy => h x y (by omega) hy, cntB_congr fun y hy => h m y (by omega) hy]
theorem sumN_congr {f g : Nat → Nat} : ∀ {m : Nat}, (∀ x, x < m → f x = g x) → sumN f m = sumN g m
  | 0, _ => rfl
  | m + 1, h => by rw [sumN, sumN, sumN_congr fun x hx => h x (by omega), h m (by omega)]
theorem sumN_add (f g : Nat → Nat) : ∀ m, sumN (fun x => f x + g x) m = sumN f m + sumN g m
  | 0 => rfl
  | m + 1 => by rw [sumN, sumN, sumN, sumN_add f g m]; omega
theorem cntB_none {f : Nat → Bool} : ∀ {m : Nat}, (∀ x, x < m → f x = false) → cntB f m = 0
  | 0, _ => rfl
  | m + 1, h => by rw [cntB, cntB_none fun x hx => h x (by omega), h m (by omega)]; rfl
theorem sum_ind (f : Nat → Bool) : ∀ m, sumN (fun x => if f x = true then 1 else 0) m = cntB f m
  | 0 => rfl
  | m + 1 => by rw [sumN, cntB, sum_ind f m]
/-- Pairs counted from both ends. -/
theorem both_ends {g : Nat → Nat → Bool} (hs : ∀ a b, g a b = g b a) (hi : ∀ a, g a a = false) : ∀ m, sumN (fun u => cntB (g u) m) m = 2 * prsB g m
  | 0 => rfl
  | m + 1 => by
    have ih := both_ends hs hi m
    have e1 : sumN (fun u => cntB (g u) (m + 1)) m = sumN (fun u => cntB (g u) m) m + cntB (g m) m := by
      have : sumN (fun u => cntB (g u) (m + 1)) m = sumN (fun u => cntB (g u) m + (if g u m = true then 1 else 0)) m := rfl
      rw [this, sumN_add, sum_ind fun u => g u m]
      congr 1
      exact cntB_congr fun x _ => hs x m
    have e2 : cntB (g m) (m + 1) = cntB (g m) m := by rw [cntB, hi]; rfl
    rw [sumN, e1, e2, ih, prsB]
    omega
theorem prsB_wide {g : Nat → Nat → Bool} {n : Nat} (h : ∀ a b, g a b = true → a < n) : ∀ d, prsB g (n + d) = prsB g n
  | 0 => rfl
  | d + 1 => by
    have e : cntB (g (n + d)) (n + d) = 0 := cntB_none fun x _ => by
      cases hg : g (n + d) x
      · rfl
      · have := h _ _ hg; omega
    rw [show n + (d + 1) = (n + d) + 1 by omega, prsB, e, prsB_wide h d, Nat.add_zero]
theorem memU_cnt (s : List Nat) : ∀ k, (memU s k).length = cntB (fun x => decide (x ∈ s)) k
  | 0 => rfl
  | k + 1 => by
    by_cases h : k ∈ s
    · rw [memU_yes h, List.length_append, memU_cnt s k, cntB, if_pos (decide_eq_true h)]; rfl
    · rw [memU_no h, memU_cnt s k, cntB, if_neg (by rw [decide_eq_true_iff]; exact h), Nat.add_zero]
theorem endsN_sum (B : List (List Nat)) (v : Nat) : ∀ k, endsN B v k = sumN (fun u => if u ∈ B.getD v [] then lackE B v u else 0) k
  | 0 => by simp [endsN, memU, sumN]
  | k + 1 => by
    by_cases h : k ∈ B.getD v []
    · rw [endsN, memU_yes h, List.map_append, List.sum_append, sumN, if_pos h, ← endsN_sum B v k, endsN]; simp
    · rw [endsN, memU_no h, sumN, if_neg h, ← endsN_sum B v k, endsN, Nat.add_zero]
/-- What the document's answer counts. -/
def lkF (e : Nat → Nat → Bool) (o : List Nat) (v a b : Nat) : Bool := !decide (a ∈ o) && (!decide (b ∈ o) && (e v a && (e v b && !e a b)))
theorem FI.lacks {P : List (List Nat)} {n k : Nat} (hN : Nbr n P) (hF : ∀ k, k ≤ n → FI P n k) (h8 : n ≤ 8) (hk : k ≤ n) {v : Nat} (hv : v ∈ (flS P n k).lft) : prsB (lkF (emB P n k) ((List.range k).map (outV P n)) v) n = lackN (flS P n k).nei v := by
  have h := hF k hk
  have hem := FI.em hN hF h8 k hk
  let g : Nat → Nat → Bool := fun a b => decide (a ∈ (flS P n k).nei.getD v []) && (decide (b ∈ (flS P n k).nei.getD v []) && (decide (a ≠ b) && !decide (b ∈ (flS P n k).nei.getD a [])))
  have hlft : ∀ a, a ∈ (flS P n k).nei.getD v [] → a ∈ (flS P n k).lft := fun a ha => (h.sym v hv a ha).1
  have hg : ∀ a b, g a b = true ↔ a ∈ (flS P n k).nei.getD v [] ∧ b ∈ (flS P n k).nei.getD v [] ∧ a ≠ b ∧ ¬ b ∈ (flS P n k).nei.getD a [] := fun a b => by
    show (decide _ && (decide _ && (decide _ && !decide _))) = true ↔ _
    rw [Bool.and_eq_true, Bool.and_eq_true, Bool.and_eq_true, Bool.not_eq_true', decide_eq_true_iff, decide_eq_true_iff, decide_eq_true_iff, decide_eq_false_iff_not]
  have hgs : ∀ a b, g a b = g b a := fun a b => Bool.eq_iff_iff.2 <| by
    rw [hg, hg]
    exact ⟨fun ⟨p, q, r, s⟩ => ⟨q, p, fun e => r e.symm, fun hm => s (h.sym b (hlft b q) a hm).2.1⟩, fun ⟨p, q, r, s⟩ => ⟨q, p, fun e => r e.symm, fun hm => s (h.sym a (hlft a q) b hm).2.1⟩⟩
  have hgi : ∀ a, g a a = false := fun a => by
    cases e : g a a
    · rfl
    · exact absurd rfl ((hg a a).1 e).2.2.1
  have hln : ∀ a b, g a b = true → a < n := fun a b e => ((h.left a).1 (hlft a ((hg a b).1 e).1)).1
  have e1 : prsB (lkF (emB P n k) ((List.range k).map (outV P n)) v) n = prsB g n := prsB_congr fun a b ha hb => by
    refine Bool.eq_iff_iff.2 ?_
    rw [hg, lkF, Bool.and_eq_true, Bool.and_eq_true, Bool.and_eq_true, Bool.and_eq_true, Bool.not_eq_true', Bool.not_eq_true', Bool.not_eq_true', decide_eq_false_iff_not, decide_eq_false_iff_not, ← h.gone ha, ← h.gone (show b < n by omega)]
    constructor
    · rintro ⟨p, q, r, s, t⟩
      refine ⟨(hem v a hv p).1 r, (hem v b hv q).1 s, by omega, fun hm => ?_⟩
      rw [(hem a b p q).2 hm] at t
      cases t
    · rintro ⟨p, q, r, s⟩
      refine ⟨hlft a p, hlft b q, (hem v a hv (hlft a p)).2 p, (hem v b hv (hlft b q)).2 q, ?_⟩
      cases e : emB P n k a b
      · rfl
      · exact absurd ((hem a b (hlft a p) (hlft b q)).1 e) s
  have e2 : prsB g 8 = prsB g n := by
    have := prsB_wide hln (8 - n)
    rwa [show n + (8 - n) = 8 by omega] at this
  have e3 : endsN (flS P n k).nei v 8 = sumN (fun u => cntB (g u) 8) 8 := by
    rw [endsN_sum]
    refine sumN_congr fun u _ => ?_
    by_cases hu : u ∈ (flS P n k).nei.getD v []
    · rw [if_pos hu, lackE, memU_cnt]
      refine cntB_congr fun x _ => Bool.eq_iff_iff.2 ?_
      rw [hg, decide_eq_true_iff, List.mem_filter, List.mem_filter, decide_eq_true_iff, decide_eq_true_iff]
      exact ⟨fun ⟨⟨a, b⟩, c⟩ => ⟨hu, a, fun e => c e.symm, b⟩, fun ⟨_, a, b, c⟩ => ⟨⟨a, c⟩, fun e => b e.symm⟩⟩
    · rw [if_neg hu]
      refine (cntB_none fun x _ => ?_).symm
      cases e : g u x
      · rfl
      · exact absurd ((hg u x).1 e).1 hu
  rw [e1, lackN, e3, both_ends hgs hgi, e2]
  omega
/-- The first least from j on, found from the last on. -/
def dnN (f : Nat → Nat) (s : List Nat) (n : Nat) : Nat → Option (Nat × Nat)
  | 0 => none
  | d + 1 => if n - 1 - d ∈ s then (match dnN f s n d with | none => some (n - 1 - d, f (n - 1 - d)) | some (b, m) => if f (n - 1 - d) ≤ m then some (n - 1 - d, f (n - 1 - d)) else some (b, m)) else dnN f s n d
/-- A first least one. -/
def FLs (f : Nat → Nat) (s : List Nat) (lo hi : Nat) (r : Option (Nat × Nat)) : Prop := match r with
  | none => ∀ x, x ∈ s → lo ≤ x → x < hi → False
  | some (b, m) => m = f b ∧ b ∈ s ∧ lo ≤ b ∧ b < hi ∧ ∀ x, x ∈ s → lo ≤ x → x < hi → f b < f x ∨ (f b = f x ∧ b ≤ x)
theorem FLs.one {f : Nat → Nat} {s : List Nat} {lo hi : Nat} {r r' : Option (Nat × Nat)} (h : FLs f s lo hi r) (h' : FLs f s lo hi r') : r = r' := by
  cases r with
  | none =>
    cases r' with
    | none => rfl
    | some p =>
      obtain ⟨b, m⟩ := p
      exact (h b h'.2.1 h'.2.2.1 h'.2.2.2.1).elim
  | some p =>
    obtain ⟨b, m⟩ := p
    cases r' with
    | none => exact (h' b h.2.1 h.2.2.1 h.2.2.2.1).elim
    | some p' =>
      obtain ⟨b', m'⟩ := p'
      obtain ⟨rfl, a2, a3, a4, a5⟩ := h
      obtain ⟨rfl, c2, c3, c4, c5⟩ := h'
      have h1 := a5 b' c2 c3 c4
      have h2 := c5 b a2 a3 a4
      obtain rfl : b = b' := by omega
      rfl
theorem fwN_spec {f : Nat → Nat} {s : List Nat} : ∀ k, FLs f s 0 k (fwN f s k)
  | 0 => fun x _ _ h => absurd h (Nat.not_lt_zero _)
  | k + 1 => by
    have ih := fwN_spec (f := f) (s := s) k
    rw [fwN]
    by_cases hk : k ∈ s
    · rw [if_pos hk]
      cases hf : fwN f s k with
      | none =>
        rw [hf] at ih
        refine ⟨rfl, hk, Nat.zero_le _, by omega, fun x hx h0 hl => ?_⟩
        rcases Nat.lt_or_ge x k with h | h
        · exact (ih x hx h0 h).elim
        · exact .inr ⟨by rw [show x = k by omega], h⟩
      | some p =>
        obtain ⟨b, m⟩ := p
        rw [hf] at ih
        obtain ⟨rfl, a2, a3, a4, a5⟩ := ih
        simp only
        by_cases hl : f k < f b
        · rw [if_pos hl]
          refine ⟨rfl, hk, Nat.zero_le _, by omega, fun x hx h0 hx' => ?_⟩
          rcases Nat.lt_or_ge x k with h | h
          · have := a5 x hx h0 h; omega
          · exact .inr ⟨by rw [show x = k by omega], h⟩
        · rw [if_neg hl]
          refine ⟨rfl, a2, a3, by omega, fun x hx h0 hx' => ?_⟩
          rcases Nat.lt_or_ge x k with h | h
          · exact a5 x hx h0 h
          · obtain rfl : x = k := by omega
            omega
    · rw [if_neg hk]
      revert ih
      cases fwN f s k with
      | none =>
        intro ih x hx h0 hx'
        rcases Nat.lt_or_ge x k with h | h
        · exact ih x hx h0 h
        · exact hk (by rw [show k = x by omega]; exact hx)
      | some p =>
        obtain ⟨b, m⟩ := p
        rintro ⟨a1, a2, a3, a4, a5⟩
        refine ⟨a1, a2, a3, by omega, fun x hx h0 hx' => ?_⟩
        rcases Nat.lt_or_ge x k with h | h
        · exact a5 x hx h0 h
        · exact absurd (by rw [show k = x by omega]; exact hx) hk
theorem dnN_spec {f : Nat → Nat} {s : List Nat} {n : Nat} : ∀ d, d ≤ n → FLs f s (n - d) n (dnN f s n d)
  | 0, _ => fun x _ h h' => by omega
  | d + 1, hd => by
    have ih := dnN_spec (f := f) (s := s) (n := n) d (by omega)
    rw [dnN]
    generalize hj : n - 1 - d = j
    have hj1 : n - d = j + 1 := by omega
    have hj2 : n - (d + 1) = j := by omega
    rw [hj1] at ih
    rw [hj2]
    by_cases hk : j ∈ s
    · rw [if_pos hk]
      cases hf : dnN f s n d with
      | none =>
        rw [hf] at ih
        refine ⟨rfl, hk, Nat.le_refl _, by omega, fun x hx h0 hl => ?_⟩
        rcases Nat.lt_or_ge j x with h | h
        · exact (ih x hx h hl).elim
        · exact .inr ⟨by rw [show x = j by omega], h0⟩
      | some p =>
        obtain ⟨b, m⟩ := p
        rw [hf] at ih
        obtain ⟨rfl, a2, a3, a4, a5⟩ := ih
        simp only
        by_cases hl : f j ≤ f b
        · rw [if_pos hl]
          refine ⟨rfl, hk, Nat.le_refl _, by omega, fun x hx h0 hx' => ?_⟩
          rcases Nat.lt_or_ge j x with h | h
          · have := a5 x hx h hx'; omega
          · exact .inr ⟨by rw [show x = j by omega], h0⟩
        · rw [if_neg hl]
          refine ⟨rfl, a2, by omega, a4, fun x hx h0 hx' => ?_⟩
          rcases Nat.lt_or_ge j x with h | h
          · exact a5 x hx h hx'
          · obtain rfl : x = j := by omega
            omega
    · rw [if_neg hk]
      revert ih
      cases dnN f s n d with
      | none =>
        intro ih x hx h0 hx'
        rcases Nat.lt_or_ge j x with h | h
        · exact ih x hx h hx'
        · exact hk (by rw [show j = x by omega]; exact hx)
      | some p =>
        obtain ⟨b, m⟩ := p
        rintro ⟨a1, a2, a3, a4, a5⟩
        refine ⟨a1, a2, by omega, a4, fun x hx h0 hx' => ?_⟩
        rcases Nat.lt_or_ge j x with h | h
        · exact a5 x hx h hx'
        · exact absurd (by rw [show j = x by omega]; exact hx) hk
theorem dn_few {P : List (List Nat)} {s : List Nat} {n : Nat} (h8 : n ≤ 8) (hs : ∀ u ∈ s, u < n) : fwB (dnN (lackN P) s n n) = fewV P s := by
  have h1 := dnN_spec (f := lackN P) (s := s) (n := n) n (Nat.le_refl _)
  have h2 := fwN_spec (f := lackN P) (s := s) 8
  rw [Nat.sub_self] at h1
  rw [fewV]
  congr 1
  refine h1.one (hi := n) ?_
  revert h2
  cases fwN (lackN P) s 8 with
  | none => exact fun h x hx h0 hl => h x hx h0 (by omega)
  | some p =>
    obtain ⟨b, m⟩ := p
    rintro ⟨a1, a2, a3, a4, a5⟩
    exact ⟨a1, a2, a3, hs b a2, fun x hx h0 hl => a5 x hx h0 (by omega)⟩
/-- The bag as the document's answer gathers it, as far as u. -/
def bgL (P : List (List Nat)) (n k u : Nat) : List Nat := (List.range u).filter fun u => !decide (u ∈ (List.range k).map (outV P n)) && (decide (u = outV P n k) || emB P n k (outV P n k) u)
theorem FI.bgL {P : List (List Nat)} {n k : Nat} (hN : Nbr n P) (hF : ∀ k, k ≤ n → FI P n k) (h8 : n ≤ 8) (hk : k < n) : bgL P n k n = bagN P n k := by
  have h := hF k (by omega)
  have hv := h.here hk h8
  have hem := FI.em hN hF h8 k (by omega)
  have e : ∀ d, memU (outV P n k :: (flS P n k).nei.getD (outV P n k) []) (n + d) = memU (outV P n k :: (flS P n k).nei.getD (outV P n k) []) n := fun d => by
    induction d with
    | zero => rfl
    | succ d ih =>
      rw [show n + (d + 1) = (n + d) + 1 by omega, memU_no, ih]
      intro hm
      rcases List.mem_cons.1 hm with e | hm
      · have := ((h.left _).1 hv).1; omega
      · have := ((h.left _).1 (h.sym _ hv _ hm).1).1; omega
  have e8 := e (8 - n)
  rw [show n + (8 - n) = 8 by omega] at e8
  rw [bagN, e8, Go.Proofs.Ytockhhleapbpiaa.bgL, memU]
  refine List.filter_congr fun u hu => Bool.eq_iff_iff.2 ?_
  have hu' := List.mem_range.1 hu
  rw [Bool.and_eq_true, Bool.or_eq_true, Bool.not_eq_true', decide_eq_false_iff_not, decide_eq_true_iff, decide_eq_true_iff, List.mem_cons, ← h.gone hu']
  constructor
  · rintro ⟨a, b | b⟩
    · exact .inl b
    · exact .inr ((hem _ u hv a).1 b)
  · rintro (b | b)
    · exact ⟨by rw [b]; exact hv, .inl b⟩
    · exact ⟨(h.sym _ hv u b).1, .inr ((hem _ u hv (h.sym _ hv u b).1).2 b)⟩
/-- Neighbours of neighbours. -/
theorem near_iff {L : List (List Int)} (hg : gB L = true) : nearB L = true ↔ ∀ v u, v < L.length → u < L.length → (decide (u ∈ (parN L).getD v []) = decide (v ∈ (parN L).getD u [])) := by
  rw [nearB, hg, Bool.true_and, decide_eq_true_iff, masks_par]
  have hl : ∀ v, v < L.length → v < (parN L).length := fun v hv => by rw [parN_length]; exact hv
  have hlt := par_lt hg
  have hat : ∀ v, v < L.length → ∀ u, u ∈ (parN L).getD v [] → u < L.length := fun v hv u hu => by
    rw [List.getD_eq_getElem?_getD, List.getElem?_eq_getElem (hl v hv)] at hu
    exact hlt _ (List.getElem_mem (hl v hv)) u hu
  have key : ∀ v, v < L.length → ((((parN L).map mskN)[v]? = ((chA (parN L) L.length L.length).map mskN)[v]?) ↔ ∀ u, u < L.length → (decide (u ∈ (parN L).getD v []) = decide (v ∈ (parN L).getD u []))) := fun v hv => by
    have e1 : ((parN L).map mskN)[v]? = some (mskN ((parN L).getD v [])) := by rw [List.getElem?_map, List.getD_eq_getElem?_getD, List.getElem?_eq_getElem (hl v hv)]; rfl
    have e2 : ((chA (parN L) L.length L.length).map mskN)[v]? = some (mskN (chL (parN L) v L.length)) := by simp [chA, hv]
    rw [e1, e2]
    constructor
    · intro e u hu
      have e' := Option.some.inj e
      have h1 := msk_bit ((parN L).getD v []) u
      have h2 := msk_bit (chL (parN L) v L.length) u
      rw [← h1, e', h2, decide_eq_decide, chL_mem]
      exact ⟨fun h => h.2, fun h => ⟨hu, h⟩⟩
    · intro h
      congr 1
      refine msk_ext fun u => ?_
      rw [chL_mem]
      constructor
      · intro hu
        have := hat v hv u hu
        exact ⟨this, (decide_eq_decide.1 (h u this)).1 hu⟩
      · exact fun hu => (decide_eq_decide.1 (h u hu.1)).2 hu.2
  constructor
  · intro e v u hv hu
    exact (key v hv).1 (by rw [e]) u hu
  · intro h
    refine List.ext_getElem? fun v => ?_
    rcases Nat.lt_or_ge v L.length with hv | hv
    · exact (key v hv).2 fun u hu => h v u hv hu
    · rw [List.getElem?_eq_none (by rw [List.length_map, parN_length]; exact hv), List.getElem?_eq_none (by rw [List.length_map, chA_length]; exact hv)]
end Go.Proofs.Ytockhhleapbpiaa

