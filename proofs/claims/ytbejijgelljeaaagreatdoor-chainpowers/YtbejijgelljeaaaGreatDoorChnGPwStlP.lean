/- Hits of package chain. -/
import Derived.Test.YtbejijgelljeaaaGreatDoorAnyUPwChnF
import Derived.Test.YtbejijgelljeaaaGreatDoorChnDPw
namespace Go.Proofs.YtbejijgelljeaaaGreatDoor
open Go.RowKit Go.Shelf
theorem lsm_const : ∀ l : List Nat, lsm (fun _ => 1) l = (l.length : Rat)
  | [] => rfl
  | x :: l => by rw [lsm, lsm_const l, List.length_cons, Rat.natCast_add, Rat.add_comm]; rfl
theorem sumR_const : ∀ n : Nat, sumR (fun _ => 1) n = (n : Rat)
  | 0 => rfl
  | n + 1 => by rw [sumR, sumR_const n, Rat.natCast_add]; rfl
theorem nod_most {n : Nat} {l : List Nat} (h : l.Nodup) (hl : ∀ x ∈ l, x < n) : l.length ≤ n := by
  have h1 := lsm_le (n := n) (f := fun _ => 1) (fun _ _ => by decide) h hl
  rw [lsm_const, sumR_const] at h1
  exact_mod_cast h1
theorem sprQ_on {l : List Nat} {x : Nat → Rat} (hn : l.Nodup) : ∀ {m k : Nat}, m ≤ l.length → k < m → sprQ l x m (l.getD k 0) = x k
  | m + 1, k, hm, hk => by
    show (if l.getD k 0 = l.getD m 0 then x m else _) = _
    by_cases e : k = m
    · rw [e, if_pos rfl]
    · rw [if_neg fun h => e ?_]
      · exact sprQ_on hn (by omega) (by omega)
      · have h1 : l.getD k 0 = l[k]'(by omega) := by rw [List.getD_eq_getElem?_getD, List.getElem?_eq_getElem (by omega)]; rfl
        have h2 : l.getD m 0 = l[m]'(by omega) := by rw [List.getD_eq_getElem?_getD, List.getElem?_eq_getElem (by omega)]; rfl
        exact nodup_at hn (by omega) (by omega) (by rw [← h1, ← h2]; exact h)
theorem sprQ_off {l : List Nat} {x : Nat → Rat} {i : Nat} (hi : i ∉ l) : ∀ {m : Nat}, m ≤ l.length → sprQ l x m i = 0
  | 0, _ => rfl
  | m + 1, hm => by
    show (if i = l.getD m 0 then x m else _) = _
    rw [if_neg fun h => hi (by rw [h]; exact getD_mem (by omega))]
    exact sprQ_off hi (by omega)
/-- A chain in memory that may be. -/
structure ChK (F n : Nat) (P : Nat → Nat → Rat) : Prop where
  one : 1 ≤ n
  five : n ≤ 5
  chn : Chn n P
  fit : ∀ i j, i < n → j < n → Fits F (P i j)
  ok : RwsOK n n (mR n P)
  few : F ≤ 20
  len : bE (F + 2) n ≤ 7509
abbrev ChM (n : Nat) (P : Nat → Nat → Rat) : Prop := ChK 1 n P
theorem ChK.lst {F n : Nat} {P : Nat → Nat → Rat} (h : ChK F n P) : ∀ i (hi : i < (mR n P).length), Lst n (P i) (mR n P)[i] := fun i hi => by
  have hi' : i < n := by rw [mR_length] at hi; exact hi
  rw [mR_get]
  exact Lst.mk' fun j hj => by have := fits_qw (h.fit i j hi' hj); have := h.few; omega
end Go.Proofs.YtbejijgelljeaaaGreatDoor

/- Chains, plainly: what is still in a closed class. -/
namespace Go.Proofs.YtbejijgelljeaaaGreatDoor
/-- The equations of what is still. -/
def sM (P : Nat → Nat → Rat) (l : List Nat) (k c : Nat) : Rat := if k = l.length - 1 then 1 else if c < l.length then P (l.getD c 0) (l.getD k 0) - (if k = c then 1 else 0) else 0
def stX (P : Nat → Nat → Rat) (l : List Nat) (k : Nat) : Rat := elm (sM P l) l.length k l.length
/-- A class that nothing leaves. -/
structure Cls (n : Nat) (P : Nat → Nat → Rat) (l : List Nat) : Prop where
  nd : l.Nodup
  lt : ∀ x ∈ l, x < n
  ne : 1 ≤ l.length
  shut : ∀ x ∈ l, ∀ y, y < n → 0 < P x y → y ∈ l
  com : ∀ x ∈ l, ∀ y ∈ l, cmsB n P x y = true
theorem Cls.stl {n : Nat} {P : Nat → Nat → Rat} {l : List Nat} (h : Cls n P l) (hc : Chn n P) : Stl l.length 0 (sM P l) :=
  stl_class hc h.nd h.lt h.ne h.shut h.com (fun k hk c hcl => by
    show (if k = l.length - 1 then _ else _) = _
    rw [if_neg (by omega), if_pos hcl]) fun c _ => if_pos rfl
theorem Cls.piv {n : Nat} {P : Nat → Nat → Rat} {l : List Nat} (h : Cls n P l) (hc : Chn n P) : ∀ j, j < l.length → elm (sM P l) j j j ≠ 0 := fun j hj => by
  have hs := (h.stl hc).all j (by omega)
  by_cases e : j = l.length - 1
  · have h1 := hs.last j (Nat.le_refl _) hj
    rw [← e] at h1
    grind
  · have h1 := hs.wt.pivot (by omega)
    grind
theorem Cls.sol {n : Nat} {P : Nat → Nat → Rat} {l : List Nat} (h : Cls n P l) (hc : Chn n P) : Sol l.length (sM P l) (stX P l) := (h.stl hc).solves h.ne
theorem Cls.sum {n : Nat} {P : Nat → Nat → Rat} {l : List Nat} (h : Cls n P l) (hc : Chn n P) : sumR (stX P l) l.length = 1 := by
  have h1 := h.sol hc (l.length - 1) (by have := h.ne; omega)
  have e1 : sM P l (l.length - 1) l.length = 1 := if_pos rfl
  rw [e1, sumR_congr (g := stX P l) fun j _ => by
    have e2 : sM P l (l.length - 1) j = 1 := if_pos rfl
    rw [e2, Rat.one_mul]] at h1
  exact h1
theorem Cls.tot {n : Nat} {P : Nat → Nat → Rat} {l : List Nat} (h : Cls n P l) (hc : Chn n P) {k : Nat} (hk : k < l.length) : sumR (fun c => P (l.getD k 0) (l.getD c 0)) l.length = 1 := by
  have hm := getD_mem hk
  rw [lsm_at (P (l.getD k 0)) l, lsm_all (fun j hj => hc.low _ j (h.lt _ hm) hj) h.nd h.lt fun j hj hjl => ?_]
  · exact hc.one _ (h.lt _ hm)
  · have h0 := hc.low _ j (h.lt _ hm) hj
    by_cases e : 0 < P (l.getD k 0) j
    · exact absurd (h.shut _ hm j hj e) hjl
    · grind
theorem Cls.one {n : Nat} {P : Nat → Nat → Rat} {l : List Nat} (h : Cls n P l) (hc : Chn n P) {k : Nat} (hk : k < l.length - 1) : sumR (fun c => stX P l c * P (l.getD c 0) (l.getD k 0)) l.length = stX P l k := by
  have h1 := h.sol hc k (by omega)
  have e1 : sM P l k l.length = 0 := by
    show (if k = l.length - 1 then _ else if l.length < l.length then _ else _) = _
    rw [if_neg (by omega), if_neg (Nat.lt_irrefl _)]
  have e2 : sumR (fun j => sM P l k j * stX P l j) l.length = sumR (fun c => stX P l c * P (l.getD c 0) (l.getD k 0)) l.length - stX P l k := by
    rw [← sumR_one (stX P l) (show k < l.length by omega), ← sumR_sub]
    refine sumR_congr fun c hcl => ?_
    have e3 : sM P l k c = P (l.getD c 0) (l.getD k 0) - (if k = c then 1 else 0) := by
      show (if k = l.length - 1 then _ else if c < l.length then _ else _) = _
      rw [if_neg (by omega), if_pos hcl]
    rw [e3]
    grind
  rw [e1, e2] at h1
  generalize sumR (fun c => stX P l c * P (l.getD c 0) (l.getD k 0)) l.length = A at *
  generalize stX P l k = B at *
  clear e2 e1
  grind
theorem Cls.still {n : Nat} {P : Nat → Nat → Rat} {l : List Nat} (h : Cls n P l) (hc : Chn n P) {k : Nat} (hk : k < l.length) : sumR (fun c => stX P l c * P (l.getD c 0) (l.getD k 0)) l.length = stX P l k := by
  by_cases hk1 : k < l.length - 1
  · exact h.one hc hk1
  · obtain rfl : k = l.length - 1 := by omega
    obtain ⟨m, hm⟩ : ∃ m, l.length = m + 1 := ⟨l.length - 1, by omega⟩
    have e1 : sumR (fun k => sumR (fun c => stX P l c * P (l.getD c 0) (l.getD k 0)) l.length) l.length = 1 := by
      rw [sumR_swap, sumR_congr (g := stX P l) fun c hcl => ?_]
      · exact h.sum hc
      · rw [sumR_mul, h.tot hc hcl, Rat.mul_one]
    have e2 := h.sum hc
    rw [hm] at e1 e2 ⊢
    rw [sumR] at e1 e2
    have e3 : sumR (fun k => sumR (fun c => stX P l c * P (l.getD c 0) (l.getD k 0)) (m + 1)) m = sumR (stX P l) m := sumR_congr fun k hk => by
      have := h.one hc (k := k) (by omega)
      rw [hm] at this
      exact this
    rw [e3] at e1
    show _ = stX P l (m + 1 - 1)
    rw [Nat.add_sub_cancel]
    generalize sumR (fun c => stX P l c * P (l.getD c 0) (l.getD m 0)) (m + 1) = A at *
    generalize sumR (stX P l) m = B at *
    generalize stX P l m = C at *
    clear e3
    grind
theorem Cls.pos {n : Nat} {P : Nat → Nat → Rat} {l : List Nat} (h : Cls n P l) (hc : Chn n P) : ∀ k, k < l.length → 0 < stX P l k := by
  refine still_pos (Q := fun i j => P (l.getD i 0) (l.getD j 0)) (fun i j hi hj => hc.low _ _ (h.lt _ (getD_mem hi)) (h.lt _ (getD_mem hj))) (fun i hi => h.tot hc hi) (fun C hC hD => ?_) (fun j hj => h.still hc hj) (h.sum hc)
  obtain ⟨i, hi, hCi⟩ := hC
  obtain ⟨j, hj, hDj⟩ := hD
  refine Classical.byContradiction fun hno => ?_
  have hs := cms_shut (S := fun x => ∃ k, k < l.length ∧ C k ∧ l.getD k 0 = x) (fun a b _ hb ⟨k, hk, hCk, e⟩ hp => by
    subst e
    obtain ⟨m, hm, em⟩ := getD_of (h.shut _ (getD_mem hk) b hb hp)
    by_cases hCm : C m
    · exact ⟨m, hm, hCm, em⟩
    · exact absurd ⟨k, m, hk, hm, hCk, hCm, by rw [em]; exact hp⟩ hno) (h.lt _ (getD_mem hi)) (h.lt _ (getD_mem hj)) ⟨i, hi, hCi, rfl⟩ (h.com _ (getD_mem hi) _ (getD_mem hj))
  obtain ⟨k, hk, hCk, e⟩ := hs
  have e' : k = j := by
    rw [List.getD_eq_getElem?_getD, List.getD_eq_getElem?_getD, List.getElem?_eq_getElem hk, List.getElem?_eq_getElem hj] at e
    exact nodup_at h.nd hk hj e
  exact hDj (e' ▸ hCk)
/-- What Still answers. -/
def stQ (P : Nat → Nat → Rat) (l : List Nat) (i : Nat) : Rat := sprQ l (stX P l) l.length i
theorem stQ_on {n : Nat} {P : Nat → Nat → Rat} {l : List Nat} (h : Cls n P l) {k : Nat} (hk : k < l.length) : stQ P l (l.getD k 0) = stX P l k := sprQ_on h.nd (Nat.le_refl _) hk
theorem stQ_off {P : Nat → Nat → Rat} {l : List Nat} {i : Nat} (hi : i ∉ l) : stQ P l i = 0 := sprQ_off hi (Nat.le_refl _)
theorem Cls.low {n : Nat} {P : Nat → Nat → Rat} {l : List Nat} (h : Cls n P l) (hc : Chn n P) (i : Nat) : 0 ≤ stQ P l i := by
  by_cases e : i ∈ l
  · obtain ⟨k, hk, rfl⟩ := getD_of e
    rw [stQ_on h hk]
    exact Rat.le_of_lt (h.pos hc k hk)
  · rw [stQ_off e]; exact Rat.le_refl
theorem Cls.all {n : Nat} {P : Nat → Nat → Rat} {l : List Nat} (h : Cls n P l) (hc : Chn n P) (f : Nat → Rat) (hf : ∀ i, i < n → 0 ≤ f i) : sumR (fun i => stQ P l i * f i) n = sumR (fun k => stX P l k * f (l.getD k 0)) l.length := by
  rw [← lsm_all (f := fun i => stQ P l i * f i) (fun i hi => Rat.mul_nonneg (h.low hc i) (hf i hi)) h.nd h.lt fun j _ hj => by rw [stQ_off hj, Rat.zero_mul], ← lsm_at]
  exact sumR_congr fun k hk => by rw [stQ_on h hk]
/-- WHAT IS STILL STAYS STILL. -/
theorem Cls.stays {n : Nat} {P : Nat → Nat → Rat} {l : List Nat} (h : Cls n P l) (hc : Chn n P) {j : Nat} (hj : j < n) : sumR (fun i => stQ P l i * P i j) n = stQ P l j := by
  rw [h.all hc (fun i => P i j) fun i hi => hc.low i j hi hj]
  by_cases e : j ∈ l
  · obtain ⟨k, hk, rfl⟩ := getD_of e
    rw [stQ_on h hk]
    exact h.still hc hk
  · have hz : ∀ k, k < l.length → stX P l k * P (l.getD k 0) j = 0 := fun k hk => by
      have h0 := hc.low _ j (h.lt _ (getD_mem hk)) hj
      by_cases e2 : 0 < P (l.getD k 0) j
      · exact absurd (h.shut _ (getD_mem hk) j hj e2) e
      · have : P (l.getD k 0) j = 0 := by grind
        rw [this, Rat.mul_zero]
    have h0 : ∀ m, sumR (fun _ => (0 : Rat)) m = 0 := fun m => by
      induction m with
      | zero => rfl
      | succ m ih => rw [sumR, ih, Rat.zero_add]
    rw [stQ_off e, sumR_congr (g := fun _ => 0) hz]
    exact h0 _
theorem sM_fits {F n : Nat} {P : Nat → Nat → Rat} {l : List Nat} (hf : ∀ i j, i < n → j < n → Fits F (P i j)) (hl : ∀ x ∈ l, x < n) (k c : Nat) (hk : k < l.length) : Fits (F + 2) (sM P l k c) := by
  show Fits (F + 2) (if k = l.length - 1 then _ else if c < l.length then _ else _)
  by_cases h1 : k = l.length - 1
  · rw [if_pos h1]; exact fits_up fits_one (by omega)
  · rw [if_neg h1]
    by_cases h : c < l.length
    · rw [if_pos h]
      have h1 : Fits 1 (if k = c then (1 : Rat) else 0) := by
        by_cases e : k = c
        · rw [if_pos e]; exact fits_one
        · rw [if_neg e]; exact fits_zero
      exact fits_up (fits_sub (hf _ _ (hl _ (getD_mem h)) (hl _ (getD_mem hk))) h1) (by omega)
    · rw [if_neg h]; exact fits_up fits_zero (by omega)
end Go.Proofs.YtbejijgelljeaaaGreatDoor
