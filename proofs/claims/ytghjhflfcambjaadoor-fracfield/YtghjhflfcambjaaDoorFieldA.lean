/- The law FracField: what it holds in memory, and how long its numbers are. -/
import Derived.Test.YtghjhflfcambjaaDoorFracH
namespace Go.Proofs.YtghjhflfcambjaaDoor
open Go.RowKit

theorem Five.drewN {w V : World} {gs gp : Nat} {na nb nc : Bool} {xa ya xb yb xc yc : ByteArray} {s p : Rat} (h : Five w V gs gp na nb nc xa ya xb yb xc yc s p) (k : Nat) : Five w (V.drewN k) gs gp na nb nc xa ya xb yb xc yc s p := by
  obtain ⟨h1, h2, h3, h4, h5, h6⟩ := h
  exact ⟨h1, h2, h3, h4, h5, below_drewN h6 k⟩
theorem five_of {w V : World} {gs gp : Nat} {na nb nc : Bool} {xa ya xb yb xc yc : ByteArray} {s p : Rat} (h : Five w V gs gp na nb nc xa ya xb yb xc yc s p) : (V.cell? ⟨w.heap.size, 0, none⟩ = some (.bool na) ∧ V.cell? ⟨w.heap.size, 1, none⟩ = some (.string xa) ∧ V.cell? ⟨w.heap.size, 2, none⟩ = some (.string ya) ∧
  V.cell? ⟨w.heap.size + 1, 0, none⟩ = some (.bool nb) ∧ V.cell? ⟨w.heap.size + 1, 1, none⟩ = some (.string xb) ∧ V.cell? ⟨w.heap.size + 1, 2, none⟩ = some (.string yb) ∧
  V.cell? ⟨w.heap.size + 2, 0, none⟩ = some (.bool nc) ∧ V.cell? ⟨w.heap.size + 2, 1, none⟩ = some (.string xc) ∧ V.cell? ⟨w.heap.size + 2, 2, none⟩ = some (.string yc) ∧
  V.cell? ⟨gs, 0, none⟩ = some (.bool (sgn s)) ∧ V.cell? ⟨gs, 1, none⟩ = some (.string (nu s)) ∧ V.cell? ⟨gs, 2, none⟩ = some (.string (de s)) ∧
  V.cell? ⟨gp, 0, none⟩ = some (.bool (sgn p)) ∧ V.cell? ⟨gp, 1, none⟩ = some (.string (nu p)) ∧ V.cell? ⟨gp, 2, none⟩ = some (.string (de p))) ∧ Hid (Five w V gs gp na nb nc xa ya xb yb xc yc s p) :=
  ⟨h.cells, h⟩

theorem six_more {w V : World} {gs gp gq : Nat} {na nb nc : Bool} {xa ya xb yb xc yc : ByteArray} {s p a : Rat} (hq : Box V gq (sgn a) (nu a) (de a)) (h : Five w V gs gp na nb nc xa ya xb yb xc yc s p) : (V.cell? ⟨w.heap.size, 0, none⟩ = some (.bool na) ∧ V.cell? ⟨w.heap.size, 1, none⟩ = some (.string xa) ∧ V.cell? ⟨w.heap.size, 2, none⟩ = some (.string ya) ∧
  V.cell? ⟨w.heap.size + 1, 0, none⟩ = some (.bool nb) ∧ V.cell? ⟨w.heap.size + 1, 1, none⟩ = some (.string xb) ∧ V.cell? ⟨w.heap.size + 1, 2, none⟩ = some (.string yb) ∧
  V.cell? ⟨w.heap.size + 2, 0, none⟩ = some (.bool nc) ∧ V.cell? ⟨w.heap.size + 2, 1, none⟩ = some (.string xc) ∧ V.cell? ⟨w.heap.size + 2, 2, none⟩ = some (.string yc) ∧
  V.cell? ⟨gs, 0, none⟩ = some (.bool (sgn s)) ∧ V.cell? ⟨gs, 1, none⟩ = some (.string (nu s)) ∧ V.cell? ⟨gs, 2, none⟩ = some (.string (de s)) ∧
  V.cell? ⟨gp, 0, none⟩ = some (.bool (sgn p)) ∧ V.cell? ⟨gp, 1, none⟩ = some (.string (nu p)) ∧ V.cell? ⟨gp, 2, none⟩ = some (.string (de p)) ∧ V.cell? ⟨gq, 0, none⟩ = some (.bool (sgn a)) ∧ V.cell? ⟨gq, 1, none⟩ = some (.string (nu a)) ∧ V.cell? ⟨gq, 2, none⟩ = some (.string (de a))) ∧ Hid (Box V gq (sgn a) (nu a) (de a) ∧ Five w V gs gp na nb nc xa ya xb yb xc yc s p) := by
  obtain ⟨h1, h2, h3, h4, h5, h6⟩ := h
  exact ⟨⟨h1.c0, h1.c1, h1.c2, h2.c0, h2.c1, h2.c2, h3.c0, h3.c1, h3.c2, h4.c0, h4.c1, h4.c2, h5.c0, h5.c1, h5.c2, hq.c0, hq.c1, hq.c2⟩, hq, h1, h2, h3, h4, h5, h6⟩

/-- How long the numbers are that the law makes. -/
def Long (a b c : Rat) : Prop :=
  ((nu (a + b)).size + (de (a + b)).size ≤ 100000 ∧ (nu (a * b)).size + (de (a * b)).size ≤ 100000 ∧ (nu (b + c)).size + (de (b + c)).size ≤ 100000 ∧ (nu (b * c)).size + (de (b * c)).size ≤ 100000 ∧ (nu (a * c)).size + (de (a * c)).size ≤ 100000 ∧ (nu (a + c)).size + (de (a + c)).size ≤ 100000) ∧ ((nu a).size + (de a).size ≤ 100000 ∧ (nu 0).size + (de 0).size ≤ 100000 ∧ (nu 1).size + (de 1).size ≤ 100000)
theorem long_of {na nb nc : Bool} {xa ya xb yb xc yc : ByteArray} {a b c : Rat} (ha : val na xa ya = a) (hb : val nb xb yb = b) (hc : val nc xc yc = c) (h1 : xa.size + ya.size ≤ 1000) (h2 : xb.size + yb.size ≤ 1000) (h3 : xc.size + yc.size ≤ 1000) : Long a b c := by
  have s1 := qw_val na xa ya
  have s2 := qw_val nb xb yb
  have s3 := qw_val nc xc yc
  rw [ha] at s1
  rw [hb] at s2
  rw [hc] at s3
  have := qw_add a b
  have := qw_mul a b
  have := qw_add b c
  have := qw_mul b c
  have := qw_mul a c
  have := qw_add a c
  have := qw_zero
  have : qw 1 ≤ 2 := by
    show (B 1).size + (B 1).size ≤ 2
    have := B_one_size
    omega
  simp only [Long, own_size]
  refine ⟨⟨?_, ?_, ?_, ?_, ?_, ?_⟩, ?_, ?_, ?_⟩ <;> omega

theorem str_ext {a b : ByteArray} (h : a.toList = b.toList) : a = b := by
  rw [ByteArray.toList_eq, ByteArray.toList_eq] at h
  exact ByteArray.ext (Array.toList_inj.mp h)
theorem own_ne {p q : Rat} (h : ¬ p = q) : ¬ (sgn p = sgn q ∧ (nu p).toList = (nu q).toList ∧ (de p).toList = (de q).toList) := by
  rintro ⟨h1, h2, h3⟩
  have e2 := str_ext h2
  have e3 := str_ext h3
  apply h
  rw [← val_own p, ← val_own q, h1, e2, e3]
theorem own_cases {p q : Rat} (h : ¬ p = q) : ¬ sgn p = sgn q ∨ (sgn p = sgn q ∧ ¬ (nu p).toList = (nu q).toList) ∨ (sgn p = sgn q ∧ (nu p).toList = (nu q).toList ∧ ¬ (de p).toList = (de q).toList) := by
  have h0 := own_ne h
  by_cases h1 : sgn p = sgn q
  · by_cases h2 : (nu p).toList = (nu q).toList
    · exact .inr (.inr ⟨h1, h2, fun h3 => h0 ⟨h1, h2, h3⟩⟩)
    · exact .inr (.inl ⟨h1, h2⟩)
  · exact .inl h1
theorem own_ne0 {q : Rat} (h : ¬ q = 0) : ¬ (nu q).toList = (nu 0).toList := by
  intro h2
  have e2 : B q.num.natAbs = B 0 := str_ext h2
  have e3 : N (B q.num.natAbs) = N (B 0) := by rw [e2]
  rw [N_B, N_B, Int.natAbs_eq_zero, Rat.num_eq_zero] at e3
  exact h e3

theorem rat_tri (p q : Rat) : p < q ∨ p = q ∨ q < p := by grind
theorem cmpQ_lt {p q : Rat} (h : p < q) : cmpQ p q = -1 := if_pos h
theorem cmpQ_eq {p q : Rat} (h : p = q) : cmpQ p q = 0 := by subst h; rw [cmpQ, if_neg (by grind), if_pos rfl]
theorem cmpQ_gt {p q : Rat} (h : q < p) : cmpQ p q = 1 := by rw [cmpQ, if_neg (by grind), if_neg (by grind)]
theorem cmpQ_swap {p q : Rat} {k : Int} (h : cmpQ p q = k) : cmpQ q p = -k := by
  subst h
  rcases rat_tri p q with h | h | h
  · rw [cmpQ_lt h, cmpQ_gt h]; rfl
  · rw [cmpQ_eq h, cmpQ_eq h.symm]; rfl
  · rw [cmpQ_gt h, cmpQ_lt h]
theorem cmpQ_add (p q c : Rat) : cmpQ (p + c) (q + c) = cmpQ p q := by
  rcases rat_tri p q with h | h | h
  · rw [cmpQ_lt h, cmpQ_lt (by grind)]
  · rw [cmpQ_eq h, cmpQ_eq (by rw [h])]
  · rw [cmpQ_gt h, cmpQ_gt (by grind)]
theorem cmpQ_mul (p q : Rat) {c : Rat} (hc : 0 < c) : cmpQ (p * c) (q * c) = cmpQ p q := by
  rcases rat_tri p q with h | h | h
  · rw [cmpQ_lt h, cmpQ_lt (Rat.mul_lt_mul_of_pos_right h hc)]
  · rw [cmpQ_eq h, cmpQ_eq (by rw [h])]
  · rw [cmpQ_gt h, cmpQ_gt (Rat.mul_lt_mul_of_pos_right h hc)]
theorem cmpQ_ne0 {p q : Rat} {k : Int} (h : ¬ p = q) (e : cmpQ p q = k) : ¬ k = 0 := by
  subst e
  rcases rat_tri p q with h1 | h1 | h1
  · rw [cmpQ_lt h1]; decide
  · exact absurd h1 h
  · rw [cmpQ_gt h1]; decide
theorem cmpQ_wrap {p q : Rat} {k : Int} (e : cmpQ p q = k) : IntKind.i64.wrap k = k := by
  subst e
  rcases rat_tri p q with h1 | h1 | h1
  · rw [cmpQ_lt h1]; rfl
  · rw [cmpQ_eq h1]; rfl
  · rw [cmpQ_gt h1]; rfl
theorem Sum_new {na nb nc : Bool} {xa ya xb yb xc yc : ByteArray} {V : World} {a b c : Rat} (r : Rat) (ha : val na xa ya = a) (hb : val nb xb yb = b) (hc : val nc xc yc = c) (h : a + b + c = r) (h1 : xa.size + ya.size ≤ 1000) (h2 : xb.size + yb.size ≤ 1000) (h3 : xc.size + yc.size ≤ 1000) :
    Calls Tryd.prog 24 #[.slice (some ⟨V.heap.size, 0, none⟩) 3 3] (V.alloc (.cells #[.bool na, .string xa, .string ya, .bool nb, .string xb, .string yb, .bool nc, .string xc, .string yc] 38)).drew fun e w' => e = .returned (.agg #[.bool (sgn r), .string (nu r), .string (de r)]) ∧ Below (V.alloc (.cells #[.bool na, .string xa, .string ya, .bool nb, .string xb, .string yb, .bool nc, .string xc, .string yc] 38)).drew.heap.size (V.alloc (.cells #[.bool na, .string xa, .string ya, .bool nb, .string xb, .string yb, .bool nc, .string xc, .string yc] 38)).drew w' := by
  subst ha hb hc h
  exact Sum_trio V.heap.size na nb nc xa ya xb yb xc yc _ (heap_alloc_new _ _) h1 h2 h3
theorem mul_lt {p q c : Rat} (h : p < q) (hc : 0 < c) : p * c < q * c := Rat.mul_lt_mul_of_pos_right h hc
end Go.Proofs.YtghjhflfcambjaaDoor
