/- Package frac's quotients and whole numbers. -/
import Derived.Test.YtknlhejhnopnaaaGreatDoorFracBToFracE
import Derived.BigQuiet
namespace Go.Proofs.YtknlhejhnopnaaaGreatDoor
open Go.RowKit

set_option maxRecDepth 100000 in
set_option maxHeartbeats 1000000 in
theorem fDiv_no (na nb : Bool) (xa ya xb yb : ByteArray) (w : World) (h : N xb = 0 ∨ N yb = 0) :
    Calls Tryz.prog 75 #[.agg #[.bool na, .string xa, .string ya], .agg #[.bool nb, .string xb, .string yb]] w fun e w' => e = .returned (.tuple #[.agg #[.bool false, .string ⟨#[]⟩, .string ⟨#[]⟩], .int .i64 3]) ∧ Below w.heap.size w w' := by
  have hX := fun V => isNought_any xb V
  have hY := fun V => isNought_any yb V
  have HX := hide hX
  have HY := hide hY
  clear hX hY
  go_enter Tryz.func75, Tryz.ntmps75
  have hbr := Box.at (w := (w.alloc (FC na xa ya)).alloc (FC nb xb yb)) (g := w.heap.size + 2) (by simp) false ⟨#[]⟩ ⟨#[]⟩
  have hB0 : Below w.heap.size w (((w.alloc (FC na xa ya)).alloc (FC nb xb yb)).alloc (FC false ⟨#[]⟩ ⟨#[]⟩)) := (((Below.refl _ w).alloc (Nat.le_refl _) _).alloc (by simp) _).alloc (by simp; omega) _
  by_cases h0 : N xb = 0
  · go_wp2_with fail
    refine (HX.out _).mono ?_
    rintro e w1 ⟨rfl, hw⟩
    subst hw
    rw [decide_eq_true h0]
    go_wp2
    refine bodyPost_ret (hbr.result2 rfl _ rfl) rfl ?_
    exact ⟨rfl, hB0⟩
  · have h1 : N yb = 0 := h.resolve_left h0
    go_wp2_with fail
    refine (HX.out _).mono ?_
    rintro e w1 ⟨rfl, hw⟩
    subst hw
    rw [decide_eq_false h0]
    go_wp2_with fail
    refine (HY.out _).mono ?_
    rintro e w1 ⟨rfl, hw⟩
    subst hw
    rw [decide_eq_true h1]
    go_wp2
    refine bodyPost_ret (hbr.result2 rfl _ rfl) rfl ?_
    exact ⟨rfl, hB0⟩

set_option maxRecDepth 100000 in
set_option maxHeartbeats 1000000 in
theorem fDiv_yes (na nb : Bool) (xa ya xb yb : ByteArray) (w : World) (h0 : N xb ≠ 0) (h1 : N yb ≠ 0) (hxa : xa.size ≤ 137438953472) (hya : ya.size ≤ 137438953472) (hxb : xb.size ≤ 137438953472) (hyb : yb.size ≤ 137438953472) :
    Calls Tryz.prog 75 #[.agg #[.bool na, .string xa, .string ya], .agg #[.bool nb, .string xb, .string yb]] w fun e w' => e = .returned (.tuple #[C (val na xa ya / val nb xb yb), .int .i64 0]) ∧ Below w.heap.size w w' := by
  have hX := fun V => isNought_any xb V
  have hY := fun V => isNought_any yb V
  have HX := hide hX
  have HY := hide hY
  clear hX hY
  have hq : val na xa ya * val nb yb xb = val na xa ya / val nb xb yb := by rw [val_inv nb xb yb h0 h1, Rat.div_def]
  go_enter Tryz.func75, Tryz.ntmps75
  have hbr := Box.at (w := (w.alloc (FC na xa ya)).alloc (FC nb xb yb)) (g := w.heap.size + 2) (by simp) false ⟨#[]⟩ ⟨#[]⟩
  have hB0 : Below w.heap.size w (((w.alloc (FC na xa ya)).alloc (FC nb xb yb)).alloc (FC false ⟨#[]⟩ ⟨#[]⟩)) := (((Below.refl _ w).alloc (Nat.le_refl _) _).alloc (by simp) _).alloc (by simp; omega) _
  go_wp2_with fail
  refine (HX.out _).mono ?_
  rintro e w1 ⟨rfl, hw⟩
  subst hw
  rw [decide_eq_false h0]
  go_wp2_with fail
  refine (HY.out _).mono ?_
  rintro e w1 ⟨rfl, hw⟩
  subst hw
  rw [decide_eq_false h1]
  go_wp2_with fail
  refine (fMul_any na nb xa ya yb xb _ hxa hya hyb hxb).mono ?_
  rintro e w1 ⟨rfl, hb1⟩
  rw [hq]
  have hx1 := hbr.below hb1 hbr.lt
  have hB1 : Below w.heap.size w w1 := hB0.trans (hb1.mono hB0.size)
  obtain ⟨k0, k1, k2, f0, f1, f2⟩ := hx1.facts
  clear hbr hB0
  rw [C_eq]
  go_wp2
  refine bodyPost_ret ((hx1.put _ _ _).result2 rfl _ rfl) rfl ?_
  exact ⟨rfl, below_put hB1 (by omega) _ _ _⟩

set_option maxRecDepth 100000 in
set_option maxHeartbeats 1000000 in
theorem fOf_nat (n : Nat) (w : World) (h : n ≤ 9223372036854775807) :
    Calls Tryz.prog 76 #[.int .i64 (n : Int)] w fun e w' => e = .returned (C (n : Rat)) ∧ Below w.heap.size w w' := by
  have hq : val false (B n) (B 1) = (n : Rat) := by
    rw [val, N_B, N_B]
    show mkRat (n : Int) 1 = _
    rw [Rat.mkRat_one]
    rfl
  have s1 := B_one_size
  have s2 : (B n).size ≤ 1099511627776 := by
    have := bn_fits 8 n (by show n < 18446744073709551616; omega)
    rw [← B_size n] at this
    omega
  go_enter Tryz.func76, Tryz.ntmps76
  have hbr := Box.at (w := w) rfl false ⟨#[]⟩ ⟨#[]⟩
  have hB0 : Below w.heap.size w (w.alloc (FC false ⟨#[]⟩ ⟨#[]⟩)) := (Below.refl _ w).alloc (Nat.le_refl _) _
  have hB := Below.refl (w.alloc (FC false ⟨#[]⟩ ⟨#[]⟩)).heap.size (w.alloc (FC false ⟨#[]⟩ ⟨#[]⟩))
  go_wp2_with fail
  refine (Of_to n hB rfl (by omega)).mono ?_
  rintro e w1 ⟨rfl, hB⟩
  go_wp2_with fail
  refine (Of_to 1 hB rfl (by omega)).mono ?_
  rintro e w1 ⟨rfl, hB⟩
  go_wp2_with fail
  refine (Make_any false (B n) (B 1) _ s2 (by omega)).mono ?_
  rintro e w2 ⟨rfl, hb2⟩
  rw [hq]
  have hx1 := (hbr.below hB hbr.lt).below hb2 (hbr.below hB hbr.lt).lt
  have hB1 : Below w.heap.size w w2 := (hB0.trans (hB.mono hB0.size)).trans (hb2.mono (hB0.trans (hB.mono hB0.size)).size)
  obtain ⟨k0, k1, k2, f0, f1, f2⟩ := hx1.facts
  clear hbr hB0 hB
  rw [C_eq]
  go_wp2
  refine bodyPost_ret ((hx1.put _ _ _).result rfl _ rfl) rfl ?_
  exact ⟨rfl, below_put hB1 (by omega) _ _ _⟩
end Go.Proofs.YtknlhejhnopnaaaGreatDoor

/- Three fractions in a row: how many bytes they have, and their sum. -/
namespace Go.Proofs.YtknlhejhnopnaaaGreatDoor
open Go.RowKit

/-- The block g holds three fractions. -/
def Trio (w : World) (g : Nat) (na nb nc : Bool) (xa ya xb yb xc yc : ByteArray) : Prop := w.heap[g]? = some (.cells #[.bool na, .string xa, .string ya, .bool nb, .string xb, .string yb, .bool nc, .string xc, .string yc] 44 (0, 0))
theorem Trio.facts {w : World} {g : Nat} {na nb nc : Bool} {xa ya xb yb xc yc : ByteArray} (h : Trio w g na nb nc xa ya xb yb xc yc) : w.cell? ⟨g, 0, none⟩ = some (.bool na) ∧ w.cell? ⟨g, 1, none⟩ = some (.string xa) ∧ w.cell? ⟨g, 2, none⟩ = some (.string ya) ∧ w.cell? ⟨g, 3, none⟩ = some (.bool nb) ∧ w.cell? ⟨g, 4, none⟩ = some (.string xb) ∧ w.cell? ⟨g, 5, none⟩ = some (.string yb) ∧ w.cell? ⟨g, 6, none⟩ = some (.bool nc) ∧ w.cell? ⟨g, 7, none⟩ = some (.string xc) ∧ w.cell? ⟨g, 8, none⟩ = some (.string yc) := by
  refine ⟨?_, ?_, ?_, ?_, ?_, ?_, ?_, ?_, ?_⟩ <;> (rw [cell_of_row w g _ _ _ (0, 0) h]; rfl)
theorem Trio.lt {w : World} {g : Nat} {na nb nc : Bool} {xa ya xb yb xc yc : ByteArray} (h : Trio w g na nb nc xa ya xb yb xc yc) : g < w.heap.size := (Array.getElem?_eq_some_iff.1 h).1
theorem Trio.below {w w' : World} {g B : Nat} {na nb nc : Bool} {xa ya xb yb xc yc : ByteArray} (h : Trio w g na nb nc xa ya xb yb xc yc) (hb : Below B w w') (hB : g < B) : Trio w' g na nb nc xa ya xb yb xc yc := (hb.block g hB).trans h
theorem Trio.drew {w : World} {g : Nat} {na nb nc : Bool} {xa ya xb yb xc yc : ByteArray} (h : Trio w g na nb nc xa ya xb yb xc yc) : Trio w.drew g na nb nc xa ya xb yb xc yc := h

theorem below_drewN {B : Nat} {a b : World} (h : Below B a b) (k : Nat) : Below B a (b.drewN k) := ⟨h.os, h.tape, h.output, h.size, h.block⟩

set_option maxRecDepth 100000 in
set_option maxHeartbeats 4000000 in
theorem fracBytes_trio (g : Nat) (na nb nc : Bool) (xa ya xb yb xc yc : ByteArray) (w : World) (ht : Trio w g na nb nc xa ya xb yb xc yc) (hxa : xa.size ≤ 140737488355328) (hya : ya.size ≤ 140737488355328) (hxb : xb.size ≤ 140737488355328) (hyb : yb.size ≤ 140737488355328) (hxc : xc.size ≤ 140737488355328) (hyc : yc.size ≤ 140737488355328) :
    Calls Tryz.prog 7 #[.slice (some ⟨g, 0, none⟩) 3 3] w fun e w' => (∃ r : Int, e = .returned (.int .i64 r) ∧ (r ≤ 200 → ((xa.size + ya.size + xb.size + yb.size + xc.size + yc.size : Nat) : Int) ≤ 197)) ∧ Below w.heap.size w w' := by
  obtain ⟨c0, c1, c2, c3, c4, c5, c6, c7, c8⟩ := ht.facts
  go_enter Tryz.func7, Tryz.ntmps7
  go_wp2_with fail
  refine wp_loop_rounds 4 ?_
  rw [rounds_succ]
  go_wp2_with fail
  go_quiet (fail)
  by_cases h1 : 3 + (xa.size : Int) + (ya.size : Int) ≤ 4096
  · go_wp2_with fail
    rw [rounds_succ]
    go_wp2_with fail
    go_quiet (fail)
    by_cases h2 : 3 + (xa.size : Int) + (ya.size : Int) + (xb.size : Int) + (yb.size : Int) ≤ 4096
    · go_wp2_with fail
      rw [rounds_succ]
      go_wp2_with fail
      go_quiet (fail)
      go_wp2_with fail
      rw [rounds_succ]
      go_wp2
      go_ret
      exact ⟨⟨_, rfl, by omega⟩, below_drewN (Below.refl _ w) _⟩
    · go_wp2_with fail
      rw [rounds_succ]
      go_wp2
      go_ret
      exact ⟨⟨_, rfl, by omega⟩, below_drewN (Below.refl _ w) _⟩
  · go_wp2_with fail
    rw [rounds_succ]
    go_wp2
    go_ret
    exact ⟨⟨_, rfl, by omega⟩, below_drewN (Below.refl _ w) _⟩

set_option maxRecDepth 100000 in
set_option maxHeartbeats 4000000 in
theorem Sum_trio (g : Nat) (na nb nc : Bool) (xa ya xb yb xc yc : ByteArray) (w : World) (ht : Trio w g na nb nc xa ya xb yb xc yc) (hxa : xa.size + ya.size ≤ 1000) (hxb : xb.size + yb.size ≤ 1000) (hxc : xc.size + yc.size ≤ 1000) :
    Calls Tryz.prog 77 #[.slice (some ⟨g, 0, none⟩) 3 3] w fun e w' => e = .returned (C (val na xa ya + val nb xb yb + val nc xc yc)) ∧ Below w.heap.size w w' := by
  obtain ⟨c0, c1, c2, c3, c4, c5, c6, c7, c8⟩ := ht.facts
  go_enter Tryz.func77, Tryz.ntmps77
  have hbr := Box.at (w := w) rfl false ⟨#[]⟩ ⟨#[]⟩
  have hB0 : Below w.heap.size w (w.alloc (FC false ⟨#[]⟩ ⟨#[]⟩)) := (Below.refl _ w).alloc (Nat.le_refl _) _
  go_wp2_with fail
  refine (nought_any _).mono ?_
  rintro e w1 ⟨rfl, hb1⟩
  have hr1 := hbr.below hb1 hbr.lt
  have hB1 : Below w.heap.size w w1 := hB0.trans (hb1.mono hB0.size)
  have ht1 := ht.below hB1 ht.lt
  clear hbr hB0 c0 c1 c2 c3 c4 c5 c6 c7 c8
  obtain ⟨c0, c1, c2, c3, c4, c5, c6, c7, c8⟩ := ht1.facts
  have hg1 : g < w1.heap.size := ht1.lt
  have hlt : w.heap.size < w1.heap.size := hr1.lt
  have hg2 : ¬ g = w1.heap.size := by omega
  have hg3 : ¬ w1.heap.size = g := by omega
  rw [C_eq]
  go_wp2_with fail
  refine wp_loop_rounds 4 ?_
  rw [rounds_succ]
  go_wp2_with fail
  have z0 := own_size 0
  have z1 := qw_zero
  refine (fAdd_any (sgn 0) na (nu 0) (de 0) xa ya _ (by omega) (by omega) (by omega) (by omega)).mono ?_
  rintro e w2 ⟨rfl, hb2⟩
  have q2 : val (sgn 0) (nu 0) (de 0) + val na xa ya = val na xa ya := by rw [val_own, Rat.zero_add]
  have qs2 := qw_val na xa ya
  obtain ⟨p, hp⟩ : ∃ p, val na xa ya = p := ⟨_, rfl⟩
  rw [q2, hp, C_eq]
  rw [hp] at qs2
  have hs1 := (Box.at (w := w1) rfl (sgn 0) (nu 0) (de 0)).alloc (FC na xa ya)
  have hs2 := hs1.below hb2 hs1.lt
  have hr2 := ((hr1.alloc (FC (sgn 0) (nu 0) (de 0))).alloc (FC na xa ya)).below hb2 ((hr1.alloc (FC (sgn 0) (nu 0) (de 0))).alloc (FC na xa ya)).lt
  have hV1 : Below w.heap.size w ((w1.alloc (FC (sgn 0) (nu 0) (de 0))).alloc (FC na xa ya)) := (hB1.alloc hB1.size _).alloc (by simp; have := hB1.size; omega) _
  have hB2 : Below w.heap.size w w2 := hV1.trans (hb2.mono hV1.size)
  have ht2 := ht.below hB2 ht.lt
  have hz2 : w1.heap.size + 2 ≤ w2.heap.size := by have := hb2.size; simpa using this
  have HP := hide hp
  clear hp
  clear q2 hs1 hV1 hb2 hr1 ht1 c0 c1 c2 c3 c4 c5 c6 c7 c8 hb1
  obtain ⟨c0, c1, c2, c3, c4, c5, c6, c7, c8⟩ := ht2.facts
  obtain ⟨k0, k1, k2, f0, f1, f2⟩ := hs2.facts
  have hgs : w.heap.size ≤ w1.heap.size := hB1.size
  have hg4 : ¬ g = w2.heap.size := by omega
  have hg5 : ¬ w2.heap.size = g := by omega
  have hg6 : ¬ w1.heap.size = w2.heap.size := by omega
  have hg7 : ¬ w2.heap.size = w1.heap.size := by omega
  have hg8 : g < w2.heap.size := by omega
  have hg9 : w1.heap.size < w2.heap.size := by omega
  go_wp2_with fail
  rw [rounds_succ]
  go_wp2_with fail
  have zp := own_size p
  refine (fAdd_any (sgn p) nb (nu p) (de p) xb yb _ (by omega) (by omega) (by omega) (by omega)).mono ?_
  rintro e w3 ⟨rfl, hb3⟩
  obtain ⟨q, hq⟩ : ∃ q, p + val nb xb yb = q := ⟨_, rfl⟩
  have qs3 := qw_add p (val nb xb yb)
  have qs4 := qw_val nb xb yb
  rw [val_own, hq, C_eq]
  rw [hq] at qs3
  have hs3 := ((hs2.put (sgn p) (nu p) (de p)).alloc (FC nb xb yb)).below hb3 ((hs2.put (sgn p) (nu p) (de p)).alloc (FC nb xb yb)).lt
  have hr3' := (hr2.far3 (g' := w1.heap.size) (by omega) (.bool (sgn p)) (.string (nu p)) (.string (de p))).alloc (FC nb xb yb)
  have hr3 := hr3'.below hb3 hr3'.lt
  have hV2 := (below_put hB2 hgs (.bool (sgn p)) (.string (nu p)) (.string (de p))).alloc (by simp; omega) (FC nb xb yb)
  have hB3 : Below w.heap.size w w3 := hV2.trans (hb3.mono hV2.size)
  have ht3 := ht.below hB3 ht.lt
  have hz3 : w2.heap.size + 1 ≤ w3.heap.size := by have := hb3.size; simpa using this
  have HQ := hide hq
  clear hq hr3' hV2 hb3 hr2 ht2 hs2 c0 c1 c2 c3 c4 c5 c6 c7 c8 k0 k1 k2 f0 f1 f2 hg4 hg5 hg6 hg7 hg8 hg9
  obtain ⟨c0, c1, c2, c3, c4, c5, c6, c7, c8⟩ := ht3.facts
  obtain ⟨k0, k1, k2, f0, f1, f2⟩ := hs3.facts
  have hg4 : ¬ g = w3.heap.size := by omega
  have hg5 : ¬ w3.heap.size = g := by omega
  have hg6 : ¬ w1.heap.size = w3.heap.size := by omega
  have hg7 : ¬ w3.heap.size = w1.heap.size := by omega
  have hg8 : g < w3.heap.size := by omega
  have hg9 : w1.heap.size < w3.heap.size := by omega
  go_wp2_with fail
  rw [rounds_succ]
  go_wp2_with fail
  have zq := own_size q
  refine (fAdd_any (sgn q) nc (nu q) (de q) xc yc _ (by omega) (by omega) (by omega) (by omega)).mono ?_
  rintro e w4 ⟨rfl, hb4⟩
  have hs4 := ((hs3.put (sgn q) (nu q) (de q)).alloc (FC nc xc yc)).below hb4 ((hs3.put (sgn q) (nu q) (de q)).alloc (FC nc xc yc)).lt
  have hr4' := (hr3.far3 (g' := w1.heap.size) (by omega) (.bool (sgn q)) (.string (nu q)) (.string (de q))).alloc (FC nc xc yc)
  have hr4 := hr4'.below hb4 hr4'.lt
  have hV3 := (below_put hB3 hgs (.bool (sgn q)) (.string (nu q)) (.string (de q))).alloc (by simp; omega) (FC nc xc yc)
  have hB4 : Below w.heap.size w w4 := hV3.trans (hb4.mono hV3.size)
  have hfin : val (sgn q) (nu q) (de q) + val nc xc yc = val na xa ya + val nb xb yb + val nc xc yc := by rw [val_own, ← HQ.out, ← HP.out]
  rw [hfin, C_eq]
  clear hfin hr4' hV3 hb4 hr3 ht3 hs3 c0 c1 c2 c3 c4 c5 c6 c7 c8 k0 k1 k2 f0 f1 f2 hg4 hg5 hg6 hg7 hg8 hg9
  obtain ⟨k0, k1, k2, f0, f1, f2⟩ := hs4.facts
  obtain ⟨j0, j1, j2, i0, i1, i2⟩ := hr4.facts
  have hg4 : ¬ w1.heap.size = w.heap.size := by omega
  have hg5 : ¬ w.heap.size = w1.heap.size := by omega
  go_wp2_with fail
  rw [rounds_succ]
  go_wp2
  refine bodyPost_ret (((hr4.far3 (g' := w1.heap.size) (by omega) _ _ _).put _ _ _).result rfl _ rfl) rfl ?_
  exact ⟨rfl, below_put (below_put hB4 hgs _ _ _) (Nat.le_refl _) _ _ _⟩
end Go.Proofs.YtknlhejhnopnaaaGreatDoor

/- The calls of package frac, stated by the rational numbers that their arguments stand for; five fractions held in memory. -/
namespace Go.Proofs.YtknlhejhnopnaaaGreatDoor
open Go.RowKit

theorem fAdd_q {n m : Bool} {x y u v : ByteArray} {w : World} {p q : Rat} (r : Rat) (hp : val n x y = p) (hq : val m u v = q) (h : p + q = r) (s1 : x.size + y.size ≤ 100000) (s2 : u.size + v.size ≤ 100000) :
    Calls Tryz.prog 109 #[.agg #[.bool n, .string x, .string y], .agg #[.bool m, .string u, .string v]] w fun e w' => e = .returned (.agg #[.bool (sgn r), .string (nu r), .string (de r)]) ∧ Below w.heap.size w w' := by
  subst hp hq h
  exact fAdd_any n m x y u v w (by omega) (by omega) (by omega) (by omega)
theorem fMul_q {n m : Bool} {x y u v : ByteArray} {w : World} {p q : Rat} (r : Rat) (hp : val n x y = p) (hq : val m u v = q) (h : p * q = r) (s1 : x.size + y.size ≤ 100000) (s2 : u.size + v.size ≤ 100000) :
    Calls Tryz.prog 55 #[.agg #[.bool n, .string x, .string y], .agg #[.bool m, .string u, .string v]] w fun e w' => e = .returned (.agg #[.bool (sgn r), .string (nu r), .string (de r)]) ∧ Below w.heap.size w w' := by
  subst hp hq h
  exact fMul_any n m x y u v w (by omega) (by omega) (by omega) (by omega)
theorem fCmp_q {n m : Bool} {x y u v : ByteArray} {w : World} {p q : Rat} (k : Int) (hp : val n x y = p) (hq : val m u v = q) (h : cmpQ p q = k) (s1 : x.size + y.size ≤ 100000) (s2 : u.size + v.size ≤ 100000) :
    Calls Tryz.prog 123 #[.agg #[.bool n, .string x, .string y], .agg #[.bool m, .string u, .string v]] w fun e w' => e = .returned (.int .i64 k) ∧ Below w.heap.size w w' := by
  subst hp hq h
  exact fCmp_any n m x y u v w (by omega) (by omega) (by omega) (by omega)
theorem Canon_q {n : Bool} {x y : ByteArray} {w : World} (r : Rat) (hp : val n x y = r) (s1 : x.size + y.size ≤ 100000) :
    Calls Tryz.prog 67 #[.agg #[.bool n, .string x, .string y]] w fun e w' => e = .returned (.agg #[.bool (sgn r), .string (nu r), .string (de r)]) ∧ Below w.heap.size w w' := by
  subst hp
  exact Canon_any n x y w (by omega) (by omega)
theorem fOf_q {k : Int} {w : World} (r : Rat) (n : Nat) (hk : k = (n : Int)) (hn : n ≤ 1) (h : (n : Rat) = r) :
    Calls Tryz.prog 76 #[.int .i64 k] w fun e w' => e = .returned (.agg #[.bool (sgn r), .string (nu r), .string (de r)]) ∧ Below w.heap.size w w' := by
  subst h hk
  exact fOf_nat n w (by omega)
theorem fDiv_z {n m : Bool} {x y u v : ByteArray} {w : World} (hq : val m u v = 0) :
    Calls Tryz.prog 75 #[.agg #[.bool n, .string x, .string y], .agg #[.bool m, .string u, .string v]] w fun e w' => e = .returned (.tuple #[.agg #[.bool false, .string ⟨#[]⟩, .string ⟨#[]⟩], .int .i64 3]) ∧ Below w.heap.size w w' :=
  fDiv_no n m x y u v w (val_zero_iff.1 hq)
theorem fDiv_q {n m : Bool} {x y u v : ByteArray} {w : World} {p q : Rat} (r : Rat) (hp : val n x y = p) (hq : val m u v = q) (h0 : q ≠ 0) (h : p / q = r) (s1 : x.size + y.size ≤ 100000) (s2 : u.size + v.size ≤ 100000) :
    Calls Tryz.prog 75 #[.agg #[.bool n, .string x, .string y], .agg #[.bool m, .string u, .string v]] w fun e w' => e = .returned (.tuple #[.agg #[.bool (sgn r), .string (nu r), .string (de r)], .int .i64 0]) ∧ Below w.heap.size w w' := by
  subst hp hq h
  have h0' := fun h => h0 (val_zero_iff.2 h)
  exact fDiv_yes n m x y u v w (fun h => h0' (.inl h)) (fun h => h0' (.inr h)) (by omega) (by omega) (by omega) (by omega)

/-- Three fractions as they were handed in, and two of the fields that package frac writes. -/
def Five (w V : World) (gs gp : Nat) (na nb nc : Bool) (xa ya xb yb xc yc : ByteArray) (s p : Rat) : Prop :=
  Box V w.heap.size na xa ya ∧ Box V (w.heap.size + 1) nb xb yb ∧ Box V (w.heap.size + 2) nc xc yc ∧ Box V gs (sgn s) (nu s) (de s) ∧ Box V gp (sgn p) (nu p) (de p) ∧ Below w.heap.size w V
theorem Five.step {w V U : World} {gs gp : Nat} {na nb nc : Bool} {xa ya xb yb xc yc : ByteArray} {s p : Rat} (h : Five w V gs gp na nb nc xa ya xb yb xc yc s p) (hb : Below V.heap.size V U) : Five w U gs gp na nb nc xa ya xb yb xc yc s p := by
  obtain ⟨h1, h2, h3, h4, h5, h6⟩ := h
  exact ⟨h1.below hb h1.lt, h2.below hb h2.lt, h3.below hb h3.lt, h4.below hb h4.lt, h5.below hb h5.lt, h6.trans (hb.mono h6.size)⟩
theorem Five.drew {w V : World} {gs gp : Nat} {na nb nc : Bool} {xa ya xb yb xc yc : ByteArray} {s p : Rat} (h : Five w V gs gp na nb nc xa ya xb yb xc yc s p) : Five w V.drew gs gp na nb nc xa ya xb yb xc yc s p := by
  obtain ⟨h1, h2, h3, h4, h5, h6⟩ := h
  exact ⟨h1.drew, h2.drew, h3.drew, h4.drew, h5.drew, h6.drew⟩
theorem Five.alloc {w V : World} {gs gp : Nat} {na nb nc : Bool} {xa ya xb yb xc yc : ByteArray} {s p : Rat} (h : Five w V gs gp na nb nc xa ya xb yb xc yc s p) (o : Obj) : Five w (V.alloc o) gs gp na nb nc xa ya xb yb xc yc s p := by
  obtain ⟨h1, h2, h3, h4, h5, h6⟩ := h
  exact ⟨h1.alloc o, h2.alloc o, h3.alloc o, h4.alloc o, h5.alloc o, h6.alloc h6.size o⟩
/-- What the cells hold. -/
def Five.Cells (w V : World) (gs gp : Nat) (na nb nc : Bool) (xa ya xb yb xc yc : ByteArray) (s p : Rat) : Prop :=
  V.cell? ⟨w.heap.size, 0, none⟩ = some (.bool na) ∧ V.cell? ⟨w.heap.size, 1, none⟩ = some (.string xa) ∧ V.cell? ⟨w.heap.size, 2, none⟩ = some (.string ya) ∧
  V.cell? ⟨w.heap.size + 1, 0, none⟩ = some (.bool nb) ∧ V.cell? ⟨w.heap.size + 1, 1, none⟩ = some (.string xb) ∧ V.cell? ⟨w.heap.size + 1, 2, none⟩ = some (.string yb) ∧
  V.cell? ⟨w.heap.size + 2, 0, none⟩ = some (.bool nc) ∧ V.cell? ⟨w.heap.size + 2, 1, none⟩ = some (.string xc) ∧ V.cell? ⟨w.heap.size + 2, 2, none⟩ = some (.string yc) ∧
  V.cell? ⟨gs, 0, none⟩ = some (.bool (sgn s)) ∧ V.cell? ⟨gs, 1, none⟩ = some (.string (nu s)) ∧ V.cell? ⟨gs, 2, none⟩ = some (.string (de s)) ∧
  V.cell? ⟨gp, 0, none⟩ = some (.bool (sgn p)) ∧ V.cell? ⟨gp, 1, none⟩ = some (.string (nu p)) ∧ V.cell? ⟨gp, 2, none⟩ = some (.string (de p))
theorem Five.cells {w V : World} {gs gp : Nat} {na nb nc : Bool} {xa ya xb yb xc yc : ByteArray} {s p : Rat} (h : Five w V gs gp na nb nc xa ya xb yb xc yc s p) : Five.Cells w V gs gp na nb nc xa ya xb yb xc yc s p := by
  obtain ⟨h1, h2, h3, h4, h5, h6⟩ := h
  exact ⟨h1.c0, h1.c1, h1.c2, h2.c0, h2.c1, h2.c2, h3.c0, h3.c1, h3.c2, h4.c0, h4.c1, h4.c2, h5.c0, h5.c1, h5.c2⟩
end Go.Proofs.YtknlhejhnopnaaaGreatDoor
