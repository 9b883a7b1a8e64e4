/- Package frac's quotients and whole numbers. -/
import Derived.Test.YtmdjhefcohcjhaaGreatDoorNumRToFracE
import Derived.BigQuiet
import Derived.Test.YtmdjhefcohcjhaaGreatDoorRefHToRefJ
import Derived.Test.YtmdjhefcohcjhaaGreatDoorRefAToRefG
namespace Go.Proofs.YtmdjhefcohcjhaaGreatDoor
open Go.RowKit

set_option maxRecDepth 100000 in
set_option maxHeartbeats 1000000 in
theorem fOf_nat (n : Nat) (w : World) (h : n ≤ 9223372036854775807) :
    Calls Tryz.prog 55 #[.int .i64 (n : Int)] w fun e w' => e = .returned (C (n : Rat)) ∧ Below w.heap.size w w' := by
  have hq : val false (B n) (B 1) = (n : Rat) := by
    rw [val, N_B, N_B]
    show mkRat (n : Int) 1 = _
    rw [Rat.mkRat_one]
    rfl
  have s1 := B_one_size
  have s2 : (B n).size ≤ 1099511627776 := by
    have := bn_fits 8 n (by show n < 18446744073709551616; omega)
    rw [← B_size n] at this
    omega
  go_enter Tryz.func55, Tryz.ntmps55
  have hbr := Box.at (w := w) rfl false ⟨#[]⟩ ⟨#[]⟩
  have hB0 : Below w.heap.size w (w.alloc (FC false ⟨#[]⟩ ⟨#[]⟩)) := (Below.refl _ w).alloc (Nat.le_refl _) _
  have hB := Below.refl (w.alloc (FC false ⟨#[]⟩ ⟨#[]⟩)).heap.size (w.alloc (FC false ⟨#[]⟩ ⟨#[]⟩))
  go_wp2_with fail
  refine (Of_to n hB rfl (by omega)).mono ?_
  rintro e w1 ⟨rfl, hB⟩
  go_wp2_with fail
  refine (Of_to 1 hB rfl (by omega)).mono ?_
  rintro e w1 ⟨rfl, hB⟩
  go_wp2_with fail
  refine (Make_any false (B n) (B 1) _ s2 (by omega)).mono ?_
  rintro e w2 ⟨rfl, hb2⟩
  rw [hq]
  have hx1 := (hbr.below hB hbr.lt).below hb2 (hbr.below hB hbr.lt).lt
  have hB1 : Below w.heap.size w w2 := (hB0.trans (hB.mono hB0.size)).trans (hb2.mono (hB0.trans (hB.mono hB0.size)).size)
  obtain ⟨k0, k1, k2, f0, f1, f2⟩ := hx1.facts
  clear hbr hB0 hB
  rw [C_eq]
  go_wp2
  refine bodyPost_ret ((hx1.put _ _ _).result rfl _ rfl) rfl ?_
  exact ⟨rfl, below_put hB1 (by omega) _ _ _⟩
end Go.Proofs.YtmdjhefcohcjhaaGreatDoor


/- Three fractions in a row: how many bytes they have, and their sum. -/
namespace Go.Proofs.YtmdjhefcohcjhaaGreatDoor
open Go.RowKit

/-- The block g holds three fractions. -/
def Trio (w : World) (g : Nat) (na nb nc : Bool) (xa ya xb yb xc yc : ByteArray) : Prop := w.heap[g]? = some (.cells #[.bool na, .string xa, .string ya, .bool nb, .string xb, .string yb, .bool nc, .string xc, .string yc] 47 (0, 0))
theorem Trio.facts {w : World} {g : Nat} {na nb nc : Bool} {xa ya xb yb xc yc : ByteArray} (h : Trio w g na nb nc xa ya xb yb xc yc) : w.cell? ⟨g, 0, none⟩ = some (.bool na) ∧ w.cell? ⟨g, 1, none⟩ = some (.string xa) ∧ w.cell? ⟨g, 2, none⟩ = some (.string ya) ∧ w.cell? ⟨g, 3, none⟩ = some (.bool nb) ∧ w.cell? ⟨g, 4, none⟩ = some (.string xb) ∧ w.cell? ⟨g, 5, none⟩ = some (.string yb) ∧ w.cell? ⟨g, 6, none⟩ = some (.bool nc) ∧ w.cell? ⟨g, 7, none⟩ = some (.string xc) ∧ w.cell? ⟨g, 8, none⟩ = some (.string yc) := by
  refine ⟨?_, ?_, ?_, ?_, ?_, ?_, ?_, ?_, ?_⟩ <;> (rw [cell_of_row w g _ _ _ (0, 0) h]; rfl)
theorem Trio.lt {w : World} {g : Nat} {na nb nc : Bool} {xa ya xb yb xc yc : ByteArray} (h : Trio w g na nb nc xa ya xb yb xc yc) : g < w.heap.size := (Array.getElem?_eq_some_iff.1 h).1
theorem Trio.below {w w' : World} {g B : Nat} {na nb nc : Bool} {xa ya xb yb xc yc : ByteArray} (h : Trio w g na nb nc xa ya xb yb xc yc) (hb : Below B w w') (hB : g < B) : Trio w' g na nb nc xa ya xb yb xc yc := (hb.block g hB).trans h
theorem Trio.drew {w : World} {g : Nat} {na nb nc : Bool} {xa ya xb yb xc yc : ByteArray} (h : Trio w g na nb nc xa ya xb yb xc yc) : Trio w.drew g na nb nc xa ya xb yb xc yc := h

theorem below_drewN {B : Nat} {a b : World} (h : Below B a b) (k : Nat) : Below B a (b.drewN k) := ⟨h.os, h.tape, h.output, h.size, h.block⟩

set_option maxRecDepth 100000 in
set_option maxHeartbeats 4000000 in
theorem fracBytes_trio (g : Nat) (na nb nc : Bool) (xa ya xb yb xc yc : ByteArray) (w : World) (ht : Trio w g na nb nc xa ya xb yb xc yc) (hxa : xa.size ≤ 140737488355328) (hya : ya.size ≤ 140737488355328) (hxb : xb.size ≤ 140737488355328) (hyb : yb.size ≤ 140737488355328) (hxc : xc.size ≤ 140737488355328) (hyc : yc.size ≤ 140737488355328) :
    Calls Tryz.prog 7 #[.slice (some ⟨g, 0, none⟩) 3 3] w fun e w' => (∃ r : Int, e = .returned (.int .i64 r) ∧ (r ≤ 200 → ((xa.size + ya.size + xb.size + yb.size + xc.size + yc.size : Nat) : Int) ≤ 197)) ∧ Below w.heap.size w w' := by
  obtain ⟨c0, c1, c2, c3, c4, c5, c6, c7, c8⟩ := ht.facts
  go_enter Tryz.func7, Tryz.ntmps7
  go_wp2_with fail
  refine wp_loop_rounds 4 ?_
  rw [rounds_succ]
  go_wp2_with fail
  go_quiet (fail)
  by_cases h1 : 3 + (xa.size : Int) + (ya.size : Int) ≤ 4096
  · go_wp2_with fail
    rw [rounds_succ]
    go_wp2_with fail
    go_quiet (fail)
    by_cases h2 : 3 + (xa.size : Int) + (ya.size : Int) + (xb.size : Int) + (yb.size : Int) ≤ 4096
    · go_wp2_with fail
      rw [rounds_succ]
      go_wp2_with fail
      go_quiet (fail)
      go_wp2_with fail
      rw [rounds_succ]
      go_wp2
      go_ret
      exact ⟨⟨_, rfl, by omega⟩, below_drewN (Below.refl _ w) _⟩
    · go_wp2_with fail
      rw [rounds_succ]
      go_wp2
      go_ret
      exact ⟨⟨_, rfl, by omega⟩, below_drewN (Below.refl _ w) _⟩
  · go_wp2_with fail
    rw [rounds_succ]
    go_wp2
    go_ret
    exact ⟨⟨_, rfl, by omega⟩, below_drewN (Below.refl _ w) _⟩

set_option maxRecDepth 100000 in
set_option maxHeartbeats 4000000 in
theorem Sum_trio (g : Nat) (na nb nc : Bool) (xa ya xb yb xc yc : ByteArray) (w : World) (ht : Trio w g na nb nc xa ya xb yb xc yc) (hxa : xa.size + ya.size ≤ 1000) (hxb : xb.size + yb.size ≤ 1000) (hxc : xc.size + yc.size ≤ 1000) :
    Calls Tryz.prog 57 #[.slice (some ⟨g, 0, none⟩) 3 3] w fun e w' => e = .returned (C (val na xa ya + val nb xb yb + val nc xc yc)) ∧ Below w.heap.size w w' := by
  obtain ⟨c0, c1, c2, c3, c4, c5, c6, c7, c8⟩ := ht.facts
  go_enter Tryz.func57, Tryz.ntmps57
  have hbr := Box.at (w := w) rfl false ⟨#[]⟩ ⟨#[]⟩
  have hB0 : Below w.heap.size w (w.alloc (FC false ⟨#[]⟩ ⟨#[]⟩)) := (Below.refl _ w).alloc (Nat.le_refl _) _
  go_wp2_with fail
  refine (nought_any _).mono ?_
  rintro e w1 ⟨rfl, hb1⟩
  have hr1 := hbr.below hb1 hbr.lt
  have hB1 : Below w.heap.size w w1 := hB0.trans (hb1.mono hB0.size)
  have ht1 := ht.below hB1 ht.lt
  clear hbr hB0 c0 c1 c2 c3 c4 c5 c6 c7 c8
  obtain ⟨c0, c1, c2, c3, c4, c5, c6, c7, c8⟩ := ht1.facts
  have hg1 : g < w1.heap.size := ht1.lt
  have hlt : w.heap.size < w1.heap.size := hr1.lt
  have hg2 : ¬ g = w1.heap.size := by omega
  have hg3 : ¬ w1.heap.size = g := by omega
  rw [C_eq]
  go_wp2_with fail
  refine wp_loop_rounds 4 ?_
  rw [rounds_succ]
  go_wp2_with fail
  have z0 := own_size 0
  have z1 := qw_zero
  refine (fAdd_any (sgn 0) na (nu 0) (de 0) xa ya _ (by omega) (by omega) (by omega) (by omega)).mono ?_
  rintro e w2 ⟨rfl, hb2⟩
  have q2 : val (sgn 0) (nu 0) (de 0) + val na xa ya = val na xa ya := by rw [val_own, Rat.zero_add]
  have qs2 := qw_val na xa ya
  obtain ⟨p, hp⟩ : ∃ p, val na xa ya = p := ⟨_, rfl⟩
  rw [q2, hp, C_eq]
  rw [hp] at qs2
  have hs1 := (Box.at (w := w1) rfl (sgn 0) (nu 0) (de 0)).alloc (FC na xa ya)
  have hs2 := hs1.below hb2 hs1.lt
  have hr2 := ((hr1.alloc (FC (sgn 0) (nu 0) (de 0))).alloc (FC na xa ya)).below hb2 ((hr1.alloc (FC (sgn 0) (nu 0) (de 0))).alloc (FC na xa ya)).lt
  have hV1 : Below w.heap.size w ((w1.alloc (FC (sgn 0) (nu 0) (de 0))).alloc (FC na xa ya)) := (hB1.alloc hB1.size _).alloc (by simp; have := hB1.size; omega) _
  have hB2 : Below w.heap.size w w2 := hV1.trans (hb2.mono hV1.size)
  have ht2 := ht.below hB2 ht.lt
  have hz2 : w1.heap.size + 2 ≤ w2.heap.size := by have := hb2.size; simpa using this
  have HP := hide hp
  clear hp
  clear q2 hs1 hV1 hb2 hr1 ht1 c0 c1 c2 c3 c4 c5 c6 c7 c8 hb1
  obtain ⟨c0, c1, c2, c3, c4, c5, c6, c7, c8⟩ := ht2.facts
  obtain ⟨k0, k1, k2, f0, f1, f2⟩ := hs2.facts
  have hgs : w.heap.size ≤ w1.heap.size := hB1.size
  have hg4 : ¬ g = w2.heap.size := by omega
  have hg5 : ¬ w2.heap.size = g := by omega
  have hg6 : ¬ w1.heap.size = w2.heap.size := by omega
  have hg7 : ¬ w2.heap.size = w1.heap.size := by omega
  have hg8 : g < w2.heap.size := by omega
  have hg9 : w1.heap.size < w2.heap.size := by omega
  go_wp2_with fail
  rw [rounds_succ]
  go_wp2_with fail
  have zp := own_size p
  refine (fAdd_any (sgn p) nb (nu p) (de p) xb yb _ (by omega) (by omega) (by omega) (by omega)).mono ?_
  rintro e w3 ⟨rfl, hb3⟩
  obtain ⟨q, hq⟩ : ∃ q, p + val nb xb yb = q := ⟨_, rfl⟩
  have qs3 := qw_add p (val nb xb yb)
  have qs4 := qw_val nb xb yb
  rw [val_own, hq, C_eq]
  rw [hq] at qs3
  have hs3 := ((hs2.put (sgn p) (nu p) (de p)).alloc (FC nb xb yb)).below hb3 ((hs2.put (sgn p) (nu p) (de p)).alloc (FC nb xb yb)).lt
  have hr3' := (hr2.far3 (g' := w1.heap.size) (by omega) (.bool (sgn p)) (.string (nu p)) (.string (de p))).alloc (FC nb xb yb)
  have hr3 := hr3'.below hb3 hr3'.lt
  have hV2 := (below_put hB2 hgs (.bool (sgn p)) (.string (nu p)) (.string (de p))).alloc (by simp; omega) (FC nb xb yb)
  have hB3 : Below w.heap.size w w3 := hV2.trans (hb3.mono hV2.size)
  have ht3 := ht.below hB3 ht.lt
  have hz3 : w2.heap.size + 1 ≤ w3.heap.size := by have := hb3.size; simpa using this
  have HQ := hide hq
  clear hq hr3' hV2 hb3 hr2 ht2 hs2 c0 c1 c2 c3 c4 c5 c6 c7 c8 k0 k1 k2 f0 f1 f2 hg4 hg5 hg6 hg7 hg8 hg9
  obtain ⟨c0, c1, c2, c3, c4, c5, c6, c7, c8⟩ := ht3.facts
  obtain ⟨k0, k1, k2, f0, f1, f2⟩ := hs3.facts
  have hg4 : ¬ g = w3.heap.size := by omega
  have hg5 : ¬ w3.heap.size = g := by omega
  have hg6 : ¬ w1.heap.size = w3.heap.size := by omega
  have hg7 : ¬ w3.heap.size = w1.heap.size := by omega
  have hg8 : g < w3.heap.size := by omega
  have hg9 : w1.heap.size < w3.heap.size := by omega
  go_wp2_with fail
  rw [rounds_succ]
  go_wp2_with fail
  have zq := own_size q
  refine (fAdd_any (sgn q) nc (nu q) (de q) xc yc _ (by omega) (by omega) (by omega) (by omega)).mono ?_
  rintro e w4 ⟨rfl, hb4⟩
  have hs4 := ((hs3.put (sgn q) (nu q) (de q)).alloc (FC nc xc yc)).below hb4 ((hs3.put (sgn q) (nu q) (de q)).alloc (FC nc xc yc)).lt
  have hr4' := (hr3.far3 (g' := w1.heap.size) (by omega) (.bool (sgn q)) (.string (nu q)) (.string (de q))).alloc (FC nc xc yc)
  have hr4 := hr4'.below hb4 hr4'.lt
  have hV3 := (below_put hB3 hgs (.bool (sgn q)) (.string (nu q)) (.string (de q))).alloc (by simp; omega) (FC nc xc yc)
  have hB4 : Below w.heap.size w w4 := hV3.trans (hb4.mono hV3.size)
  have hfin : val (sgn q) (nu q) (de q) + val nc xc yc = val na xa ya + val nb xb yb + val nc xc yc := by rw [val_own, ← HQ.out, ← HP.out]
  rw [hfin, C_eq]
  clear hfin hr4' hV3 hb4 hr3 ht3 hs3 c0 c1 c2 c3 c4 c5 c6 c7 c8 k0 k1 k2 f0 f1 f2 hg4 hg5 hg6 hg7 hg8 hg9
  obtain ⟨k0, k1, k2, f0, f1, f2⟩ := hs4.facts
  obtain ⟨j0, j1, j2, i0, i1, i2⟩ := hr4.facts
  have hg4 : ¬ w1.heap.size = w.heap.size := by omega
  have hg5 : ¬ w.heap.size = w1.heap.size := by omega
  go_wp2_with fail
  rw [rounds_succ]
  go_wp2
  refine bodyPost_ret (((hr4.far3 (g' := w1.heap.size) (by omega) _ _ _).put _ _ _).result rfl _ rfl) rfl ?_
  exact ⟨rfl, below_put (below_put hB4 hgs _ _ _) (Nat.le_refl _) _ _ _⟩
end Go.Proofs.YtmdjhefcohcjhaaGreatDoor


/- The calls of package frac, stated by the rational numbers that their arguments stand for; five fractions held in memory. -/
namespace Go.Proofs.YtmdjhefcohcjhaaGreatDoor
open Go.RowKit

theorem fAdd_q {n m : Bool} {x y u v : ByteArray} {w : World} {p q : Rat} (r : Rat) (hp : val n x y = p) (hq : val m u v = q) (h : p + q = r) (s1 : x.size + y.size ≤ 100000) (s2 : u.size + v.size ≤ 100000) :
    Calls Tryz.prog 90 #[.agg #[.bool n, .string x, .string y], .agg #[.bool m, .string u, .string v]] w fun e w' => e = .returned (.agg #[.bool (sgn r), .string (nu r), .string (de r)]) ∧ Below w.heap.size w w' := by
  subst hp hq h
  exact fAdd_any n m x y u v w (by omega) (by omega) (by omega) (by omega)
theorem fCmp_q {n m : Bool} {x y u v : ByteArray} {w : World} {p q : Rat} (k : Int) (hp : val n x y = p) (hq : val m u v = q) (h : cmpQ p q = k) (s1 : x.size + y.size ≤ 100000) (s2 : u.size + v.size ≤ 100000) :
    Calls Tryz.prog 56 #[.agg #[.bool n, .string x, .string y], .agg #[.bool m, .string u, .string v]] w fun e w' => e = .returned (.int .i64 k) ∧ Below w.heap.size w w' := by
  subst hp hq h
  exact fCmp_any n m x y u v w (by omega) (by omega) (by omega) (by omega)
theorem Canon_q {n : Bool} {x y : ByteArray} {w : World} (r : Rat) (hp : val n x y = r) (s1 : x.size + y.size ≤ 100000) :
    Calls Tryz.prog 60 #[.agg #[.bool n, .string x, .string y]] w fun e w' => e = .returned (.agg #[.bool (sgn r), .string (nu r), .string (de r)]) ∧ Below w.heap.size w w' := by
  subst hp
  exact Canon_any n x y w (by omega) (by omega)
theorem fOf_q {k : Int} {w : World} (r : Rat) (n : Nat) (hk : k = (n : Int)) (hn : n ≤ 1) (h : (n : Rat) = r) :
    Calls Tryz.prog 55 #[.int .i64 k] w fun e w' => e = .returned (.agg #[.bool (sgn r), .string (nu r), .string (de r)]) ∧ Below w.heap.size w w' := by
  subst h hk
  exact fOf_nat n w (by omega)
/-- Three fractions as they were handed in, and two of the fields that package frac writes. -/
def Five (w V : World) (gs gp : Nat) (na nb nc : Bool) (xa ya xb yb xc yc : ByteArray) (s p : Rat) : Prop :=
  Box V w.heap.size na xa ya ∧ Box V (w.heap.size + 1) nb xb yb ∧ Box V (w.heap.size + 2) nc xc yc ∧ Box V gs (sgn s) (nu s) (de s) ∧ Box V gp (sgn p) (nu p) (de p) ∧ Below w.heap.size w V
theorem Five.step {w V U : World} {gs gp : Nat} {na nb nc : Bool} {xa ya xb yb xc yc : ByteArray} {s p : Rat} (h : Five w V gs gp na nb nc xa ya xb yb xc yc s p) (hb : Below V.heap.size V U) : Five w U gs gp na nb nc xa ya xb yb xc yc s p := by
  obtain ⟨h1, h2, h3, h4, h5, h6⟩ := h
  exact ⟨h1.below hb h1.lt, h2.below hb h2.lt, h3.below hb h3.lt, h4.below hb h4.lt, h5.below hb h5.lt, h6.trans (hb.mono h6.size)⟩
theorem Five.drew {w V : World} {gs gp : Nat} {na nb nc : Bool} {xa ya xb yb xc yc : ByteArray} {s p : Rat} (h : Five w V gs gp na nb nc xa ya xb yb xc yc s p) : Five w V.drew gs gp na nb nc xa ya xb yb xc yc s p := by
  obtain ⟨h1, h2, h3, h4, h5, h6⟩ := h
  exact ⟨h1.drew, h2.drew, h3.drew, h4.drew, h5.drew, h6.drew⟩
theorem Five.alloc {w V : World} {gs gp : Nat} {na nb nc : Bool} {xa ya xb yb xc yc : ByteArray} {s p : Rat} (h : Five w V gs gp na nb nc xa ya xb yb xc yc s p) (o : Obj) : Five w (V.alloc o) gs gp na nb nc xa ya xb yb xc yc s p := by
  obtain ⟨h1, h2, h3, h4, h5, h6⟩ := h
  exact ⟨h1.alloc o, h2.alloc o, h3.alloc o, h4.alloc o, h5.alloc o, h6.alloc h6.size o⟩
/-- What the cells hold. -/
def Five.Cells (w V : World) (gs gp : Nat) (na nb nc : Bool) (xa ya xb yb xc yc : ByteArray) (s p : Rat) : Prop :=
  V.cell? ⟨w.heap.size, 0, none⟩ = some (.bool na) ∧ V.cell? ⟨w.heap.size, 1, none⟩ = some (.string xa) ∧ V.cell? ⟨w.heap.size, 2, none⟩ = some (.string ya) ∧
  V.cell? ⟨w.heap.size + 1, 0, none⟩ = some (.bool nb) ∧ V.cell? ⟨w.heap.size + 1, 1, none⟩ = some (.string xb) ∧ V.cell? ⟨w.heap.size + 1, 2, none⟩ = some (.string yb) ∧
  V.cell? ⟨w.heap.size + 2, 0, none⟩ = some (.bool nc) ∧ V.cell? ⟨w.heap.size + 2, 1, none⟩ = some (.string xc) ∧ V.cell? ⟨w.heap.size + 2, 2, none⟩ = some (.string yc) ∧
  V.cell? ⟨gs, 0, none⟩ = some (.bool (sgn s)) ∧ V.cell? ⟨gs, 1, none⟩ = some (.string (nu s)) ∧ V.cell? ⟨gs, 2, none⟩ = some (.string (de s)) ∧
  V.cell? ⟨gp, 0, none⟩ = some (.bool (sgn p)) ∧ V.cell? ⟨gp, 1, none⟩ = some (.string (nu p)) ∧ V.cell? ⟨gp, 2, none⟩ = some (.string (de p))
theorem Five.cells {w V : World} {gs gp : Nat} {na nb nc : Bool} {xa ya xb yb xc yc : ByteArray} {s p : Rat} (h : Five w V gs gp na nb nc xa ya xb yb xc yc s p) : Five.Cells w V gs gp na nb nc xa ya xb yb xc yc s p := by
  obtain ⟨h1, h2, h3, h4, h5, h6⟩ := h
  exact ⟨h1.c0, h1.c1, h1.c2, h2.c0, h2.c1, h2.c2, h3.c0, h3.c1, h3.c2, h4.c0, h4.c1, h4.c2, h5.c0, h5.c1, h5.c2⟩
end Go.Proofs.YtmdjhefcohcjhaaGreatDoor


/- The document's answer: fractions made, in lowest terms. -/
namespace Go.Proofs.YtmdjhefcohcjhaaGreatDoor
open Go.RowKit

theorem B_one : B 1 = ⟨#[1]⟩ := by
  rw [B, bn_pos 1 (by decide), show 1 / 256 = 0 from rfl, bn_zero]
  rfl
theorem ne_one {n : Nat} (h : ¬ n = 1) : ((B n).toList == [1]) = false := beq_eq_false_iff_ne.2 fun e => h (B_inj (by
  rw [B_one]
  rw [Lib.toList_data] at e
  exact ByteArray.ext (Array.toList_inj.1 e)))

set_option maxRecDepth 100000 in
set_option maxHeartbeats 1000000 in
theorem rMake_zero (n : Bool) (x y : ByteArray) (w : World) (h : N x = 0 ∨ N y = 0) (hx : x.size ≤ 500000) (hy : y.size ≤ 500000) :
    Calls Tryz.prog 72 #[.bool n, .string x, .string y] w fun e w' => e = .returned (C 0) ∧ Below w.heap.size w w' := by
  have HX := hide (fun V => rTrim_any x V (by omega))
  have HY := hide (fun V => rTrim_any y V (by omega))
  go_enter Tryz.func72, Tryz.ntmps72
  by_cases h0 : N x = 0
  · rw [h0, B_zero] at HX
    go_wp2_with fail
    refine (HX.out _).mono ?_
    rintro e w1 ⟨rfl, hw⟩
    subst hw
    go_wp2_with fail
    refine (HY.out _).mono ?_
    rintro e w1 ⟨rfl, hw⟩
    subst hw
    go_wp2
    refine bodyPost_ret ((Box.at (w := w) rfl false ⟨#[]⟩ ⟨#[1]⟩).result rfl _ rfl) rfl ?_
    exact ⟨by rw [C_zero, B_one], (Below.refl _ w).alloc (Nat.le_refl _) _⟩
  · have h1 : N y = 0 := h.resolve_left h0
    have hne := B_full h0
    rw [h1, B_zero] at HY
    go_wp2_with fail
    refine (HX.out _).mono ?_
    rintro e w1 ⟨rfl, hw⟩
    subst hw
    go_wp2_with fail
    refine (HY.out _).mono ?_
    rintro e w1 ⟨rfl, hw⟩
    subst hw
    go_wp2
    refine bodyPost_ret ((Box.at (w := w) rfl false ⟨#[]⟩ ⟨#[1]⟩).result rfl _ rfl) rfl ?_
    exact ⟨by rw [C_zero, B_one], (Below.refl _ w).alloc (Nat.le_refl _) _⟩

set_option maxRecDepth 100000 in
set_option maxHeartbeats 1000000 in
theorem rMake_some (n : Bool) (x y : ByteArray) (w : World) (h0 : N x ≠ 0) (h1 : N y ≠ 0) (hx : x.size ≤ 500000) (hy : y.size ≤ 500000) :
    Calls Tryz.prog 72 #[.bool n, .string x, .string y] w fun e w' => e = .returned (C (val n x y)) ∧ Below w.heap.size w w' := by
  have HX := hide (fun V => rTrim_any x V (by omega))
  have HY := hide (fun V => rTrim_any y V (by omega))
  have HC := hide (C_make n _ _ h0 h1)
  have sx := Nat.le_trans (B_size_le x) hx
  have sy := Nat.le_trans (B_size_le y) hy
  have hg := hide (fun V => rGcd_any (B (N x)) (B (N y)) V sx sy)
  rw [N_B, N_B] at hg
  have sg1 := Nat.le_trans (sz_mono (Nat.gcd_le_left (N y) (Nat.pos_of_ne_zero h0))) sx
  have hgp : Nat.gcd (N x) (N y) ≠ 0 := fun h => h0 (Nat.gcd_eq_zero_iff.1 h).1
  have HD1 := hide (fun V => rDiv_B (N x) _ V sx sg1 hgp)
  have HD2 := hide (fun V => rDiv_B (N y) _ V sy sg1 hgp)
  have hne0 := B_full h0
  have hne1 := B_full h1
  rw [val]
  clear h0 h1 hgp
  generalize mkRat (sg n (N x)) (N y) = q at *
  generalize N x = X at *
  generalize N y = Y at *
  generalize Nat.gcd X Y = g at *
  go_enter Tryz.func72, Tryz.ntmps72
  have hbx := Box.at (w := w) rfl false ⟨#[]⟩ ⟨#[]⟩
  have hB0 : Below w.heap.size w (w.alloc (FC false ⟨#[]⟩ ⟨#[]⟩)) := (Below.refl _ w).alloc (Nat.le_refl _) _
  go_wp2_with fail
  refine (HX.out _).mono ?_
  rintro e w1 ⟨rfl, hw⟩
  subst hw
  go_wp2_with fail
  refine (HY.out _).mono ?_
  rintro e w1 ⟨rfl, hw⟩
  subst hw
  go_wp2_with fail
  refine (hg.out _).mono ?_
  rintro e w1 ⟨rfl, hb1⟩
  have hx1 := hbx.below hb1 hbx.lt
  have hB1 : Below w.heap.size w w1 := hB0.trans (hb1.mono hB0.size)
  clear hbx hB0 hb1 HX HY hg
  by_cases h1 : g = 1
  · subst h1
    rw [Nat.div_one, Nat.div_one] at HC
    rw [B_one]
    obtain ⟨k0, k1, k2, f0, f1, f2⟩ := hx1.facts
    go_wp2
    refine bodyPost_ret ((hx1.put _ _ _).result rfl _ rfl) rfl ?_
    exact ⟨by rw [HC.out], below_put hB1 (by omega) _ _ _⟩
  · have hn1 := ne_one h1
    go_wp2_with fail
    refine (HD1.out _).mono ?_
    rintro e w2 ⟨rfl, hb2⟩
    have hx2 := hx1.below hb2 hx1.lt
    have hB2 : Below w.heap.size w w2 := hB1.trans (hb2.mono hB1.size)
    go_wp2_with fail
    refine (HD2.out _).mono ?_
    rintro e w3 ⟨rfl, hb3⟩
    have hx3 := hx2.below hb3 hx2.lt
    have hB3 : Below w.heap.size w w3 := hB2.trans (hb3.mono hB2.size)
    obtain ⟨k0, k1, k2, f0, f1, f2⟩ := hx3.facts
    go_wp2
    refine bodyPost_ret ((hx3.put _ _ _).result rfl _ rfl) rfl ?_
    exact ⟨by rw [HC.out], below_put hB3 (by omega) _ _ _⟩

theorem rMake_any (n : Bool) (x y : ByteArray) (w : World) (hx : x.size ≤ 500000) (hy : y.size ≤ 500000) :
    Calls Tryz.prog 72 #[.bool n, .string x, .string y] w fun e w' => e = .returned (C (val n x y)) ∧ Below w.heap.size w w' := by
  by_cases h : N x = 0 ∨ N y = 0
  · have := rMake_zero n x y w h hx hy
    rwa [← val_zero_iff.2 h] at this
  · exact rMake_some n x y w (fun e => h (.inl e)) (fun e => h (.inr e)) hx hy

set_option maxRecDepth 100000 in
set_option maxHeartbeats 1000000 in
theorem rCanon_any (n : Bool) (x y : ByteArray) (w : World) (hx : x.size ≤ 500000) (hy : y.size ≤ 500000) :
    Calls Tryz.prog 45 #[.agg #[.bool n, .string x, .string y]] w fun e w' => e = .returned (C (val n x y)) ∧ Below w.heap.size w w' := by
  go_enter Tryz.func45, Tryz.ntmps45
  have hbx := Box.at (w := w.alloc (FC n x y)) (g := w.heap.size + 1) (by simp) false ⟨#[]⟩ ⟨#[]⟩
  have hB0 : Below w.heap.size w ((w.alloc (FC n x y)).alloc (FC false ⟨#[]⟩ ⟨#[]⟩)) := ((Below.refl _ w).alloc (Nat.le_refl _) _).alloc (by simp) _
  go_wp2_with fail
  refine (rMake_any n x y _ hx hy).mono ?_
  rintro e w1 ⟨rfl, hb1⟩
  have hx1 := hbx.below hb1 hbx.lt
  have hB1 : Below w.heap.size w w1 := hB0.trans (hb1.mono hB0.size)
  obtain ⟨k0, k1, k2, f0, f1, f2⟩ := hx1.facts
  clear hbx hB0
  rw [C_eq]
  go_wp2
  refine bodyPost_ret ((hx1.put _ _ _).result rfl _ rfl) rfl ?_
  exact ⟨rfl, below_put hB1 (by omega) _ _ _⟩
end Go.Proofs.YtmdjhefcohcjhaaGreatDoor


/- The document's answer: sums, differences, products, quotients and comparisons of fractions. -/
namespace Go.Proofs.YtmdjhefcohcjhaaGreatDoor
open Go.RowKit

theorem rMul_B {a b : ByteArray} {w0 w : World} (n : Nat) (hB : Below w0.heap.size w0 w) (h : N a * N b = n) (ha : a.size ≤ 1000000) (hb : b.size ≤ 1000000) :
    Calls Tryz.prog 105 #[.string a, .string b] w fun e w' => e = .returned (.string (B n)) ∧ Below w0.heap.size w0 w' := by
  subst h; exact under hB (rMul_any a b w (by omega) (by omega))
theorem N_nu (q : Rat) : N (nu q) = q.num.natAbs := N_B _
theorem N_de (q : Rat) : N (de q) = q.den := N_B _

/-- Two fractions in lowest terms and a third, in memory. -/
def Tri (w V : World) (p q : Rat) (n : Bool) (x y : ByteArray) : Prop := Box V w.heap.size (sgn p) (nu p) (de p) ∧ Box V (w.heap.size + 1) (sgn q) (nu q) (de q) ∧ Box V (w.heap.size + 2) n x y ∧ Below w.heap.size w V
theorem Tri.step {w V U : World} {p q : Rat} {n : Bool} {x y : ByteArray} (h : Tri w V p q n x y) (hb : Below V.heap.size V U) : Tri w U p q n x y := by
  obtain ⟨h1, h2, h3, h4⟩ := h
  exact ⟨h1.below hb h1.lt, h2.below hb h2.lt, h3.below hb h3.lt, h4.trans (hb.mono h4.size)⟩

theorem sum_same {p q : Rat} (h : sgn p = sgn q) : val (sgn p) (B (p.num.natAbs * q.den + q.num.natAbs * p.den)) (B (p.den * q.den)) = p + q := by
  have e := val_add (sgn p) (sgn q) (nu p) (de p) (nu q) (de q) (by rw [N_de]; exact p.den_nz) (by rw [N_de]; exact q.den_nz)
  rw [val_own, val_own, N_nu, N_nu, N_de, N_de, ← h, ← sg_add] at e
  rw [val, N_B, N_B, e]
theorem sum_gt {p q : Rat} (h : ¬ sgn p = sgn q) (hle : q.num.natAbs * p.den ≤ p.num.natAbs * q.den) : val (sgn p) (B (p.num.natAbs * q.den - q.num.natAbs * p.den)) (B (p.den * q.den)) = p + q := by
  have e := val_add (sgn p) (sgn q) (nu p) (de p) (nu q) (de q) (by rw [N_de]; exact p.den_nz) (by rw [N_de]; exact q.den_nz)
  rw [val_own, val_own, N_nu, N_nu, N_de, N_de, ← sg_sub h (k := p.num.natAbs * q.den - q.num.natAbs * p.den) (by omega)] at e
  rw [val, N_B, N_B, e]
theorem sum_lt {p q : Rat} (h : ¬ sgn p = sgn q) (hle : p.num.natAbs * q.den ≤ q.num.natAbs * p.den) : val (sgn q) (B (q.num.natAbs * p.den - p.num.natAbs * q.den)) (B (p.den * q.den)) = p + q := by
  have e := val_add (sgn p) (sgn q) (nu p) (de p) (nu q) (de q) (by rw [N_de]; exact p.den_nz) (by rw [N_de]; exact q.den_nz)
  rw [val_own, val_own, N_nu, N_nu, N_de, N_de, ← sg_sub' h (k := q.num.natAbs * p.den - p.num.natAbs * q.den) (by omega)] at e
  rw [val, N_B, N_B, e]

set_option maxRecDepth 100000 in
set_option maxHeartbeats 2000000 in
theorem rAddF_any (na nb : Bool) (xa ya xb yb : ByteArray) (w : World) (ha : xa.size + ya.size ≤ 50000) (hb : xb.size + yb.size ≤ 50000) :
    Calls Tryz.prog 71 #[.agg #[.bool na, .string xa, .string ya], .agg #[.bool nb, .string xb, .string yb]] w fun e w' => e = .returned (C (val na xa ya + val nb xb yb)) ∧ Below w.heap.size w w' := by
  have HA := hide (fun V => rCanon_any na xa ya V (by omega) (by omega))
  have HB := hide (fun V => rCanon_any nb xb yb V (by omega) (by omega))
  have q1 := qw_val na xa ya
  have q2 := qw_val nb xb yb
  generalize val na xa ya = p at *
  generalize val nb xb yb = q at *
  have z1 := own_size p
  have z2 := own_size q
  have s1 := sz_mul p.num.natAbs q.den
  have s2 := sz_mul q.num.natAbs p.den
  have s3 := sz_mul p.den q.den
  have s4 := sz_add (p.num.natAbs * q.den) (q.num.natAbs * p.den)
  have s5 := sz_mono (Nat.sub_le (p.num.natAbs * q.den) (q.num.natAbs * p.den))
  have s6 := sz_mono (Nat.sub_le (q.num.natAbs * p.den) (p.num.natAbs * q.den))
  have e1 : (B p.num.natAbs).size = (nu p).size := rfl
  have e2 : (B p.den).size = (de p).size := rfl
  have e3 : (B q.num.natAbs).size = (nu q).size := rfl
  have e4 : (B q.den).size = (de q).size := rfl
  have HS := hide (fun h => sum_same (p := p) (q := q) h)
  have HG := hide (fun h hle => sum_gt (p := p) (q := q) h hle)
  have HL := hide (fun h hle => sum_lt (p := p) (q := q) h hle)
  have HM1 := hide (fun (V : World) => rMul_B (w := V) (p.num.natAbs * q.den) (Below.refl _ V) (by rw [N_nu, N_de]) (show (nu p).size ≤ _ by omega) (show (de q).size ≤ _ by omega))
  have HM2 := hide (fun (V : World) => rMul_B (w := V) (q.num.natAbs * p.den) (Below.refl _ V) (by rw [N_nu, N_de]) (show (nu q).size ≤ _ by omega) (show (de p).size ≤ _ by omega))
  have HM3 := hide (fun (V : World) => rMul_B (w := V) (p.den * q.den) (Below.refl _ V) (by rw [N_de, N_de]) (show (de p).size ≤ _ by omega) (show (de q).size ≤ _ by omega))
  generalize p + q = r at *
  generalize p.num.natAbs * q.den = X at *
  generalize q.num.natAbs * p.den = Y at *
  generalize p.den * q.den = D at *
  have t1 : (B X).size ≤ 200000 := by omega
  have t2 : (B Y).size ≤ 200000 := by omega
  have t3 : (B D).size ≤ 200000 := by omega
  have t4 : (B (X + Y)).size ≤ 500000 := by omega
  have t5 : (B (X - Y)).size ≤ 500000 := by omega
  have t6 : (B (Y - X)).size ≤ 500000 := by omega
  clear s1 s2 s3 s4 s5 s6 e1 e2 e3 e4 z1 z2 q1 q2 ha hb
  go_enter Tryz.func71, Tryz.ntmps71
  have hba := ((Box.at (w := w) rfl na xa ya).alloc (FC nb xb yb)).alloc (FC false ⟨#[]⟩ ⟨#[]⟩)
  have hbb := (Box.at (w := w.alloc (FC na xa ya)) (g := w.heap.size + 1) (by simp) nb xb yb).alloc (FC false ⟨#[]⟩ ⟨#[]⟩)
  have hbr := Box.at (w := (w.alloc (FC na xa ya)).alloc (FC nb xb yb)) (g := w.heap.size + 2) (by simp) false ⟨#[]⟩ ⟨#[]⟩
  have hB0 : Below w.heap.size w (((w.alloc (FC na xa ya)).alloc (FC nb xb yb)).alloc (FC false ⟨#[]⟩ ⟨#[]⟩)) := (((Below.refl _ w).alloc (Nat.le_refl _) _).alloc (by simp) _).alloc (by simp; omega) _
  go_wp2_with fail
  refine (HA.out _).mono ?_
  rintro e w1 ⟨rfl, hb1⟩
  have hba1 := hba.below hb1 hba.lt
  have hbb1 := (hbb.below hb1 hbb.lt).far3 (g' := w.heap.size) (by omega) (.bool (sgn p)) (.string (nu p)) (.string (de p))
  have hbr1 := (hbr.below hb1 hbr.lt).far3 (g' := w.heap.size) (by omega) (.bool (sgn p)) (.string (nu p)) (.string (de p))
  have hB1 := below_put (hB0.trans (hb1.mono hB0.size)) (Nat.le_refl _) (.bool (sgn p)) (.string (nu p)) (.string (de p))
  have hba2 := hba1.put (sgn p) (nu p) (de p)
  obtain ⟨k0, k1, k2, f0, f1, f2⟩ := hba1.facts
  obtain ⟨c0, c1, c2, _, _, _⟩ := hbb1.facts
  rw [C_eq]
  clear hba hbb hbr hB0 hba1 hb1
  go_wp2_with fail
  clear k0 k1 k2 f0 f1 f2 c0 c1 c2
  refine (HB.out _).mono ?_
  rintro e w2 ⟨rfl, hb2⟩
  have hbb2 := hbb1.below hb2 hbb1.lt
  have hba3 := (hba2.below hb2 hba2.lt).far3 (g' := w.heap.size + 1) (by omega) (.bool (sgn q)) (.string (nu q)) (.string (de q))
  have hbr3 := (hbr1.below hb2 hbr1.lt).far3 (g' := w.heap.size + 1) (by omega) (.bool (sgn q)) (.string (nu q)) (.string (de q))
  have hB3 := below_put (hB1.trans (hb2.mono hB1.size)) (g := w.heap.size + 1) (by omega) (.bool (sgn q)) (.string (nu q)) (.string (de q))
  have hbb3 := hbb2.put (sgn q) (nu q) (de q)
  obtain ⟨k0, k1, k2, f0, f1, f2⟩ := hbb2.facts
  have ht : Tri w _ p q false ⟨#[]⟩ ⟨#[]⟩ := ⟨hba3, hbb3, hbr3, hB3⟩
  obtain ⟨c0, c1, c2, _, _, _⟩ := hba3.facts
  obtain ⟨d0, d1, d2, _, _, _⟩ := hbb3.facts
  rw [C_eq]
  clear hba2 hbb1 hbr1 hB1 hbb2 hba3 hbr3 hB3 hbb3 hb2 HA HB
  go_wp2_with fail
  refine (HM1.out _).mono ?_
  rintro e w3 ⟨rfl, hb3⟩
  clear c0 c1 c2 d0 d1 d2 k0 k1 k2 f0 f1 f2
  have ht3 := ht.step hb3
  clear ht hb3 HM1
  obtain ⟨c0, c1, c2, _, _, _⟩ := ht3.1.facts
  obtain ⟨d0, d1, d2, _, _, _⟩ := ht3.2.1.facts
  go_wp2_with fail
  refine (HM2.out _).mono ?_
  rintro e w4 ⟨rfl, hb4⟩
  clear c0 c1 c2 d0 d1 d2
  have ht4 := ht3.step hb4
  clear ht3 hb4 HM2
  obtain ⟨c0, c1, c2, _, _, _⟩ := ht4.1.facts
  obtain ⟨d0, d1, d2, _, _, _⟩ := ht4.2.1.facts
  go_wp2_with fail
  refine (HM3.out _).mono ?_
  rintro e w5 ⟨rfl, hb5⟩
  clear c0 c1 c2 d0 d1 d2
  have ht5 := ht4.step hb5
  clear ht4 hb5 HM3
  obtain ⟨c0, c1, c2, _, _, _⟩ := ht5.1.facts
  obtain ⟨d0, d1, d2, _, _, _⟩ := ht5.2.1.facts
  by_cases hn : sgn p = sgn q
  · have HV := hide (HS.out hn)
    have hn1 : (sgn p == sgn q) = true := by simp [hn]
    have hn2 : decide (sgn p = sgn q) = true := decide_eq_true hn
    have HAD := hide (fun V => rAdd_any (B X) (B Y) V (by omega) (by omega))
    rw [N_B, N_B] at HAD
    have HN := hide hn
    clear hn
    go_wp2_with fail
    refine (HAD.out _).mono ?_
    rintro e w6 ⟨rfl, hb6⟩
    clear c0 c1 c2 d0 d1 d2
    have ht6 := ht5.step hb6
    obtain ⟨c0, c1, c2, _, _, _⟩ := ht6.1.facts
    go_wp2_with fail
    refine (rMake_any (sgn p) (B (X + Y)) (B D) _ (by omega) (by omega)).mono ?_
    rintro e w7 ⟨rfl, hb7⟩
    have ht7 := ht6.step hb7
    obtain ⟨g0, g1, g2, i0, i1, i2⟩ := ht7.2.2.1.facts
    rw [HV.out, C_eq]
    go_wp2
    refine bodyPost_ret ((ht7.2.2.1.put _ _ _).result rfl _ rfl) rfl ?_
    exact ⟨rfl, below_put ht7.2.2.2 (by omega) _ _ _⟩
  · have hn1 : (sgn p == sgn q) = false := by simp [hn]
    have hn2 : decide (sgn p = sgn q) = false := decide_eq_false hn
    by_cases hle : Y ≤ X
    · have HV := hide (HG.out hn hle)
      have HSU := hide (fun V => rSub_yes (B X) (B Y) V (by omega) (by omega) (by rw [N_B, N_B]; exact hle))
      rw [N_B, N_B] at HSU
      go_wp2_with fail
      refine (HSU.out _).mono ?_
      rintro e w6 ⟨rfl, hb6⟩
      clear c0 c1 c2 d0 d1 d2
      have ht6 := ht5.step hb6
      obtain ⟨c0, c1, c2, _, _, _⟩ := ht6.1.facts
      go_wp2_with fail
      refine (rMake_any (sgn p) (B (X - Y)) (B D) _ (by omega) (by omega)).mono ?_
      rintro e w7 ⟨rfl, hb7⟩
      have ht7 := ht6.step hb7
      obtain ⟨g0, g1, g2, i0, i1, i2⟩ := ht7.2.2.1.facts
      rw [HV.out, C_eq]
      go_wp2
      refine bodyPost_ret ((ht7.2.2.1.put _ _ _).result rfl _ rfl) rfl ?_
      exact ⟨rfl, below_put ht7.2.2.2 (by omega) _ _ _⟩
    · have HV := hide (HL.out hn (by omega))
      have HSN := hide (fun V => rSub_no (B X) (B Y) V (by omega) (by omega) (by rw [N_B, N_B]; omega))
      have HSU := hide (fun V => rSub_yes (B Y) (B X) V (by omega) (by omega) (by rw [N_B, N_B]; omega))
      rw [N_B, N_B] at HSU
      go_wp2_with fail
      refine (HSN.out _).mono ?_
      rintro e w6 ⟨rfl, hb6⟩
      clear c0 c1 c2 d0 d1 d2
      have ht6 := ht5.step hb6
      go_wp2_with fail
      refine (HSU.out _).mono ?_
      rintro e w7 ⟨rfl, hb7⟩
      have ht7 := ht6.step hb7
      obtain ⟨c0, c1, c2, _, _, _⟩ := ht7.2.1.facts
      go_wp2_with fail
      refine (rMake_any (sgn q) (B (Y - X)) (B D) _ (by omega) (by omega)).mono ?_
      rintro e w8 ⟨rfl, hb8⟩
      have ht8 := ht7.step hb8
      obtain ⟨g0, g1, g2, i0, i1, i2⟩ := ht8.2.2.1.facts
      rw [HV.out, C_eq]
      go_wp2
      refine bodyPost_ret ((ht8.2.2.1.put _ _ _).result rfl _ rfl) rfl ?_
      exact ⟨rfl, below_put ht8.2.2.2 (by omega) _ _ _⟩
end Go.Proofs.YtmdjhefcohcjhaaGreatDoor

