/- Package frac's sums, differences, products and quotients. -/
import Derived.Test.YtghjhflfcambjaaDoorFracB
namespace Go.Proofs.YtghjhflfcambjaaDoor
open Go.RowKit

/-- The fields of a rational number, as package frac writes them. -/
def sgn (q : Rat) : Bool := decide (q.num < 0)
def nu (q : Rat) : ByteArray := B q.num.natAbs
def de (q : Rat) : ByteArray := B q.den
theorem C_eq (q : Rat) : C q = .agg #[.bool (sgn q), .string (nu q), .string (de q)] := rfl
theorem val_own (q : Rat) : val (sgn q) (nu q) (de q) = q := val_C q
theorem own_size (q : Rat) : (nu q).size + (de q).size = qw q := rfl

set_option maxRecDepth 100000 in
set_option maxHeartbeats 1000000 in
theorem Canon_any (n : Bool) (x y : ByteArray) (w : World) (hx : x.size ≤ 1099511627776) (hy : y.size ≤ 1099511627776) :
    Calls Tryd.prog 20 #[.agg #[.bool n, .string x, .string y]] w fun e w' => e = .returned (C (val n x y)) ∧ Below w.heap.size w w' := by
  go_enter Tryd.func20, Tryd.ntmps20
  have hbx := Box.at (w := w.alloc (FC n x y)) (g := w.heap.size + 1) (by simp) false ⟨#[]⟩ ⟨#[]⟩
  have hB0 : Below w.heap.size w ((w.alloc (FC n x y)).alloc (FC false ⟨#[]⟩ ⟨#[]⟩)) := ((Below.refl _ w).alloc (Nat.le_refl _) _).alloc (by simp) _
  go_wp2_with fail
  refine (Make_any n x y _ hx hy).mono ?_
  rintro e w1 ⟨rfl, hb1⟩
  have hx1 := hbx.below hb1 hbx.lt
  have hB1 : Below w.heap.size w w1 := hB0.trans (hb1.mono hB0.size)
  obtain ⟨k0, k1, k2, f0, f1, f2⟩ := hx1.facts
  clear hbx hB0
  rw [C_eq]
  go_wp2
  refine bodyPost_ret ((hx1.put _ _ _).result rfl _ rfl) rfl ?_
  exact ⟨rfl, below_put hB1 (by omega) _ _ _⟩

set_option maxRecDepth 100000 in
set_option maxHeartbeats 1000000 in
theorem fAdd_any (na nb : Bool) (xa ya xb yb : ByteArray) (w : World) (hxa : xa.size ≤ 137438953472) (hya : ya.size ≤ 137438953472) (hxb : xb.size ≤ 137438953472) (hyb : yb.size ≤ 137438953472) :
    Calls Tryd.prog 17 #[.agg #[.bool na, .string xa, .string ya], .agg #[.bool nb, .string xb, .string yb]] w fun e w' => e = .returned (C (val na xa ya + val nb xb yb)) ∧ Below w.heap.size w w' := by
  go_enter Tryd.func17, Tryd.ntmps17
  have hbx := Box.at (w := (w.alloc (FC na xa ya)).alloc (FC nb xb yb)) (g := w.heap.size + 2) (by simp) false ⟨#[]⟩ ⟨#[]⟩
  have hB0 : Below w.heap.size w (((w.alloc (FC na xa ya)).alloc (FC nb xb yb)).alloc (FC false ⟨#[]⟩ ⟨#[]⟩)) := (((Below.refl _ w).alloc (Nat.le_refl _) _).alloc (by simp) _).alloc (by simp; omega) _
  go_wp2_with fail
  refine (together_any na nb xa ya xb yb _ hxa hya hxb hyb).mono ?_
  rintro e w1 ⟨n, x, d, rfl, hd, hv, sx, sd, hb1⟩
  have hx1 := hbx.below hb1 hbx.lt
  have hB1 : Below w.heap.size w w1 := hB0.trans (hb1.mono hB0.size)
  clear hbx hB0
  go_wp2_with fail
  refine (Make_any n (B x) (B d) _ sx sd).mono ?_
  rintro e w2 ⟨rfl, hb2⟩
  have hx2 := hx1.below hb2 hx1.lt
  have hB2 : Below w.heap.size w w2 := hB1.trans (hb2.mono hB1.size)
  have hq : val n (B x) (B d) = val na xa ya + val nb xb yb := by rw [← hv, val, N_B, N_B]
  rw [hq]
  clear hx1 hB1 hq hv
  obtain ⟨k0, k1, k2, f0, f1, f2⟩ := hx2.facts
  rw [C_eq]
  go_wp2
  refine bodyPost_ret ((hx2.put _ _ _).result rfl _ rfl) rfl ?_
  exact ⟨rfl, below_put hB2 (by omega) _ _ _⟩
end Go.Proofs.YtghjhflfcambjaaDoor
