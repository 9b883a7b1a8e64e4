/- The calls of package frac, stated by the rational numbers that their arguments stand for; five fractions held in memory. -/
import Derived.Test.YtghjhflfcambjaaDoorFracG
namespace Go.Proofs.YtghjhflfcambjaaDoor
open Go.RowKit

theorem fAdd_q {n m : Bool} {x y u v : ByteArray} {w : World} {p q : Rat} (r : Rat) (hp : val n x y = p) (hq : val m u v = q) (h : p + q = r) (s1 : x.size + y.size ≤ 100000) (s2 : u.size + v.size ≤ 100000) :
    Calls Tryd.prog 17 #[.agg #[.bool n, .string x, .string y], .agg #[.bool m, .string u, .string v]] w fun e w' => e = .returned (.agg #[.bool (sgn r), .string (nu r), .string (de r)]) ∧ Below w.heap.size w w' := by
  subst hp hq h
  exact fAdd_any n m x y u v w (by omega) (by omega) (by omega) (by omega)
theorem fSub_q {n m : Bool} {x y u v : ByteArray} {w : World} {p q : Rat} (r : Rat) (hp : val n x y = p) (hq : val m u v = q) (h : p - q = r) (s1 : x.size + y.size ≤ 100000) (s2 : u.size + v.size ≤ 100000) :
    Calls Tryd.prog 19 #[.agg #[.bool n, .string x, .string y], .agg #[.bool m, .string u, .string v]] w fun e w' => e = .returned (.agg #[.bool (sgn r), .string (nu r), .string (de r)]) ∧ Below w.heap.size w w' := by
  subst hp hq h
  exact fSub_any n m x y u v w (by omega) (by omega) (by omega) (by omega)
theorem fMul_q {n m : Bool} {x y u v : ByteArray} {w : World} {p q : Rat} (r : Rat) (hp : val n x y = p) (hq : val m u v = q) (h : p * q = r) (s1 : x.size + y.size ≤ 100000) (s2 : u.size + v.size ≤ 100000) :
    Calls Tryd.prog 18 #[.agg #[.bool n, .string x, .string y], .agg #[.bool m, .string u, .string v]] w fun e w' => e = .returned (.agg #[.bool (sgn r), .string (nu r), .string (de r)]) ∧ Below w.heap.size w w' := by
  subst hp hq h
  exact fMul_any n m x y u v w (by omega) (by omega) (by omega) (by omega)
theorem fCmp_q {n m : Bool} {x y u v : ByteArray} {w : World} {p q : Rat} (k : Int) (hp : val n x y = p) (hq : val m u v = q) (h : cmpQ p q = k) (s1 : x.size + y.size ≤ 100000) (s2 : u.size + v.size ≤ 100000) :
    Calls Tryd.prog 23 #[.agg #[.bool n, .string x, .string y], .agg #[.bool m, .string u, .string v]] w fun e w' => e = .returned (.int .i64 k) ∧ Below w.heap.size w w' := by
  subst hp hq h
  exact fCmp_any n m x y u v w (by omega) (by omega) (by omega) (by omega)
theorem Canon_q {n : Bool} {x y : ByteArray} {w : World} (r : Rat) (hp : val n x y = r) (s1 : x.size + y.size ≤ 100000) :
    Calls Tryd.prog 20 #[.agg #[.bool n, .string x, .string y]] w fun e w' => e = .returned (.agg #[.bool (sgn r), .string (nu r), .string (de r)]) ∧ Below w.heap.size w w' := by
  subst hp
  exact Canon_any n x y w (by omega) (by omega)
theorem fOf_q {k : Int} {w : World} (r : Rat) (n : Nat) (hk : k = (n : Int)) (hn : n ≤ 1) (h : (n : Rat) = r) :
    Calls Tryd.prog 21 #[.int .i64 k] w fun e w' => e = .returned (.agg #[.bool (sgn r), .string (nu r), .string (de r)]) ∧ Below w.heap.size w w' := by
  subst h hk
  exact fOf_nat n w (by omega)
theorem fDiv_z {n m : Bool} {x y u v : ByteArray} {w : World} (hq : val m u v = 0) :
    Calls Tryd.prog 22 #[.agg #[.bool n, .string x, .string y], .agg #[.bool m, .string u, .string v]] w fun e w' => e = .returned (.tuple #[.agg #[.bool false, .string ⟨#[]⟩, .string ⟨#[]⟩], .int .i64 3]) ∧ Below w.heap.size w w' :=
  fDiv_no n m x y u v w (val_zero_iff.1 hq)
theorem fDiv_q {n m : Bool} {x y u v : ByteArray} {w : World} {p q : Rat} (r : Rat) (hp : val n x y = p) (hq : val m u v = q) (h0 : q ≠ 0) (h : p / q = r) (s1 : x.size + y.size ≤ 100000) (s2 : u.size + v.size ≤ 100000) :
    Calls Tryd.prog 22 #[.agg #[.bool n, .string x, .string y], .agg #[.bool m, .string u, .string v]] w fun e w' => e = .returned (.tuple #[.agg #[.bool (sgn r), .string (nu r), .string (de r)], .int .i64 0]) ∧ Below w.heap.size w w' := by
  subst hp hq h
  have h0' := fun h => h0 (val_zero_iff.2 h)
  exact fDiv_yes n m x y u v w (fun h => h0' (.inl h)) (fun h => h0' (.inr h)) (by omega) (by omega) (by omega) (by omega)

/-- Three fractions as they were handed in, and two of the fields that package frac writes. -/
def Five (w V : World) (gs gp : Nat) (na nb nc : Bool) (xa ya xb yb xc yc : ByteArray) (s p : Rat) : Prop :=
  Box V w.heap.size na xa ya ∧ Box V (w.heap.size + 1) nb xb yb ∧ Box V (w.heap.size + 2) nc xc yc ∧ Box V gs (sgn s) (nu s) (de s) ∧ Box V gp (sgn p) (nu p) (de p) ∧ Below w.heap.size w V
theorem Five.step {w V U : World} {gs gp : Nat} {na nb nc : Bool} {xa ya xb yb xc yc : ByteArray} {s p : Rat} (h : Five w V gs gp na nb nc xa ya xb yb xc yc s p) (hb : Below V.heap.size V U) : Five w U gs gp na nb nc xa ya xb yb xc yc s p := by
  obtain ⟨h1, h2, h3, h4, h5, h6⟩ := h
  exact ⟨h1.below hb h1.lt, h2.below hb h2.lt, h3.below hb h3.lt, h4.below hb h4.lt, h5.below hb h5.lt, h6.trans (hb.mono h6.size)⟩
theorem Five.drew {w V : World} {gs gp : Nat} {na nb nc : Bool} {xa ya xb yb xc yc : ByteArray} {s p : Rat} (h : Five w V gs gp na nb nc xa ya xb yb xc yc s p) : Five w V.drew gs gp na nb nc xa ya xb yb xc yc s p := by
  obtain ⟨h1, h2, h3, h4, h5, h6⟩ := h
  exact ⟨h1.drew, h2.drew, h3.drew, h4.drew, h5.drew, h6.drew⟩
theorem Five.alloc {w V : World} {gs gp : Nat} {na nb nc : Bool} {xa ya xb yb xc yc : ByteArray} {s p : Rat} (h : Five w V gs gp na nb nc xa ya xb yb xc yc s p) (o : Obj) : Five w (V.alloc o) gs gp na nb nc xa ya xb yb xc yc s p := by
  obtain ⟨h1, h2, h3, h4, h5, h6⟩ := h
  exact ⟨h1.alloc o, h2.alloc o, h3.alloc o, h4.alloc o, h5.alloc o, h6.alloc h6.size o⟩
/-- What the cells hold. -/
def Five.Cells (w V : World) (gs gp : Nat) (na nb nc : Bool) (xa ya xb yb xc yc : ByteArray) (s p : Rat) : Prop :=
  V.cell? ⟨w.heap.size, 0, none⟩ = some (.bool na) ∧ V.cell? ⟨w.heap.size, 1, none⟩ = some (.string xa) ∧ V.cell? ⟨w.heap.size, 2, none⟩ = some (.string ya) ∧
  V.cell? ⟨w.heap.size + 1, 0, none⟩ = some (.bool nb) ∧ V.cell? ⟨w.heap.size + 1, 1, none⟩ = some (.string xb) ∧ V.cell? ⟨w.heap.size + 1, 2, none⟩ = some (.string yb) ∧
  V.cell? ⟨w.heap.size + 2, 0, none⟩ = some (.bool nc) ∧ V.cell? ⟨w.heap.size + 2, 1, none⟩ = some (.string xc) ∧ V.cell? ⟨w.heap.size + 2, 2, none⟩ = some (.string yc) ∧
  V.cell? ⟨gs, 0, none⟩ = some (.bool (sgn s)) ∧ V.cell? ⟨gs, 1, none⟩ = some (.string (nu s)) ∧ V.cell? ⟨gs, 2, none⟩ = some (.string (de s)) ∧
  V.cell? ⟨gp, 0, none⟩ = some (.bool (sgn p)) ∧ V.cell? ⟨gp, 1, none⟩ = some (.string (nu p)) ∧ V.cell? ⟨gp, 2, none⟩ = some (.string (de p))
theorem Five.cells {w V : World} {gs gp : Nat} {na nb nc : Bool} {xa ya xb yb xc yc : ByteArray} {s p : Rat} (h : Five w V gs gp na nb nc xa ya xb yb xc yc s p) : Five.Cells w V gs gp na nb nc xa ya xb yb xc yc s p := by
  obtain ⟨h1, h2, h3, h4, h5, h6⟩ := h
  exact ⟨h1.c0, h1.c1, h1.c2, h2.c0, h2.c1, h2.c2, h3.c0, h3.c1, h3.c2, h4.c0, h4.c1, h4.c2, h5.c0, h5.c1, h5.c2⟩
end Go.Proofs.YtghjhflfcambjaaDoor
