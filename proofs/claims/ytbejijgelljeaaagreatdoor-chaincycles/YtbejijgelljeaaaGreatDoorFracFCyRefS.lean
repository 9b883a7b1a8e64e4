/- Package frac's quotients and whole numbers. -/
import Derived.Test.YtbejijgelljeaaaGreatDoorFracACyFracE
import Derived.BigQuiet
import Derived.Test.YtbejijgelljeaaaGreatDoorRefHCyNumR
import Derived.Test.YtbejijgelljeaaaGreatDoorRefACyRefG
namespace Go.Proofs.YtbejijgelljeaaaGreatDoor
open Go.RowKit
set_option maxRecDepth 100000 in
set_option maxHeartbeats 1000000 in
theorem fDiv_yes (na nb : Bool) (xa ya xb yb : ByteArray) (w : World) (h0 : N xb ≠ 0) (h1 : N yb ≠ 0) (hxa : xa.size ≤ 137438953472) (hya : ya.size ≤ 137438953472) (hxb : xb.size ≤ 137438953472) (hyb : yb.size ≤ 137438953472) :
    Calls Tryz.prog 49 #[.agg #[.bool na, .string xa, .string ya], .agg #[.bool nb, .string xb, .string yb]] w fun e w' => e = .returned (.tuple #[C (val na xa ya / val nb xb yb), .int .i64 0]) ∧ Below w.heap.size w w' := by
  have hX := fun V => isNought_any xb V
  have hY := fun V => isNought_any yb V
  have HX := hide hX
  have HY := hide hY
  clear hX hY
  have hq : val na xa ya * val nb yb xb = val na xa ya / val nb xb yb := by rw [val_inv nb xb yb h0 h1, Rat.div_def]
  go_enter Tryz.func49, Tryz.ntmps49
  have hbr := Box.at (w := (w.alloc (FC na xa ya)).alloc (FC nb xb yb)) (g := w.heap.size + 2) (by simp) false ⟨#[]⟩ ⟨#[]⟩
  have hB0 : Below w.heap.size w (((w.alloc (FC na xa ya)).alloc (FC nb xb yb)).alloc (FC false ⟨#[]⟩ ⟨#[]⟩)) := (((Below.refl _ w).alloc (Nat.le_refl _) _).alloc (by simp) _).alloc (by simp; omega) _
  go_wp2_with fail
  refine (HX.out _).mono ?_
  rintro e w1 ⟨rfl, hw⟩
  subst hw
  rw [decide_eq_false h0]
  go_wp2_with fail
  refine (HY.out _).mono ?_
  rintro e w1 ⟨rfl, hw⟩
  subst hw
  rw [decide_eq_false h1]
  go_wp2_with fail
  refine (fMul_any na nb xa ya yb xb _ hxa hya hyb hxb).mono ?_
  rintro e w1 ⟨rfl, hb1⟩
  rw [hq]
  have hx1 := hbr.below hb1 hbr.lt
  have hB1 : Below w.heap.size w w1 := hB0.trans (hb1.mono hB0.size)
  obtain ⟨k0, k1, k2, f0, f1, f2⟩ := hx1.facts
  clear hbr hB0
  rw [C_eq]
  go_wp2
  refine bodyPost_ret ((hx1.put _ _ _).result2 rfl _ rfl) rfl ?_
  exact ⟨rfl, below_put hB1 (by omega) _ _ _⟩
set_option maxRecDepth 100000 in
set_option maxHeartbeats 1000000 in
theorem fOf_nat (n : Nat) (w : World) (h : n ≤ 9223372036854775807) :
    Calls Tryz.prog 36 #[.int .i64 (n : Int)] w fun e w' => e = .returned (C (n : Rat)) ∧ Below w.heap.size w w' := by
  have hq : val false (B n) (B 1) = (n : Rat) := by
    rw [val, N_B, N_B]
    show mkRat (n : Int) 1 = _
    rw [Rat.mkRat_one]
    rfl
  have s1 := B_one_size
  have s2 : (B n).size ≤ 1099511627776 := by
    have := bn_fits 8 n (by show n < 18446744073709551616; omega)
    rw [← B_size n] at this
    omega
  go_enter Tryz.func36, Tryz.ntmps36
  have hbr := Box.at (w := w) rfl false ⟨#[]⟩ ⟨#[]⟩
  have hB0 : Below w.heap.size w (w.alloc (FC false ⟨#[]⟩ ⟨#[]⟩)) := (Below.refl _ w).alloc (Nat.le_refl _) _
  have hB := Below.refl (w.alloc (FC false ⟨#[]⟩ ⟨#[]⟩)).heap.size (w.alloc (FC false ⟨#[]⟩ ⟨#[]⟩))
  go_wp2_with fail
  refine (Of_to n hB rfl (by omega)).mono ?_
  rintro e w1 ⟨rfl, hB⟩
  go_wp2_with fail
  refine (Of_to 1 hB rfl (by omega)).mono ?_
  rintro e w1 ⟨rfl, hB⟩
  go_wp2_with fail
  refine (Make_any false (B n) (B 1) _ s2 (by omega)).mono ?_
  rintro e w2 ⟨rfl, hb2⟩
  rw [hq]
  have hx1 := (hbr.below hB hbr.lt).below hb2 (hbr.below hB hbr.lt).lt
  have hB1 : Below w.heap.size w w2 := (hB0.trans (hB.mono hB0.size)).trans (hb2.mono (hB0.trans (hB.mono hB0.size)).size)
  obtain ⟨k0, k1, k2, f0, f1, f2⟩ := hx1.facts
  clear hbr hB0 hB
  rw [C_eq]
  go_wp2
  refine bodyPost_ret ((hx1.put _ _ _).result rfl _ rfl) rfl ?_
  exact ⟨rfl, below_put hB1 (by omega) _ _ _⟩
end Go.Proofs.YtbejijgelljeaaaGreatDoor

/- The calls of package frac, stated by the rational numbers that their arguments stand for; five fractions held in memory. -/
namespace Go.Proofs.YtbejijgelljeaaaGreatDoor
open Go.RowKit
theorem fSub_q {n m : Bool} {x y u v : ByteArray} {w : World} {p q : Rat} (r : Rat) (hp : val n x y = p) (hq : val m u v = q) (h : p - q = r) (s1 : x.size + y.size ≤ 100000) (s2 : u.size + v.size ≤ 100000) :
    Calls Tryz.prog 59 #[.agg #[.bool n, .string x, .string y], .agg #[.bool m, .string u, .string v]] w fun e w' => e = .returned (.agg #[.bool (sgn r), .string (nu r), .string (de r)]) ∧ Below w.heap.size w w' := by
  subst hp hq h
  exact fSub_any n m x y u v w (by omega) (by omega) (by omega) (by omega)
theorem fMul_q {n m : Bool} {x y u v : ByteArray} {w : World} {p q : Rat} (r : Rat) (hp : val n x y = p) (hq : val m u v = q) (h : p * q = r) (s1 : x.size + y.size ≤ 100000) (s2 : u.size + v.size ≤ 100000) :
    Calls Tryz.prog 54 #[.agg #[.bool n, .string x, .string y], .agg #[.bool m, .string u, .string v]] w fun e w' => e = .returned (.agg #[.bool (sgn r), .string (nu r), .string (de r)]) ∧ Below w.heap.size w w' := by
  subst hp hq h
  exact fMul_any n m x y u v w (by omega) (by omega) (by omega) (by omega)
theorem fCmp_q {n m : Bool} {x y u v : ByteArray} {w : World} {p q : Rat} (k : Int) (hp : val n x y = p) (hq : val m u v = q) (h : cmpQ p q = k) (s1 : x.size + y.size ≤ 100000) (s2 : u.size + v.size ≤ 100000) :
    Calls Tryz.prog 53 #[.agg #[.bool n, .string x, .string y], .agg #[.bool m, .string u, .string v]] w fun e w' => e = .returned (.int .i64 k) ∧ Below w.heap.size w w' := by
  subst hp hq h
  exact fCmp_any n m x y u v w (by omega) (by omega) (by omega) (by omega)
theorem fOf_q {k : Int} {w : World} (r : Rat) (n : Nat) (hk : k = (n : Int)) (hn : n ≤ 1) (h : (n : Rat) = r) :
    Calls Tryz.prog 36 #[.int .i64 k] w fun e w' => e = .returned (.agg #[.bool (sgn r), .string (nu r), .string (de r)]) ∧ Below w.heap.size w w' := by
  subst h hk
  exact fOf_nat n w (by omega)
theorem fDiv_q {n m : Bool} {x y u v : ByteArray} {w : World} {p q : Rat} (r : Rat) (hp : val n x y = p) (hq : val m u v = q) (h0 : q ≠ 0) (h : p / q = r) (s1 : x.size + y.size ≤ 100000) (s2 : u.size + v.size ≤ 100000) :
    Calls Tryz.prog 49 #[.agg #[.bool n, .string x, .string y], .agg #[.bool m, .string u, .string v]] w fun e w' => e = .returned (.tuple #[.agg #[.bool (sgn r), .string (nu r), .string (de r)], .int .i64 0]) ∧ Below w.heap.size w w' := by
  subst hp hq h
  have h0' := fun h => h0 (val_zero_iff.2 h)
  exact fDiv_yes n m x y u v w (fun h => h0' (.inl h)) (fun h => h0' (.inr h)) (by omega) (by omega) (by omega) (by omega)
end Go.Proofs.YtbejijgelljeaaaGreatDoor

/- The document's answer: fractions made, in lowest terms. -/
namespace Go.Proofs.YtbejijgelljeaaaGreatDoor
open Go.RowKit
theorem B_one : B 1 = ⟨#[1]⟩ := by
  rw [B, bn_pos 1 (by decide), show 1 / 256 = 0 from rfl, bn_zero]
  rfl
theorem ne_one {n : Nat} (h : ¬ n = 1) : ((B n).toList == [1]) = false := beq_eq_false_iff_ne.2 fun e => h (B_inj (by
  rw [B_one]
  rw [Lib.toList_data] at e
  exact ByteArray.ext (Array.toList_inj.1 e)))
set_option maxRecDepth 100000 in
set_option maxHeartbeats 1000000 in
theorem rMake_zero (n : Bool) (x y : ByteArray) (w : World) (h : N x = 0 ∨ N y = 0) (hx : x.size ≤ 500000) (hy : y.size ≤ 500000) :
    Calls Tryz.prog 41 #[.bool n, .string x, .string y] w fun e w' => e = .returned (C 0) ∧ Below w.heap.size w w' := by
  have HX := hide (fun V => rTrim_any x V (by omega))
  have HY := hide (fun V => rTrim_any y V (by omega))
  go_enter Tryz.func41, Tryz.ntmps41
  by_cases h0 : N x = 0
  · rw [h0, B_zero] at HX
    go_wp2_with fail
    refine (HX.out _).mono ?_
    rintro e w1 ⟨rfl, hw⟩
    subst hw
    go_wp2_with fail
    refine (HY.out _).mono ?_
    rintro e w1 ⟨rfl, hw⟩
    subst hw
    go_wp2
    refine bodyPost_ret ((Box.at (w := w) rfl false ⟨#[]⟩ ⟨#[1]⟩).result rfl _ rfl) rfl ?_
    exact ⟨by rw [C_zero, B_one], (Below.refl _ w).alloc (Nat.le_refl _) _⟩
  · have h1 : N y = 0 := h.resolve_left h0
    have hne := B_full h0
    rw [h1, B_zero] at HY
    go_wp2_with fail
    refine (HX.out _).mono ?_
    rintro e w1 ⟨rfl, hw⟩
    subst hw
    go_wp2_with fail
    refine (HY.out _).mono ?_
    rintro e w1 ⟨rfl, hw⟩
    subst hw
    go_wp2
    refine bodyPost_ret ((Box.at (w := w) rfl false ⟨#[]⟩ ⟨#[1]⟩).result rfl _ rfl) rfl ?_
    exact ⟨by rw [C_zero, B_one], (Below.refl _ w).alloc (Nat.le_refl _) _⟩
set_option maxRecDepth 100000 in
set_option maxHeartbeats 1000000 in
theorem rMake_some (n : Bool) (x y : ByteArray) (w : World) (h0 : N x ≠ 0) (h1 : N y ≠ 0) (hx : x.size ≤ 500000) (hy : y.size ≤ 500000) :
    Calls Tryz.prog 41 #[.bool n, .string x, .string y] w fun e w' => e = .returned (C (val n x y)) ∧ Below w.heap.size w w' := by
  have HX := hide (fun V => rTrim_any x V (by omega))
  have HY := hide (fun V => rTrim_any y V (by omega))
  have HC := hide (C_make n _ _ h0 h1)
  have sx := Nat.le_trans (B_size_le x) hx
  have sy := Nat.le_trans (B_size_le y) hy
  have hg := hide (fun V => rGcd_any (B (N x)) (B (N y)) V sx sy)
  rw [N_B, N_B] at hg
  have sg1 := Nat.le_trans (sz_mono (Nat.gcd_le_left (N y) (Nat.pos_of_ne_zero h0))) sx
  have hgp : Nat.gcd (N x) (N y) ≠ 0 := fun h => h0 (Nat.gcd_eq_zero_iff.1 h).1
  have HD1 := hide (fun V => rDiv_B (N x) _ V sx sg1 hgp)
  have HD2 := hide (fun V => rDiv_B (N y) _ V sy sg1 hgp)
  have hne0 := B_full h0
  have hne1 := B_full h1
  rw [val]
  clear h0 h1 hgp
  generalize mkRat (sg n (N x)) (N y) = q at *
  generalize N x = X at *
  generalize N y = Y at *
  generalize Nat.gcd X Y = g at *
  go_enter Tryz.func41, Tryz.ntmps41
  have hbx := Box.at (w := w) rfl false ⟨#[]⟩ ⟨#[]⟩
  have hB0 : Below w.heap.size w (w.alloc (FC false ⟨#[]⟩ ⟨#[]⟩)) := (Below.refl _ w).alloc (Nat.le_refl _) _
  go_wp2_with fail
  refine (HX.out _).mono ?_
  rintro e w1 ⟨rfl, hw⟩
  subst hw
  go_wp2_with fail
  refine (HY.out _).mono ?_
  rintro e w1 ⟨rfl, hw⟩
  subst hw
  go_wp2_with fail
  refine (hg.out _).mono ?_
  rintro e w1 ⟨rfl, hb1⟩
  have hx1 := hbx.below hb1 hbx.lt
  have hB1 : Below w.heap.size w w1 := hB0.trans (hb1.mono hB0.size)
  clear hbx hB0 hb1 HX HY hg
  by_cases h1 : g = 1
  · subst h1
    rw [Nat.div_one, Nat.div_one] at HC
    rw [B_one]
    obtain ⟨k0, k1, k2, f0, f1, f2⟩ := hx1.facts
    go_wp2
    refine bodyPost_ret ((hx1.put _ _ _).result rfl _ rfl) rfl ?_
    exact ⟨by rw [HC.out], below_put hB1 (by omega) _ _ _⟩
  · have hn1 := ne_one h1
    go_wp2_with fail
    refine (HD1.out _).mono ?_
    rintro e w2 ⟨rfl, hb2⟩
    have hx2 := hx1.below hb2 hx1.lt
    have hB2 : Below w.heap.size w w2 := hB1.trans (hb2.mono hB1.size)
    go_wp2_with fail
    refine (HD2.out _).mono ?_
    rintro e w3 ⟨rfl, hb3⟩
    have hx3 := hx2.below hb3 hx2.lt
    have hB3 : Below w.heap.size w w3 := hB2.trans (hb3.mono hB2.size)
    obtain ⟨k0, k1, k2, f0, f1, f2⟩ := hx3.facts
    go_wp2
    refine bodyPost_ret ((hx3.put _ _ _).result rfl _ rfl) rfl ?_
    exact ⟨by rw [HC.out], below_put hB3 (by omega) _ _ _⟩
theorem rMake_any (n : Bool) (x y : ByteArray) (w : World) (hx : x.size ≤ 500000) (hy : y.size ≤ 500000) :
    Calls Tryz.prog 41 #[.bool n, .string x, .string y] w fun e w' => e = .returned (C (val n x y)) ∧ Below w.heap.size w w' := by
  by_cases h : N x = 0 ∨ N y = 0
  · have := rMake_zero n x y w h hx hy
    rwa [← val_zero_iff.2 h] at this
  · exact rMake_some n x y w (fun e => h (.inl e)) (fun e => h (.inr e)) hx hy
set_option maxRecDepth 100000 in
set_option maxHeartbeats 1000000 in
theorem rCanon_any (n : Bool) (x y : ByteArray) (w : World) (hx : x.size ≤ 500000) (hy : y.size ≤ 500000) :
    Calls Tryz.prog 39 #[.agg #[.bool n, .string x, .string y]] w fun e w' => e = .returned (C (val n x y)) ∧ Below w.heap.size w w' := by
  go_enter Tryz.func39, Tryz.ntmps39
  have hbx := Box.at (w := w.alloc (FC n x y)) (g := w.heap.size + 1) (by simp) false ⟨#[]⟩ ⟨#[]⟩
  have hB0 : Below w.heap.size w ((w.alloc (FC n x y)).alloc (FC false ⟨#[]⟩ ⟨#[]⟩)) := ((Below.refl _ w).alloc (Nat.le_refl _) _).alloc (by simp) _
  go_wp2_with fail
  refine (rMake_any n x y _ hx hy).mono ?_
  rintro e w1 ⟨rfl, hb1⟩
  have hx1 := hbx.below hb1 hbx.lt
  have hB1 : Below w.heap.size w w1 := hB0.trans (hb1.mono hB0.size)
  obtain ⟨k0, k1, k2, f0, f1, f2⟩ := hx1.facts
  clear hbx hB0
  rw [C_eq]
  go_wp2
  refine bodyPost_ret ((hx1.put _ _ _).result rfl _ rfl) rfl ?_
  exact ⟨rfl, below_put hB1 (by omega) _ _ _⟩
end Go.Proofs.YtbejijgelljeaaaGreatDoor

/- The document's answer: sums, differences, products, quotients and comparisons of fractions. -/
namespace Go.Proofs.YtbejijgelljeaaaGreatDoor
open Go.RowKit
theorem rMul_B {a b : ByteArray} {w0 w : World} (n : Nat) (hB : Below w0.heap.size w0 w) (h : N a * N b = n) (ha : a.size ≤ 1000000) (hb : b.size ≤ 1000000) :
    Calls Tryz.prog 40 #[.string a, .string b] w fun e w' => e = .returned (.string (B n)) ∧ Below w0.heap.size w0 w' := by
  subst h; exact under hB (rMul_any a b w (by omega) (by omega))
theorem N_nu (q : Rat) : N (nu q) = q.num.natAbs := N_B _
theorem N_de (q : Rat) : N (de q) = q.den := N_B _
/-- Two fractions in lowest terms and a third, in memory. -/
def Tri (w V : World) (p q : Rat) (n : Bool) (x y : ByteArray) : Prop := Box V w.heap.size (sgn p) (nu p) (de p) ∧ Box V (w.heap.size + 1) (sgn q) (nu q) (de q) ∧ Box V (w.heap.size + 2) n x y ∧ Below w.heap.size w V
theorem Tri.step {w V U : World} {p q : Rat} {n : Bool} {x y : ByteArray} (h : Tri w V p q n x y) (hb : Below V.heap.size V U) : Tri w U p q n x y := by
  obtain ⟨h1, h2, h3, h4⟩ := h
  exact ⟨h1.below hb h1.lt, h2.below hb h2.lt, h3.below hb h3.lt, h4.trans (hb.mono h4.size)⟩
theorem sum_same {p q : Rat} (h : sgn p = sgn q) : val (sgn p) (B (p.num.natAbs * q.den + q.num.natAbs * p.den)) (B (p.den * q.den)) = p + q := by
  have e := val_add (sgn p) (sgn q) (nu p) (de p) (nu q) (de q) (by rw [N_de]; exact p.den_nz) (by rw [N_de]; exact q.den_nz)
  rw [val_own, val_own, N_nu, N_nu, N_de, N_de, ← h, ← sg_add] at e
  rw [val, N_B, N_B, e]
theorem sum_gt {p q : Rat} (h : ¬ sgn p = sgn q) (hle : q.num.natAbs * p.den ≤ p.num.natAbs * q.den) : val (sgn p) (B (p.num.natAbs * q.den - q.num.natAbs * p.den)) (B (p.den * q.den)) = p + q := by
  have e := val_add (sgn p) (sgn q) (nu p) (de p) (nu q) (de q) (by rw [N_de]; exact p.den_nz) (by rw [N_de]; exact q.den_nz)
  rw [val_own, val_own, N_nu, N_nu, N_de, N_de, ← sg_sub h (k := p.num.natAbs * q.den - q.num.natAbs * p.den) (by omega)] at e
  rw [val, N_B, N_B, e]
theorem sum_lt {p q : Rat} (h : ¬ sgn p = sgn q) (hle : p.num.natAbs * q.den ≤ q.num.natAbs * p.den) : val (sgn q) (B (q.num.natAbs * p.den - p.num.natAbs * q.den)) (B (p.den * q.den)) = p + q := by
  have e := val_add (sgn p) (sgn q) (nu p) (de p) (nu q) (de q) (by rw [N_de]; exact p.den_nz) (by rw [N_de]; exact q.den_nz)
  rw [val_own, val_own, N_nu, N_nu, N_de, N_de, ← sg_sub' h (k := q.num.natAbs * p.den - p.num.natAbs * q.den) (by omega)] at e
  rw [val, N_B, N_B, e]
set_option maxRecDepth 100000 in
set_option maxHeartbeats 2000000 in
theorem rAddF_any (na nb : Bool) (xa ya xb yb : ByteArray) (w : World) (ha : xa.size + ya.size ≤ 50000) (hb : xb.size + yb.size ≤ 50000) :
    Calls Tryz.prog 13 #[.agg #[.bool na, .string xa, .string ya], .agg #[.bool nb, .string xb, .string yb]] w fun e w' => e = .returned (C (val na xa ya + val nb xb yb)) ∧ Below w.heap.size w w' := by
  have HA := hide (fun V => rCanon_any na xa ya V (by omega) (by omega))
  have HB := hide (fun V => rCanon_any nb xb yb V (by omega) (by omega))
  have q1 := qw_val na xa ya
  have q2 := qw_val nb xb yb
  generalize val na xa ya = p at *
  generalize val nb xb yb = q at *
  have z1 := own_size p
  have z2 := own_size q
  have s1 := sz_mul p.num.natAbs q.den
  have s2 := sz_mul q.num.natAbs p.den
  have s3 := sz_mul p.den q.den
  have s4 := sz_add (p.num.natAbs * q.den) (q.num.natAbs * p.den)
  have s5 := sz_mono (Nat.sub_le (p.num.natAbs * q.den) (q.num.natAbs * p.den))
  have s6 := sz_mono (Nat.sub_le (q.num.natAbs * p.den) (p.num.natAbs * q.den))
  have e1 : (B p.num.natAbs).size = (nu p).size := rfl
  have e2 : (B p.den).size = (de p).size := rfl
  have e3 : (B q.num.natAbs).size = (nu q).size := rfl
  have e4 : (B q.den).size = (de q).size := rfl
  have HS := hide (fun h => sum_same (p := p) (q := q) h)
  have HG := hide (fun h hle => sum_gt (p := p) (q := q) h hle)
  have HL := hide (fun h hle => sum_lt (p := p) (q := q) h hle)
  have HM1 := hide (fun (V : World) => rMul_B (w := V) (p.num.natAbs * q.den) (Below.refl _ V) (by rw [N_nu, N_de]) (show (nu p).size ≤ _ by omega) (show (de q).size ≤ _ by omega))
  have HM2 := hide (fun (V : World) => rMul_B (w := V) (q.num.natAbs * p.den) (Below.refl _ V) (by rw [N_nu, N_de]) (show (nu q).size ≤ _ by omega) (show (de p).size ≤ _ by omega))
  have HM3 := hide (fun (V : World) => rMul_B (w := V) (p.den * q.den) (Below.refl _ V) (by rw [N_de, N_de]) (show (de p).size ≤ _ by omega) (show (de q).size ≤ _ by omega))
  generalize p + q = r at *
  generalize p.num.natAbs * q.den = X at *
  generalize q.num.natAbs * p.den = Y at *
  generalize p.den * q.den = D at *
  have t1 : (B X).size ≤ 200000 := by omega
  have t2 : (B Y).size ≤ 200000 := by omega
  have t3 : (B D).size ≤ 200000 := by omega
  have t4 : (B (X + Y)).size ≤ 500000 := by omega
  have t5 : (B (X - Y)).size ≤ 500000 := by omega
  have t6 : (B (Y - X)).size ≤ 500000 := by omega
  clear s1 s2 s3 s4 s5 s6 e1 e2 e3 e4 z1 z2 q1 q2 ha hb
  go_enter Tryz.func13, Tryz.ntmps13
  have hba := ((Box.at (w := w) rfl na xa ya).alloc (FC nb xb yb)).alloc (FC false ⟨#[]⟩ ⟨#[]⟩)
  have hbb := (Box.at (w := w.alloc (FC na xa ya)) (g := w.heap.size + 1) (by simp) nb xb yb).alloc (FC false ⟨#[]⟩ ⟨#[]⟩)
  have hbr := Box.at (w := (w.alloc (FC na xa ya)).alloc (FC nb xb yb)) (g := w.heap.size + 2) (by simp) false ⟨#[]⟩ ⟨#[]⟩
  have hB0 : Below w.heap.size w (((w.alloc (FC na xa ya)).alloc (FC nb xb yb)).alloc (FC false ⟨#[]⟩ ⟨#[]⟩)) := (((Below.refl _ w).alloc (Nat.le_refl _) _).alloc (by simp) _).alloc (by simp; omega) _
  go_wp2_with fail
  refine (HA.out _).mono ?_
  rintro e w1 ⟨rfl, hb1⟩
  have hba1 := hba.below hb1 hba.lt
  have hbb1 := (hbb.below hb1 hbb.lt).far3 (g' := w.heap.size) (by omega) (.bool (sgn p)) (.string (nu p)) (.string (de p))
  have hbr1 := (hbr.below hb1 hbr.lt).far3 (g' := w.heap.size) (by omega) (.bool (sgn p)) (.string (nu p)) (.string (de p))
  have hB1 := below_put (hB0.trans (hb1.mono hB0.size)) (Nat.le_refl _) (.bool (sgn p)) (.string (nu p)) (.string (de p))
  have hba2 := hba1.put (sgn p) (nu p) (de p)
  obtain ⟨k0, k1, k2, f0, f1, f2⟩ := hba1.facts
  obtain ⟨c0, c1, c2, _, _, _⟩ := hbb1.facts
  rw [C_eq]
  clear hba hbb hbr hB0 hba1 hb1
  go_wp2_with fail
  clear k0 k1 k2 f0 f1 f2 c0 c1 c2
  refine (HB.out _).mono ?_
  rintro e w2 ⟨rfl, hb2⟩
  have hbb2 := hbb1.below hb2 hbb1.lt
  have hba3 := (hba2.below hb2 hba2.lt).far3 (g' := w.heap.size + 1) (by omega) (.bool (sgn q)) (.string (nu q)) (.string (de q))
  have hbr3 := (hbr1.below hb2 hbr1.lt).far3 (g' := w.heap.size + 1) (by omega) (.bool (sgn q)) (.string (nu q)) (.string (de q))
  have hB3 := below_put (hB1.trans (hb2.mono hB1.size)) (g := w.heap.size + 1) (by omega) (.bool (sgn q)) (.string (nu q)) (.string (de q))
  have hbb3 := hbb2.put (sgn q) (nu q) (de q)
  obtain ⟨k0, k1, k2, f0, f1, f2⟩ := hbb2.facts
  have ht : Tri w _ p q false ⟨#[]⟩ ⟨#[]⟩ := ⟨hba3, hbb3, hbr3, hB3⟩
  obtain ⟨c0, c1, c2, _, _, _⟩ := hba3.facts
  obtain ⟨d0, d1, d2, _, _, _⟩ := hbb3.facts
  rw [C_eq]
  clear hba2 hbb1 hbr1 hB1 hbb2 hba3 hbr3 hB3 hbb3 hb2 HA HB
  go_wp2_with fail
  refine (HM1.out _).mono ?_
  rintro e w3 ⟨rfl, hb3⟩
  clear c0 c1 c2 d0 d1 d2 k0 k1 k2 f0 f1 f2
  have ht3 := ht.step hb3
  clear ht hb3 HM1
  obtain ⟨c0, c1, c2, _, _, _⟩ := ht3.1.facts
  obtain ⟨d0, d1, d2, _, _, _⟩ := ht3.2.1.facts
  go_wp2_with fail
  refine (HM2.out _).mono ?_
  rintro e w4 ⟨rfl, hb4⟩
  clear c0 c1 c2 d0 d1 d2
  have ht4 := ht3.step hb4
  clear ht3 hb4 HM2
  obtain ⟨c0, c1, c2, _, _, _⟩ := ht4.1.facts
  obtain ⟨d0, d1, d2, _, _, _⟩ := ht4.2.1.facts
  go_wp2_with fail
  refine (HM3.out _).mono ?_
  rintro e w5 ⟨rfl, hb5⟩
  clear c0 c1 c2 d0 d1 d2
  have ht5 := ht4.step hb5
  clear ht4 hb5 HM3
  obtain ⟨c0, c1, c2, _, _, _⟩ := ht5.1.facts
  obtain ⟨d0, d1, d2, _, _, _⟩ := ht5.2.1.facts
  by_cases hn : sgn p = sgn q
  · have HV := hide (HS.out hn)
    have hn1 : (sgn p == sgn q) = true := by simp [hn]
    have hn2 : decide (sgn p = sgn q) = true := decide_eq_true hn
    have HAD := hide (fun V => rAdd_any (B X) (B Y) V (by omega) (by omega))
    rw [N_B, N_B] at HAD
    have HN := hide hn
    clear hn
    go_wp2_with fail
    refine (HAD.out _).mono ?_
    rintro e w6 ⟨rfl, hb6⟩
    clear c0 c1 c2 d0 d1 d2
    have ht6 := ht5.step hb6
    obtain ⟨c0, c1, c2, _, _, _⟩ := ht6.1.facts
    go_wp2_with fail
    refine (rMake_any (sgn p) (B (X + Y)) (B D) _ (by omega) (by omega)).mono ?_
    rintro e w7 ⟨rfl, hb7⟩
    have ht7 := ht6.step hb7
    obtain ⟨g0, g1, g2, i0, i1, i2⟩ := ht7.2.2.1.facts
    rw [HV.out, C_eq]
    go_wp2
    refine bodyPost_ret ((ht7.2.2.1.put _ _ _).result rfl _ rfl) rfl ?_
    exact ⟨rfl, below_put ht7.2.2.2 (by omega) _ _ _⟩
  · have hn1 : (sgn p == sgn q) = false := by simp [hn]
    have hn2 : decide (sgn p = sgn q) = false := decide_eq_false hn
    by_cases hle : Y ≤ X
    · have HV := hide (HG.out hn hle)
      have HSU := hide (fun V => rSub_yes (B X) (B Y) V (by omega) (by omega) (by rw [N_B, N_B]; exact hle))
      rw [N_B, N_B] at HSU
      go_wp2_with fail
      refine (HSU.out _).mono ?_
      rintro e w6 ⟨rfl, hb6⟩
      clear c0 c1 c2 d0 d1 d2
      have ht6 := ht5.step hb6
      obtain ⟨c0, c1, c2, _, _, _⟩ := ht6.1.facts
      go_wp2_with fail
      refine (rMake_any (sgn p) (B (X - Y)) (B D) _ (by omega) (by omega)).mono ?_
      rintro e w7 ⟨rfl, hb7⟩
      have ht7 := ht6.step hb7
      obtain ⟨g0, g1, g2, i0, i1, i2⟩ := ht7.2.2.1.facts
      rw [HV.out, C_eq]
      go_wp2
      refine bodyPost_ret ((ht7.2.2.1.put _ _ _).result rfl _ rfl) rfl ?_
      exact ⟨rfl, below_put ht7.2.2.2 (by omega) _ _ _⟩
    · have HV := hide (HL.out hn (by omega))
      have HSN := hide (fun V => rSub_no (B X) (B Y) V (by omega) (by omega) (by rw [N_B, N_B]; omega))
      have HSU := hide (fun V => rSub_yes (B Y) (B X) V (by omega) (by omega) (by rw [N_B, N_B]; omega))
      rw [N_B, N_B] at HSU
      go_wp2_with fail
      refine (HSN.out _).mono ?_
      rintro e w6 ⟨rfl, hb6⟩
      clear c0 c1 c2 d0 d1 d2
      have ht6 := ht5.step hb6
      go_wp2_with fail
      refine (HSU.out _).mono ?_
      rintro e w7 ⟨rfl, hb7⟩
      have ht7 := ht6.step hb7
      obtain ⟨c0, c1, c2, _, _, _⟩ := ht7.2.1.facts
      go_wp2_with fail
      refine (rMake_any (sgn q) (B (Y - X)) (B D) _ (by omega) (by omega)).mono ?_
      rintro e w8 ⟨rfl, hb8⟩
      have ht8 := ht7.step hb8
      obtain ⟨g0, g1, g2, i0, i1, i2⟩ := ht8.2.2.1.facts
      rw [HV.out, C_eq]
      go_wp2
      refine bodyPost_ret ((ht8.2.2.1.put _ _ _).result rfl _ rfl) rfl ?_
      exact ⟨rfl, below_put ht8.2.2.2 (by omega) _ _ _⟩
end Go.Proofs.YtbejijgelljeaaaGreatDoor

/- The document's answer: differences, products, quotients, comparisons, whole numbers. -/
namespace Go.Proofs.YtbejijgelljeaaaGreatDoor
open Go.RowKit
set_option maxRecDepth 100000 in
set_option maxHeartbeats 2000000 in
theorem rSubF_any (na nb : Bool) (xa ya xb yb : ByteArray) (w : World) (ha : xa.size + ya.size ≤ 50000) (hb : xb.size + yb.size ≤ 50000) :
    Calls Tryz.prog 43 #[.agg #[.bool na, .string xa, .string ya], .agg #[.bool nb, .string xb, .string yb]] w fun e w' => e = .returned (C (val na xa ya - val nb xb yb)) ∧ Below w.heap.size w w' := by
  have HA := hide (fun V => rAddF_any na (!nb) xa ya xb yb V ha hb)
  rw [val_not, ← Rat.sub_eq_add_neg] at HA
  generalize val na xa ya - val nb xb yb = r at *
  go_enter Tryz.func43, Tryz.ntmps43
  have hbr := Box.at (w := (w.alloc (FC na xa ya)).alloc (FC (!nb) xb yb)) (g := w.heap.size + 2) (by simp) false ⟨#[]⟩ ⟨#[]⟩
  have hB0 : Below w.heap.size w (((w.alloc (FC na xa ya)).alloc (FC (!nb) xb yb)).alloc (FC false ⟨#[]⟩ ⟨#[]⟩)) := (((Below.refl _ w).alloc (Nat.le_refl _) _).alloc (by simp) _).alloc (by simp; omega) _
  go_wp2_with fail
  refine (HA.out _).mono ?_
  rintro e w1 ⟨rfl, hb1⟩
  have hbr1 := hbr.below hb1 hbr.lt
  have hB1 := hB0.trans (hb1.mono hB0.size)
  obtain ⟨k0, k1, k2, f0, f1, f2⟩ := hbr1.facts
  rw [C_eq]
  go_wp2
  refine bodyPost_ret ((hbr1.put _ _ _).result rfl _ rfl) rfl ?_
  exact ⟨rfl, below_put hB1 (by omega) _ _ _⟩
set_option maxRecDepth 100000 in
set_option maxHeartbeats 2000000 in
theorem rMulF_any (na nb : Bool) (xa ya xb yb : ByteArray) (w : World) (ha : xa.size + ya.size ≤ 50000) (hb : xb.size + yb.size ≤ 50000) :
    Calls Tryz.prog 14 #[.agg #[.bool na, .string xa, .string ya], .agg #[.bool nb, .string xb, .string yb]] w fun e w' => e = .returned (C (val na xa ya * val nb xb yb)) ∧ Below w.heap.size w w' := by
  have HA := hide (fun V => rCanon_any na xa ya V (by omega) (by omega))
  have HB := hide (fun V => rCanon_any nb xb yb V (by omega) (by omega))
  have q1 := qw_val na xa ya
  have q2 := qw_val nb xb yb
  generalize val na xa ya = p at *
  generalize val nb xb yb = q at *
  have z1 := own_size p
  have z2 := own_size q
  have s1 := sz_mul p.num.natAbs q.num.natAbs
  have s3 := sz_mul p.den q.den
  have e1 : (B p.num.natAbs).size = (nu p).size := rfl
  have e2 : (B p.den).size = (de p).size := rfl
  have e3 : (B q.num.natAbs).size = (nu q).size := rfl
  have e4 : (B q.den).size = (de q).size := rfl
  have HS : Hid (val (sgn p != sgn q) (B (p.num.natAbs * q.num.natAbs)) (B (p.den * q.den)) = p * q) := by
    show _ = _
    have e := val_mul (sgn p) (sgn q) (nu p) (de p) (nu q) (de q)
    rw [val_own, val_own, N_nu, N_nu, N_de, N_de] at e
    rw [val, N_B, N_B, e]
  have HM1 := hide (fun (V : World) => rMul_B (w := V) (p.num.natAbs * q.num.natAbs) (Below.refl _ V) (by rw [N_nu, N_nu]) (show (nu p).size ≤ _ by omega) (show (nu q).size ≤ _ by omega))
  have HM3 := hide (fun (V : World) => rMul_B (w := V) (p.den * q.den) (Below.refl _ V) (by rw [N_de, N_de]) (show (de p).size ≤ _ by omega) (show (de q).size ≤ _ by omega))
  generalize p * q = r at *
  generalize p.num.natAbs * q.num.natAbs = X at *
  generalize p.den * q.den = D at *
  have t1 : (B X).size ≤ 200000 := by omega
  have t3 : (B D).size ≤ 200000 := by omega
  clear s1 s3 e1 e2 e3 e4 z1 z2 q1 q2 ha hb
  go_enter Tryz.func14, Tryz.ntmps14
  have hba := ((Box.at (w := w) rfl na xa ya).alloc (FC nb xb yb)).alloc (FC false ⟨#[]⟩ ⟨#[]⟩)
  have hbb := (Box.at (w := w.alloc (FC na xa ya)) (g := w.heap.size + 1) (by simp) nb xb yb).alloc (FC false ⟨#[]⟩ ⟨#[]⟩)
  have hbr := Box.at (w := (w.alloc (FC na xa ya)).alloc (FC nb xb yb)) (g := w.heap.size + 2) (by simp) false ⟨#[]⟩ ⟨#[]⟩
  have hB0 : Below w.heap.size w (((w.alloc (FC na xa ya)).alloc (FC nb xb yb)).alloc (FC false ⟨#[]⟩ ⟨#[]⟩)) := (((Below.refl _ w).alloc (Nat.le_refl _) _).alloc (by simp) _).alloc (by simp; omega) _
  go_wp2_with fail
  refine (HA.out _).mono ?_
  rintro e w1 ⟨rfl, hb1⟩
  have hba1 := hba.below hb1 hba.lt
  have hbb1 := (hbb.below hb1 hbb.lt).far3 (g' := w.heap.size) (by omega) (.bool (sgn p)) (.string (nu p)) (.string (de p))
  have hbr1 := (hbr.below hb1 hbr.lt).far3 (g' := w.heap.size) (by omega) (.bool (sgn p)) (.string (nu p)) (.string (de p))
  have hB1 := below_put (hB0.trans (hb1.mono hB0.size)) (Nat.le_refl _) (.bool (sgn p)) (.string (nu p)) (.string (de p))
  have hba2 := hba1.put (sgn p) (nu p) (de p)
  obtain ⟨k0, k1, k2, f0, f1, f2⟩ := hba1.facts
  obtain ⟨c0, c1, c2, _, _, _⟩ := hbb1.facts
  rw [C_eq]
  clear hba hbb hbr hB0 hba1 hb1
  go_wp2_with fail
  clear k0 k1 k2 f0 f1 f2 c0 c1 c2
  refine (HB.out _).mono ?_
  rintro e w2 ⟨rfl, hb2⟩
  have hbb2 := hbb1.below hb2 hbb1.lt
  have hba3 := (hba2.below hb2 hba2.lt).far3 (g' := w.heap.size + 1) (by omega) (.bool (sgn q)) (.string (nu q)) (.string (de q))
  have hbr3 := (hbr1.below hb2 hbr1.lt).far3 (g' := w.heap.size + 1) (by omega) (.bool (sgn q)) (.string (nu q)) (.string (de q))
  have hB3 := below_put (hB1.trans (hb2.mono hB1.size)) (g := w.heap.size + 1) (by omega) (.bool (sgn q)) (.string (nu q)) (.string (de q))
  have hbb3 := hbb2.put (sgn q) (nu q) (de q)
  obtain ⟨k0, k1, k2, f0, f1, f2⟩ := hbb2.facts
  have ht : Tri w _ p q false ⟨#[]⟩ ⟨#[]⟩ := ⟨hba3, hbb3, hbr3, hB3⟩
  obtain ⟨c0, c1, c2, _, _, _⟩ := hba3.facts
  obtain ⟨d0, d1, d2, _, _, _⟩ := hbb3.facts
  rw [C_eq]
  clear hba2 hbb1 hbr1 hB1 hbb2 hba3 hbr3 hB3 hbb3 hb2 HA HB
  go_wp2_with fail
  refine (HM1.out _).mono ?_
  rintro e w3 ⟨rfl, hb3⟩
  clear c0 c1 c2 d0 d1 d2 k0 k1 k2 f0 f1 f2
  have ht3 := ht.step hb3
  clear ht hb3 HM1
  obtain ⟨c0, c1, c2, _, _, _⟩ := ht3.1.facts
  obtain ⟨d0, d1, d2, _, _, _⟩ := ht3.2.1.facts
  go_wp2_with fail
  refine (HM3.out _).mono ?_
  rintro e w4 ⟨rfl, hb4⟩
  clear c0 c1 c2 d0 d1 d2
  have ht4 := ht3.step hb4
  clear ht3 hb4 HM3
  obtain ⟨c0, c1, c2, _, _, _⟩ := ht4.1.facts
  obtain ⟨d0, d1, d2, _, _, _⟩ := ht4.2.1.facts
  go_wp2_with fail
  refine (rMake_any (sgn p != sgn q) (B X) (B D) _ (by omega) (by omega)).mono ?_
  rintro e w7 ⟨rfl, hb7⟩
  have ht7 := ht4.step hb7
  obtain ⟨g0, g1, g2, i0, i1, i2⟩ := ht7.2.2.1.facts
  rw [HS.out, C_eq]
  go_wp2
  refine bodyPost_ret ((ht7.2.2.1.put _ _ _).result rfl _ rfl) rfl ?_
  exact ⟨rfl, below_put ht7.2.2.2 (by omega) _ _ _⟩
theorem nu_zero {q : Rat} (h : q = 0) : nu q = ⟨#[]⟩ := by subst h; exact B_zero
theorem nu_full {q : Rat} (h : ¬ q = 0) : (nu q).toList.isEmpty = false := B_full (by rw [Ne, Int.natAbs_eq_zero, Rat.num_eq_zero]; exact h)
set_option maxRecDepth 100000 in
set_option maxHeartbeats 1000000 in
theorem rZero_any (n : Bool) (x y : ByteArray) (w : World) (hx : x.size + y.size ≤ 50000) :
    Calls Tryz.prog 77 #[.agg #[.bool n, .string x, .string y]] w fun e w' => e = .returned (.bool (decide (val n x y = 0))) ∧ Below w.heap.size w w' := by
  have HC := hide (fun V => rCanon_any n x y V (by omega) (by omega))
  generalize val n x y = q at *
  have hz : (q = 0 ∧ decide (q = 0) = true) ∨ (¬ q = 0 ∧ decide (q = 0) = false) := by
    by_cases h : q = 0
    · exact .inl ⟨h, decide_eq_true h⟩
    · exact .inr ⟨h, decide_eq_false h⟩
  have HZ := hide hz
  clear hz
  generalize decide (q = 0) = t at *
  go_enter Tryz.func77, Tryz.ntmps77
  have hbx := Box.at (w := w) rfl n x y
  have hB0 : Below w.heap.size w (w.alloc (FC n x y)) := (Below.refl _ w).alloc (Nat.le_refl _) _
  go_wp2_with fail
  refine (HC.out _).mono ?_
  rintro e w1 ⟨rfl, hb1⟩
  have hx1 := hbx.below hb1 hbx.lt
  have hB1 := below_put (hB0.trans (hb1.mono hB0.size)) (Nat.le_refl _) (.bool (sgn q)) (.string (nu q)) (.string (de q))
  obtain ⟨k0, k1, k2, f0, f1, f2⟩ := hx1.facts
  rw [C_eq]
  rcases HZ.out with ⟨h, rfl⟩ | ⟨h, rfl⟩
  · have hn := nu_zero h
    clear h HZ
    generalize nu q = nq at *
    subst hn
    go_wp2
    go_ret
    exact ⟨rfl, hB1⟩
  · have hn := nu_full h
    clear h HZ
    go_wp2
    go_ret
    exact ⟨rfl, hB1⟩
set_option maxRecDepth 100000 in
set_option maxHeartbeats 1000000 in
theorem rDivF_yes (na nb : Bool) (xa ya xb yb : ByteArray) (w : World) (h : ¬ val nb xb yb = 0) (ha : xa.size + ya.size ≤ 40000) (hb : xb.size + yb.size ≤ 40000) :
    Calls Tryz.prog 52 #[.agg #[.bool na, .string xa, .string ya], .agg #[.bool nb, .string xb, .string yb]] w fun e w' => e = .returned (.tuple #[C (val na xa ya / val nb xb yb), .int .i64 0]) ∧ Below w.heap.size w w' := by
  have HZ := hide (fun V => rZero_any nb xb yb V (by omega))
  rw [decide_eq_false h] at HZ
  have HC := hide (fun V => rCanon_any nb xb yb V (by omega) (by omega))
  have q2 := qw_val nb xb yb
  generalize val nb xb yb = q at *
  have z2 := own_size q
  have HM := hide (fun V => rMulF_any na (sgn q) xa ya (de q) (nu q) V (by omega) (by omega))
  have hi : val (sgn q) (de q) (nu q) = q⁻¹ := by
    rw [val_inv (sgn q) (nu q) (de q) (by rw [N_nu, Ne, Int.natAbs_eq_zero, Rat.num_eq_zero]; exact h) (by rw [N_de]; exact q.den_nz), val_own]
  rw [hi, ← Rat.div_def] at HM
  generalize val na xa ya / q = r at *
  clear hi h z2 q2 ha hb
  go_enter Tryz.func52, Tryz.ntmps52
  have hba := ((Box.at (w := w) rfl na xa ya).alloc (FC nb xb yb)).alloc (FC false ⟨#[]⟩ ⟨#[]⟩)
  have hbb := (Box.at (w := w.alloc (FC na xa ya)) (g := w.heap.size + 1) (by simp) nb xb yb).alloc (FC false ⟨#[]⟩ ⟨#[]⟩)
  have hbr := Box.at (w := (w.alloc (FC na xa ya)).alloc (FC nb xb yb)) (g := w.heap.size + 2) (by simp) false ⟨#[]⟩ ⟨#[]⟩
  have hB0 : Below w.heap.size w (((w.alloc (FC na xa ya)).alloc (FC nb xb yb)).alloc (FC false ⟨#[]⟩ ⟨#[]⟩)) := (((Below.refl _ w).alloc (Nat.le_refl _) _).alloc (by simp) _).alloc (by simp; omega) _
  go_wp2_with fail
  refine (HZ.out _).mono ?_
  rintro e w1 ⟨rfl, hb1⟩
  have hba1 := hba.below hb1 hba.lt
  have hbb1 := hbb.below hb1 hbb.lt
  have hbr1 := hbr.below hb1 hbr.lt
  have hB1 := hB0.trans (hb1.mono hB0.size)
  obtain ⟨c0, c1, c2, _, _, _⟩ := hbb1.facts
  clear hba hbb hbr hB0 hb1
  go_wp2_with fail
  refine (HC.out _).mono ?_
  rintro e w2 ⟨rfl, hb2⟩
  have hba2 := (hba1.below hb2 hba1.lt).far3 (g' := w.heap.size + 1) (by omega) (.bool (sgn q)) (.string (nu q)) (.string (de q))
  have hbb2 := hbb1.below hb2 hbb1.lt
  have hbr2 := (hbr1.below hb2 hbr1.lt).far3 (g' := w.heap.size + 1) (by omega) (.bool (sgn q)) (.string (nu q)) (.string (de q))
  have hB2 := below_put (hB1.trans (hb2.mono hB1.size)) (g := w.heap.size + 1) (by omega) (.bool (sgn q)) (.string (nu q)) (.string (de q))
  clear c0 c1 c2 hba1 hbb1 hbr1 hB1 hb2
  obtain ⟨k0, k1, k2, f0, f1, f2⟩ := hbb2.facts
  obtain ⟨d0, d1, d2, _, _, _⟩ := hba2.facts
  rw [C_eq]
  go_wp2_with fail
  refine (HM.out _).mono ?_
  rintro e w3 ⟨rfl, hb3⟩
  have hbr3 := hbr2.below hb3 hbr2.lt
  have hB3 := hB2.trans (hb3.mono hB2.size)
  clear k0 k1 k2 f0 f1 f2 d0 d1 d2
  obtain ⟨k0, k1, k2, f0, f1, f2⟩ := hbr3.facts
  rw [C_eq]
  go_wp2
  refine bodyPost_ret ((hbr3.put _ _ _).result2 rfl _ rfl) rfl ?_
  exact ⟨rfl, below_put hB3 (by omega) _ _ _⟩
theorem cmp_sub (p q : Rat) : cmpQ p q = if p - q = 0 then 0 else if sgn (p - q) = true then -1 else 1 := by
  have hs : sgn (p - q) = true ↔ p - q < 0 := by
    have h := Rat.num_nonneg (q := p - q)
    rw [sgn, decide_eq_true_iff]
    constructor
    · intro h1; have h2 : ¬ 0 ≤ p - q := fun e => absurd (h.2 e) (by omega)
      grind
    · intro h1; have h2 : ¬ 0 ≤ (p - q).num := fun e => absurd (h.1 e) (by grind)
      omega
  by_cases h : p - q = 0
  · rw [if_pos h, cmpQ, if_neg (by grind), if_pos (by grind)]
  · rw [if_neg h]
    by_cases h1 : p - q < 0
    · rw [if_pos (hs.2 h1), cmpQ, if_pos (by grind)]
    · rw [if_neg (fun e => h1 (hs.1 e)), cmpQ, if_neg (by grind), if_neg (by grind)]
set_option maxRecDepth 100000 in
set_option maxHeartbeats 1000000 in
theorem rCmpF_any (na nb : Bool) (xa ya xb yb : ByteArray) (w : World) (ha : xa.size + ya.size ≤ 50000) (hb : xb.size + yb.size ≤ 50000) :
    Calls Tryz.prog 15 #[.agg #[.bool na, .string xa, .string ya], .agg #[.bool nb, .string xb, .string yb]] w fun e w' => e = .returned (.int .i64 (cmpQ (val na xa ya) (val nb xb yb))) ∧ Below w.heap.size w w' := by
  have HS := hide (fun V => rSubF_any na nb xa ya xb yb V ha hb)
  have HK := hide (cmp_sub (val na xa ya) (val nb xb yb))
  generalize cmpQ (val na xa ya) (val nb xb yb) = k at *
  generalize val na xa ya - val nb xb yb = d at *
  go_enter Tryz.func15, Tryz.ntmps15
  have hB0 : Below w.heap.size w ((w.alloc (FC na xa ya)).alloc (FC nb xb yb)) := ((Below.refl _ w).alloc (Nat.le_refl _) _).alloc (by simp) _
  go_wp2_with fail
  refine (HS.out _).mono ?_
  rintro e w1 ⟨rfl, hb1⟩
  have hB1 := hB0.trans (hb1.mono hB0.size)
  have hB2 := hB1.alloc hB1.size (FC (sgn d) (nu d) (de d))
  rw [C_eq]
  by_cases h : d = 0
  · rw [if_pos h] at HK
    have hn := nu_zero h
    clear h
    generalize nu d = nd at *
    subst hn
    go_wp2
    go_ret
    exact ⟨by rw [HK.out]; rfl, hB2⟩
  · rw [if_neg h] at HK
    have hn := nu_full h
    clear h
    generalize sgn d = sd at *
    cases sd
    · go_wp2
      go_ret
      exact ⟨by rw [HK.out]; rfl, hB2⟩
    · go_wp2
      go_ret
      exact ⟨by rw [HK.out]; rfl, hB2⟩
theorem of_neg {k : Int} (h : k < 0) : C (mkRat k 1) = .agg #[.bool true, .string (B ((-(k + 1)).toNat + 1)), .string (B 1)] := by
  have e : k = sg true ((-(k + 1)).toNat + 1) := by simp only [sg, if_true]; omega
  have h1 := C_make true ((-(k + 1)).toNat + 1) 1 (by omega) (by decide)
  rw [← e, Nat.gcd_one_right, Nat.div_one, Nat.div_one] at h1
  exact h1
theorem of_pos (n : Nat) : C (mkRat (n : Int) 1) = .agg #[.bool false, .string (B n), .string (B 1)] := by
  by_cases h : n = 0
  · subst h; rw [show ((0 : Nat) : Int) = 0 from rfl, Rat.zero_mkRat, C_zero, B_zero]
  · have h1 := C_make false n 1 h (by decide)
    rw [Nat.gcd_one_right, Nat.div_one, Nat.div_one] at h1
    exact h1
set_option maxRecDepth 100000 in
set_option maxHeartbeats 1000000 in
theorem rOfF_any (k : Int) (w : World) (h0 : -9223372036854775808 ≤ k) (h1 : k ≤ 9223372036854775807) :
    Calls Tryz.prog 11 #[.int .i64 k] w fun e w' => e = .returned (C (mkRat k 1)) ∧ Below w.heap.size w w' := by
  by_cases hk : k < 0
  · rw [of_neg hk]
    have HO := hide (fun V => rOf_any (-(k + 1)) V (by omega) (by omega))
    have s1 : (B (-(k + 1)).toNat).size ≤ 8 := by rw [B_size]; exact bn_fits 8 _ (by show _ < 18446744073709551616; omega)
    have HA := hide (fun V => rAdd_any (B (-(k + 1)).toNat) ⟨#[1]⟩ V (by omega) (by show 1 ≤ _; omega))
    rw [N_B, show N ⟨#[1]⟩ = 1 from rfl] at HA
    rw [B_one]
    generalize (-(k + 1)).toNat = n at *
    go_enter Tryz.func11, Tryz.ntmps11
    have hbr := Box.at (w := w) rfl false ⟨#[]⟩ ⟨#[]⟩
    have hB0 : Below w.heap.size w (w.alloc (FC false ⟨#[]⟩ ⟨#[]⟩)) := (Below.refl _ w).alloc (Nat.le_refl _) _
    go_wp2_with fail
    refine (HO.out _).mono ?_
    rintro e w1 ⟨rfl, hb1⟩
    have hbr1 := hbr.below hb1 hbr.lt
    have hB1 := hB0.trans (hb1.mono hB0.size)
    go_wp2_with fail
    refine (HA.out _).mono ?_
    rintro e w2 ⟨rfl, hb2⟩
    have hbr2 := hbr1.below hb2 hbr1.lt
    have hB2 := hB1.trans (hb2.mono hB1.size)
    obtain ⟨k0, k1, k2, f0, f1, f2⟩ := hbr2.facts
    go_wp2
    refine bodyPost_ret ((hbr2.put _ _ _).result rfl _ rfl) rfl ?_
    exact ⟨rfl, below_put hB2 (by omega) _ _ _⟩
  · obtain ⟨n, rfl⟩ : ∃ n : Nat, k = n := ⟨k.toNat, by omega⟩
    rw [of_pos n]
    have HO := hide (fun V => rOf_any (n : Int) V (by omega) (by omega))
    rw [Int.toNat_natCast] at HO
    rw [B_one]
    go_enter Tryz.func11, Tryz.ntmps11
    have hbr := Box.at (w := w) rfl false ⟨#[]⟩ ⟨#[]⟩
    have hB0 : Below w.heap.size w (w.alloc (FC false ⟨#[]⟩ ⟨#[]⟩)) := (Below.refl _ w).alloc (Nat.le_refl _) _
    go_wp2_with fail
    refine (HO.out _).mono ?_
    rintro e w1 ⟨rfl, hb1⟩
    have hbr1 := hbr.below hb1 hbr.lt
    have hB1 := hB0.trans (hb1.mono hB0.size)
    obtain ⟨k0, k1, k2, f0, f1, f2⟩ := hbr1.facts
    go_wp2
    refine bodyPost_ret ((hbr1.put _ _ _).result rfl _ rfl) rfl ?_
    exact ⟨rfl, below_put hB1 (by omega) _ _ _⟩
end Go.Proofs.YtbejijgelljeaaaGreatDoor
