/- Package frac's quotients and whole numbers. -/
import Derived.Test.YtbejijgelljeaaaGreatDoorFracAPwFracE
import Derived.BigQuiet
import Derived.Test.YtbejijgelljeaaaGreatDoorRefHPwNumR
import Derived.Test.YtbejijgelljeaaaGreatDoorRefAPwRefG
namespace Go.Proofs.YtbejijgelljeaaaGreatDoor
open Go.RowKit
set_option maxRecDepth 100000 in
set_option maxHeartbeats 1000000 in
theorem fDiv_yes (na nb : Bool) (xa ya xb yb : ByteArray) (w : World) (h0 : N xb ≠ 0) (h1 : N yb ≠ 0) (hxa : xa.size ≤ 137438953472) (hya : ya.size ≤ 137438953472) (hxb : xb.size ≤ 137438953472) (hyb : yb.size ≤ 137438953472) :
    Calls Tryz.prog 49 #[.agg #[.bool na, .string xa, .string ya], .agg #[.bool nb, .string xb, .string yb]] w fun e w' => e = .returned (.tuple #[C (val na xa ya / val nb xb yb), .int .i64 0]) ∧ Below w.heap.size w w' := by
  have hX := fun V => isNought_any xb V
  have hY := fun V => isNought_any yb V
  have HX := hide hX
  have HY := hide hY
  clear hX hY
  have hq : val na xa ya * val nb yb xb = val na xa ya / val nb xb yb := by rw [val_inv nb xb yb h0 h1, Rat.div_def]
  go_enter Tryz.func49, Tryz.ntmps49
  have hbr := Box.at (w := (w.alloc (FC na xa ya)).alloc (FC nb xb yb)) (g := w.heap.size + 2) (by simp) false ⟨#[]⟩ ⟨#[]⟩
  have hB0 : Below w.heap.size w (((w.alloc (FC na xa ya)).alloc (FC nb xb yb)).alloc (FC false ⟨#[]⟩ ⟨#[]⟩)) := (((Below.refl _ w).alloc (Nat.le_refl _) _).alloc (by simp) _).alloc (by simp; omega) _
  go_wp2_with fail
  refine (HX.out _).mono ?_
  rintro e w1 ⟨rfl, hw⟩
  subst hw
  rw [decide_eq_false h0]
  go_wp2_with fail
  refine (HY.out _).mono ?_
  rintro e w1 ⟨rfl, hw⟩
  subst hw
  rw [decide_eq_false h1]
  go_wp2_with fail
  refine (fMul_any na nb xa ya yb xb _ hxa hya hyb hxb).mono ?_
  rintro e w1 ⟨rfl, hb1⟩
  rw [hq]
  have hx1 := hbr.below hb1 hbr.lt
  have hB1 : Below w.heap.size w w1 := hB0.trans (hb1.mono hB0.size)
  obtain ⟨k0, k1, k2, f0, f1, f2⟩ := hx1.facts
  clear hbr hB0
  rw [C_eq]
  go_wp2
  refine bodyPost_ret ((hx1.put _ _ _).result2 rfl _ rfl) rfl ?_
  exact ⟨rfl, below_put hB1 (by omega) _ _ _⟩
set_option maxRecDepth 100000 in
set_option maxHeartbeats 1000000 in
theorem fOf_nat (n : Nat) (w : World) (h : n ≤ 9223372036854775807) :
    Calls Tryz.prog 36 #[.int .i64 (n : Int)] w fun e w' => e = .returned (C (n : Rat)) ∧ Below w.heap.size w w' := by
  have hq : val false (B n) (B 1) = (n : Rat) := by
    rw [val, N_B, N_B]
    show mkRat (n : Int) 1 = _
    rw [Rat.mkRat_one]
    rfl
  have s1 := B_one_size
  have s2 : (B n).size ≤ 1099511627776 := by
    have := bn_fits 8 n (by show n < 18446744073709551616; omega)
    rw [← B_size n] at this
    omega
  go_enter Tryz.func36, Tryz.ntmps36
  have hbr := Box.at (w := w) rfl false ⟨#[]⟩ ⟨#[]⟩
  have hB0 : Below w.heap.size w (w.alloc (FC false ⟨#[]⟩ ⟨#[]⟩)) := (Below.refl _ w).alloc (Nat.le_refl _) _
  have hB := Below.refl (w.alloc (FC false ⟨#[]⟩ ⟨#[]⟩)).heap.size (w.alloc (FC false ⟨#[]⟩ ⟨#[]⟩))
  go_wp2_with fail
  refine (Of_to n hB rfl (by omega)).mono ?_
  rintro e w1 ⟨rfl, hB⟩
  go_wp2_with fail
  refine (Of_to 1 hB rfl (by omega)).mono ?_
  rintro e w1 ⟨rfl, hB⟩
  go_wp2_with fail
  refine (Make_any false (B n) (B 1) _ s2 (by omega)).mono ?_
  rintro e w2 ⟨rfl, hb2⟩
  rw [hq]
  have hx1 := (hbr.below hB hbr.lt).below hb2 (hbr.below hB hbr.lt).lt
  have hB1 : Below w.heap.size w w2 := (hB0.trans (hB.mono hB0.size)).trans (hb2.mono (hB0.trans (hB.mono hB0.size)).size)
  obtain ⟨k0, k1, k2, f0, f1, f2⟩ := hx1.facts
  clear hbr hB0 hB
  rw [C_eq]
  go_wp2
  refine bodyPost_ret ((hx1.put _ _ _).result rfl _ rfl) rfl ?_
  exact ⟨rfl, below_put hB1 (by omega) _ _ _⟩
end Go.Proofs.YtbejijgelljeaaaGreatDoor

/- The calls of package frac, stated by the rational numbers that their arguments stand for; five fractions held in memory. -/
namespace Go.Proofs.YtbejijgelljeaaaGreatDoor
open Go.RowKit
theorem fSub_q {n m : Bool} {x y u v : ByteArray} {w : World} {p q : Rat} (r : Rat) (hp : val n x y = p) (hq : val m u v = q) (h : p - q = r) (s1 : x.size + y.size ≤ 100000) (s2 : u.size + v.size ≤ 100000) :
    Calls Tryz.prog 59 #[.agg #[.bool n, .string x, .string y], .agg #[.bool m, .string u, .string v]] w fun e w' => e = .returned (.agg #[.bool (sgn r), .string (nu r), .string (de r)]) ∧ Below w.heap.size w w' := by
  subst hp hq h
  exact fSub_any n m x y u v w (by omega) (by omega) (by omega) (by omega)
theorem fMul_q {n m : Bool} {x y u v : ByteArray} {w : World} {p q : Rat} (r : Rat) (hp : val n x y = p) (hq : val m u v = q) (h : p * q = r) (s1 : x.size + y.size ≤ 100000) (s2 : u.size + v.size ≤ 100000) :
    Calls Tryz.prog 54 #[.agg #[.bool n, .string x, .string y], .agg #[.bool m, .string u, .string v]] w fun e w' => e = .returned (.agg #[.bool (sgn r), .string (nu r), .string (de r)]) ∧ Below w.heap.size w w' := by
  subst hp hq h
  exact fMul_any n m x y u v w (by omega) (by omega) (by omega) (by omega)
theorem fCmp_q {n m : Bool} {x y u v : ByteArray} {w : World} {p q : Rat} (k : Int) (hp : val n x y = p) (hq : val m u v = q) (h : cmpQ p q = k) (s1 : x.size + y.size ≤ 100000) (s2 : u.size + v.size ≤ 100000) :
    Calls Tryz.prog 53 #[.agg #[.bool n, .string x, .string y], .agg #[.bool m, .string u, .string v]] w fun e w' => e = .returned (.int .i64 k) ∧ Below w.heap.size w w' := by
  subst hp hq h
  exact fCmp_any n m x y u v w (by omega) (by omega) (by omega) (by omega)
theorem Canon_q {n : Bool} {x y : ByteArray} {w : World} (r : Rat) (hp : val n x y = r) (s1 : x.size + y.size ≤ 100000) :
    Calls Tryz.prog 96 #[.agg #[.bool n, .string x, .string y]] w fun e w' => e = .returned (.agg #[.bool (sgn r), .string (nu r), .string (de r)]) ∧ Below w.heap.size w w' := by
  subst hp
  exact Canon_any n x y w (by omega) (by omega)
theorem fOf_q {k : Int} {w : World} (r : Rat) (n : Nat) (hk : k = (n : Int)) (hn : n ≤ 1) (h : (n : Rat) = r) :
    Calls Tryz.prog 36 #[.int .i64 k] w fun e w' => e = .returned (.agg #[.bool (sgn r), .string (nu r), .string (de r)]) ∧ Below w.heap.size w w' := by
  subst h hk
  exact fOf_nat n w (by omega)
theorem fDiv_q {n m : Bool} {x y u v : ByteArray} {w : World} {p q : Rat} (r : Rat) (hp : val n x y = p) (hq : val m u v = q) (h0 : q ≠ 0) (h : p / q = r) (s1 : x.size + y.size ≤ 100000) (s2 : u.size + v.size ≤ 100000) :
    Calls Tryz.prog 49 #[.agg #[.bool n, .string x, .string y], .agg #[.bool m, .string u, .string v]] w fun e w' => e = .returned (.tuple #[.agg #[.bool (sgn r), .string (nu r), .string (de r)], .int .i64 0]) ∧ Below w.heap.size w w' := by
  subst hp hq h
  have h0' := fun h => h0 (val_zero_iff.2 h)
  exact fDiv_yes n m x y u v w (fun h => h0' (.inl h)) (fun h => h0' (.inr h)) (by omega) (by omega) (by omega) (by omega)
end Go.Proofs.YtbejijgelljeaaaGreatDoor

/- The document's answer: fractions made, in lowest terms. -/
namespace Go.Proofs.YtbejijgelljeaaaGreatDoor
open Go.RowKit
theorem B_one : B 1 = ⟨#[1]⟩ := by
  rw [B, bn_pos 1 (by decide), show 1 / 256 = 0 from rfl, bn_zero]
  rfl
theorem ne_one {n : Nat} (h : ¬ n = 1) : ((B n).toList == [1]) = false := beq_eq_false_iff_ne.2 fun e => h (B_inj (by
  rw [B_one]
  rw [Lib.toList_data] at e
  exact ByteArray.ext (Array.toList_inj.1 e)))
set_option maxRecDepth 100000 in
set_option maxHeartbeats 1000000 in
theorem rMake_zero (n : Bool) (x y : ByteArray) (w : World) (h : N x = 0 ∨ N y = 0) (hx : x.size ≤ 500000) (hy : y.size ≤ 500000) :
    Calls Tryz.prog 41 #[.bool n, .string x, .string y] w fun e w' => e = .returned (C 0) ∧ Below w.heap.size w w' := by
  have HX := hide (fun V => rTrim_any x V (by omega))
  have HY := hide (fun V => rTrim_any y V (by omega))
  go_enter Tryz.func41, Tryz.ntmps41
  by_cases h0 : N x = 0
  · rw [h0, B_zero] at HX
    go_wp2_with fail
    refine (HX.out _).mono ?_
    rintro e w1 ⟨rfl, hw⟩
    subst hw
    go_wp2_with fail
    refine (HY.out _).mono ?_
    rintro e w1 ⟨rfl, hw⟩
    subst hw
    go_wp2
    refine bodyPost_ret ((Box.at (w := w) rfl false ⟨#[]⟩ ⟨#[1]⟩).result rfl _ rfl) rfl ?_
    exact ⟨by rw [C_zero, B_one], (Below.refl _ w).alloc (Nat.le_refl _) _⟩
  · have h1 : N y = 0 := h.resolve_left h0
    have hne := B_full h0
    rw [h1, B_zero] at HY
    go_wp2_with fail
    refine (HX.out _).mono ?_
    rintro e w1 ⟨rfl, hw⟩
    subst hw
    go_wp2_with fail
    refine (HY.out _).mono ?_
    rintro e w1 ⟨rfl, hw⟩
    subst hw
    go_wp2
    refine bodyPost_ret ((Box.at (w := w) rfl false ⟨#[]⟩ ⟨#[1]⟩).result rfl _ rfl) rfl ?_
    exact ⟨by rw [C_zero, B_one], (Below.refl _ w).alloc (Nat.le_refl _) _⟩
set_option maxRecDepth 100000 in
set_option maxHeartbeats 1000000 in
theorem rMake_some (n : Bool) (x y : ByteArray) (w : World) (h0 : N x ≠ 0) (h1 : N y ≠ 0) (hx : x.size ≤ 500000) (hy : y.size ≤ 500000) :
    Calls Tryz.prog 41 #[.bool n, .string x, .string y] w fun e w' => e = .returned (C (val n x y)) ∧ Below w.heap.size w w' := by
  have HX := hide (fun V => rTrim_any x V (by omega))
  have HY := hide (fun V => rTrim_any y V (by omega))
  have HC := hide (C_make n _ _ h0 h1)
  have sx := Nat.le_trans (B_size_le x) hx
  have sy := Nat.le_trans (B_size_le y) hy
  have hg := hide (fun V => rGcd_any (B (N x)) (B (N y)) V sx sy)
  rw [N_B, N_B] at hg
  have sg1 := Nat.le_trans (sz_mono (Nat.gcd_le_left (N y) (Nat.pos_of_ne_zero h0))) sx
  have hgp : Nat.gcd (N x) (N y) ≠ 0 := fun h => h0 (Nat.gcd_eq_zero_iff.1 h).1
  have HD1 := hide (fun V => rDiv_B (N x) _ V sx sg1 hgp)
  have HD2 := hide (fun V => rDiv_B (N y) _ V sy sg1 hgp)
  have hne0 := B_full h0
  have hne1 := B_full h1
  rw [val]
  clear h0 h1 hgp
  generalize mkRat (sg n (N x)) (N y) = q at *
  generalize N x = X at *
  generalize N y = Y at *
  generalize Nat.gcd X Y = g at *
  go_enter Tryz.func41, Tryz.ntmps41
  have hbx := Box.at (w := w) rfl false ⟨#[]⟩ ⟨#[]⟩
  have hB0 : Below w.heap.size w (w.alloc (FC false ⟨#[]⟩ ⟨#[]⟩)) := (Below.refl _ w).alloc (Nat.le_refl _) _
  go_wp2_with fail
  refine (HX.out _).mono ?_
  rintro e w1 ⟨rfl, hw⟩
  subst hw
  go_wp2_with fail
  refine (HY.out _).mono ?_
  rintro e w1 ⟨rfl, hw⟩
  subst hw
  go_wp2_with fail
  refine (hg.out _).mono ?_
  rintro e w1 ⟨rfl, hb1⟩
  have hx1 := hbx.below hb1 hbx.lt
  have hB1 : Below w.heap.size w w1 := hB0.trans (hb1.mono hB0.size)
  clear hbx hB0 hb1 HX HY hg
  by_cases h1 : g = 1
  · subst h1
    rw [Nat.div_one, Nat.div_one] at HC
    rw [B_one]
    obtain ⟨k0, k1, k2, f0, f1, f2⟩ := hx1.facts
    go_wp2
    refine bodyPost_ret ((hx1.put _ _ _).result rfl _ rfl) rfl ?_
    exact ⟨by rw [HC.out], below_put hB1 (by omega) _ _ _⟩
  · have hn1 := ne_one h1
    go_wp2_with fail
    refine (HD1.out _).mono ?_
    rintro e w2 ⟨rfl, hb2⟩
    have hx2 := hx1.below hb2 hx1.lt
    have hB2 : Below w.heap.size w w2 := hB1.trans (hb2.mono hB1.size)
    go_wp2_with fail
    refine (HD2.out _).mono ?_
    rintro e w3 ⟨rfl, hb3⟩
    have hx3 := hx2.below hb3 hx2.lt
    have hB3 : Below w.heap.size w w3 := hB2.trans (hb3.mono hB2.size)
    obtain ⟨k0, k1, k2, f0, f1, f2⟩ := hx3.facts
    go_wp2
    refine bodyPost_ret ((hx3.put _ _ _).result rfl _ rfl) rfl ?_
    exact ⟨by rw [HC.out], below_put hB3 (by omega) _ _ _⟩
theorem rMake_any (n : Bool) (x y : ByteArray) (w : World) (hx : x.size ≤ 500000) (hy : y.size ≤ 500000) :
    Calls Tryz.prog 41 #[.bool n, .string x, .string y] w fun e w' => e = .returned (C (val n x y)) ∧ Below w.heap.size w w' := by
  by_cases h : N x = 0 ∨ N y = 0
  · have := rMake_zero n x y w h hx hy
    rwa [← val_zero_iff.2 h] at this
  · exact rMake_some n x y w (fun e => h (.inl e)) (fun e => h (.inr e)) hx hy
set_option maxRecDepth 100000 in
set_option maxHeartbeats 1000000 in
theorem rCanon_any (n : Bool) (x y : ByteArray) (w : World) (hx : x.size ≤ 500000) (hy : y.size ≤ 500000) :
    Calls Tryz.prog 39 #[.agg #[.bool n, .string x, .string y]] w fun e w' => e = .returned (C (val n x y)) ∧ Below w.heap.size w w' := by
  go_enter Tryz.func39, Tryz.ntmps39
  have hbx := Box.at (w := w.alloc (FC n x y)) (g := w.heap.size + 1) (by simp) false ⟨#[]⟩ ⟨#[]⟩
  have hB0 : Below w.heap.size w ((w.alloc (FC n x y)).alloc (FC false ⟨#[]⟩ ⟨#[]⟩)) := ((Below.refl _ w).alloc (Nat.le_refl _) _).alloc (by simp) _
  go_wp2_with fail
  refine (rMake_any n x y _ hx hy).mono ?_
  rintro e w1 ⟨rfl, hb1⟩
  have hx1 := hbx.below hb1 hbx.lt
  have hB1 : Below w.heap.size w w1 := hB0.trans (hb1.mono hB0.size)
  obtain ⟨k0, k1, k2, f0, f1, f2⟩ := hx1.facts
  clear hbx hB0
  rw [C_eq]
  go_wp2
  refine bodyPost_ret ((hx1.put _ _ _).result rfl _ rfl) rfl ?_
  exact ⟨rfl, below_put hB1 (by omega) _ _ _⟩
end Go.Proofs.YtbejijgelljeaaaGreatDoor

/- The document's answer: sums, differences, products, quotients and comparisons of fractions. -/
namespace Go.Proofs.YtbejijgelljeaaaGreatDoor
open Go.RowKit
theorem rMul_B {a b : ByteArray} {w0 w : World} (n : Nat) (hB : Below w0.heap.size w0 w) (h : N a * N b = n) (ha : a.size ≤ 1000000) (hb : b.size ≤ 1000000) :
    Calls Tryz.prog 40 #[.string a, .string b] w fun e w' => e = .returned (.string (B n)) ∧ Below w0.heap.size w0 w' := by
  subst h; exact under hB (rMul_any a b w (by omega) (by omega))
theorem N_nu (q : Rat) : N (nu q) = q.num.natAbs := N_B _
theorem N_de (q : Rat) : N (de q) = q.den := N_B _
/-- Two fractions in lowest terms and a third, in memory. -/
def Tri (w V : World) (p q : Rat) (n : Bool) (x y : ByteArray) : Prop := Box V w.heap.size (sgn p) (nu p) (de p) ∧ Box V (w.heap.size + 1) (sgn q) (nu q) (de q) ∧ Box V (w.heap.size + 2) n x y ∧ Below w.heap.size w V
theorem Tri.step {w V U : World} {p q : Rat} {n : Bool} {x y : ByteArray} (h : Tri w V p q n x y) (hb : Below V.heap.size V U) : Tri w U p q n x y := by
  obtain ⟨h1, h2, h3, h4⟩ := h
  exact ⟨h1.below hb h1.lt, h2.below hb h2.lt, h3.below hb h3.lt, h4.trans (hb.mono h4.size)⟩
end Go.Proofs.YtbejijgelljeaaaGreatDoor

/- The document's answer: differences, products, quotients, comparisons, whole numbers. -/
namespace Go.Proofs.YtbejijgelljeaaaGreatDoor
open Go.RowKit
set_option maxRecDepth 100000 in
set_option maxHeartbeats 2000000 in
theorem rMulF_any (na nb : Bool) (xa ya xb yb : ByteArray) (w : World) (ha : xa.size + ya.size ≤ 50000) (hb : xb.size + yb.size ≤ 50000) :
    Calls Tryz.prog 14 #[.agg #[.bool na, .string xa, .string ya], .agg #[.bool nb, .string xb, .string yb]] w fun e w' => e = .returned (C (val na xa ya * val nb xb yb)) ∧ Below w.heap.size w w' := by
  have HA := hide (fun V => rCanon_any na xa ya V (by omega) (by omega))
  have HB := hide (fun V => rCanon_any nb xb yb V (by omega) (by omega))
  have q1 := qw_val na xa ya
  have q2 := qw_val nb xb yb
  generalize val na xa ya = p at *
  generalize val nb xb yb = q at *
  have z1 := own_size p
  have z2 := own_size q
  have s1 := sz_mul p.num.natAbs q.num.natAbs
  have s3 := sz_mul p.den q.den
  have e1 : (B p.num.natAbs).size = (nu p).size := rfl
  have e2 : (B p.den).size = (de p).size := rfl
  have e3 : (B q.num.natAbs).size = (nu q).size := rfl
  have e4 : (B q.den).size = (de q).size := rfl
  have HS : Hid (val (sgn p != sgn q) (B (p.num.natAbs * q.num.natAbs)) (B (p.den * q.den)) = p * q) := by
    show _ = _
    have e := val_mul (sgn p) (sgn q) (nu p) (de p) (nu q) (de q)
    rw [val_own, val_own, N_nu, N_nu, N_de, N_de] at e
    rw [val, N_B, N_B, e]
  have HM1 := hide (fun (V : World) => rMul_B (w := V) (p.num.natAbs * q.num.natAbs) (Below.refl _ V) (by rw [N_nu, N_nu]) (show (nu p).size ≤ _ by omega) (show (nu q).size ≤ _ by omega))
  have HM3 := hide (fun (V : World) => rMul_B (w := V) (p.den * q.den) (Below.refl _ V) (by rw [N_de, N_de]) (show (de p).size ≤ _ by omega) (show (de q).size ≤ _ by omega))
  generalize p * q = r at *
  generalize p.num.natAbs * q.num.natAbs = X at *
  generalize p.den * q.den = D at *
  have t1 : (B X).size ≤ 200000 := by omega
  have t3 : (B D).size ≤ 200000 := by omega
  clear s1 s3 e1 e2 e3 e4 z1 z2 q1 q2 ha hb
  go_enter Tryz.func14, Tryz.ntmps14
  have hba := ((Box.at (w := w) rfl na xa ya).alloc (FC nb xb yb)).alloc (FC false ⟨#[]⟩ ⟨#[]⟩)
  have hbb := (Box.at (w := w.alloc (FC na xa ya)) (g := w.heap.size + 1) (by simp) nb xb yb).alloc (FC false ⟨#[]⟩ ⟨#[]⟩)
  have hbr := Box.at (w := (w.alloc (FC na xa ya)).alloc (FC nb xb yb)) (g := w.heap.size + 2) (by simp) false ⟨#[]⟩ ⟨#[]⟩
  have hB0 : Below w.heap.size w (((w.alloc (FC na xa ya)).alloc (FC nb xb yb)).alloc (FC false ⟨#[]⟩ ⟨#[]⟩)) := (((Below.refl _ w).alloc (Nat.le_refl _) _).alloc (by simp) _).alloc (by simp; omega) _
  go_wp2_with fail
  refine (HA.out _).mono ?_
  rintro e w1 ⟨rfl, hb1⟩
  have hba1 := hba.below hb1 hba.lt
  have hbb1 := (hbb.below hb1 hbb.lt).far3 (g' := w.heap.size) (by omega) (.bool (sgn p)) (.string (nu p)) (.string (de p))
  have hbr1 := (hbr.below hb1 hbr.lt).far3 (g' := w.heap.size) (by omega) (.bool (sgn p)) (.string (nu p)) (.string (de p))
  have hB1 := below_put (hB0.trans (hb1.mono hB0.size)) (Nat.le_refl _) (.bool (sgn p)) (.string (nu p)) (.string (de p))
  have hba2 := hba1.put (sgn p) (nu p) (de p)
  obtain ⟨k0, k1, k2, f0, f1, f2⟩ := hba1.facts
  obtain ⟨c0, c1, c2, _, _, _⟩ := hbb1.facts
  rw [C_eq]
  clear hba hbb hbr hB0 hba1 hb1
  go_wp2_with fail
  clear k0 k1 k2 f0 f1 f2 c0 c1 c2
  refine (HB.out _).mono ?_
  rintro e w2 ⟨rfl, hb2⟩
  have hbb2 := hbb1.below hb2 hbb1.lt
  have hba3 := (hba2.below hb2 hba2.lt).far3 (g' := w.heap.size + 1) (by omega) (.bool (sgn q)) (.string (nu q)) (.string (de q))
  have hbr3 := (hbr1.below hb2 hbr1.lt).far3 (g' := w.heap.size + 1) (by omega) (.bool (sgn q)) (.string (nu q)) (.string (de q))
  have hB3 := below_put (hB1.trans (hb2.mono hB1.size)) (g := w.heap.size + 1) (by omega) (.bool (sgn q)) (.string (nu q)) (.string (de q))
  have hbb3 := hbb2.put (sgn q) (nu q) (de q)
  obtain ⟨k0, k1, k2, f0, f1, f2⟩ := hbb2.facts
  have ht : Tri w _ p q false ⟨#[]⟩ ⟨#[]⟩ := ⟨hba3, hbb3, hbr3, hB3⟩
  obtain ⟨c0, c1, c2, _, _, _⟩ := hba3.facts
  obtain ⟨d0, d1, d2, _, _, _⟩ := hbb3.facts
  rw [C_eq]
  clear hba2 hbb1 hbr1 hB1 hbb2 hba3 hbr3 hB3 hbb3 hb2 HA HB
  go_wp2_with fail
  refine (HM1.out _).mono ?_
  rintro e w3 ⟨rfl, hb3⟩
  clear c0 c1 c2 d0 d1 d2 k0 k1 k2 f0 f1 f2
  have ht3 := ht.step hb3
  clear ht hb3 HM1
  obtain ⟨c0, c1, c2, _, _, _⟩ := ht3.1.facts
  obtain ⟨d0, d1, d2, _, _, _⟩ := ht3.2.1.facts
  go_wp2_with fail
  refine (HM3.out _).mono ?_
  rintro e w4 ⟨rfl, hb4⟩
  clear c0 c1 c2 d0 d1 d2
  have ht4 := ht3.step hb4
  clear ht3 hb4 HM3
  obtain ⟨c0, c1, c2, _, _, _⟩ := ht4.1.facts
  obtain ⟨d0, d1, d2, _, _, _⟩ := ht4.2.1.facts
  go_wp2_with fail
  refine (rMake_any (sgn p != sgn q) (B X) (B D) _ (by omega) (by omega)).mono ?_
  rintro e w7 ⟨rfl, hb7⟩
  have ht7 := ht4.step hb7
  obtain ⟨g0, g1, g2, i0, i1, i2⟩ := ht7.2.2.1.facts
  rw [HS.out, C_eq]
  go_wp2
  refine bodyPost_ret ((ht7.2.2.1.put _ _ _).result rfl _ rfl) rfl ?_
  exact ⟨rfl, below_put ht7.2.2.2 (by omega) _ _ _⟩
theorem nu_zero {q : Rat} (h : q = 0) : nu q = ⟨#[]⟩ := by subst h; exact B_zero
theorem nu_full {q : Rat} (h : ¬ q = 0) : (nu q).toList.isEmpty = false := B_full (by rw [Ne, Int.natAbs_eq_zero, Rat.num_eq_zero]; exact h)
set_option maxRecDepth 100000 in
set_option maxHeartbeats 1000000 in
theorem rZero_any (n : Bool) (x y : ByteArray) (w : World) (hx : x.size + y.size ≤ 50000) :
    Calls Tryz.prog 77 #[.agg #[.bool n, .string x, .string y]] w fun e w' => e = .returned (.bool (decide (val n x y = 0))) ∧ Below w.heap.size w w' := by
  have HC := hide (fun V => rCanon_any n x y V (by omega) (by omega))
  generalize val n x y = q at *
  have hz : (q = 0 ∧ decide (q = 0) = true) ∨ (¬ q = 0 ∧ decide (q = 0) = false) := by
    by_cases h : q = 0
    · exact .inl ⟨h, decide_eq_true h⟩
    · exact .inr ⟨h, decide_eq_false h⟩
  have HZ := hide hz
  clear hz
  generalize decide (q = 0) = t at *
  go_enter Tryz.func77, Tryz.ntmps77
  have hbx := Box.at (w := w) rfl n x y
  have hB0 : Below w.heap.size w (w.alloc (FC n x y)) := (Below.refl _ w).alloc (Nat.le_refl _) _
  go_wp2_with fail
  refine (HC.out _).mono ?_
  rintro e w1 ⟨rfl, hb1⟩
  have hx1 := hbx.below hb1 hbx.lt
  have hB1 := below_put (hB0.trans (hb1.mono hB0.size)) (Nat.le_refl _) (.bool (sgn q)) (.string (nu q)) (.string (de q))
  obtain ⟨k0, k1, k2, f0, f1, f2⟩ := hx1.facts
  rw [C_eq]
  rcases HZ.out with ⟨h, rfl⟩ | ⟨h, rfl⟩
  · have hn := nu_zero h
    clear h HZ
    generalize nu q = nq at *
    subst hn
    go_wp2
    go_ret
    exact ⟨rfl, hB1⟩
  · have hn := nu_full h
    clear h HZ
    go_wp2
    go_ret
    exact ⟨rfl, hB1⟩
set_option maxRecDepth 100000 in
set_option maxHeartbeats 1000000 in
theorem rDivF_yes (na nb : Bool) (xa ya xb yb : ByteArray) (w : World) (h : ¬ val nb xb yb = 0) (ha : xa.size + ya.size ≤ 40000) (hb : xb.size + yb.size ≤ 40000) :
    Calls Tryz.prog 52 #[.agg #[.bool na, .string xa, .string ya], .agg #[.bool nb, .string xb, .string yb]] w fun e w' => e = .returned (.tuple #[C (val na xa ya / val nb xb yb), .int .i64 0]) ∧ Below w.heap.size w w' := by
  have HZ := hide (fun V => rZero_any nb xb yb V (by omega))
  rw [decide_eq_false h] at HZ
  have HC := hide (fun V => rCanon_any nb xb yb V (by omega) (by omega))
  have q2 := qw_val nb xb yb
  generalize val nb xb yb = q at *
  have z2 := own_size q
  have HM := hide (fun V => rMulF_any na (sgn q) xa ya (de q) (nu q) V (by omega) (by omega))
  have hi : val (sgn q) (de q) (nu q) = q⁻¹ := by
    rw [val_inv (sgn q) (nu q) (de q) (by rw [N_nu, Ne, Int.natAbs_eq_zero, Rat.num_eq_zero]; exact h) (by rw [N_de]; exact q.den_nz), val_own]
  rw [hi, ← Rat.div_def] at HM
  generalize val na xa ya / q = r at *
  clear hi h z2 q2 ha hb
  go_enter Tryz.func52, Tryz.ntmps52
  have hba := ((Box.at (w := w) rfl na xa ya).alloc (FC nb xb yb)).alloc (FC false ⟨#[]⟩ ⟨#[]⟩)
  have hbb := (Box.at (w := w.alloc (FC na xa ya)) (g := w.heap.size + 1) (by simp) nb xb yb).alloc (FC false ⟨#[]⟩ ⟨#[]⟩)
  have hbr := Box.at (w := (w.alloc (FC na xa ya)).alloc (FC nb xb yb)) (g := w.heap.size + 2) (by simp) false ⟨#[]⟩ ⟨#[]⟩
  have hB0 : Below w.heap.size w (((w.alloc (FC na xa ya)).alloc (FC nb xb yb)).alloc (FC false ⟨#[]⟩ ⟨#[]⟩)) := (((Below.refl _ w).alloc (Nat.le_refl _) _).alloc (by simp) _).alloc (by simp; omega) _
  go_wp2_with fail
  refine (HZ.out _).mono ?_
  rintro e w1 ⟨rfl, hb1⟩
  have hba1 := hba.below hb1 hba.lt
  have hbb1 := hbb.below hb1 hbb.lt
  have hbr1 := hbr.below hb1 hbr.lt
  have hB1 := hB0.trans (hb1.mono hB0.size)
  obtain ⟨c0, c1, c2, _, _, _⟩ := hbb1.facts
  clear hba hbb hbr hB0 hb1
  go_wp2_with fail
  refine (HC.out _).mono ?_
  rintro e w2 ⟨rfl, hb2⟩
  have hba2 := (hba1.below hb2 hba1.lt).far3 (g' := w.heap.size + 1) (by omega) (.bool (sgn q)) (.string (nu q)) (.string (de q))
  have hbb2 := hbb1.below hb2 hbb1.lt
  have hbr2 := (hbr1.below hb2 hbr1.lt).far3 (g' := w.heap.size + 1) (by omega) (.bool (sgn q)) (.string (nu q)) (.string (de q))
  have hB2 := below_put (hB1.trans (hb2.mono hB1.size)) (g := w.heap.size + 1) (by omega) (.bool (sgn q)) (.string (nu q)) (.string (de q))
  clear c0 c1 c2 hba1 hbb1 hbr1 hB1 hb2
  obtain ⟨k0, k1, k2, f0, f1, f2⟩ := hbb2.facts
  obtain ⟨d0, d1, d2, _, _, _⟩ := hba2.facts
  rw [C_eq]
  go_wp2_with fail
  refine (HM.out _).mono ?_
  rintro e w3 ⟨rfl, hb3⟩
  have hbr3 := hbr2.below hb3 hbr2.lt
  have hB3 := hB2.trans (hb3.mono hB2.size)
  clear k0 k1 k2 f0 f1 f2 d0 d1 d2
  obtain ⟨k0, k1, k2, f0, f1, f2⟩ := hbr3.facts
  rw [C_eq]
  go_wp2
  refine bodyPost_ret ((hbr3.put _ _ _).result2 rfl _ rfl) rfl ?_
  exact ⟨rfl, below_put hB3 (by omega) _ _ _⟩
theorem of_neg {k : Int} (h : k < 0) : C (mkRat k 1) = .agg #[.bool true, .string (B ((-(k + 1)).toNat + 1)), .string (B 1)] := by
  have e : k = sg true ((-(k + 1)).toNat + 1) := by simp only [sg, if_true]; omega
  have h1 := C_make true ((-(k + 1)).toNat + 1) 1 (by omega) (by decide)
  rw [← e, Nat.gcd_one_right, Nat.div_one, Nat.div_one] at h1
  exact h1
theorem of_pos (n : Nat) : C (mkRat (n : Int) 1) = .agg #[.bool false, .string (B n), .string (B 1)] := by
  by_cases h : n = 0
  · subst h; rw [show ((0 : Nat) : Int) = 0 from rfl, Rat.zero_mkRat, C_zero, B_zero]
  · have h1 := C_make false n 1 h (by decide)
    rw [Nat.gcd_one_right, Nat.div_one, Nat.div_one] at h1
    exact h1
set_option maxRecDepth 100000 in
set_option maxHeartbeats 1000000 in
theorem rOfF_any (k : Int) (w : World) (h0 : -9223372036854775808 ≤ k) (h1 : k ≤ 9223372036854775807) :
    Calls Tryz.prog 11 #[.int .i64 k] w fun e w' => e = .returned (C (mkRat k 1)) ∧ Below w.heap.size w w' := by
  by_cases hk : k < 0
  · rw [of_neg hk]
    have HO := hide (fun V => rOf_any (-(k + 1)) V (by omega) (by omega))
    have s1 : (B (-(k + 1)).toNat).size ≤ 8 := by rw [B_size]; exact bn_fits 8 _ (by show _ < 18446744073709551616; omega)
    have HA := hide (fun V => rAdd_any (B (-(k + 1)).toNat) ⟨#[1]⟩ V (by omega) (by show 1 ≤ _; omega))
    rw [N_B, show N ⟨#[1]⟩ = 1 from rfl] at HA
    rw [B_one]
    generalize (-(k + 1)).toNat = n at *
    go_enter Tryz.func11, Tryz.ntmps11
    have hbr := Box.at (w := w) rfl false ⟨#[]⟩ ⟨#[]⟩
    have hB0 : Below w.heap.size w (w.alloc (FC false ⟨#[]⟩ ⟨#[]⟩)) := (Below.refl _ w).alloc (Nat.le_refl _) _
    go_wp2_with fail
    refine (HO.out _).mono ?_
    rintro e w1 ⟨rfl, hb1⟩
    have hbr1 := hbr.below hb1 hbr.lt
    have hB1 := hB0.trans (hb1.mono hB0.size)
    go_wp2_with fail
    refine (HA.out _).mono ?_
    rintro e w2 ⟨rfl, hb2⟩
    have hbr2 := hbr1.below hb2 hbr1.lt
    have hB2 := hB1.trans (hb2.mono hB1.size)
    obtain ⟨k0, k1, k2, f0, f1, f2⟩ := hbr2.facts
    go_wp2
    refine bodyPost_ret ((hbr2.put _ _ _).result rfl _ rfl) rfl ?_
    exact ⟨rfl, below_put hB2 (by omega) _ _ _⟩
  · obtain ⟨n, rfl⟩ : ∃ n : Nat, k = n := ⟨k.toNat, by omega⟩
    rw [of_pos n]
    have HO := hide (fun V => rOf_any (n : Int) V (by omega) (by omega))
    rw [Int.toNat_natCast] at HO
    rw [B_one]
    go_enter Tryz.func11, Tryz.ntmps11
    have hbr := Box.at (w := w) rfl false ⟨#[]⟩ ⟨#[]⟩
    have hB0 : Below w.heap.size w (w.alloc (FC false ⟨#[]⟩ ⟨#[]⟩)) := (Below.refl _ w).alloc (Nat.le_refl _) _
    go_wp2_with fail
    refine (HO.out _).mono ?_
    rintro e w1 ⟨rfl, hb1⟩
    have hbr1 := hbr.below hb1 hbr.lt
    have hB1 := hB0.trans (hb1.mono hB0.size)
    obtain ⟨k0, k1, k2, f0, f1, f2⟩ := hbr1.facts
    go_wp2
    refine bodyPost_ret ((hbr1.put _ _ _).result rfl _ rfl) rfl ?_
    exact ⟨rfl, below_put hB1 (by omega) _ _ _⟩
end Go.Proofs.YtbejijgelljeaaaGreatDoor

/- Sums of whole lists of fractions: package frac's and the document's answer. -/
namespace Go.Proofs.YtbejijgelljeaaaGreatDoor
open Go.RowKit
/-- A number with numerator and denominator of at most m bytes. -/
def Fits (m : Nat) (q : Rat) : Prop := ∃ (A : Int) (D : Nat), D ≠ 0 ∧ q = mkRat A D ∧ D < 256 ^ m ∧ A.natAbs < 256 ^ m
theorem fits_qw {m : Nat} {q : Rat} (h : Fits m q) : qw q ≤ 2 * m := by
  obtain ⟨A, D, hD, rfl, h1, h2⟩ := h
  rw [mk_norm hD]
  have := qw_norm (n := A) hD
  have a1 : (B A.natAbs).size ≤ m := by rw [B_size]; exact bn_fits m _ h2
  have a2 : (B D).size ≤ m := by rw [B_size]; exact bn_fits m _ h1
  omega
theorem pow_mono {m n : Nat} (h : m ≤ n) : 256 ^ m ≤ 256 ^ n := Nat.pow_le_pow_right (by decide) h
theorem fits_val (n : Bool) (x y : ByteArray) : Fits (x.size + y.size + 1) (val n x y) := by
  by_cases h : N y = 0
  · refine ⟨0, 1, by decide, by rw [val_den0 h, Rat.zero_mkRat], ?_, ?_⟩
    · exact Nat.lt_of_lt_of_le (by decide : 1 < 256 ^ 1) (pow_mono (by omega))
    · exact Nat.pow_pos (by decide)
  · refine ⟨sg n (N x), N y, h, rfl, Nat.lt_of_lt_of_le (N_lt y) (pow_mono (by omega)), ?_⟩
    rw [sg_natAbs]
    exact Nat.lt_of_lt_of_le (N_lt x) (pow_mono (by omega))
theorem fits_add {m k : Nat} {p q : Rat} (hp : Fits m p) (hq : Fits k q) : Fits (m + k + 1) (p + q) := by
  obtain ⟨A, D, hD, rfl, h1, h2⟩ := hp
  obtain ⟨A', D', hD', rfl, h3, h4⟩ := hq
  refine ⟨A * D' + A' * D, D * D', Nat.mul_ne_zero hD hD', Rat.mkRat_add_mkRat _ _ hD hD', ?_, ?_⟩
  · have : D * D' < 256 ^ m * 256 ^ k := Nat.mul_lt_mul'' h1 h3
    rw [← Nat.pow_add] at this
    exact Nat.lt_of_lt_of_le this (pow_mono (by omega))
  · have e1 : A.natAbs * D' < 256 ^ m * 256 ^ k := Nat.mul_lt_mul'' h2 h3
    have e2 : A'.natAbs * D < 256 ^ k * 256 ^ m := Nat.mul_lt_mul'' h4 h1
    rw [Nat.mul_comm (256 ^ k)] at e2
    rw [← Nat.pow_add] at e1 e2
    have e3 : (A * D' + A' * D).natAbs ≤ A.natAbs * D' + A'.natAbs * D := by
      refine Nat.le_trans (Int.natAbs_add_le _ _) ?_
      rw [Int.natAbs_mul, Int.natAbs_mul]
      exact Nat.le_refl _
    rw [Nat.pow_succ]
    omega
abbrev Fr : Type := Bool × ByteArray × ByteArray
def frv (f : Fr) : Rat := val f.1 f.2.1 f.2.2
/-- How many bytes a list has, and two for each. -/
def fw : List Fr → Nat
  | [] => 0
  | f :: l => f.2.1.size + f.2.2.size + 2 + fw l
def fsum (l : List Fr) : Rat := l.foldl (fun s f => s + frv f) 0
theorem fsum_snoc (l : List Fr) (f : Fr) : fsum (l ++ [f]) = fsum l + frv f := by simp [fsum]
theorem fw_append (a b : List Fr) : fw (a ++ b) = fw a + fw b := by
  induction a with
  | nil => simp [fw]
  | cons f a ih => simp only [List.cons_append, fw, ih]; omega
theorem fw_take (l : List Fr) (k : Nat) : fw (l.take k) ≤ fw l := by
  have := fw_append (l.take k) (l.drop k)
  rw [List.take_append_drop] at this
  omega
theorem fw_mem {l : List Fr} {f : Fr} (h : f ∈ l) : f.2.1.size + f.2.2.size + 2 ≤ fw l := by
  induction l with
  | nil => cases h
  | cons g l ih =>
    rcases List.mem_cons.1 h with rfl | h
    · simp only [fw]; omega
    · have := ih h; simp only [fw]; omega
theorem fits_sum (l : List Fr) : Fits (fw l + 1) (fsum l) := by
  induction l using snoc_ind with
  | h0 => exact ⟨0, 1, by decide, (Rat.zero_mkRat _).symm, by decide, by decide⟩
  | h1 l f ih =>
    rw [fsum_snoc, fw_append]
    have := fits_add ih (fits_val f.1 f.2.1 f.2.2)
    have e : fw l + 1 + (f.2.1.size + f.2.2.size + 1) + 1 = fw l + fw [f] + 1 := by simp only [fw]; omega
    rwa [e] at this
theorem take_one {l : List Fr} {k : Nat} (h : k < l.length) : fsum (l.take (k + 1)) = fsum (l.take k) + frv l[k] := by
  rw [List.take_succ_eq_append_getElem h, fsum_snoc]
/-- A list of fractions, as a slice at a. -/
def FrS (w : World) (a : Option Addr) (l : List Fr) : Prop := ∀ k (h : k < l.length), ∃ g o, a = some ⟨g, o, none⟩ ∧ g < w.heap.size ∧ w.cell? ⟨g, o + k * 3, none⟩ = some (.bool l[k].1) ∧ w.cell? ⟨g, o + k * 3 + 1, none⟩ = some (.string l[k].2.1) ∧ w.cell? ⟨g, o + k * 3 + 2, none⟩ = some (.string l[k].2.2)
theorem FrS.below {w w' : World} {a : Option Addr} {l : List Fr} (h : FrS w a l) (hb : Below w.heap.size w w') : FrS w' a l := fun k hk => by
  obtain ⟨g, o, h1, h2, h3, h4, h5⟩ := h k hk
  exact ⟨g, o, h1, Nat.lt_of_lt_of_le h2 hb.size, (hb.cell (p := ⟨g, _, none⟩) h2).trans h3, (hb.cell (p := ⟨g, _, none⟩) h2).trans h4, (hb.cell (p := ⟨g, _, none⟩) h2).trans h5⟩
set_option maxRecDepth 100000 in
set_option maxHeartbeats 1000000 in
theorem fSum_cw (a : Option Addr) (cap : Nat) (l : List Fr) (w : World) (h : FrS w a l) (hl : ∀ k (h : k < l.length), l[k].2.1.size + l[k].2.2.size ≤ 40000) (hq : ∀ k, k ≤ l.length → qw (fsum (l.take k)) ≤ 40000) (hn : l.length ≤ 10000) :
    Calls Tryz.prog 60 #[.slice a l.length cap] w fun e w' => e = .returned (C (fsum l)) ∧ Below w.heap.size w w' := by
  have HF := hide h
  have HL := hide hl
  have HQ := hide hq
  clear h hl hq
  have HFIN : Hid (fsum (l.take l.length) = fsum l) := by show _ = _; rw [List.take_length]
  go_enter Tryz.func60, Tryz.ntmps60
  have hbr := Box.at (w := w) rfl false ⟨#[]⟩ ⟨#[]⟩
  have hB0 : Below w.heap.size w (w.alloc (FC false ⟨#[]⟩ ⟨#[]⟩)) := (Below.refl _ w).alloc (Nat.le_refl _) _
  go_wp2_with fail
  refine (nought_any _).mono ?_
  rintro e w1 ⟨rfl, hb1⟩
  have hr1 := hbr.below hb1 hbr.lt
  have hB1 : Below w.heap.size w w1 := hB0.trans (hb1.mono hB0.size)
  clear hbr hB0 hb1
  rw [C_eq]
  go_wp2_with fail
  have hlt1 := hr1.lt
  go_loopw [9] (fun iv wr => ∃ k : Nat, k ≤ l.length ∧ iv = .int .i64 k ∧ Hid (Box wr w1.heap.size (sgn (fsum (l.take k))) (nu (fsum (l.take k))) (de (fsum (l.take k)))) ∧ Hid (Box wr w.heap.size false ⟨#[]⟩ ⟨#[]⟩) ∧ Below w.heap.size w wr) (fun iv _ => l.length - (intOf iv).toNat)
  case atStart => exact ⟨0, Nat.zero_le _, rfl, Box.at rfl _ _ _, hr1.alloc _, hB1.alloc hB1.size _⟩
  case round =>
    obtain ⟨k, hk, rfl, HS, HR, hBr⟩ := hrel
    by_cases hlt : k < l.length
    · obtain ⟨g, o, rfl, hg, c0, c1, c2⟩ := (HF.out.below hBr) k hlt
      have hstep := take_one hlt
      have hmem := HL.out k hlt
      have hfit := HQ.out k hk
      have hz := own_size (fsum (l.take k))
      have HADD := hide (fun V => fAdd_any (sgn (fsum (l.take k))) l[k].1 (nu (fsum (l.take k))) (de (fsum (l.take k))) l[k].2.1 l[k].2.2 V (by omega) (by omega) (by omega) (by omega))
      rw [val_own, show val l[k].1 l[k].2.1 l[k].2.2 = frv l[k] from rfl, ← hstep] at HADD
      have hbq := HS.out
      clear HS hstep hmem hfit hz
      generalize l[k].1 = fn at *
      generalize l[k].2.1 = fx at *
      generalize l[k].2.2 = fy at *
      obtain ⟨k0, k1, k2, f0, f1, f2⟩ := hbq.facts
      have hgl := hbq.lt
      go_wp2_with fail
      refine (HADD.out _).mono ?_
      rintro e w2 ⟨rfl, hb2⟩
      have hs2 := (hbq.alloc (FC fn fx fy)).below hb2 (hbq.alloc (FC fn fx fy)).lt
      have hr2 := (HR.out.alloc (FC fn fx fy)).below hb2 (HR.out.alloc (FC fn fx fy)).lt
      have hB2' := hBr.alloc hBr.size (FC fn fx fy)
      have hB2 : Below w.heap.size w w2 := hB2'.trans (hb2.mono hB2'.size)
      clear k0 k1 k2 f0 f1 f2 c0 c1 c2
      obtain ⟨k0, k1, k2, f0, f1, f2⟩ := hs2.facts
      rw [C_eq]
      go_wp2
      go_roundw
      case rel => exact ⟨k + 1, by omega, by go_num, hs2.put _ _ _, hr2.far3 (by omega) _ _ _, below_put hB2 hB1.size _ _ _⟩
      case measure => simp [intOf]; omega
    · obtain rfl : k = l.length := by omega
      have hbq := HS.out
      rw [HFIN.out] at hbq
      obtain ⟨k0, k1, k2, f0, f1, f2⟩ := hbq.facts
      obtain ⟨j0, j1, j2, i0, i1, i2⟩ := HR.out.facts
      go_wp2
      refine bodyPost_ret ((HR.out.put _ _ _).result rfl _ rfl) rfl ?_
      exact ⟨rfl, below_put hBr (Nat.le_refl _) _ _ _⟩
theorem fSum_any (a : Option Addr) (cap : Nat) (l : List Fr) (w : World) (h : FrS w a l) (hl : fw l ≤ 10000) (hn : l.length ≤ 10000) :
    Calls Tryz.prog 60 #[.slice a l.length cap] w fun e w' => e = .returned (C (fsum l)) ∧ Below w.heap.size w w' :=
  fSum_cw a cap l w h (fun k hk => by have := fw_mem (List.getElem_mem hk); omega) (fun k _ => by have := fits_qw (fits_sum (l.take k)); have := fw_take l k; omega) hn
end Go.Proofs.YtbejijgelljeaaaGreatDoor

/- Hidden chains, plainly: forward and backward meet; no way is likelier than the path that is found step by step. -/
namespace Go.Proofs.YtbejijgelljeaaaGreatDoor
/-- The sum of so many. -/
def sumR (f : Nat → Rat) : Nat → Rat
  | 0 => 0
  | n + 1 => sumR f n + f n
theorem sumR_congr {f g : Nat → Rat} : ∀ {n : Nat}, (∀ i, i < n → f i = g i) → sumR f n = sumR g n
  | 0, _ => rfl
  | n + 1, h => by rw [sumR, sumR, sumR_congr fun i hi => h i (by omega), h n (by omega)]
theorem sumR_add (f g : Nat → Rat) : ∀ n, sumR (fun i => f i + g i) n = sumR f n + sumR g n
  | 0 => by rw [sumR, sumR, sumR, Rat.add_zero]
  | n + 1 => by
    rw [sumR, sumR, sumR, sumR_add f g n, Rat.add_assoc, Rat.add_assoc, ← Rat.add_assoc (sumR g n), Rat.add_comm (sumR g n), Rat.add_assoc]
theorem sumR_mul (c : Rat) (f : Nat → Rat) : ∀ n, sumR (fun i => c * f i) n = c * sumR f n
  | 0 => by rw [sumR, sumR, Rat.mul_zero]
  | n + 1 => by rw [sumR, sumR, sumR_mul c f n, Rat.mul_add]
theorem sumR_mulR (c : Rat) (f : Nat → Rat) (n : Nat) : sumR (fun i => f i * c) n = sumR f n * c := by
  rw [Rat.mul_comm, ← sumR_mul]
  exact sumR_congr fun i _ => Rat.mul_comm _ _
theorem sumR_none : ∀ n, sumR (fun _ => 0) n = 0
  | 0 => rfl
  | n + 1 => by rw [sumR, sumR_none n, Rat.add_zero]
theorem sumR_swap (f : Nat → Nat → Rat) (m : Nat) : ∀ n, sumR (fun i => sumR (fun j => f i j) m) n = sumR (fun j => sumR (fun i => f i j) n) m
  | 0 => by rw [sumR]; exact (sumR_none m).symm
  | n + 1 => by
    rw [sumR, sumR_swap f m n, ← sumR_add]
    rfl
theorem sumR_low {f : Nat → Rat} : ∀ {n : Nat}, (∀ i, i < n → 0 ≤ f i) → 0 ≤ sumR f n
  | 0, _ => Rat.le_refl
  | n + 1, h => Rat.add_nonneg (sumR_low fun i hi => h i (by omega)) (h n (by omega))
theorem sumR_part {f : Nat → Rat} : ∀ {n : Nat}, (∀ i, i < n → 0 ≤ f i) → ∀ i, i < n → f i ≤ sumR f n
  | 0, _, i, hi => absurd hi (by omega)
  | n + 1, h, i, hi => by
    rw [sumR]
    have h0 := sumR_low (n := n) fun i hi => h i (by omega)
    have hn := h n (by omega)
    rcases Nat.lt_or_ge i n with h1 | h1
    · have h2 := sumR_part (n := n) (fun i hi => h i (by omega)) i h1
      have h3 := (Rat.add_le_add_left (c := sumR f n)).2 hn
      rw [Rat.add_zero] at h3
      exact Rat.le_trans h2 h3
    · obtain rfl : i = n := by omega
      have h3 := (Rat.add_le_add_right (c := f i)).2 h0
      rwa [Rat.zero_add] at h3
theorem sumR_mono {f g : Nat → Rat} : ∀ {n : Nat}, (∀ i, i < n → f i ≤ g i) → sumR f n ≤ sumR g n
  | 0, _ => Rat.le_refl
  | n + 1, h => by
    rw [sumR, sumR]
    exact Rat.le_trans ((Rat.add_le_add_right (c := f n)).2 (sumR_mono fun i hi => h i (by omega))) ((Rat.add_le_add_left (c := sumR g n)).2 (h n (by omega)))
theorem sumR_zero {f : Nat → Rat} {n : Nat} (h : ∀ i, i < n → f i = 0) : sumR f n = 0 := by
  rw [sumR_congr h]
  exact sumR_none n
/-- A hidden chain: how likely it starts, moves and shows; what is seen. -/
structure HC where
  s : Nat
  L : Nat
  st : Nat → Rat
  mv : Nat → Nat → Rat
  sh : Nat → Nat → Rat
variable {h : HC}
end Go.Proofs.YtbejijgelljeaaaGreatDoor
