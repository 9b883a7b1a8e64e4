/- The document's answer: differences, products, quotients, comparisons, whole numbers. -/
import Derived.Test.YtmdjhefcohcjhaaGreatDoorFracFToRefR
import Derived.Test.YtmdjhefcohcjhaaGreatDoorRefAToRefG
import Derived.BigQuiet
import Derived.Test.YtmdjhefcohcjhaaGreatDoorTabP1ToNum
namespace Go.Proofs.YtmdjhefcohcjhaaGreatDoor
open Go.RowKit

theorem Box.neg {w : World} {g : Nat} {n : Bool} {x y : ByteArray} (h : Box w g n x y) (m : Bool) : Box (w.setCell ⟨g, 0, none⟩ (.bool m)) g m x y := heap_setCell_same w g 0 _ _ (.bool m) h

set_option maxRecDepth 100000 in
set_option maxHeartbeats 2000000 in
theorem rSubF_any (na nb : Bool) (xa ya xb yb : ByteArray) (w : World) (ha : xa.size + ya.size ≤ 50000) (hb : xb.size + yb.size ≤ 50000) :
    Calls Tryz.prog 68 #[.agg #[.bool na, .string xa, .string ya], .agg #[.bool nb, .string xb, .string yb]] w fun e w' => e = .returned (C (val na xa ya - val nb xb yb)) ∧ Below w.heap.size w w' := by
  have HA := hide (fun V => rAddF_any na (!nb) xa ya xb yb V ha hb)
  rw [val_not, ← Rat.sub_eq_add_neg] at HA
  generalize val na xa ya - val nb xb yb = r at *
  go_enter Tryz.func68, Tryz.ntmps68
  have hbr := Box.at (w := (w.alloc (FC na xa ya)).alloc (FC (!nb) xb yb)) (g := w.heap.size + 2) (by simp) false ⟨#[]⟩ ⟨#[]⟩
  have hB0 : Below w.heap.size w (((w.alloc (FC na xa ya)).alloc (FC (!nb) xb yb)).alloc (FC false ⟨#[]⟩ ⟨#[]⟩)) := (((Below.refl _ w).alloc (Nat.le_refl _) _).alloc (by simp) _).alloc (by simp; omega) _
  go_wp2_with fail
  refine (HA.out _).mono ?_
  rintro e w1 ⟨rfl, hb1⟩
  have hbr1 := hbr.below hb1 hbr.lt
  have hB1 := hB0.trans (hb1.mono hB0.size)
  obtain ⟨k0, k1, k2, f0, f1, f2⟩ := hbr1.facts
  rw [C_eq]
  go_wp2
  refine bodyPost_ret ((hbr1.put _ _ _).result rfl _ rfl) rfl ?_
  exact ⟨rfl, below_put hB1 (by omega) _ _ _⟩

theorem nu_zero {q : Rat} (h : q = 0) : nu q = ⟨#[]⟩ := by subst h; exact B_zero
theorem nu_full {q : Rat} (h : ¬ q = 0) : (nu q).toList.isEmpty = false := B_full (by rw [Ne, Int.natAbs_eq_zero, Rat.num_eq_zero]; exact h)

theorem cmp_sub (p q : Rat) : cmpQ p q = if p - q = 0 then 0 else if sgn (p - q) = true then -1 else 1 := by
  have hs : sgn (p - q) = true ↔ p - q < 0 := by
    have h := Rat.num_nonneg (q := p - q)
    rw [sgn, decide_eq_true_iff]
    constructor
    · intro h1; have h2 : ¬ 0 ≤ p - q := fun e => absurd (h.2 e) (by omega)
      grind
    · intro h1; have h2 : ¬ 0 ≤ (p - q).num := fun e => absurd (h.1 e) (by grind)
      omega
  by_cases h : p - q = 0
  · rw [if_pos h, cmpQ, if_neg (by grind), if_pos (by grind)]
  · rw [if_neg h]
    by_cases h1 : p - q < 0
    · rw [if_pos (hs.2 h1), cmpQ, if_pos (by grind)]
    · rw [if_neg (fun e => h1 (hs.1 e)), cmpQ, if_neg (by grind), if_neg (by grind)]

set_option maxRecDepth 100000 in
set_option maxHeartbeats 1000000 in
theorem rCmpF_any (na nb : Bool) (xa ya xb yb : ByteArray) (w : World) (ha : xa.size + ya.size ≤ 50000) (hb : xb.size + yb.size ≤ 50000) :
    Calls Tryz.prog 42 #[.agg #[.bool na, .string xa, .string ya], .agg #[.bool nb, .string xb, .string yb]] w fun e w' => e = .returned (.int .i64 (cmpQ (val na xa ya) (val nb xb yb))) ∧ Below w.heap.size w w' := by
  have HS := hide (fun V => rSubF_any na nb xa ya xb yb V ha hb)
  have HK := hide (cmp_sub (val na xa ya) (val nb xb yb))
  generalize cmpQ (val na xa ya) (val nb xb yb) = k at *
  generalize val na xa ya - val nb xb yb = d at *
  go_enter Tryz.func42, Tryz.ntmps42
  have hB0 : Below w.heap.size w ((w.alloc (FC na xa ya)).alloc (FC nb xb yb)) := ((Below.refl _ w).alloc (Nat.le_refl _) _).alloc (by simp) _
  go_wp2_with fail
  refine (HS.out _).mono ?_
  rintro e w1 ⟨rfl, hb1⟩
  have hB1 := hB0.trans (hb1.mono hB0.size)
  have hB2 := hB1.alloc hB1.size (FC (sgn d) (nu d) (de d))
  rw [C_eq]
  by_cases h : d = 0
  · rw [if_pos h] at HK
    have hn := nu_zero h
    clear h
    generalize nu d = nd at *
    subst hn
    go_wp2
    go_ret
    exact ⟨by rw [HK.out]; rfl, hB2⟩
  · rw [if_neg h] at HK
    have hn := nu_full h
    clear h
    generalize sgn d = sd at *
    cases sd
    · go_wp2
      go_ret
      exact ⟨by rw [HK.out]; rfl, hB2⟩
    · go_wp2
      go_ret
      exact ⟨by rw [HK.out]; rfl, hB2⟩

theorem of_neg {k : Int} (h : k < 0) : C (mkRat k 1) = .agg #[.bool true, .string (B ((-(k + 1)).toNat + 1)), .string (B 1)] := by
  have e : k = sg true ((-(k + 1)).toNat + 1) := by simp only [sg, if_true]; omega
  have h1 := C_make true ((-(k + 1)).toNat + 1) 1 (by omega) (by decide)
  rw [← e, Nat.gcd_one_right, Nat.div_one, Nat.div_one] at h1
  exact h1
theorem of_pos (n : Nat) : C (mkRat (n : Int) 1) = .agg #[.bool false, .string (B n), .string (B 1)] := by
  by_cases h : n = 0
  · subst h; rw [show ((0 : Nat) : Int) = 0 from rfl, Rat.zero_mkRat, C_zero, B_zero]
  · have h1 := C_make false n 1 h (by decide)
    rw [Nat.gcd_one_right, Nat.div_one, Nat.div_one] at h1
    exact h1

set_option maxRecDepth 100000 in
set_option maxHeartbeats 1000000 in
theorem rOfF_any (k : Int) (w : World) (h0 : -9223372036854775808 ≤ k) (h1 : k ≤ 9223372036854775807) :
    Calls Tryz.prog 43 #[.int .i64 k] w fun e w' => e = .returned (C (mkRat k 1)) ∧ Below w.heap.size w w' := by
  by_cases hk : k < 0
  · rw [of_neg hk]
    have HO := hide (fun V => rOf_any (-(k + 1)) V (by omega) (by omega))
    have s1 : (B (-(k + 1)).toNat).size ≤ 8 := by rw [B_size]; exact bn_fits 8 _ (by show _ < 18446744073709551616; omega)
    have HA := hide (fun V => rAdd_any (B (-(k + 1)).toNat) ⟨#[1]⟩ V (by omega) (by show 1 ≤ _; omega))
    rw [N_B, show N ⟨#[1]⟩ = 1 from rfl] at HA
    rw [B_one]
    generalize (-(k + 1)).toNat = n at *
    go_enter Tryz.func43, Tryz.ntmps43
    have hbr := Box.at (w := w) rfl false ⟨#[]⟩ ⟨#[]⟩
    have hB0 : Below w.heap.size w (w.alloc (FC false ⟨#[]⟩ ⟨#[]⟩)) := (Below.refl _ w).alloc (Nat.le_refl _) _
    go_wp2_with fail
    refine (HO.out _).mono ?_
    rintro e w1 ⟨rfl, hb1⟩
    have hbr1 := hbr.below hb1 hbr.lt
    have hB1 := hB0.trans (hb1.mono hB0.size)
    go_wp2_with fail
    refine (HA.out _).mono ?_
    rintro e w2 ⟨rfl, hb2⟩
    have hbr2 := hbr1.below hb2 hbr1.lt
    have hB2 := hB1.trans (hb2.mono hB1.size)
    obtain ⟨k0, k1, k2, f0, f1, f2⟩ := hbr2.facts
    go_wp2
    refine bodyPost_ret ((hbr2.put _ _ _).result rfl _ rfl) rfl ?_
    exact ⟨rfl, below_put hB2 (by omega) _ _ _⟩
  · obtain ⟨n, rfl⟩ : ∃ n : Nat, k = n := ⟨k.toNat, by omega⟩
    rw [of_pos n]
    have HO := hide (fun V => rOf_any (n : Int) V (by omega) (by omega))
    rw [Int.toNat_natCast] at HO
    rw [B_one]
    go_enter Tryz.func43, Tryz.ntmps43
    have hbr := Box.at (w := w) rfl false ⟨#[]⟩ ⟨#[]⟩
    have hB0 : Below w.heap.size w (w.alloc (FC false ⟨#[]⟩ ⟨#[]⟩)) := (Below.refl _ w).alloc (Nat.le_refl _) _
    go_wp2_with fail
    refine (HO.out _).mono ?_
    rintro e w1 ⟨rfl, hb1⟩
    have hbr1 := hbr.below hb1 hbr.lt
    have hB1 := hB0.trans (hb1.mono hB0.size)
    obtain ⟨k0, k1, k2, f0, f1, f2⟩ := hbr1.facts
    go_wp2
    refine bodyPost_ret ((hbr1.put _ _ _).result rfl _ rfl) rfl ?_
    exact ⟨rfl, below_put hB1 (by omega) _ _ _⟩

set_option maxRecDepth 100000 in
set_option maxHeartbeats 1000000 in
theorem fOf_any (k : Int) (w : World) (h0 : -9223372036854775808 ≤ k) (h1 : k ≤ 9223372036854775807) :
    Calls Tryz.prog 55 #[.int .i64 k] w fun e w' => e = .returned (C (mkRat k 1)) ∧ Below w.heap.size w w' := by
  by_cases hk : k < 0
  · have hq : val true (B ((-(k + 1)).toNat + 1)) (B 1) = mkRat k 1 := by
      have e : k = sg true ((-(k + 1)).toNat + 1) := by simp only [sg, if_true]; omega
      rw [val, N_B, N_B, ← e]
    have s1 : (B (-(k + 1)).toNat).size ≤ 8 := by rw [B_size]; exact bn_fits 8 _ (by show _ < 18446744073709551616; omega)
    have s2 : (B ((-(k + 1)).toNat + 1)).size ≤ 8 := by rw [B_size]; exact bn_fits 8 _ (by show _ < 18446744073709551616; omega)
    have s3 := B_one_size
    have HQ := hide hq
    have hn : -(k + 1) = ((-(k + 1)).toNat : Int) := by omega
    have hle : (-(k + 1)).toNat ≤ 9223372036854775807 := by omega
    have HN := hide hn
    clear hq hn
    go_enter Tryz.func55, Tryz.ntmps55
    have hbr := Box.at (w := w) rfl false ⟨#[]⟩ ⟨#[]⟩
    have hB0 : Below w.heap.size w (w.alloc (FC false ⟨#[]⟩ ⟨#[]⟩)) := (Below.refl _ w).alloc (Nat.le_refl _) _
    have hB := Below.refl (w.alloc (FC false ⟨#[]⟩ ⟨#[]⟩)).heap.size (w.alloc (FC false ⟨#[]⟩ ⟨#[]⟩))
    go_wp2_with fail
    refine (Of_to (-(k + 1)).toNat hB HN.out (by omega)).mono ?_
    rintro e w1 ⟨rfl, hB⟩
    go_wp2_with fail
    refine (Of_to 1 hB rfl (by omega)).mono ?_
    rintro e w1 ⟨rfl, hB⟩
    go_wp2_with fail
    refine (Add_to ((-(k + 1)).toNat + 1) hB (by rw [N_B, N_B]) (by omega) (by omega)).mono ?_
    rintro e w1 ⟨rfl, hB⟩
    go_wp2_with fail
    refine (Of_to 1 hB rfl (by omega)).mono ?_
    rintro e w1 ⟨rfl, hB⟩
    go_wp2_with fail
    refine (Make_any true (B ((-(k + 1)).toNat + 1)) (B 1) _ (by omega) (by omega)).mono ?_
    rintro e w2 ⟨rfl, hb2⟩
    rw [HQ.out]
    have hx1 := (hbr.below hB hbr.lt).below hb2 (hbr.below hB hbr.lt).lt
    have hB1 : Below w.heap.size w w2 := (hB0.trans (hB.mono hB0.size)).trans (hb2.mono (hB0.trans (hB.mono hB0.size)).size)
    obtain ⟨k0, k1, k2, f0, f1, f2⟩ := hx1.facts
    clear hbr hB0 hB
    rw [C_eq]
    go_wp2
    refine bodyPost_ret ((hx1.put _ _ _).result rfl _ rfl) rfl ?_
    exact ⟨rfl, below_put hB1 (by omega) _ _ _⟩
  · obtain ⟨n, rfl⟩ : ∃ n : Nat, k = n := ⟨k.toNat, by omega⟩
    have := fOf_nat n w (by omega)
    rwa [show ((n : Nat) : Rat) = mkRat (n : Int) 1 by rw [Rat.mkRat_one]; rfl] at this
end Go.Proofs.YtmdjhefcohcjhaaGreatDoor


/- Sums of whole lists of fractions: package frac's and the document's answer. -/
namespace Go.Proofs.YtmdjhefcohcjhaaGreatDoor
open Go.RowKit

/-- A number with numerator and denominator of at most m bytes. -/
def Fits (m : Nat) (q : Rat) : Prop := ∃ (A : Int) (D : Nat), D ≠ 0 ∧ q = mkRat A D ∧ D < 256 ^ m ∧ A.natAbs < 256 ^ m
theorem fits_qw {m : Nat} {q : Rat} (h : Fits m q) : qw q ≤ 2 * m := by
  obtain ⟨A, D, hD, rfl, h1, h2⟩ := h
  rw [mk_norm hD]
  have := qw_norm (n := A) hD
  have a1 : (B A.natAbs).size ≤ m := by rw [B_size]; exact bn_fits m _ h2
  have a2 : (B D).size ≤ m := by rw [B_size]; exact bn_fits m _ h1
  omega
theorem pow_mono {m n : Nat} (h : m ≤ n) : 256 ^ m ≤ 256 ^ n := Nat.pow_le_pow_right (by decide) h
theorem fits_val (n : Bool) (x y : ByteArray) : Fits (x.size + y.size + 1) (val n x y) := by
  by_cases h : N y = 0
  · refine ⟨0, 1, by decide, by rw [val_den0 h, Rat.zero_mkRat], ?_, ?_⟩
    · exact Nat.lt_of_lt_of_le (by decide : 1 < 256 ^ 1) (pow_mono (by omega))
    · exact Nat.pow_pos (by decide)
  · refine ⟨sg n (N x), N y, h, rfl, Nat.lt_of_lt_of_le (N_lt y) (pow_mono (by omega)), ?_⟩
    rw [sg_natAbs]
    exact Nat.lt_of_lt_of_le (N_lt x) (pow_mono (by omega))
theorem fits_add {m k : Nat} {p q : Rat} (hp : Fits m p) (hq : Fits k q) : Fits (m + k + 1) (p + q) := by
  obtain ⟨A, D, hD, rfl, h1, h2⟩ := hp
  obtain ⟨A', D', hD', rfl, h3, h4⟩ := hq
  refine ⟨A * D' + A' * D, D * D', Nat.mul_ne_zero hD hD', Rat.mkRat_add_mkRat _ _ hD hD', ?_, ?_⟩
  · have : D * D' < 256 ^ m * 256 ^ k := Nat.mul_lt_mul'' h1 h3
    rw [← Nat.pow_add] at this
    exact Nat.lt_of_lt_of_le this (pow_mono (by omega))
  · have e1 : A.natAbs * D' < 256 ^ m * 256 ^ k := Nat.mul_lt_mul'' h2 h3
    have e2 : A'.natAbs * D < 256 ^ k * 256 ^ m := Nat.mul_lt_mul'' h4 h1
    rw [Nat.mul_comm (256 ^ k)] at e2
    rw [← Nat.pow_add] at e1 e2
    have e3 : (A * D' + A' * D).natAbs ≤ A.natAbs * D' + A'.natAbs * D := by
      refine Nat.le_trans (Int.natAbs_add_le _ _) ?_
      rw [Int.natAbs_mul, Int.natAbs_mul]
      exact Nat.le_refl _
    rw [Nat.pow_succ]
    omega

abbrev Fr : Type := Bool × ByteArray × ByteArray
def frv (f : Fr) : Rat := val f.1 f.2.1 f.2.2
/-- How many bytes a list has, and two for each. -/
def fw : List Fr → Nat
  | [] => 0
  | f :: l => f.2.1.size + f.2.2.size + 2 + fw l
def fsum (l : List Fr) : Rat := l.foldl (fun s f => s + frv f) 0
theorem fsum_snoc (l : List Fr) (f : Fr) : fsum (l ++ [f]) = fsum l + frv f := by simp [fsum]
theorem fw_append (a b : List Fr) : fw (a ++ b) = fw a + fw b := by
  induction a with
  | nil => simp [fw]
  | cons f a ih => simp only [List.cons_append, fw, ih]; omega
theorem fw_take (l : List Fr) (k : Nat) : fw (l.take k) ≤ fw l := by
  have := fw_append (l.take k) (l.drop k)
  rw [List.take_append_drop] at this
  omega
theorem fw_mem {l : List Fr} {f : Fr} (h : f ∈ l) : f.2.1.size + f.2.2.size + 2 ≤ fw l := by
  induction l with
  | nil => cases h
  | cons g l ih =>
    rcases List.mem_cons.1 h with rfl | h
    · simp only [fw]; omega
    · have := ih h; simp only [fw]; omega
theorem fits_sum (l : List Fr) : Fits (fw l + 1) (fsum l) := by
  induction l using snoc_ind with
  | h0 => exact ⟨0, 1, by decide, (Rat.zero_mkRat _).symm, by decide, by decide⟩
  | h1 l f ih =>
    rw [fsum_snoc, fw_append]
    have := fits_add ih (fits_val f.1 f.2.1 f.2.2)
    have e : fw l + 1 + (f.2.1.size + f.2.2.size + 1) + 1 = fw l + fw [f] + 1 := by simp only [fw]; omega
    rwa [e] at this
theorem take_one {l : List Fr} {k : Nat} (h : k < l.length) : fsum (l.take (k + 1)) = fsum (l.take k) + frv l[k] := by
  rw [List.take_succ_eq_append_getElem h, fsum_snoc]

/-- A list of fractions, as a slice at a. -/
def FrS (w : World) (a : Option Addr) (l : List Fr) : Prop := ∀ k (h : k < l.length), ∃ g o, a = some ⟨g, o, none⟩ ∧ g < w.heap.size ∧ w.cell? ⟨g, o + k * 3, none⟩ = some (.bool l[k].1) ∧ w.cell? ⟨g, o + k * 3 + 1, none⟩ = some (.string l[k].2.1) ∧ w.cell? ⟨g, o + k * 3 + 2, none⟩ = some (.string l[k].2.2)
theorem FrS.below {w w' : World} {a : Option Addr} {l : List Fr} (h : FrS w a l) (hb : Below w.heap.size w w') : FrS w' a l := fun k hk => by
  obtain ⟨g, o, h1, h2, h3, h4, h5⟩ := h k hk
  exact ⟨g, o, h1, Nat.lt_of_lt_of_le h2 hb.size, (hb.cell (p := ⟨g, _, none⟩) h2).trans h3, (hb.cell (p := ⟨g, _, none⟩) h2).trans h4, (hb.cell (p := ⟨g, _, none⟩) h2).trans h5⟩

/-- The sum so far lies in the block g. -/
def SumAt (w : World) (g : Nat) (q : Rat) : Prop := Box w g (sgn q) (nu q) (de q)

set_option maxRecDepth 100000 in
set_option maxHeartbeats 1000000 in
theorem fSum_cw (a : Option Addr) (cap : Nat) (l : List Fr) (w : World) (h : FrS w a l) (hl : ∀ k (h : k < l.length), l[k].2.1.size + l[k].2.2.size ≤ 40000) (hq : ∀ k, k ≤ l.length → qw (fsum (l.take k)) ≤ 40000) (hn : l.length ≤ 10000) :
    Calls Tryz.prog 57 #[.slice a l.length cap] w fun e w' => e = .returned (C (fsum l)) ∧ Below w.heap.size w w' := by
  have HF := hide h
  have HL := hide hl
  have HQ := hide hq
  clear h hl hq
  have HFIN : Hid (fsum (l.take l.length) = fsum l) := by show _ = _; rw [List.take_length]
  go_enter Tryz.func57, Tryz.ntmps57
  have hbr := Box.at (w := w) rfl false ⟨#[]⟩ ⟨#[]⟩
  have hB0 : Below w.heap.size w (w.alloc (FC false ⟨#[]⟩ ⟨#[]⟩)) := (Below.refl _ w).alloc (Nat.le_refl _) _
  go_wp2_with fail
  refine (nought_any _).mono ?_
  rintro e w1 ⟨rfl, hb1⟩
  have hr1 := hbr.below hb1 hbr.lt
  have hB1 : Below w.heap.size w w1 := hB0.trans (hb1.mono hB0.size)
  clear hbr hB0 hb1
  rw [C_eq]
  go_wp2_with fail
  have hlt1 := hr1.lt
  go_loopw [9] (fun iv wr => ∃ k : Nat, k ≤ l.length ∧ iv = .int .i64 k ∧ Hid (Box wr w1.heap.size (sgn (fsum (l.take k))) (nu (fsum (l.take k))) (de (fsum (l.take k)))) ∧ Hid (Box wr w.heap.size false ⟨#[]⟩ ⟨#[]⟩) ∧ Below w.heap.size w wr) (fun iv _ => l.length - (intOf iv).toNat)
  case atStart => exact ⟨0, Nat.zero_le _, rfl, Box.at rfl _ _ _, hr1.alloc _, hB1.alloc hB1.size _⟩
  case round =>
    obtain ⟨k, hk, rfl, HS, HR, hBr⟩ := hrel
    by_cases hlt : k < l.length
    · obtain ⟨g, o, rfl, hg, c0, c1, c2⟩ := (HF.out.below hBr) k hlt
      have hstep := take_one hlt
      have hmem := HL.out k hlt
      have hfit := HQ.out k hk
      have hz := own_size (fsum (l.take k))
      have HADD := hide (fun V => fAdd_any (sgn (fsum (l.take k))) l[k].1 (nu (fsum (l.take k))) (de (fsum (l.take k))) l[k].2.1 l[k].2.2 V (by omega) (by omega) (by omega) (by omega))
      rw [val_own, show val l[k].1 l[k].2.1 l[k].2.2 = frv l[k] from rfl, ← hstep] at HADD
      have hbq := HS.out
      clear HS hstep hmem hfit hz
      generalize l[k].1 = fn at *
      generalize l[k].2.1 = fx at *
      generalize l[k].2.2 = fy at *
      obtain ⟨k0, k1, k2, f0, f1, f2⟩ := hbq.facts
      have hgl := hbq.lt
      go_wp2_with fail
      refine (HADD.out _).mono ?_
      rintro e w2 ⟨rfl, hb2⟩
      have hs2 := (hbq.alloc (FC fn fx fy)).below hb2 (hbq.alloc (FC fn fx fy)).lt
      have hr2 := (HR.out.alloc (FC fn fx fy)).below hb2 (HR.out.alloc (FC fn fx fy)).lt
      have hB2' := hBr.alloc hBr.size (FC fn fx fy)
      have hB2 : Below w.heap.size w w2 := hB2'.trans (hb2.mono hB2'.size)
      clear k0 k1 k2 f0 f1 f2 c0 c1 c2
      obtain ⟨k0, k1, k2, f0, f1, f2⟩ := hs2.facts
      rw [C_eq]
      go_wp2
      go_roundw
      case rel => exact ⟨k + 1, by omega, by go_num, hs2.put _ _ _, hr2.far3 (by omega) _ _ _, below_put hB2 hB1.size _ _ _⟩
      case measure => simp [intOf]; omega
    · obtain rfl : k = l.length := by omega
      have hbq := HS.out
      rw [HFIN.out] at hbq
      obtain ⟨k0, k1, k2, f0, f1, f2⟩ := hbq.facts
      obtain ⟨j0, j1, j2, i0, i1, i2⟩ := HR.out.facts
      go_wp2
      refine bodyPost_ret ((HR.out.put _ _ _).result rfl _ rfl) rfl ?_
      exact ⟨rfl, below_put hBr (Nat.le_refl _) _ _ _⟩
theorem fSum_any (a : Option Addr) (cap : Nat) (l : List Fr) (w : World) (h : FrS w a l) (hl : fw l ≤ 10000) (hn : l.length ≤ 10000) :
    Calls Tryz.prog 57 #[.slice a l.length cap] w fun e w' => e = .returned (C (fsum l)) ∧ Below w.heap.size w w' :=
  fSum_cw a cap l w h (fun k hk => by have := fw_mem (List.getElem_mem hk); omega) (fun k _ => by have := fits_qw (fits_sum (l.take k)); have := fw_take l k; omega) hn

theorem sum_of {w w' : World} {g h o r : Nat} {n m : Bool} {x y u v : ByteArray} (h1 : Box w' g n x y) (h2 : Box w' r false ⟨#[]⟩ ⟨#[]⟩) (c0 : w'.cell? ⟨h, o, none⟩ = some (.bool m)) (c1 : w'.cell? ⟨h, o + 1, none⟩ = some (.string u)) (c2 : w'.cell? ⟨h, o + 2, none⟩ = some (.string v)) (h3 : Below w.heap.size w w') : (w'.cell? ⟨g, 0, none⟩ = some (.bool n) ∧ w'.cell? ⟨g, 1, none⟩ = some (.string x) ∧ w'.cell? ⟨g, 2, none⟩ = some (.string y) ∧ w'.cell? ⟨h, o, none⟩ = some (.bool m) ∧ w'.cell? ⟨h, o + 1, none⟩ = some (.string u) ∧ w'.cell? ⟨h, o + 2, none⟩ = some (.string v)) ∧ Hid (Box w' g n x y ∧ Box w' r false ⟨#[]⟩ ⟨#[]⟩ ∧ Below w.heap.size w w') :=
  ⟨⟨h1.c0, h1.c1, h1.c2, c0, c1, c2⟩, h1, h2, h3⟩

set_option maxRecDepth 100000 in
set_option maxHeartbeats 2000000 in
theorem rSum_any (a : Option Addr) (cap : Nat) (l : List Fr) (w : World) (h : FrS w a l) (hl : fw l ≤ 10000) (hn : l.length ≤ 10000) :
    Calls Tryz.prog 44 #[.slice a l.length cap] w fun e w' => e = .returned (C (fsum l)) ∧ Below w.heap.size w w' := by
  have HF := hide h
  clear h
  have HFIN : Hid (fsum (l.take l.length) = fsum l) := by show _ = _; rw [List.take_length]
  have HO := hide (fun V => rOfF_any 0 V (by omega) (by omega))
  rw [Rat.zero_mkRat] at HO
  go_enter Tryz.func44, Tryz.ntmps44
  have hbr := Box.at (w := w) rfl false ⟨#[]⟩ ⟨#[]⟩
  have hB0 : Below w.heap.size w (w.alloc (FC false ⟨#[]⟩ ⟨#[]⟩)) := (Below.refl _ w).alloc (Nat.le_refl _) _
  go_wp2_with fail
  refine (HO.out _).mono ?_
  rintro e w1 ⟨rfl, hb1⟩
  have hr1 := hbr.below hb1 hbr.lt
  have hB1 : Below w.heap.size w w1 := hB0.trans (hb1.mono hB0.size)
  clear hbr hB0 hb1
  rw [C_eq]
  go_wp2_with fail
  have hlt1 := hr1.lt
  go_loopw [4] (fun iv wr => ∃ k : Nat, k ≤ l.length ∧ iv = .int .i64 k ∧ Hid (Box wr w1.heap.size (sgn (fsum (l.take k))) (nu (fsum (l.take k))) (de (fsum (l.take k)))) ∧ Hid (Box wr w.heap.size false ⟨#[]⟩ ⟨#[]⟩) ∧ Below w.heap.size w wr) (fun iv _ => l.length - (intOf iv).toNat)
  case atStart => exact ⟨0, Nat.zero_le _, rfl, Box.at rfl _ _ _, hr1.alloc _, hB1.alloc hB1.size _⟩
  case round =>
    obtain ⟨k, hk, rfl, HS, HR, hBr⟩ := hrel
    by_cases hlt : k < l.length
    · obtain ⟨g, o, rfl, hg, c0, c1, c2⟩ := (HF.out.below hBr) k hlt
      have hstep := take_one hlt
      have hmem := fw_mem (List.getElem_mem hlt)
      have hfit := fits_qw (fits_sum (l.take k))
      have hft := fw_take l k
      have hz := own_size (fsum (l.take k))
      have HADD := hide (fun V => rAddF_any (sgn (fsum (l.take k))) l[k].1 (nu (fsum (l.take k))) (de (fsum (l.take k))) l[k].2.1 l[k].2.2 V (by omega) (by omega))
      rw [val_own, show val l[k].1 l[k].2.1 l[k].2.2 = frv l[k] from rfl, ← hstep] at HADD
      have hbq := HS.out
      clear HS hstep hmem hfit hft hz
      generalize l[k].1 = fn at *
      generalize l[k].2.1 = fx at *
      generalize l[k].2.2 = fy at *
      obtain ⟨k0, k1, k2, f0, f1, f2⟩ := hbq.facts
      have hgl := hbq.lt
      go_upto_region 5 with fail
      go_region_with (
          (go_at_call 71; refine (HADD.out _).mono ?_; rintro e w2 ⟨rfl, hb2⟩; have hs2 := hbq.drew.below hb2 hbq.lt; have hr2 := (Box.drew HR.out).below hb2 HR.out.lt; have hB2 := hBr.drew.trans (hb2.mono hBr.size); obtain ⟨k0, k1, k2, f0, f1, f2⟩ := hs2.facts; rw [C_eq]))
      all_goals
        go_wp2
        go_roundw
        case rel => exact ⟨k + 1, by omega, by go_num, hs2.put _ _ _, hr2.far3 (by omega) _ _ _, below_put hB2 hB1.size _ _ _⟩
        case measure => simp [intOf]; omega
    · obtain rfl : k = l.length := by omega
      have hbq := HS.out
      rw [HFIN.out] at hbq
      obtain ⟨k0, k1, k2, f0, f1, f2⟩ := hbq.facts
      obtain ⟨j0, j1, j2, i0, i1, i2⟩ := HR.out.facts
      go_wp2
      refine bodyPost_ret ((HR.out.put _ _ _).result rfl _ rfl) rfl ?_
      exact ⟨rfl, below_put hBr (Nat.le_refl _) _ _ _⟩
end Go.Proofs.YtmdjhefcohcjhaaGreatDoor


/- Package table: the place of an assignment; whether a table may be, in both. -/
namespace Go.Proofs.YtmdjhefcohcjhaaGreatDoor
open Go.RowKit

/-- What Check answers. -/
def checkA (sizes vars : List Int) (m : Nat) : Int := if countB sizes vars = true then (if m = cnt (toN sizes) (toN vars) then 0 else 8) else 11
theorem checkA_none {sizes vars : List Int} {m : Nat} (h : countB sizes vars = false) : checkA sizes vars m = 11 := if_neg (by rw [h]; decide)
theorem checkA_no {sizes vars : List Int} {m : Nat} (h : countB sizes vars = true) (h1 : ¬ m = cnt (toN sizes) (toN vars)) : checkA sizes vars m = 8 := by rw [checkA, if_pos h, if_neg h1]
theorem checkA_yes {sizes vars : List Int} {m : Nat} (h : countB sizes vars = true) (h1 : m = cnt (toN sizes) (toN vars)) : checkA sizes vars m = 0 := by rw [checkA, if_pos h, if_pos h1]
end Go.Proofs.YtmdjhefcohcjhaaGreatDoor


/- The document's answer: the assignment of a place. -/
namespace Go.Proofs.YtmdjhefcohcjhaaGreatDoor
open Go.RowKit

theorem cnt_drop_dvd (S vs : List Nat) (i : Nat) : cnt S (vs.drop i) ∣ cnt S vs := by
  have h := cnt_append S (vs.take i) (vs.drop i)
  rw [List.take_append_drop] at h
  exact ⟨_, by rw [h, Nat.mul_comm]⟩
theorem digs_get {S : List Nat} (hp : Pos S) : ∀ (vs : List Nat) (k i : Nat) (_ : k < cnt S vs) (h : i < vs.length), (digs S vs k)[i]'(by rw [digs_length]; exact h) = k % cnt S (vs.drop i) / cnt S (vs.drop (i + 1))
  | [], _, _, _, h => absurd h (by simp)
  | v :: vs, k, 0, hk, _ => by
    show k / cnt S vs = k % cnt S (v :: vs) / cnt S vs
    rw [Nat.mod_eq_of_lt hk]
  | v :: vs, k, i + 1, _, h => by
    have h' : i < vs.length := by simpa using h
    have := digs_get hp vs (k % cnt S vs) i (Nat.mod_lt _ (cnt_pos hp vs)) h'
    show (digs S vs (k % cnt S vs))[i]'_ = k % cnt S (vs.drop i) / cnt S (vs.drop (i + 1))
    rw [this, Nat.mod_mod_of_dvd _ (cnt_drop_dvd S vs i)]
theorem digs_at {S : List Nat} (hp : Pos S) (vs : List Nat) (k i : Nat) (hk : k < cnt S vs) (h : i < vs.length) : (digs S vs k)[i]? = some (k % cnt S (vs.drop i) / cnt S (vs.drop (i + 1))) := by
  rw [List.getElem?_eq_getElem (by rw [digs_length]; exact h), digs_get hp vs k i hk h]
theorem cnt_drop (S vs : List Nat) {i : Nat} (h : i < vs.length) : cnt S (vs.drop i) = sz S vs[i] * cnt S (vs.drop (i + 1)) := by
  rw [List.drop_eq_getElem_cons h, cnt]
/-- What is written when i values are told. -/
def partD (l : List Nat) (i : Nat) : List Nat := l.take i ++ List.replicate (l.length - i) 0
theorem partD_zero (l : List Nat) : partD l 0 = List.replicate l.length 0 := by simp [partD]
theorem partD_length (l : List Nat) {i : Nat} (h : i ≤ l.length) : (partD l i).length = l.length := by simp [partD]; omega
theorem partD_all (l : List Nat) : partD l l.length = l := by simp [partD]
theorem partD_set (l : List Nat) {i : Nat} (h : i < l.length) : (partD l i).set i l[i] = partD l (i + 1) := by
  rw [partD, partD, List.set_append_right _ _ (by simp; omega), List.take_succ_eq_append_getElem h]
  have e : l.length - i = (l.length - (i + 1)) + 1 := by omega
  rw [e, List.replicate_succ, List.length_take, Nat.min_eq_left (by omega), Nat.sub_self, List.set_cons_zero, List.append_assoc]
  rfl
/-- Natural numbers as ints. -/
def iL (l : List Nat) : List Int := l.map fun x : Nat => (x : Int)
theorem iL_length (l : List Nat) : (iL l).length = l.length := by simp [iL]
theorem toN_iL (l : List Nat) : toN (iL l) = l := by simp [toN, iL, Function.comp_def]
theorem RowI.ints {w : World} {g : Nat} {l : List Nat} (h : RowI w g l) : IntS w (some ⟨g, 0, none⟩) (iL l) := fun k hk => by
  rw [iL_length] at hk
  refine ⟨g, 0, rfl, h.lt, ?_⟩
  rw [Nat.zero_add, h.cell k hk]
  simp [iL]

theorem wrap_le (n : Nat) (h : n ≤ 65536) : wrap64 (n : Int) = (n : Int) := by
  rw [wrap64]
  omega

/-- What Where answers. -/
def whereL (sizes vars : List Int) (k : Int) : List Nat := if countB sizes vars = true ∧ 0 ≤ k ∧ k < (cnt (toN sizes) (toN vars) : Int) then digs (toN sizes) (toN vars) k.toNat else []
def whereE (sizes vars : List Int) (k : Int) : Int := if countB sizes vars = true then (if 0 ≤ k ∧ k < (cnt (toN sizes) (toN vars) : Int) then 0 else 15) else 11

set_option maxRecDepth 100000 in
set_option maxHeartbeats 400000 in
theorem rWhere_any (a b : Option Addr) (ca cb : Nat) (sizes vars : List Int) (k : Int) (w : World) (hs : IntS w a sizes) (hv : IntS w b vars) (hn : sizes.length ≤ 140737488355328) (hm : vars.length ≤ 140737488355328) :
    Calls Tryz.prog 14 #[.slice a sizes.length ca, .slice b vars.length cb, .int .i64 k] w fun e w' => ∃ (c : Option Addr) (cc : Nat), e = .returned (.tuple #[.slice c (whereL sizes vars k).length cc, .int .i64 (whereE sizes vars k)]) ∧ IntS w' c (iL (whereL sizes vars k)) ∧ Below w.heap.size w w' := by
  obtain ⟨i0, hi0, hz0, hz1, hz2⟩ := info_parts Tryz.infoInt
  have HS := hid hs
  have HV := hid hv
  have HC := hid (fun V h1 h2 => rCount_any a b ca cb sizes vars V h1 h2 hn hm)
  clear hs hv
  cases hcb : countB sizes vars with
  | false =>
    have HL : Hid (whereL sizes vars k = []) := if_neg (by rw [hcb]; simp)
    have HE : Hid (whereE sizes vars k = 11) := if_neg (by rw [hcb]; decide)
    rw [countA_no hcb] at HC
    simp only at HC
    generalize whereL sizes vars k = rl at *
    generalize whereE sizes vars k = re at *
    go_enter Tryz.func14, Tryz.ntmps14
    go_wp2_with fail
    refine (HC.out _ HS.out HV.out).mono ?_
    rintro e w1 ⟨rfl, hb1⟩
    go_wp2
    go_ret2
    exact ⟨none, 0, by rw [HL.out, HE.out]; rfl, by rw [HL.out]; exact fun k hk => absurd hk (by simp [iL]), hb1⟩
  | true =>
    rw [countA_yes hcb] at HC
    simp only at HC
    obtain ⟨hfi, hup⟩ := countB_parts hcb
    have hl8 := hfi.eight
    have hvl := hup.length
    have hsm : cnt (toN sizes) (toN vars) ≤ 65536 := cnt_small hfi.sz_le (by rw [toN_length]; omega)
    by_cases hk : 0 ≤ k ∧ k < (cnt (toN sizes) (toN vars) : Int)
    · have HL : Hid (whereL sizes vars k = digs (toN sizes) (toN vars) k.toNat) := if_pos ⟨hcb, hk⟩
      have HE : Hid (whereE sizes vars k = 0) := by show _ = _; rw [whereE, if_pos hcb, if_pos hk]
      rw [HL.out, HE.out]
      obtain ⟨hk0, hk1⟩ := hk
      obtain ⟨K, rfl⟩ : ∃ K : Nat, k = K := ⟨k.toNat, by omega⟩
      rw [Int.toNat_natCast]
      have hK : K < cnt (toN sizes) (toN vars) := by omega
      have HD := hid (fun i h => digs_at hfi.pos (toN vars) K i hK h)
      have hdl : (digs (toN sizes) (toN vars) K).length = vars.length := by rw [digs_length, toN_length]
      have HFI := hid hfi
      have HUP := hid hup
      have HSM := hid (fun i => show cnt (toN sizes) ((toN vars).drop i) ≤ 65536 from cnt_small hfi.sz_le (by rw [List.length_drop, toN_length]; omega))
      have HPO := hid (fun i => cnt_pos hfi.pos ((toN vars).drop i))
      have HC0 : Hid (cnt (toN sizes) (toN vars) = cnt (toN sizes) ((toN vars).drop 0) ∧ K = K % cnt (toN sizes) ((toN vars).drop 0)) := ⟨by rw [List.drop_zero], by rw [List.drop_zero, Nat.mod_eq_of_lt hK]⟩
      clear HL HE hcb hfi hup hK
      generalize digs (toN sizes) (toN vars) K = ds at *
      rw [hdl]
      go_enter Tryz.func14, Tryz.ntmps14
      go_wp2_with fail
      refine (HC.out _ HS.out HV.out).mono ?_
      rintro e w1 ⟨rfl, hb1⟩
      go_wp2_with (first
        | (at_make; refine wpList_make_full _ rfl _ _ 34 rfl w1.heap.size 3 i0 (.int .i64 0) 1 Tryz.underlying34 hi0 hz0 hz1 .i64 .i64 _ _ vars.length rfl rfl (by go_num) (by go_num) (by rw [hz2]; omega) (by unfold maxLen; omega) (Nat.le_refl _) ?_; intro w2 hown2 hgrow2))
      have hb2 := block_of_own hown2
      rw [made_ints] at hb2
      have hB2 : Below w.heap.size w w2 := hb1.grown hgrow2 hb1.size (fun k e => by cases e)
      have HI : Hid (RowI w2 w1.heap.size (List.replicate vars.length 0)) := hb2
      have hlt1 := hb1.size
      clear hown2 hgrow2 hb2
      go_wp2_with fail
      go_loopw [2, 8, 11] (fun kv nv iv wr => ∃ i : Nat, i ≤ vars.length ∧ iv = .int .i64 i ∧ nv = .int .i64 (cnt (toN sizes) ((toN vars).drop i) : Nat) ∧ kv = .int .i64 (K % cnt (toN sizes) ((toN vars).drop i) : Nat) ∧ Hid (RowI wr w1.heap.size (partD ds i)) ∧ Below w.heap.size w wr) (fun _ _ iv _ => vars.length - (intOf iv).toNat)
      case atStart => exact ⟨0, Nat.zero_le _, rfl, by rw [← HC0.out.1], by rw [← HC0.out.2], by rw [partD_zero, hdl]; exact HI, hB2⟩
      case round =>
        obtain ⟨i, hi, rfl, rfl, rfl, HR, hB⟩ := hrel
        by_cases hlt : i < vars.length
        · obtain ⟨g, o, rfl, hg, c0⟩ := (HV.out.below hB) i hlt
          obtain ⟨hvi, hvn⟩ := HUP.out.nat hlt
          have hil : i < (toN vars).length := by rw [toN_length]; exact hlt
          have hdr := cnt_drop (toN sizes) (toN vars) hil
          rw [toN_get hlt] at hdr
          have hdg : ds[i]'(by omega) = K % cnt (toN sizes) ((toN vars).drop i) / cnt (toN sizes) ((toN vars).drop (i + 1)) := by
            have := HD.out i hil
            rwa [List.getElem?_eq_getElem (by omega), Option.some.injEq] at this
          have hps := HPO.out (i + 1)
          have hns := HSM.out i
          have hn1' := HSM.out (i + 1)
          have hz := sz_pos HFI.out.pos vars[i].toNat
          have hz4 := HFI.out.sz_le vars[i].toNat
          have hmm : K % cnt (toN sizes) ((toN vars).drop (i + 1)) = K % cnt (toN sizes) ((toN vars).drop i) % cnt (toN sizes) ((toN vars).drop (i + 1)) := by rw [hdr, mod_mod_c]
          generalize hV : vars[i].toNat = v at *
          rw [← hvi] at c0
          obtain ⟨g', o', rfl, hg', c1⟩ := (HS.out.below hB) v hvn
          rw [← HFI.out.sz_eq hvn] at c1
          have hset := hid (HR.out.set i (ds[i]'(by omega)))
          rw [partD_set ds (by omega)] at hset
          have hcell : wr.cell? ⟨w1.heap.size, i, none⟩ = some (.int .i64 ((partD ds i)[i]'(by rw [partD_length _ (by omega)]; omega) : Nat)) := HR.out.cell i (by rw [partD_length _ (by omega)]; omega)
          have hfz := HR.out.fz i
          have hdi : i < ds.length := by omega
          rw [hdg] at hset
          generalize (partD ds i)[i]'(by rw [partD_length _ (by omega)]; omega) = z at *
          have HMM := hid hmm
          clear hmm hdg hvi hV HR HI
          have hq : cnt (toN sizes) ((toN vars).drop i) / sz (toN sizes) v = cnt (toN sizes) ((toN vars).drop (i + 1)) := by rw [hdr, Nat.mul_div_cancel_left _ (by omega)]
          have HQ := hid hq
          clear hq hdr
          have hmod := Nat.mod_lt K (show 0 < cnt (toN sizes) ((toN vars).drop i) from HPO.out i)
          obtain ⟨n1, hn1e⟩ : ∃ n, cnt (toN sizes) ((toN vars).drop (i + 1)) = n := ⟨_, rfl⟩
          rw [hn1e] at hset hps hn1' HMM HQ
          have HN1 := hid hn1e
          clear hn1e
          generalize cnt (toN sizes) ((toN vars).drop i) = n0 at *
          generalize sz (toN sizes) v = s0 at *
          generalize K % n0 = k0 at *
          have hq1 : (n0 : Int) / (s0 : Int) = (n1 : Int) := by rw [← HQ.out]; exact (Int.natCast_ediv _ _).symm
          have hq2 : (k0 : Int) / (n1 : Int) = ((k0 / n1 : Nat) : Int) := (Int.natCast_ediv _ _).symm
          have hq3 : (k0 : Int) % (n1 : Int) = ((k0 % n1 : Nat) : Int) := (Int.natCast_emod _ _).symm
          have hkd : k0 / n1 ≤ 65536 := Nat.le_trans (Nat.div_le_self _ _) (by omega)
          have hkm : k0 % n1 ≤ 65536 := Nat.le_trans (Nat.mod_le _ _) (by omega)
          generalize k0 / n1 = dd at *
          generalize k0 % n1 = mm at *
          have hz1' : ¬ (s0 : Int) = 0 := by omega
          have hz2' : ¬ (n1 : Int) = 0 := by omega
          go_wp2
          go_roundw
          case rel => exact ⟨i + 1, by omega, by go_num, by rw [HN1.out], by rw [HN1.out, HMM.out, ← hq3], (by have h := hset.out; rwa [← hq2] at h), hB.setCell (p := ⟨w1.heap.size, _, none⟩) hlt1 _⟩
          case measure => simp [intOf]; omega
        · obtain rfl : i = vars.length := by omega
          have hfin := HR.out.ints
          rw [← hdl, partD_all] at hfin
          go_wp2
          go_ret2
          exact ⟨some ⟨w1.heap.size, 0, none⟩, vars.length, rfl, hfin, hB⟩
    · have HL : Hid (whereL sizes vars k = []) := if_neg (fun h => hk h.2)
      have HE : Hid (whereE sizes vars k = 15) := by show _ = _; rw [whereE, if_pos hcb, if_neg hk]
      clear hcb hfi hup
      generalize whereL sizes vars k = rl at *
      generalize whereE sizes vars k = re at *
      generalize cnt (toN sizes) (toN vars) = N0 at *
      rcases (show k < 0 ∨ (0 ≤ k ∧ (N0 : Int) ≤ k) by omega) with h3 | ⟨h3, h4⟩
      all_goals
        clear hk
        go_enter Tryz.func14, Tryz.ntmps14
        go_wp2_with fail
        refine (HC.out _ HS.out HV.out).mono ?_
        rintro e w1 ⟨rfl, hb1⟩
        go_wp2
        go_ret2
        exact ⟨none, 0, by rw [HL.out, HE.out]; rfl, by rw [HL.out]; exact fun k hk => absurd hk (by simp [iL]), hb1⟩
end Go.Proofs.YtmdjhefcohcjhaaGreatDoor

