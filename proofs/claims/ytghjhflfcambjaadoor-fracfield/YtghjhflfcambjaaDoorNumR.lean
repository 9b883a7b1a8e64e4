/- Plain facts on rational numbers: how fractions of natural numbers stand for them, and how long they are. -/
import Derived.Test.YtghjhflfcambjaaDoorFaceA
namespace Go.Proofs.YtghjhflfcambjaaDoor

/-- A number with its sign. -/
def sg (neg : Bool) (n : Nat) : Int := if neg then -(n : Int) else (n : Int)
theorem sg_natAbs (neg : Bool) (n : Nat) : (sg neg n).natAbs = n := by cases neg <;> simp [sg]
theorem sg_zero (neg : Bool) : sg neg 0 = 0 := by cases neg <;> rfl
theorem sg_not (neg : Bool) (n : Nat) : sg (!neg) n = -sg neg n := by cases neg <;> simp [sg]
theorem sg_mul (a b : Bool) (m n : Nat) : sg (a != b) (m * n) = sg a m * sg b n := by cases a <;> cases b <;> simp [sg, Int.neg_mul, Int.mul_neg]
theorem sg_mul_nat (a : Bool) (m n : Nat) : sg a m * (n : Int) = sg a (m * n) := by cases a <;> simp [sg, Int.neg_mul]
theorem sg_eq_zero {neg : Bool} {n : Nat} : sg neg n = 0 ↔ n = 0 := by cases neg <;> simp [sg]
theorem sg_div (neg : Bool) (n g : Nat) (h : g ∣ n) : sg neg n / (g : Int) = sg neg (n / g) := by
  cases neg
  · simp [sg]
  · simp only [sg, if_true]
    rw [Int.neg_ediv_of_dvd (Int.natCast_dvd_natCast.2 h)]
    simp

theorem mk_norm {n : Int} {d : Nat} (hd : d ≠ 0) : mkRat n d = Rat.normalize n d hd := by rw [mkRat, dif_neg hd]
theorem mk_num {n : Int} {d : Nat} (hd : d ≠ 0) : (mkRat n d).num = n / (Nat.gcd n.natAbs d : Int) := by rw [mk_norm hd, Rat.normalize_eq]
theorem mk_den {n : Int} {d : Nat} (hd : d ≠ 0) : (mkRat n d).den = d / Nat.gcd n.natAbs d := by rw [mk_norm hd, Rat.normalize_eq]

/-- What Make makes of a number that is not 0. -/
theorem mk_parts (neg : Bool) (a d : Nat) (ha : a ≠ 0) (hd : d ≠ 0) : decide ((mkRat (sg neg a) d).num < 0) = neg ∧ (mkRat (sg neg a) d).num.natAbs = a / Nat.gcd a d ∧ (mkRat (sg neg a) d).den = d / Nat.gcd a d := by
  have hg : Nat.gcd a d ∣ a := Nat.gcd_dvd_left _ _
  have hgp : 0 < Nat.gcd a d := Nat.gcd_pos_of_pos_left _ (Nat.pos_of_ne_zero ha)
  rw [mk_num hd, mk_den hd, sg_natAbs, sg_div neg a _ hg, sg_natAbs]
  refine ⟨?_, rfl, rfl⟩
  have hq : 0 < a / Nat.gcd a d := Nat.div_pos (Nat.le_of_dvd (Nat.pos_of_ne_zero ha) hg) hgp
  cases neg
  · simp only [sg]; simp; omega
  · simp only [sg]; simp; omega

/-- The fraction of three fields, as a rational number: 0 where the denominator is 0. -/
def val (neg : Bool) (num den : ByteArray) : Rat := mkRat (sg neg (N num)) (N den)
theorem val_num0 {neg : Bool} {num den : ByteArray} (h : N num = 0) : val neg num den = 0 := by rw [val, h, sg_zero, Rat.zero_mkRat]
theorem val_den0 {neg : Bool} {num den : ByteArray} (h : N den = 0) : val neg num den = 0 := by rw [val, h, Rat.mkRat_zero]
theorem val_zero_iff {neg : Bool} {num den : ByteArray} : val neg num den = 0 ↔ N num = 0 ∨ N den = 0 := by
  constructor
  · intro h
    by_cases hd : N den = 0
    · exact .inr hd
    · rw [val, Rat.mkRat_eq_zero hd, sg_eq_zero] at h; exact .inl h
  · rintro (h | h)
    · exact val_num0 h
    · exact val_den0 h
theorem val_not (neg : Bool) (num den : ByteArray) : val (!neg) num den = -val neg num den := by rw [val, val, sg_not, Rat.neg_mkRat]
theorem val_mul (a b : Bool) (x y u v : ByteArray) : mkRat (sg (a != b) (N x * N u)) (N y * N v) = val a x y * val b u v := by rw [val, val, Rat.mkRat_mul_mkRat, sg_mul]
theorem val_add (a b : Bool) (x y u v : ByteArray) (hy : N y ≠ 0) (hv : N v ≠ 0) : mkRat (sg a (N x * N v) + sg b (N u * N y)) (N y * N v) = val a x y + val b u v := by
  rw [val, val, Rat.mkRat_add_mkRat _ _ hy hv, sg_mul_nat, sg_mul_nat]
theorem val_inv (neg : Bool) (x y : ByteArray) (hx : N x ≠ 0) (hy : N y ≠ 0) : val neg y x = (val neg x y)⁻¹ := by
  have h : val neg x y * val neg y x = 1 := by
    rw [← val_mul]
    have : sg (neg != neg) (N x * N y) = ((N x * N y : Nat) : Int) * 1 := by cases neg <;> simp [sg]
    rw [this, Nat.mul_comm (N y) (N x), ← Nat.mul_one (N x * N y), Int.natCast_mul (N x * N y) 1, Int.natCast_one, Int.mul_one, Rat.mkRat_mul_left (Nat.mul_ne_zero hx hy)]
    rfl
  grind

/-- A rational number's fields, as package frac writes them. -/
def C (q : Rat) : Value := .agg #[.bool (decide (q.num < 0)), .string (B q.num.natAbs), .string (B q.den)]
theorem C_zero : C 0 = .agg #[.bool false, .string ⟨#[]⟩, .string (B 1)] := by
  show Value.agg #[_, .string (B 0), .string (B 1)] = _
  rw [B_zero]
  rfl
theorem val_C (q : Rat) : val (decide (q.num < 0)) (B q.num.natAbs) (B q.den) = q := by
  rw [val, N_B, N_B]
  have : sg (decide (q.num < 0)) q.num.natAbs = q.num := by
    by_cases h : q.num < 0
    · simp [sg, h]; omega
    · simp [sg, h]; omega
  rw [this, Rat.mkRat_self]
theorem C_make (neg : Bool) (a d : Nat) (ha : a ≠ 0) (hd : d ≠ 0) : C (mkRat (sg neg a) d) = .agg #[.bool neg, .string (B (a / Nat.gcd a d)), .string (B (d / Nat.gcd a d))] := by
  obtain ⟨h1, h2, h3⟩ := mk_parts neg a d ha hd
  rw [C, h1, h2, h3]
theorem C_inj {p q : Rat} (h : C p = C q) : p = q := by
  have h1 := val_C p
  have h2 := val_C q
  simp only [C, Value.agg.injEq, Array.mk.injEq, List.cons.injEq, Value.bool.injEq, Value.string.injEq] at h
  rw [h.1, h.2.1, h.2.2.1] at h1
  exact h1.symm.trans h2

/-- How many bytes a rational number's fields have. -/
def qw (q : Rat) : Nat := (B q.num.natAbs).size + (B q.den).size
theorem qw_norm {n : Int} {d : Nat} (hd : d ≠ 0) : qw (Rat.normalize n d hd) ≤ (B n.natAbs).size + (B d).size := by
  rw [Rat.normalize_eq]
  have h1 : (n / (Nat.gcd n.natAbs d : Int)).natAbs ≤ n.natAbs := by
    have hg : ((Nat.gcd n.natAbs d : Nat) : Int) ∣ n := by have h := Int.natCast_dvd_natCast.2 (Nat.gcd_dvd_left n.natAbs d); rwa [Int.dvd_natAbs] at h
    rw [Int.natAbs_ediv_of_dvd hg]
    exact Nat.div_le_self _ _
  have s1 := sz_mono h1
  have s2 := sz_mono (Nat.div_le_self d (Nat.gcd n.natAbs d))
  simp only [qw]
  omega
theorem qw_zero : qw 0 ≤ 1 := by
  show (B 0).size + (B 1).size ≤ 1
  rw [B_zero]
  have := B_one_size
  have : (⟨#[]⟩ : ByteArray).size = 0 := rfl
  omega
theorem qw_val (neg : Bool) (num den : ByteArray) : qw (val neg num den) ≤ num.size + den.size + 1 := by
  by_cases hd : N den = 0
  · rw [val_den0 hd]; have := qw_zero; omega
  · rw [val, mk_norm hd]
    have := qw_norm (n := sg neg (N num)) hd
    rw [sg_natAbs] at this
    have := B_size_le num
    have := B_size_le den
    omega
theorem qw_mul (p q : Rat) : qw (p * q) ≤ qw p + qw q := by
  rw [Rat.mul_def]
  refine Nat.le_trans (qw_norm _) ?_
  rw [Int.natAbs_mul]
  have := sz_mul p.num.natAbs q.num.natAbs
  have := sz_mul p.den q.den
  simp only [qw]
  omega
theorem qw_add (p q : Rat) : qw (p + q) ≤ 2 * (qw p + qw q) + 1 := by
  rw [Rat.add_def]
  refine Nat.le_trans (qw_norm _) ?_
  have h : (p.num * (q.den : Int) + q.num * (p.den : Int)).natAbs ≤ p.num.natAbs * q.den + q.num.natAbs * p.den := by
    refine Nat.le_trans (Int.natAbs_add_le _ _) ?_
    rw [Int.natAbs_mul, Int.natAbs_mul]
    exact Nat.le_refl _
  have h0 := sz_mono h
  have h1 := sz_add (p.num.natAbs * q.den) (q.num.natAbs * p.den)
  have h2 := sz_mul p.num.natAbs q.den
  have h3 := sz_mul q.num.natAbs p.den
  have h4 := sz_mul p.den q.den
  simp only [qw]
  omega
theorem qw_neg (q : Rat) : qw (-q) = qw q := by simp [qw, Rat.neg_num, Rat.neg_den]
theorem qw_sub (p q : Rat) : qw (p - q) ≤ 2 * (qw p + qw q) + 1 := by
  rw [Rat.sub_eq_add_neg]
  have := qw_add p (-q)
  rwa [qw_neg] at this

/-- -1, 0 or 1: less, the same, greater. -/
def cmpQ (p q : Rat) : Int := if p < q then -1 else if p = q then 0 else 1
theorem mk_sign (neg : Bool) (n d : Nat) (hd : d ≠ 0) (hn : n ≠ 0) : (neg = true → mkRat (sg neg n) d < 0) ∧ (neg = false → 0 < mkRat (sg neg n) d) := by
  have hp : ∀ m : Nat, m ≠ 0 → 0 < mkRat (m : Int) d := fun m hm => by
    have h1 : 0 ≤ mkRat (m : Int) d := by
      rw [← Rat.num_nonneg, mk_num hd]
      exact Int.ediv_nonneg (by omega) (by omega)
    have h2 : mkRat (m : Int) d ≠ 0 := by rw [Ne, Rat.mkRat_eq_zero hd]; omega
    grind
  constructor
  · rintro rfl
    have h := hp n hn
    have e : mkRat (sg true n) d = -mkRat (n : Int) d := by rw [Rat.neg_mkRat]; rfl
    rw [e]
    grind
  · rintro rfl
    exact hp n hn
end Go.Proofs.YtghjhflfcambjaaDoor
