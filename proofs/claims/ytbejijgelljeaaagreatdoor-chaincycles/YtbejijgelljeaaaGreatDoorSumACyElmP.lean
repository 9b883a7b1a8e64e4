/- Sums of whole lists of fractions: package frac's and the document's answer. -/
import Derived.Test.YtbejijgelljeaaaGreatDoorFracFCyRefS
import Derived.BigQuiet
namespace Go.Proofs.YtbejijgelljeaaaGreatDoor
open Go.RowKit
/-- A number with numerator and denominator of at most m bytes. -/
def Fits (m : Nat) (q : Rat) : Prop := ∃ (A : Int) (D : Nat), D ≠ 0 ∧ q = mkRat A D ∧ D < 256 ^ m ∧ A.natAbs < 256 ^ m
theorem fits_qw {m : Nat} {q : Rat} (h : Fits m q) : qw q ≤ 2 * m := by
  obtain ⟨A, D, hD, rfl, h1, h2⟩ := h
  rw [mk_norm hD]
  have := qw_norm (n := A) hD
  have a1 : (B A.natAbs).size ≤ m := by rw [B_size]; exact bn_fits m _ h2
  have a2 : (B D).size ≤ m := by rw [B_size]; exact bn_fits m _ h1
  omega
theorem pow_mono {m n : Nat} (h : m ≤ n) : 256 ^ m ≤ 256 ^ n := Nat.pow_le_pow_right (by decide) h
theorem fits_val (n : Bool) (x y : ByteArray) : Fits (x.size + y.size + 1) (val n x y) := by
  by_cases h : N y = 0
  · refine ⟨0, 1, by decide, by rw [val_den0 h, Rat.zero_mkRat], ?_, ?_⟩
    · exact Nat.lt_of_lt_of_le (by decide : 1 < 256 ^ 1) (pow_mono (by omega))
    · exact Nat.pow_pos (by decide)
  · refine ⟨sg n (N x), N y, h, rfl, Nat.lt_of_lt_of_le (N_lt y) (pow_mono (by omega)), ?_⟩
    rw [sg_natAbs]
    exact Nat.lt_of_lt_of_le (N_lt x) (pow_mono (by omega))
theorem fits_add {m k : Nat} {p q : Rat} (hp : Fits m p) (hq : Fits k q) : Fits (m + k + 1) (p + q) := by
  obtain ⟨A, D, hD, rfl, h1, h2⟩ := hp
  obtain ⟨A', D', hD', rfl, h3, h4⟩ := hq
  refine ⟨A * D' + A' * D, D * D', Nat.mul_ne_zero hD hD', Rat.mkRat_add_mkRat _ _ hD hD', ?_, ?_⟩
  · have : D * D' < 256 ^ m * 256 ^ k := Nat.mul_lt_mul'' h1 h3
    rw [← Nat.pow_add] at this
    exact Nat.lt_of_lt_of_le this (pow_mono (by omega))
  · have e1 : A.natAbs * D' < 256 ^ m * 256 ^ k := Nat.mul_lt_mul'' h2 h3
    have e2 : A'.natAbs * D < 256 ^ k * 256 ^ m := Nat.mul_lt_mul'' h4 h1
    rw [Nat.mul_comm (256 ^ k)] at e2
    rw [← Nat.pow_add] at e1 e2
    have e3 : (A * D' + A' * D).natAbs ≤ A.natAbs * D' + A'.natAbs * D := by
      refine Nat.le_trans (Int.natAbs_add_le _ _) ?_
      rw [Int.natAbs_mul, Int.natAbs_mul]
      exact Nat.le_refl _
    rw [Nat.pow_succ]
    omega
abbrev Fr : Type := Bool × ByteArray × ByteArray
def frv (f : Fr) : Rat := val f.1 f.2.1 f.2.2
/-- How many bytes a list has, and two for each. -/
def fw : List Fr → Nat
  | [] => 0
  | f :: l => f.2.1.size + f.2.2.size + 2 + fw l
def fsum (l : List Fr) : Rat := l.foldl (fun s f => s + frv f) 0
theorem fsum_snoc (l : List Fr) (f : Fr) : fsum (l ++ [f]) = fsum l + frv f := by simp [fsum]
theorem fw_append (a b : List Fr) : fw (a ++ b) = fw a + fw b := by
  induction a with
  | nil => simp [fw]
  | cons f a ih => simp only [List.cons_append, fw, ih]; omega
theorem fw_take (l : List Fr) (k : Nat) : fw (l.take k) ≤ fw l := by
  have := fw_append (l.take k) (l.drop k)
  rw [List.take_append_drop] at this
  omega
theorem fw_mem {l : List Fr} {f : Fr} (h : f ∈ l) : f.2.1.size + f.2.2.size + 2 ≤ fw l := by
  induction l with
  | nil => cases h
  | cons g l ih =>
    rcases List.mem_cons.1 h with rfl | h
    · simp only [fw]; omega
    · have := ih h; simp only [fw]; omega
theorem fits_sum (l : List Fr) : Fits (fw l + 1) (fsum l) := by
  induction l using snoc_ind with
  | h0 => exact ⟨0, 1, by decide, (Rat.zero_mkRat _).symm, by decide, by decide⟩
  | h1 l f ih =>
    rw [fsum_snoc, fw_append]
    have := fits_add ih (fits_val f.1 f.2.1 f.2.2)
    have e : fw l + 1 + (f.2.1.size + f.2.2.size + 1) + 1 = fw l + fw [f] + 1 := by simp only [fw]; omega
    rwa [e] at this
theorem take_one {l : List Fr} {k : Nat} (h : k < l.length) : fsum (l.take (k + 1)) = fsum (l.take k) + frv l[k] := by
  rw [List.take_succ_eq_append_getElem h, fsum_snoc]
/-- A list of fractions, as a slice at a. -/
def FrS (w : World) (a : Option Addr) (l : List Fr) : Prop := ∀ k (h : k < l.length), ∃ g o, a = some ⟨g, o, none⟩ ∧ g < w.heap.size ∧ w.cell? ⟨g, o + k * 3, none⟩ = some (.bool l[k].1) ∧ w.cell? ⟨g, o + k * 3 + 1, none⟩ = some (.string l[k].2.1) ∧ w.cell? ⟨g, o + k * 3 + 2, none⟩ = some (.string l[k].2.2)
theorem FrS.below {w w' : World} {a : Option Addr} {l : List Fr} (h : FrS w a l) (hb : Below w.heap.size w w') : FrS w' a l := fun k hk => by
  obtain ⟨g, o, h1, h2, h3, h4, h5⟩ := h k hk
  exact ⟨g, o, h1, Nat.lt_of_lt_of_le h2 hb.size, (hb.cell (p := ⟨g, _, none⟩) h2).trans h3, (hb.cell (p := ⟨g, _, none⟩) h2).trans h4, (hb.cell (p := ⟨g, _, none⟩) h2).trans h5⟩
set_option maxRecDepth 100000 in
set_option maxHeartbeats 1000000 in
theorem fSum_cw (a : Option Addr) (cap : Nat) (l : List Fr) (w : World) (h : FrS w a l) (hl : ∀ k (h : k < l.length), l[k].2.1.size + l[k].2.2.size ≤ 40000) (hq : ∀ k, k ≤ l.length → qw (fsum (l.take k)) ≤ 40000) (hn : l.length ≤ 10000) :
    Calls Tryz.prog 60 #[.slice a l.length cap] w fun e w' => e = .returned (C (fsum l)) ∧ Below w.heap.size w w' := by
  have HF := hide h
  have HL := hide hl
  have HQ := hide hq
  clear h hl hq
  have HFIN : Hid (fsum (l.take l.length) = fsum l) := by show _ = _; rw [List.take_length]
  go_enter Tryz.func60, Tryz.ntmps60
  have hbr := Box.at (w := w) rfl false ⟨#[]⟩ ⟨#[]⟩
  have hB0 : Below w.heap.size w (w.alloc (FC false ⟨#[]⟩ ⟨#[]⟩)) := (Below.refl _ w).alloc (Nat.le_refl _) _
  go_wp2_with fail
  refine (nought_any _).mono ?_
  rintro e w1 ⟨rfl, hb1⟩
  have hr1 := hbr.below hb1 hbr.lt
  have hB1 : Below w.heap.size w w1 := hB0.trans (hb1.mono hB0.size)
  clear hbr hB0 hb1
  rw [C_eq]
  go_wp2_with fail
  have hlt1 := hr1.lt
  go_loopw [9] (fun iv wr => ∃ k : Nat, k ≤ l.length ∧ iv = .int .i64 k ∧ Hid (Box wr w1.heap.size (sgn (fsum (l.take k))) (nu (fsum (l.take k))) (de (fsum (l.take k)))) ∧ Hid (Box wr w.heap.size false ⟨#[]⟩ ⟨#[]⟩) ∧ Below w.heap.size w wr) (fun iv _ => l.length - (intOf iv).toNat)
  case atStart => exact ⟨0, Nat.zero_le _, rfl, Box.at rfl _ _ _, hr1.alloc _, hB1.alloc hB1.size _⟩
  case round =>
    obtain ⟨k, hk, rfl, HS, HR, hBr⟩ := hrel
    by_cases hlt : k < l.length
    · obtain ⟨g, o, rfl, hg, c0, c1, c2⟩ := (HF.out.below hBr) k hlt
      have hstep := take_one hlt
      have hmem := HL.out k hlt
      have hfit := HQ.out k hk
      have hz := own_size (fsum (l.take k))
      have HADD := hide (fun V => fAdd_any (sgn (fsum (l.take k))) l[k].1 (nu (fsum (l.take k))) (de (fsum (l.take k))) l[k].2.1 l[k].2.2 V (by omega) (by omega) (by omega) (by omega))
      rw [val_own, show val l[k].1 l[k].2.1 l[k].2.2 = frv l[k] from rfl, ← hstep] at HADD
      have hbq := HS.out
      clear HS hstep hmem hfit hz
      generalize l[k].1 = fn at *
      generalize l[k].2.1 = fx at *
      generalize l[k].2.2 = fy at *
      obtain ⟨k0, k1, k2, f0, f1, f2⟩ := hbq.facts
      have hgl := hbq.lt
      go_wp2_with fail
      refine (HADD.out _).mono ?_
      rintro e w2 ⟨rfl, hb2⟩
      have hs2 := (hbq.alloc (FC fn fx fy)).below hb2 (hbq.alloc (FC fn fx fy)).lt
      have hr2 := (HR.out.alloc (FC fn fx fy)).below hb2 (HR.out.alloc (FC fn fx fy)).lt
      have hB2' := hBr.alloc hBr.size (FC fn fx fy)
      have hB2 : Below w.heap.size w w2 := hB2'.trans (hb2.mono hB2'.size)
      clear k0 k1 k2 f0 f1 f2 c0 c1 c2
      obtain ⟨k0, k1, k2, f0, f1, f2⟩ := hs2.facts
      rw [C_eq]
      go_wp2
      go_roundw
      case rel => exact ⟨k + 1, by omega, by go_num, hs2.put _ _ _, hr2.far3 (by omega) _ _ _, below_put hB2 hB1.size _ _ _⟩
      case measure => simp [intOf]; omega
    · obtain rfl : k = l.length := by omega
      have hbq := HS.out
      rw [HFIN.out] at hbq
      obtain ⟨k0, k1, k2, f0, f1, f2⟩ := hbq.facts
      obtain ⟨j0, j1, j2, i0, i1, i2⟩ := HR.out.facts
      go_wp2
      refine bodyPost_ret ((HR.out.put _ _ _).result rfl _ rfl) rfl ?_
      exact ⟨rfl, below_put hBr (Nat.le_refl _) _ _ _⟩
theorem fSum_any (a : Option Addr) (cap : Nat) (l : List Fr) (w : World) (h : FrS w a l) (hl : fw l ≤ 10000) (hn : l.length ≤ 10000) :
    Calls Tryz.prog 60 #[.slice a l.length cap] w fun e w' => e = .returned (C (fsum l)) ∧ Below w.heap.size w w' :=
  fSum_cw a cap l w h (fun k hk => by have := fw_mem (List.getElem_mem hk); omega) (fun k _ => by have := fits_qw (fits_sum (l.take k)); have := fw_take l k; omega) hn
set_option maxRecDepth 100000 in
set_option maxHeartbeats 2000000 in
theorem rSum_any (a : Option Addr) (cap : Nat) (l : List Fr) (w : World) (h : FrS w a l) (hl : fw l ≤ 10000) (hn : l.length ≤ 10000) :
    Calls Tryz.prog 22 #[.slice a l.length cap] w fun e w' => e = .returned (C (fsum l)) ∧ Below w.heap.size w w' := by
  have HF := hide h
  clear h
  have HFIN : Hid (fsum (l.take l.length) = fsum l) := by show _ = _; rw [List.take_length]
  have HO := hide (fun V => rOfF_any 0 V (by omega) (by omega))
  rw [Rat.zero_mkRat] at HO
  go_enter Tryz.func22, Tryz.ntmps22
  have hbr := Box.at (w := w) rfl false ⟨#[]⟩ ⟨#[]⟩
  have hB0 : Below w.heap.size w (w.alloc (FC false ⟨#[]⟩ ⟨#[]⟩)) := (Below.refl _ w).alloc (Nat.le_refl _) _
  go_wp2_with fail
  refine (HO.out _).mono ?_
  rintro e w1 ⟨rfl, hb1⟩
  have hr1 := hbr.below hb1 hbr.lt
  have hB1 : Below w.heap.size w w1 := hB0.trans (hb1.mono hB0.size)
  clear hbr hB0 hb1
  rw [C_eq]
  go_wp2_with fail
  have hlt1 := hr1.lt
  go_loopw [4] (fun iv wr => ∃ k : Nat, k ≤ l.length ∧ iv = .int .i64 k ∧ Hid (Box wr w1.heap.size (sgn (fsum (l.take k))) (nu (fsum (l.take k))) (de (fsum (l.take k)))) ∧ Hid (Box wr w.heap.size false ⟨#[]⟩ ⟨#[]⟩) ∧ Below w.heap.size w wr) (fun iv _ => l.length - (intOf iv).toNat)
  case atStart => exact ⟨0, Nat.zero_le _, rfl, Box.at rfl _ _ _, hr1.alloc _, hB1.alloc hB1.size _⟩
  case round =>
    obtain ⟨k, hk, rfl, HS, HR, hBr⟩ := hrel
    by_cases hlt : k < l.length
    · obtain ⟨g, o, rfl, hg, c0, c1, c2⟩ := (HF.out.below hBr) k hlt
      have hstep := take_one hlt
      have hmem := fw_mem (List.getElem_mem hlt)
      have hfit := fits_qw (fits_sum (l.take k))
      have hft := fw_take l k
      have hz := own_size (fsum (l.take k))
      have HADD := hide (fun V => rAddF_any (sgn (fsum (l.take k))) l[k].1 (nu (fsum (l.take k))) (de (fsum (l.take k))) l[k].2.1 l[k].2.2 V (by omega) (by omega))
      rw [val_own, show val l[k].1 l[k].2.1 l[k].2.2 = frv l[k] from rfl, ← hstep] at HADD
      have hbq := HS.out
      clear HS hstep hmem hfit hft hz
      generalize l[k].1 = fn at *
      generalize l[k].2.1 = fx at *
      generalize l[k].2.2 = fy at *
      obtain ⟨k0, k1, k2, f0, f1, f2⟩ := hbq.facts
      have hgl := hbq.lt
      go_upto_region 5 with fail
      go_region_with (
          (go_at_call 13; refine (HADD.out _).mono ?_; rintro e w2 ⟨rfl, hb2⟩; have hs2 := hbq.drew.below hb2 hbq.lt; have hr2 := (Box.drew HR.out).below hb2 HR.out.lt; have hB2 := hBr.drew.trans (hb2.mono hBr.size); obtain ⟨k0, k1, k2, f0, f1, f2⟩ := hs2.facts; rw [C_eq]))
      all_goals
        go_wp2
        go_roundw
        case rel => exact ⟨k + 1, by omega, by go_num, hs2.put _ _ _, hr2.far3 (by omega) _ _ _, below_put hB2 hB1.size _ _ _⟩
        case measure => simp [intOf]; omega
    · obtain rfl : k = l.length := by omega
      have hbq := HS.out
      rw [HFIN.out] at hbq
      obtain ⟨k0, k1, k2, f0, f1, f2⟩ := hbq.facts
      obtain ⟨j0, j1, j2, i0, i1, i2⟩ := HR.out.facts
      go_wp2
      refine bodyPost_ret ((HR.out.put _ _ _).result rfl _ rfl) rfl ?_
      exact ⟨rfl, below_put hBr (Nat.le_refl _) _ _ _⟩
end Go.Proofs.YtbejijgelljeaaaGreatDoor

/- Hidden chains, plainly: forward and backward meet; no way is likelier than the path that is found step by step. -/
namespace Go.Proofs.YtbejijgelljeaaaGreatDoor
/-- The sum of so many. -/
def sumR (f : Nat → Rat) : Nat → Rat
  | 0 => 0
  | n + 1 => sumR f n + f n
theorem sumR_congr {f g : Nat → Rat} : ∀ {n : Nat}, (∀ i, i < n → f i = g i) → sumR f n = sumR g n
  | 0, _ => rfl
  | n + 1, h => by rw [sumR, sumR, sumR_congr fun i hi => h i (by omega), h n (by omega)]
theorem sumR_add (f g : Nat → Rat) : ∀ n, sumR (fun i => f i + g i) n = sumR f n + sumR g n
  | 0 => by rw [sumR, sumR, sumR, Rat.add_zero]
  | n + 1 => by
    rw [sumR, sumR, sumR, sumR_add f g n, Rat.add_assoc, Rat.add_assoc, ← Rat.add_assoc (sumR g n), Rat.add_comm (sumR g n), Rat.add_assoc]
theorem sumR_mul (c : Rat) (f : Nat → Rat) : ∀ n, sumR (fun i => c * f i) n = c * sumR f n
  | 0 => by rw [sumR, sumR, Rat.mul_zero]
  | n + 1 => by rw [sumR, sumR, sumR_mul c f n, Rat.mul_add]
theorem sumR_mulR (c : Rat) (f : Nat → Rat) (n : Nat) : sumR (fun i => f i * c) n = sumR f n * c := by
  rw [Rat.mul_comm, ← sumR_mul]
  exact sumR_congr fun i _ => Rat.mul_comm _ _
theorem sumR_none : ∀ n, sumR (fun _ => 0) n = 0
  | 0 => rfl
  | n + 1 => by rw [sumR, sumR_none n, Rat.add_zero]
theorem sumR_swap (f : Nat → Nat → Rat) (m : Nat) : ∀ n, sumR (fun i => sumR (fun j => f i j) m) n = sumR (fun j => sumR (fun i => f i j) n) m
  | 0 => by rw [sumR]; exact (sumR_none m).symm
  | n + 1 => by
    rw [sumR, sumR_swap f m n, ← sumR_add]
    rfl
theorem sumR_low {f : Nat → Rat} : ∀ {n : Nat}, (∀ i, i < n → 0 ≤ f i) → 0 ≤ sumR f n
  | 0, _ => Rat.le_refl
  | n + 1, h => Rat.add_nonneg (sumR_low fun i hi => h i (by omega)) (h n (by omega))
theorem sumR_part {f : Nat → Rat} : ∀ {n : Nat}, (∀ i, i < n → 0 ≤ f i) → ∀ i, i < n → f i ≤ sumR f n
  | 0, _, i, hi => absurd hi (by omega)
  | n + 1, h, i, hi => by
    rw [sumR]
    have h0 := sumR_low (n := n) fun i hi => h i (by omega)
    have hn := h n (by omega)
    rcases Nat.lt_or_ge i n with h1 | h1
    · have h2 := sumR_part (n := n) (fun i hi => h i (by omega)) i h1
      have h3 := (Rat.add_le_add_left (c := sumR f n)).2 hn
      rw [Rat.add_zero] at h3
      exact Rat.le_trans h2 h3
    · obtain rfl : i = n := by omega
      have h3 := (Rat.add_le_add_right (c := f i)).2 h0
      rwa [Rat.zero_add] at h3
theorem sumR_mono {f g : Nat → Rat} : ∀ {n : Nat}, (∀ i, i < n → f i ≤ g i) → sumR f n ≤ sumR g n
  | 0, _ => Rat.le_refl
  | n + 1, h => by
    rw [sumR, sumR]
    exact Rat.le_trans ((Rat.add_le_add_right (c := f n)).2 (sumR_mono fun i hi => h i (by omega))) ((Rat.add_le_add_left (c := sumR g n)).2 (h n (by omega)))
theorem sumR_zero {f : Nat → Rat} {n : Nat} (h : ∀ i, i < n → f i = 0) : sumR f n = 0 := by
  rw [sumR_congr h]
  exact sumR_none n
/-- A hidden chain: how likely it starts, moves and shows; what is seen. -/
structure HC where
  s : Nat
  L : Nat
  st : Nat → Rat
  mv : Nat → Nat → Rat
  sh : Nat → Nat → Rat
variable {h : HC}
end Go.Proofs.YtbejijgelljeaaaGreatDoor

/- Elimination, plainly: what chain.solve leaves solves the equations; of a chain that may leave from each state, or of what is still in a closed class, no step divides by 0. -/
namespace Go.Proofs.YtbejijgelljeaaaGreatDoor
/-- One step of an elimination: row k is divided, and taken from all others. -/
def elmS (k : Nat) (M : Nat → Nat → Rat) : Nat → Nat → Rat := fun i c => if i = k then M k c / M k k else M i c - M k c / M k k * M i k
/-- So many steps. -/
def elm (M : Nat → Nat → Rat) : Nat → Nat → Nat → Rat
  | 0 => M
  | k + 1 => elmS k (elm M k)
/-- These solve as many equations; what they are to be stands behind each. -/
def Sol (n : Nat) (M : Nat → Nat → Rat) (x : Nat → Rat) : Prop := ∀ i, i < n → sumR (fun j => M i j * x j) n = M i n
theorem div_mulR {p q : Rat} (h : q ≠ 0) : p / q * q = p := by rw [Rat.div_def, Rat.mul_assoc, Rat.inv_mul_cancel _ h, Rat.mul_one]
theorem sumR_sub (f g : Nat → Rat) (n : Nat) : sumR (fun i => f i - g i) n = sumR f n - sumR g n := by
  have h : sumR (fun i => f i - g i) n + sumR g n = sumR f n := by
    rw [← sumR_add]
    exact sumR_congr fun i _ => by grind
  grind
theorem elmS_sol {n k : Nat} {M : Nat → Nat → Rat} {x : Nat → Rat} (hk : k < n) (hp : M k k ≠ 0) (h : Sol n (elmS k M) x) : Sol n M x := by
  have hkk : sumR (fun j => M k j * x j) n = M k n := by
    have h1 := h k hk
    simp only [elmS, if_pos] at h1
    have h2 : sumR (fun j => M k j * x j) n = M k k * sumR (fun j => M k j / M k k * x j) n := by
      rw [← sumR_mul]
      refine sumR_congr fun j _ => ?_
      rw [← Rat.mul_assoc, Rat.mul_comm (M k k), div_mulR hp]
    rw [h2, h1, Rat.mul_comm, div_mulR hp]
  intro i hi
  by_cases e : i = k
  · subst e; exact hkk
  · have h1 := h i hi
    simp only [elmS, if_neg e] at h1
    have h2 : sumR (fun j => (M i j - M k j / M k k * M i k) * x j) n = sumR (fun j => M i j * x j) n - M i k / M k k * sumR (fun j => M k j * x j) n := by
      rw [← sumR_mul, ← sumR_sub]
      exact sumR_congr fun j _ => by rw [Rat.div_def, Rat.div_def]; grind
    rw [h2, hkk] at h1
    rw [Rat.div_def, Rat.div_def] at h1
    grind
theorem elm_sol {n : Nat} {M : Nat → Nat → Rat} {x : Nat → Rat} : ∀ k, k ≤ n → (∀ j, j < k → elm M j j j ≠ 0) → Sol n (elm M k) x → Sol n M x
  | 0, _, _, h => h
  | k + 1, hk, hp, h => elm_sol k (by omega) (fun j hj => hp j (by omega)) (elmS_sol (by omega) (hp k (by omega)) h)
/-- The first columns are those of one by one. -/
def UnitM (n k : Nat) (M : Nat → Nat → Rat) : Prop := ∀ i, i < n → ∀ j, j < k → M i j = if i = j then 1 else 0
theorem elmS_unit {n k : Nat} {M : Nat → Nat → Rat} (hk : k < n) (hp : M k k ≠ 0) (h : UnitM n k M) : UnitM n (k + 1) (elmS k M) := by
  intro i hi j hj
  rcases Nat.lt_or_ge j k with h1 | h1
  · have hkj : M k j = 0 := by rw [h k hk j h1, if_neg (by omega)]
    by_cases e : i = k
    · subst e
      rw [elmS, if_pos rfl, hkj, if_neg (by omega), Rat.div_def, Rat.zero_mul]
    · rw [elmS, if_neg e, hkj, h i hi j h1, Rat.div_def, Rat.zero_mul, Rat.zero_mul]
      grind
  · obtain rfl : j = k := by omega
    by_cases e : i = j
    · subst e
      rw [elmS, if_pos rfl, if_pos rfl, Rat.div_def, Rat.mul_inv_cancel _ hp]
    · rw [elmS, if_neg e, if_neg e, Rat.div_def, Rat.mul_inv_cancel _ hp, Rat.one_mul]
      grind
theorem elm_unit {n : Nat} {M : Nat → Nat → Rat} : ∀ k, k ≤ n → (∀ j, j < k → elm M j j j ≠ 0) → UnitM n k (elm M k)
  | 0, _, _ => fun i _ j hj => absurd hj (by omega)
  | k + 1, hk, hp => elmS_unit (by omega) (hp k (by omega)) (elm_unit k (by omega) fun j hj => hp j (by omega))
theorem sumR_one {n i : Nat} (x : Nat → Rat) (hi : i < n) : sumR (fun j => (if i = j then 1 else 0) * x j) n = x i := by
  have key : ∀ n, sumR (fun j => (if i = j then (1 : Rat) else 0) * x j) n = if i < n then x i else 0 := fun n => by
    induction n with
    | zero => rfl
    | succ n ih =>
      rw [sumR, ih]
      by_cases h1 : i = n
      · subst h1
        rw [if_neg (by omega), if_pos rfl, if_pos (by omega), Rat.one_mul, Rat.zero_add]
      · rw [if_neg h1, Rat.zero_mul, Rat.add_zero]
        by_cases h2 : i < n
        · rw [if_pos h2, if_pos (by omega)]
        · rw [if_neg h2, if_neg (by omega)]
  rw [key, if_pos hi]
/-- WHAT IS LEFT SOLVES ALL EQUATIONS, where no step divides by 0. -/
theorem elm_solves {n : Nat} {M : Nat → Nat → Rat} (hp : ∀ j, j < n → elm M j j j ≠ 0) : Sol n M fun i => elm M n i n := by
  refine elm_sol n (Nat.le_refl _) hp fun i hi => ?_
  have hu := elm_unit n (Nat.le_refl _) hp
  rw [sumR_congr (g := fun j => (if i = j then 1 else 0) * elm M n j n) fun j hj => by rw [hu i hi j hj]]
  exact sumR_one (fun j => elm M n j n) hi
/-- The sum of those from k on. -/
def tailR (f : Nat → Rat) (k n : Nat) : Rat := sumR f n - sumR f k
theorem tailR_head (f : Nat → Rat) {k n : Nat} : tailR f k n = f k + tailR f (k + 1) n := by
  rw [tailR, tailR, sumR]
  grind
theorem tailR_low {f : Nat → Rat} {k : Nat} : ∀ {n : Nat}, k ≤ n → (∀ j, k ≤ j → j < n → 0 ≤ f j) → 0 ≤ tailR f k n := by
  intro n hn h
  obtain ⟨d, rfl⟩ := Nat.exists_eq_add_of_le hn
  clear hn
  induction d with
  | zero => rw [Nat.add_zero, tailR]; grind
  | succ d ih =>
    have h1 := ih fun j h1 h2 => h j h1 (by omega)
    have h2 := h (k + d) (by omega) (by omega)
    have e : tailR f k (k + (d + 1)) = tailR f k (k + d) + f (k + d) := by
      rw [tailR, tailR, ← Nat.add_assoc, sumR]
      grind
    rw [e]
    exact Rat.add_nonneg h1 h2
theorem tailR_part {f : Nat → Rat} {k n j : Nat} (hk : k ≤ j) (hj : j < n) (h : ∀ i, k ≤ i → i < n → 0 ≤ f i) : f j ≤ tailR f k n := by
  have h1 := tailR_low (f := f) (k := k) (n := j) hk fun i h1 h2 => h i h1 (by omega)
  have h2 := tailR_low (f := f) (k := j + 1) (n := n) (by omega) fun i h1 h2 => h i (by omega) h2
  have e : tailR f k n = tailR f k j + (f j + tailR f (j + 1) n) := by rw [tailR, tailR, tailR, sumR]; grind
  rw [e]
  grind
/-- A chain that is watched on the states from k on, less 1 at each state: it may leave them, from each. -/
structure Wt (n k : Nat) (M : Nat → Nat → Rat) : Prop where
  low : ∀ i, k ≤ i → i < n → ∀ j, k ≤ j → j < n → i ≠ j → 0 ≤ M i j
  sum : ∀ i, k ≤ i → i < n → tailR (M i) k n ≤ 0
  trap : ∀ C : Nat → Prop, (∃ i, k ≤ i ∧ i < n ∧ C i) → ∃ i, k ≤ i ∧ i < n ∧ C i ∧ (tailR (M i) k n < 0 ∨ ∃ j, k ≤ j ∧ j < n ∧ ¬ C j ∧ 0 < M i j)
theorem Wt.pivot {n k : Nat} {M : Nat → Nat → Rat} (h : Wt n k M) (hk : k < n) : M k k < 0 := by
  obtain ⟨i, h1, h2, rfl, h4⟩ := h.trap (fun i => i = k) ⟨k, Nat.le_refl _, hk, rfl⟩
  have hs := h.sum i (Nat.le_refl _) hk
  have hl : 0 ≤ tailR (M i) (i + 1) n := tailR_low (by omega) fun j q1 q2 => h.low i (Nat.le_refl _) hk j (by omega) q2 (by omega)
  rw [tailR_head] at hs
  rcases h4 with h4 | ⟨j, q1, q2, q3, q4⟩
  · rw [tailR_head] at h4
    grind
  · have hj : i + 1 ≤ j := by
      rcases Nat.lt_or_ge i j with q5 | q5
      · exact q5
      · exact absurd (by omega : j = i) q3
    have := tailR_part (f := M i) hj q2 fun a q5 q6 => h.low i (Nat.le_refl _) hk a (by omega) q6 (by omega)
    grind
theorem tailR_sub (f g : Nat → Rat) (k n : Nat) : tailR (fun i => f i - g i) k n = tailR f k n - tailR g k n := by
  rw [tailR, tailR, tailR, sumR_sub, sumR_sub]
  grind
theorem tailR_mulR (c : Rat) (f : Nat → Rat) (k n : Nat) : tailR (fun i => f i * c) k n = tailR f k n * c := by
  rw [tailR, tailR, sumR_mulR, sumR_mulR]
  grind
theorem tailR_congr {f g : Nat → Rat} {k n : Nat} (hk : k ≤ n) (h : ∀ i, k ≤ i → i < n → f i = g i) : tailR f k n = tailR g k n := by
  have h1 : 0 ≤ tailR (fun i => f i - g i) k n := tailR_low hk fun i q1 q2 => by rw [h i q1 q2]; grind
  have h2 : 0 ≤ tailR (fun i => g i - f i) k n := tailR_low hk fun i q1 q2 => by rw [h i q1 q2]; grind
  rw [tailR_sub] at h1 h2
  grind
theorem inv_low {q : Rat} (hq : q < 0) : q⁻¹ < 0 := by
  have h1 : q * q⁻¹ = 1 := Rat.mul_inv_cancel _ (by grind)
  by_cases h : q⁻¹ < 0
  · exact h
  · have h2 : 0 ≤ -q * q⁻¹ := Rat.mul_nonneg (by grind) (Rat.not_lt.1 h)
    rw [Rat.neg_mul, h1] at h2
    exact absurd h2 (by decide)
theorem quot_low {p q r : Rat} (hp : 0 ≤ p) (hq : q < 0) (hr : 0 ≤ r) : 0 ≤ -(p / q * r) := by
  have h1 := inv_low hq
  have h3 : 0 ≤ p * (-q⁻¹) * r := Rat.mul_nonneg (Rat.mul_nonneg hp (by grind)) hr
  rw [Rat.div_def]
  grind
theorem quot_pos {p q r : Rat} (hp : 0 < p) (hq : q < 0) (hr : 0 < r) : 0 < -(p / q * r) := by
  have h1 := inv_low hq
  have h3 : 0 < p * (-q⁻¹) * r := Rat.mul_pos (Rat.mul_pos hp (by grind)) hr
  rw [Rat.div_def]
  grind
theorem Wt.step {n k : Nat} {M : Nat → Nat → Rat} (h : Wt n k M) (hk : k < n) : Wt n (k + 1) (elmS k M) := by
  have hp := h.pivot hk
  have hne : M k k ≠ 0 := by grind
  have ev : ∀ i, k + 1 ≤ i → ∀ j, elmS k M i j = M i j - M k j / M k k * M i k := fun i hi j => by rw [elmS, if_neg (by omega)]
  have es : ∀ i, k + 1 ≤ i → i < n → tailR (elmS k M i) (k + 1) n = tailR (M i) k n - tailR (M k) k n / M k k * M i k := fun i hi hn => by
    have e1 : tailR (elmS k M i) (k + 1) n = tailR (fun j => M i j - M k j * (M i k / M k k)) (k + 1) n := tailR_congr (by omega) fun j q1 q2 => by rw [ev i hi j, Rat.div_def, Rat.div_def]; grind
    rw [e1, tailR_sub, tailR_mulR, tailR_head (f := M i) (k := k), tailR_head (f := M k) (k := k)]
    have e2 : M k k * (M i k / M k k) = M i k := by rw [Rat.mul_comm, div_mulR hne]
    rw [Rat.div_def, Rat.div_def] at *
    grind
  have hik : ∀ i, k + 1 ≤ i → i < n → 0 ≤ M i k := fun i h1 h2 => h.low i (by omega) h2 k (Nat.le_refl _) hk (by omega)
  have hkj : ∀ j, k + 1 ≤ j → j < n → 0 ≤ M k j := fun j h1 h2 => h.low k (Nat.le_refl _) hk j (by omega) h2 (by omega)
  have hsk : 0 ≤ -tailR (M k) k n := by have := h.sum k (Nat.le_refl _) hk; grind
  refine ⟨fun i h1 h2 j h3 h4 h5 => ?_, fun i h1 h2 => ?_, fun C hC => ?_⟩
  · rw [ev i h1 j]
    have q1 := h.low i (by omega) h2 j (by omega) h4 h5
    have q2 := quot_low (hkj j h3 h4) hp (hik i h1 h2)
    grind
  · rw [es i h1 h2]
    have q1 := h.sum i (by omega) h2
    have q2 := quot_low hsk hp (hik i h1 h2)
    rw [Rat.div_def] at *
    grind
  · have leave : ∀ i, k + 1 ≤ i → i < n → tailR (M i) k n < 0 → tailR (elmS k M i) (k + 1) n < 0 := fun i h1 h2 q => by
      rw [es i h1 h2]
      have q2 := quot_low hsk hp (hik i h1 h2)
      rw [Rat.div_def] at *
      grind
    have goes : ∀ i, k + 1 ≤ i → i < n → ∀ j, k + 1 ≤ j → j < n → 0 < M i j → 0 < elmS k M i j := fun i h1 h2 j h3 h4 q => by
      rw [ev i h1 j]
      have q2 := quot_low (hkj j h3 h4) hp (hik i h1 h2)
      grind
    obtain ⟨i0, c1, c2, c3⟩ := hC
    by_cases hin : ∃ i, k + 1 ≤ i ∧ i < n ∧ C i ∧ 0 < M i k
    · obtain ⟨i, h1, h2, h3, h4⟩ := hin
      obtain ⟨a, a1, a2, a3, a4⟩ := h.trap (fun j => j = k ∨ k + 1 ≤ j ∧ C j) ⟨k, Nat.le_refl _, hk, .inl rfl⟩
      have out : ∀ j, k ≤ j → ¬ (j = k ∨ k + 1 ≤ j ∧ C j) → k + 1 ≤ j ∧ ¬ C j := fun j q1 q2 => by
        have q3 : j ≠ k := fun e => q2 (.inl e)
        exact ⟨by omega, fun e => q2 (.inr ⟨by omega, e⟩)⟩
      rcases a3 with rfl | ⟨b1, b2⟩
      · refine ⟨i, h1, h2, h3, ?_⟩
        rcases a4 with a4 | ⟨j, j1, j2, j3, j4⟩
        · left
          rw [es i h1 h2]
          have q1 := h.sum i (by omega) h2
          have q2 := quot_pos (p := -tailR (M a) a n) (by grind) hp h4
          rw [Rat.div_def] at *
          grind
        · right
          obtain ⟨o1, o2⟩ := out j j1 j3
          refine ⟨j, o1, j2, o2, ?_⟩
          rw [ev i h1 j]
          have q1 : 0 ≤ M i j := h.low i (by omega) h2 j (by omega) j2 (fun e => o2 (e ▸ h3))
          have q2 := quot_pos j4 hp h4
          grind
      · refine ⟨a, b1, a2, b2, ?_⟩
        rcases a4 with a4 | ⟨j, j1, j2, j3, j4⟩
        · exact .inl (leave a b1 a2 a4)
        · obtain ⟨o1, o2⟩ := out j j1 j3
          exact .inr ⟨j, o1, j2, o2, goes a b1 a2 j o1 j2 j4⟩
    · obtain ⟨a, a1, a2, a3, a4⟩ := h.trap (fun j => k + 1 ≤ j ∧ C j) ⟨i0, by omega, c2, c1, c3⟩
      refine ⟨a, a3.1, a2, a3.2, ?_⟩
      rcases a4 with a4 | ⟨j, j1, j2, j3, j4⟩
      · exact .inl (leave a a3.1 a2 a4)
      · have q1 : j ≠ k := fun e => hin ⟨a, a3.1, a2, a3.2, e ▸ j4⟩
        exact .inr ⟨j, by omega, j2, fun e => j3 ⟨by omega, e⟩, goes a a3.1 a2 j (by omega) j2 j4⟩
theorem Wt.congr {n k : Nat} {M M' : Nat → Nat → Rat} (h : Wt n k M) (hk : k ≤ n) (e : ∀ i, k ≤ i → i < n → ∀ j, k ≤ j → j < n → M' i j = M i j) : Wt n k M' := by
  have es : ∀ i, k ≤ i → i < n → tailR (M' i) k n = tailR (M i) k n := fun i h1 h2 => tailR_congr hk fun j q1 q2 => e i h1 h2 j q1 q2
  refine ⟨fun i h1 h2 j h3 h4 h5 => by rw [e i h1 h2 j h3 h4]; exact h.low i h1 h2 j h3 h4 h5, fun i h1 h2 => by rw [es i h1 h2]; exact h.sum i h1 h2, fun C hC => ?_⟩
  obtain ⟨i, h1, h2, h3, h4⟩ := h.trap C hC
  refine ⟨i, h1, h2, h3, ?_⟩
  rcases h4 with h4 | ⟨j, q1, q2, q3, q4⟩
  · exact .inl (by rw [es i h1 h2]; exact h4)
  · exact .inr ⟨j, q1, q2, q3, by rw [e i h1 h2 j q1 q2]; exact q4⟩
/-- Equations of what is still: a row for each state but the last, of which each is what comes in less what goes out; the last row has numbers above 0. -/
structure Stl (n k : Nat) (M : Nat → Nat → Rat) : Prop where
  wt : Wt (n - 1) k fun i j => M j i
  col : ∀ j, k ≤ j → j < n - 1 → 0 ≤ M j (n - 1)
  last : ∀ i, k ≤ i → i < n → 0 < M (n - 1) i
theorem Stl.step {n k : Nat} {M : Nat → Nat → Rat} (h : Stl n k M) (hk : k < n - 1) : Stl n (k + 1) (elmS k M) := by
  have hp : M k k < 0 := h.wt.pivot hk
  have ev : ∀ i, k + 1 ≤ i → ∀ j, elmS k M i j = M i j - M k j / M k k * M i k := fun i hi j => by rw [elmS, if_neg (by omega)]
  have hjk : ∀ j, k + 1 ≤ j → j < n - 1 → 0 ≤ M j k := fun j h1 h2 => h.wt.low k (Nat.le_refl _) hk j (by omega) h2 (by omega)
  have hki : ∀ i, k + 1 ≤ i → i < n → 0 ≤ M k i := fun i h1 h2 => by
    by_cases e : i = n - 1
    · rw [e]; exact h.col k (Nat.le_refl _) hk
    · exact h.wt.low i (by omega) (by omega) k (Nat.le_refl _) hk (by omega)
  refine ⟨(h.wt.step hk).congr (by omega) fun i h1 h2 j h3 h4 => ?_, fun j h1 h2 => ?_, fun i h1 h2 => ?_⟩
  · rw [ev j h3 i, elmS, if_neg (by omega)]
    simp only [Rat.div_def]
    grind
  · rw [ev j h1]
    have q1 := h.col j (by omega) h2
    have q2 := quot_low (hki (n - 1) (by omega) (by omega)) hp (hjk j h1 h2)
    grind
  · rw [ev (n - 1) (by omega)]
    have q1 := h.last i (by omega) h2
    have q2 := quot_low (hki i h1 h2) hp (Rat.le_of_lt (h.last k (by omega) (by omega)))
    grind
theorem Stl.all {n : Nat} {M : Nat → Nat → Rat} (h : Stl n 0 M) : ∀ k, k ≤ n - 1 → Stl n k (elm M k)
  | 0, _ => h
  | k + 1, hk => (h.all k (by omega)).step (by omega)
/-- WHAT IS STILL IS SOLVED, without a look for what to divide by. -/
theorem Stl.solves {n : Nat} {M : Nat → Nat → Rat} (h : Stl n 0 M) (hn : 1 ≤ n) : Sol n M fun i => elm M n i n :=
  elm_solves fun j hj => by
    by_cases e : j = n - 1
    · have := (h.all (n - 1) (Nat.le_refl _)).last (n - 1) (Nat.le_refl _) (by omega)
      rw [e]
      grind
    · have : elm M j j j < 0 := (h.all j (by omega)).wt.pivot (by omega)
      grind
end Go.Proofs.YtbejijgelljeaaaGreatDoor
