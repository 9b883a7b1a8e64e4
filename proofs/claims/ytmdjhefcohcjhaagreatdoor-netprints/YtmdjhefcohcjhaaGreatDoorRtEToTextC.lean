/- The document's answer: Out. -/
import Derived.Test.YtmdjhefcohcjhaaGreatDoorRtBToNetD
import Derived.Test.YtmdjhefcohcjhaaGreatDoorLikAToSwapT
import Derived.Test.YtmdjhefcohcjhaaGreatDoorStandCToSliB
import Derived.Laws.EntriesVeiled
import Derived.Test.YtmdjhefcohcjhaaGreatDoorTabR1ToTabR4
import Derived.Test.YtmdjhefcohcjhaaGreatDoorMemToNumF
import Derived.Lib.ItoaNum
import Derived.Test.YtmdjhefcohcjhaaGreatDoorRefHToRefJ
import Derived.Lib.ItoaMem
namespace Go.Proofs.YtmdjhefcohcjhaaGreatDoor
open Go.RowKit Go.Shelf

theorem cmp_turn (p q : Rat) : 0 < cmpQ p q ↔ cmpQ q p < 0 := by
  rw [cmpQ, cmpQ]
  by_cases h1 : p < q
  · have h2 : ¬ q < p := Rat.not_lt.2 (Rat.le_of_lt h1)
    have h3 : ¬ q = p := fun h => by rw [h] at h1; exact Rat.lt_irrefl h1
    rw [if_pos h1, if_neg h2, if_neg h3]; decide
  · rw [if_neg h1]
    by_cases h2 : p = q
    · subst h2
      rw [if_neg h1, if_pos rfl]
    · have h3 : q < p := Rat.not_le.1 fun h4 => h1 (Rat.lt_of_le_of_ne h4 h2)
      rw [if_neg h2, if_pos h3]; decide
/-- What is left of the first so many; ahead of the first nothing. -/
def leftN (most : Bool) (T : Nat → Fr) (x : Nat) : Fr := if x = 0 then frZ else outN most T (x - 1)
theorem leftN_zero (most : Bool) (T : Nat → Fr) : leftN most T 0 = frZ := rfl
theorem leftN_one (most : Bool) (T : Nat → Fr) : leftN most T 1 = T 0 := rfl
theorem leftN_sum (T : Nat → Fr) {x : Nat} (h : x ≠ 0) : leftN false T (x + 1) = qF (frQ (leftN false T x) + frQ (T x)) := by
  obtain ⟨y, rfl⟩ : ∃ y, x = y + 1 := ⟨x - 1, by omega⟩
  rfl
theorem leftN_up (T : Nat → Fr) {x : Nat} (h : x ≠ 0) (hc : 0 < cmpQ (frQ (T x)) (frQ (leftN true T x))) : leftN true T (x + 1) = T x := by
  obtain ⟨y, rfl⟩ : ∃ y, x = y + 1 := ⟨x - 1, by omega⟩
  change 0 < cmpQ (frQ (T (y + 1))) (frQ (outN true T y)) at hc
  show great (outN true T y) (T (y + 1)) = _
  rw [great, if_pos ((cmp_turn _ _).1 hc)]
theorem leftN_keep (T : Nat → Fr) {x : Nat} (h : x ≠ 0) (hc : ¬ 0 < cmpQ (frQ (T x)) (frQ (leftN true T x))) : leftN true T (x + 1) = leftN true T x := by
  obtain ⟨y, rfl⟩ : ∃ y, x = y + 1 := ⟨x - 1, by omega⟩
  change ¬ 0 < cmpQ (frQ (T (y + 1))) (frQ (outN true T y)) at hc
  show great (outN true T y) (T (y + 1)) = outN true T y
  rw [great, if_neg (fun h => hc ((cmp_turn _ _).2 h))]
theorem left_ar {x : Nat} (hx : x ≤ 3) : 2 * ((x - 1 + 1) * 8192) ≤ 50000 := by omega
theorem leftN_size (most : Bool) (T : Nat → Fr) (x : Nat) (hx : x ≤ 3) (h : ∀ y, y < x → (T y).2.1.size + (T y).2.2.size + 2 ≤ 8192) : (leftN most T x).2.1.size + (leftN most T x).2.2.size ≤ 50000 := by
  by_cases h0 : x = 0
  · subst h0; rw [leftN_zero]; decide
  · have e : leftN most T x = outN most T (x - 1) := if_neg h0
    rw [e]
    exact Nat.le_trans (outN_size most T (x - 1) fun y hy => h y (by omega)) (left_ar hx)
theorem spr_with (n : Nat) (f : Nat → Nat) (v z x : Nat) : (spr n (withV f v z)).set v x = spr n (withV f v x) := by
  rw [spr_set]
  exact spr_congr fun u _ => by
    rw [withV, withV, withV]
    by_cases e : u = v
    · rw [if_pos e, if_pos e]
    · rw [if_neg e, if_neg e, if_neg e]
theorem spr_self (n : Nat) (f : Nat → Nat) (v : Nat) : spr n f = spr n (withV f v (f v)) := spr_congr fun u _ => by
  rw [withV]
  by_cases e : u = v
  · rw [if_pos e, e]
  · rw [if_neg e]
theorem left_ar2 {x : Nat} (hx : x ≤ 4) : 2 * ((x - 1 + 1) * 8192) ≤ 65536 := by omega
theorem leftN_lt (most : Bool) (T : Nat → Fr) (x : Nat) (h1 : 1 ≤ x) (hx : x ≤ 4) (h : ∀ y, y < x → (T y).2.1.size + (T y).2.2.size + 2 ≤ 8192) : (leftN most T x).2.1.size + (leftN most T x).2.2.size ≤ 65536 := by
  have e : leftN most T x = outN most T (x - 1) := if_neg (by omega)
  rw [e]
  exact Nat.le_trans (outN_size most T (x - 1) fun y hy => h y (by omega)) (left_ar2 hx)

/-- What the inner loop of Out holds. -/
def OI (V0 V : World) (G B : Nat) (n v z : Nat) (F : Nat → Nat) (f : Fr) : Prop := RowI V G (spr n (withV F v z)) ∧ Box V B f.1 f.2.1 f.2.2 ∧ Below V0.heap.size V0 V
theorem OI.step {V0 V V' : World} {G B n v z : Nat} {F : Nat → Nat} {f : Fr} (h : OI V0 V G B n v z F f) (hb : Below V.heap.size V V') : OI V0 V' G B n v z F f := ⟨h.1.below hb h.1.lt, h.2.1.below hb h.2.1.lt, h.2.2.trans (hb.mono h.2.2.size)⟩
theorem rows_apart {V : World} {G B : Nat} {l : List Nat} {n : Bool} {x y : ByteArray} (h1 : RowI V G l) (h2 : Box V B n x y) : G ≠ B := fun e => by
  subst e
  rw [RowI] at h1
  rw [Box, h1] at h2
  simp at h2

end Go.Proofs.YtmdjhefcohcjhaaGreatDoor


/- The document's answer: TableBest. -/
namespace Go.Proofs.YtmdjhefcohcjhaaGreatDoor
open Go.RowKit Go.Shelf

theorem bestN_up {l : List Fr} {i : Nat} (h : 1 ≤ i) (hc : 0 < cmpQ (frQ (celF l i)) (frQ (celF l (bestN l (i - 1))))) : bestN l i = i := by
  obtain ⟨k, rfl⟩ : ∃ k, i = k + 1 := ⟨i - 1, by omega⟩
  rw [Nat.add_sub_cancel] at hc
  rw [bestN, if_pos ((cmp_turn _ _).1 hc)]
theorem bestN_keep {l : List Fr} {i : Nat} (h : 1 ≤ i) (hc : ¬ 0 < cmpQ (frQ (celF l i)) (frQ (celF l (bestN l (i - 1))))) : bestN l i = bestN l (i - 1) := by
  obtain ⟨k, rfl⟩ : ∃ k, i = k + 1 := ⟨i - 1, by omega⟩
  rw [Nat.add_sub_cancel] at hc ⊢
  rw [bestN, if_neg (fun h => hc ((cmp_turn _ _).2 h))]

end Go.Proofs.YtmdjhefcohcjhaaGreatDoor


/- Package table: Norm's closure. -/
namespace Go.Proofs.YtmdjhefcohcjhaaGreatDoor
open Go.RowKit Go.Shelf

end Go.Proofs.YtmdjhefcohcjhaaGreatDoor


/- Package table: Norm. -/
namespace Go.Proofs.YtmdjhefcohcjhaaGreatDoor
open Go.RowKit Go.Shelf

theorem normL_length (l : List Fr) : (normL l).length = l.length := by simp [normL]
theorem normL_get (l : List Fr) {k : Nat} (h : k < (normL l).length) : (normL l)[k] = qF (frQ (l[k]'(by rw [normL_length] at h; exact h)) * (1 / fsum l)) := by simp [normL]
theorem qw_inv {q : Rat} (h : q ≠ 0) : qw (1 / q) ≤ qw q + 1 := by
  have e : val (sgn q) (nu q) (de q) ≠ 0 := by rw [val_own]; exact h
  have h0 := fun h => e (val_zero_iff.2 h)
  have e1 : 1 / q = val (sgn q) (de q) (nu q) := by rw [val_inv _ _ _ (fun h => h0 (.inl h)) (fun h => h0 (.inr h)), val_own, Rat.div_def, Rat.one_mul]
  rw [e1]
  refine Nat.le_trans (qw_val _ _ _) ?_
  show (B q.den).size + (B q.num.natAbs).size + 1 ≤ qw q + 1
  rw [qw]
  omega
theorem qw_sum {l : List Fr} (h : fw l ≤ 10000) : qw (fsum l) ≤ 20002 := by have := fits_qw (fits_sum l); omega

end Go.Proofs.YtmdjhefcohcjhaaGreatDoor


/- The document's answer: Norm. -/
namespace Go.Proofs.YtmdjhefcohcjhaaGreatDoor
open Go.RowKit Go.Shelf

end Go.Proofs.YtmdjhefcohcjhaaGreatDoor


/- The document's answer: Product. -/
namespace Go.Proofs.YtmdjhefcohcjhaaGreatDoor
open Go.RowKit Go.Shelf

/-- The variables so far. -/
def bothI (a b : List Int) (i : Nat) : List Int := iL (bothN i a b)
theorem bothI_succ (a b : List Int) (i : Nat) : bothI a b (i + 1) = bothI a b i ++ if (inB (i : Int) a || inB (i : Int) b) = true then [(i : Int)] else [] := by
  rw [bothI, bothI, bothN, bothN, List.range_succ, List.filter_append, iL, iL, List.map_append]
  congr 1
  by_cases h : (inB (i : Int) a || inB (i : Int) b) = true
  · simp only [List.filter_cons, h, List.filter_nil, if_true, List.map_cons, List.map_nil]
  · simp only [List.filter_cons, h, List.filter_nil]
    rfl
theorem bothI_len (a b : List Int) (i : Nat) : (bothI a b i).length ≤ i := by
  rw [bothI, iL_length]
  exact Nat.le_trans (List.length_filter_le _ _) (by rw [List.length_range]; exact Nat.le_refl _)
theorem RwI.off {w : World} {B : Nat} {v : Value} {l : List Int} (h : RwI w B v l) (b j : Nat) (y : Value) (hb : b < B) : RwI (w.setCell ⟨b, j, none⟩ y) B v l := by
  refine ⟨h.1, h.2.imp id ?_⟩
  rintro ⟨g, cap, cur, h1, h2, h3, h4⟩
  exact ⟨g, cap, cur, h1, h2, (Below.heap_setCell w ⟨b, j, none⟩ y g (by show g ≠ b; omega)).trans h3, h4⟩
theorem RwI.below {w w' : World} {B : Nat} {v : Value} {l : List Int} (h : RwI w B v l) (hb : Below w.heap.size w w') : RwI w' B v l := by
  refine ⟨h.1, h.2.imp id ?_⟩
  rintro ⟨g, cap, cur, h1, h2, h3, h4⟩
  exact ⟨g, cap, cur, h1, h2, (hb.block g (Array.getElem?_eq_some_iff.1 h3).1).trans h3, h4⟩
theorem RwI.slv {w : World} {B : Nat} {v : Value} {l : List Int} (h : RwI w B v l) : SlV v := by
  obtain ⟨d, cd, e, _⟩ := h.ints
  exact ⟨d, _, cd, e⟩
theorem RwI.intS {w : World} {B : Nat} {d : Option Addr} {cd : Nat} {U : List Int} (h : RwI w B (.slice d U.length cd) U) : IntS w d U := by
  obtain ⟨d', cd', e, hi⟩ := h.ints
  cases e
  exact hi

end Go.Proofs.YtmdjhefcohcjhaaGreatDoor


/- The law's raw numbers: Pick, sizesOf, All, Some, Less. -/
namespace Go.Proofs.YtmdjhefcohcjhaaGreatDoor
open Go.RowKit Go.Shelf

/-- A number below n, of any number. -/
def pickN (c : Int) (n : Nat) : Nat := (if c < 0 then (-(c + 1)).toNat else c.toNat) % n
theorem pickN_lt (c : Int) {n : Nat} (h : 1 ≤ n) : pickN c n < n := Nat.mod_lt _ h

/-- Sizes so far. -/
def Each3 (L : List Int) : Prop := ∀ i (h : i < L.length), 1 ≤ L[i] ∧ L[i] ≤ 3
theorem Each3.snoc {L : List Int} {x : Int} (h : Each3 L) (h1 : 1 ≤ x) (h2 : x ≤ 3) : Each3 (L ++ [x]) := by
  intro i hi
  rw [List.getElem_append]
  by_cases e : i < L.length
  · rw [dif_pos e]; exact h i e
  · rw [dif_neg e, List.getElem_singleton]; exact ⟨h1, h2⟩
theorem Each3.sz {L : List Int} (h : Each3 L) (h1 : 3 ≤ L.length) (h2 : L.length ≤ 5) : Sz3 L := ⟨⟨by omega, by omega, fun i hi => ⟨(h i hi).1, by have := (h i hi).2; omega⟩⟩, fun i hi => (h i hi).2, h1, h2⟩
theorem new_int (w : World) (u : Int) : IntS (w.alloc (.cells #[.int .i64 u] 3)) (some ⟨w.heap.size, 0, none⟩) [u] := fun k hk => by
  obtain rfl : k = 0 := by simp at hk; omega
  exact ⟨w.heap.size, 0, rfl, by simp, (Boxed.new w _ _).cell⟩

end Go.Proofs.YtmdjhefcohcjhaaGreatDoor


/- Nets: Joint of the document's answer. -/
namespace Go.Proofs.YtmdjhefcohcjhaaGreatDoor
open Go.RowKit Go.Shelf

def allI (n : Nat) : List Int := iL (List.range n)
theorem allI_length (n : Nat) : (allI n).length = n := by simp [allI, iL]
/-- What Joint answers: the error. -/
def jE (V : List Vr) (L : List (List Int)) (R : List (List Fr)) (at_ : List Int) : Int := if netE V L R = 0 then (indexA (iL (sizesN V)) (allI V.length) at_).2 else netE V L R
/-- What Joint answers: the number. -/
def jF (V : List Vr) (L : List (List Int)) (R : List (List Fr)) (at_ : List Int) : Fr := if jE V L R at_ = 0 then qF (prodV V L R (fun u => (toN at_).getD u 0) V.length) else (false, ⟨#[]⟩, ⟨#[]⟩)
theorem index_zero {sizes vars l : List Int} (h : (indexA sizes vars l).2 = 0) : l.length = vars.length ∧ ∀ i, i < vars.length → valB (toN sizes) (toN vars) l i = true := by
  rw [indexA] at h
  by_cases h1 : countB sizes vars = true
  · rw [if_pos h1] at h
    by_cases h2 : l.length = vars.length
    · rw [if_pos h2] at h
      by_cases h3 : (List.range vars.length).all (valB (toN sizes) (toN vars) l) = true
      · exact ⟨h2, fun i hi => List.all_eq_true.1 h3 i (List.mem_range.2 hi)⟩
      · rw [if_neg h3] at h; exact absurd h (by decide)
    · rw [if_neg h2] at h; exact absurd h (by decide)
  · rw [if_neg h1] at h; exact absurd h (by decide)
/-- Values that Index takes are values. -/
theorem at_fit {V : List Vr} {at_ : List Int} (hS : Fine (iL (sizesN V))) (h : (indexA (iL (sizesN V)) (allI V.length) at_).2 = 0) :
    at_.length = V.length ∧ iL (toN at_) = at_ ∧ (∀ u, (toN at_).getD u 0 < sz (sizesN V) u) ∧ ∀ u, u < V.length → (toN at_)[u]? = some ((toN at_).getD u 0) := by
  obtain ⟨h1, h2⟩ := index_zero h
  rw [allI_length] at h1 h2
  have hp := hS.pos
  rw [toN_iL] at hp
  have hv : ∀ i (hi : i < at_.length), 0 ≤ at_[i] ∧ at_[i] < (sz (sizesN V) i : Int) := fun i hi => by
    have := h2 i (by omega)
    rw [valB, decide_eq_true_iff, toN_iL, allI, toN_iL, getD_eq hi, List.getD_eq_getElem?_getD, List.getElem?_range (by omega)] at this
    exact this
  refine ⟨h1, ?_, fun u => ?_, fun u hu => ?_⟩
  · apply List.ext_getElem
    · simp [iL, toN]
    · intro i h3 h4
      have := hv i h4
      simp only [iL, toN, List.getElem_map]
      omega
  · by_cases hu : u < at_.length
    · rw [List.getD_eq_getElem?_getD, List.getElem?_eq_getElem (by rw [toN_length]; exact hu), Option.getD_some, toN_get hu]
      have := hv u hu
      omega
    · rw [List.getD_eq_getElem?_getD, List.getElem?_eq_none (by rw [toN_length]; omega)]
      exact sz_pos hp u
  · rw [List.getD_eq_getElem?_getD, List.getElem?_eq_getElem (by rw [toN_length]; omega)]
    rfl

end Go.Proofs.YtmdjhefcohcjhaaGreatDoor


/- Plain facts on decimal numerals in groups of nine digits. -/
namespace Go.Proofs.YtmdjhefcohcjhaaGreatDoor
open Go

/-- So many digits of a number, noughts ahead and all. -/
def decs : Nat → Nat → List UInt8
  | 0, _ => []
  | j + 1, r => decs j (r / 10) ++ [UInt8.ofNat (48 + r % 10)]
theorem dec_small {u : Nat} (h : u < 10) : Lib.decDigits u = [UInt8.ofNat (48 + u)] := by rw [Lib.decDigits, dif_pos h]
theorem dec_big {u : Nat} (h : ¬ u < 10) : Lib.decDigits u = Lib.decDigits (u / 10) ++ [UInt8.ofNat (48 + u % 10)] := by rw [Lib.decDigits, dif_neg h]
theorem dec_step (q d : Nat) (hq : q ≠ 0) (hd : d < 10) : Lib.decDigits (q * 10 + d) = Lib.decDigits q ++ [UInt8.ofNat (48 + d)] := by
  rw [dec_big (by omega), show (q * 10 + d) / 10 = q by omega, show (q * 10 + d) % 10 = d by omega]
theorem dec_join (j : Nat) : ∀ (q r : Nat), q ≠ 0 → r < 10 ^ j → Lib.decDigits (q * 10 ^ j + r) = Lib.decDigits q ++ decs j r := by
  induction j with
  | zero => intro q r _ hr; rw [Nat.pow_zero] at hr; have : r = 0 := by omega
            subst this; simp [decs]
  | succ j ih =>
    intro q r hq hr
    have hr' : r / 10 < 10 ^ j := Nat.div_lt_of_lt_mul (by rw [Nat.pow_succ] at hr; omega)
    have hne : q * 10 ^ j + r / 10 ≠ 0 := by
      have : 0 < q * 10 ^ j := Nat.mul_pos (Nat.pos_of_ne_zero hq) (Nat.pow_pos (by decide))
      omega
    have e : q * 10 ^ (j + 1) + r = (q * 10 ^ j + r / 10) * 10 + r % 10 := by
      rw [Nat.pow_succ, Nat.add_mul, Nat.mul_assoc]; omega
    rw [e, dec_step _ _ hne (Nat.mod_lt _ (by decide)), ih q (r / 10) hq hr', decs, List.append_assoc]
theorem decs_zero (j : Nat) : decs j 0 = List.replicate j 48 := by
  induction j with
  | zero => rfl
  | succ j ih => rw [decs, Nat.zero_div, ih, List.replicate_succ']; rfl
theorem decs_pad (j : Nat) : ∀ r, r < 10 ^ (j + 1) → decs (j + 1) r = List.replicate (j + 1 - (Lib.decDigits r).length) 48 ++ Lib.decDigits r := by
  induction j with
  | zero => intro r hr; rw [dec_small (by simpa using hr)]; simp [decs, Nat.mod_eq_of_lt (show r < 10 by simpa using hr)]
  | succ j ih =>
    intro r hr
    by_cases h : r < 10
    · rw [dec_small h, decs, Nat.div_eq_of_lt h, decs_zero, Nat.mod_eq_of_lt h]; simp
    · rw [dec_big h, decs, ih (r / 10) (Nat.div_lt_of_lt_mul (by rw [Nat.pow_succ] at hr; omega)), List.append_assoc, List.length_append, List.length_singleton]
      congr 2
      omega

/-- The i-th group. -/
theorem grp_get (i : Nat) : ∀ n, i < (grp n).length → (grp n)[i]? = some (n / G ^ i % G) := by
  induction i with
  | zero =>
    intro n h
    have hn : n ≠ 0 := by rintro rfl; rw [grp_zero] at h; simp at h
    rw [grp_pos n hn, Nat.pow_zero, Nat.div_one]; rfl
  | succ i ih =>
    intro n h
    have hn : n ≠ 0 := by rintro rfl; rw [grp_zero] at h; simp at h
    rw [grp_pos n hn, List.length_cons] at h
    rw [grp_pos n hn, List.getElem?_cons_succ, ih _ (Nat.lt_of_succ_lt_succ h), Nat.div_div_eq_div_mul, Nat.pow_succ, Nat.mul_comm G]
theorem grp_lt_pow (n : Nat) : n < G ^ (grp n).length := by
  induction n using Nat.strongRecOn with
  | ind n ih =>
    by_cases h : n = 0
    · subst h; rw [grp_zero]; simp
    · rw [grp_pos n h, List.length_cons, Nat.pow_succ]
      have := ih _ (div_G_lt h)
      exact (Nat.div_lt_iff_lt_mul G_pos).1 this
theorem grp_top (n : Nat) (h : n ≠ 0) : n / G ^ ((grp n).length - 1) ≠ 0 := by
  induction n using Nat.strongRecOn with
  | ind n ih =>
    rw [grp_pos n h, List.length_cons, Nat.add_sub_cancel]
    by_cases h2 : n / G = 0
    · rw [h2, grp_zero]; simpa using h
    · have hp : 0 < (grp (n / G)).length := List.length_pos_iff.2 (fun e => h2 ((grp_nil_iff _).1 e))
      have := ih _ (div_G_lt h) h2
      rwa [Nat.div_div_eq_div_mul, Nat.mul_comm, ← Nat.pow_succ, Nat.succ_eq_add_one, Nat.sub_add_cancel hp] at this

/-- What Text has written when it has gone through k groups from the highest down. -/
def txt (n k : Nat) : List UInt8 := if k = 0 then [] else Lib.decDigits (n / G ^ ((grp n).length - k))
theorem txt_zero (n : Nat) : txt n 0 = [] := rfl
theorem txt_all (n : Nat) (h : n ≠ 0) : txt n (grp n).length = Lib.decDigits n := by
  have hp : 0 < (grp n).length := List.length_pos_iff.2 (fun e => h ((grp_nil_iff _).1 e))
  rw [txt, if_neg (by omega), Nat.sub_self, Nat.pow_zero, Nat.div_one]
theorem G_pow9 : G = 10 ^ 9 := rfl
theorem txt_succ (n k : Nat) (hk : k < (grp n).length) : txt n (k + 1) = txt n k ++ (if k = 0 then Lib.decDigits ((grp n)[(grp n).length - 1 - k]?.getD 0) else List.replicate (9 - (Lib.decDigits ((grp n)[(grp n).length - 1 - k]?.getD 0)).length) 48 ++ Lib.decDigits ((grp n)[(grp n).length - 1 - k]?.getD 0)) := by
  have hn : n ≠ 0 := by rintro rfl; rw [grp_zero] at hk; simp at hk
  rw [grp_get _ n (by omega), Option.getD_some]
  by_cases h0 : k = 0
  · subst h0
    rw [txt, if_neg (by omega), txt_zero, if_pos rfl, List.nil_append, Nat.sub_zero]
    congr 1
    have hlt := grp_lt_pow n
    rw [Nat.zero_add]
    refine (Nat.mod_eq_of_lt (Nat.div_lt_of_lt_mul ?_)).symm
    rw [← Nat.pow_succ, Nat.succ_eq_add_one, Nat.sub_add_cancel (by omega)]
    exact hlt
  · rw [txt, if_neg (by omega), txt, if_neg h0, if_neg h0]
    obtain ⟨e, he⟩ : ∃ e, e + 1 = (grp n).length - k := ⟨(grp n).length - k - 1, by omega⟩
    have e1 : (grp n).length - (k + 1) = e := by omega
    have e2 : (grp n).length - 1 - k = e := by omega
    rw [e1, e2, ← he]
    have hq : n / G ^ (e + 1) ≠ 0 := by
      intro hz
      have ht := grp_top n hn
      apply ht
      have hle : e + 1 ≤ (grp n).length - 1 := by omega
      obtain ⟨d, hd⟩ : ∃ d, (grp n).length - 1 = (e + 1) + d := ⟨(grp n).length - 1 - (e + 1), by omega⟩
      rw [hd, Nat.pow_add, ← Nat.div_div_eq_div_mul, hz, Nat.zero_div]
    have hs : n / G ^ e = n / G ^ (e + 1) * 10 ^ 9 + n / G ^ e % G := by
      rw [Nat.pow_succ, ← Nat.div_div_eq_div_mul, ← G_pow9]
      exact (Nat.div_add_mod' _ _).symm
    have hr : n / G ^ e % G < 10 ^ (8 + 1) := Nat.mod_lt _ G_pos
    rw [← decs_pad 8 _ hr]
    generalize n / G ^ e % G = r at *
    rw [hs]
    exact dec_join 9 _ r hq hr
theorem txt_len (n k : Nat) (hk : k ≤ (grp n).length) : (txt n k).length ≤ 9 * k := by
  induction k with
  | zero => simp [txt_zero]
  | succ k ih =>
    have hk' : k < (grp n).length := hk
    have ihk := ih (by omega)
    have hx : (grp n)[(grp n).length - 1 - k]?.getD 0 < 10 ^ 9 := by
      rw [grp_get _ n (by omega)]; exact Nat.mod_lt _ G_pos
    generalize hy : (grp n)[(grp n).length - 1 - k]?.getD 0 = y at *
    have hyl : (Lib.decDigits y).length ≤ 9 := by
      have h1 := decs_pad 8 y hx
      have h2 : (decs 9 y).length = 9 := rfl
      rw [h1, List.length_append] at h2
      omega
    rw [txt_succ n k hk', hy, List.length_append]
    split
    · omega
    · rw [List.length_append, List.length_replicate]; omega

end Go.Proofs.YtmdjhefcohcjhaaGreatDoor


/- The document's answer: NatText. -/
namespace Go.Proofs.YtmdjhefcohcjhaaGreatDoor
open Go.RowKit Go.Lib

theorem dec_len (k : Nat) : ∀ n, n < 10 ^ (k + 1) → (decDigits n).length ≤ k + 1 := by
  induction k with
  | zero => intro n h; rw [dec_small (by simpa using h)]; simp
  | succ k ih =>
    intro n h
    by_cases h9 : n < 10
    · rw [dec_small h9]; simp
    · rw [dec_big h9, List.length_append]
      have := ih (n / 10) (by rw [Nat.pow_succ] at h; omega)
      simp
      omega
theorem dec_fits {n k : Nat} (h : n < 256 ^ k) : (decDigits n).length ≤ 3 * k + 1 := by
  apply dec_len
  have h1 : (256 : Nat) ^ k ≤ (10 ^ 3) ^ k := Nat.pow_le_pow_left (by decide) k
  rw [← Nat.pow_mul] at h1
  have h2 : 10 ^ (3 * k) ≤ 10 ^ (3 * k + 1) := Nat.pow_le_pow_right (by decide) (by omega)
  omega
/-- The digits, none of 0. -/
def dg0 (n : Nat) : List UInt8 := if n = 0 then [] else decDigits n
theorem dg0_step {n : Nat} (h : n ≠ 0) : dg0 n = dg0 (n / 10) ++ [UInt8.ofNat (48 + n % 10)] := by
  rw [dg0, if_neg h]
  by_cases h9 : n < 10
  · rw [dec_small h9, dg0, if_pos (by omega), List.nil_append, Nat.mod_eq_of_lt h9]
  · rw [dec_big h9, dg0, if_neg (by omega)]

set_option maxRecDepth 100000 in
set_option maxHeartbeats 1000000 in
theorem rText_any (a : ByteArray) (w : World) (ha : a.size ≤ 500000) :
    Calls Tryz.prog 46 #[.string a] w fun e w' => e = .returned (.string ⟨(decDigits (N a)).toArray⟩) ∧ Below w.heap.size w w' := by
  have HT := hide (rTrim_any a w (by omega))
  have sa := Nat.le_trans (B_size_le a) ha
  have hfit := dec_fits (B_lt (N a))
  generalize hA' : N a = A at *
  clear hA' ha
  by_cases hA0 : A = 0
  · subst hA0
    rw [B_zero] at HT
    have HZ : Hid (decDigits 0 = [48]) := dec_small (by decide)
    rw [HZ.out]
    clear hfit
    go_enter Tryz.func46, Tryz.ntmps46
    go_wp2_with fail
    refine (HT.out).mono ?_
    rintro e w1 ⟨rfl, hw⟩
    subst hw
    go_wp2
    go_ret
    exact ⟨rfl, Below.refl _ _⟩
  · have hne := B_full hA0
    have HDA : Hid (dg0 A = decDigits A) := if_neg hA0
    have hN10 : N ⟨#[10]⟩ = 10 := rfl
    go_enter Tryz.func46, Tryz.ntmps46
    go_wp2_with fail
    refine (HT.out).mono ?_
    rintro e w1 ⟨rfl, hw⟩
    subst hw
    clear HT
    go_wp2
    go_loopg [0, 3] A (fun n va vs wr => ∃ s : ByteArray, va = .string (B n) ∧ vs = .string s ∧ (B n).size ≤ 500000 ∧ Hid (dg0 n ++ s.data.toList = dg0 A) ∧ Below w1.heap.size w1 wr)
    case atStart => exact ⟨⟨#[]⟩, rfl, rfl, sa, (show _ = _ by simp), Below.refl _ _⟩
    case round =>
      obtain ⟨s, rfl, rfl, hn, HS, hBr⟩ := hrel
      clear hne
      by_cases h0 : gk = 0
      · subst h0
        rw [B_zero]
        have HE : Hid (s = ⟨(decDigits A).toArray⟩) := by
          show _ = _
          have := HS.out
          rw [dg0, if_pos rfl, List.nil_append, HDA.out] at this
          apply ByteArray.ext
          apply Array.toList_inj.1
          rw [this]
        go_wp2
        go_ret
        exact ⟨by rw [← HE.out]; rfl, hBr⟩
      · have hne := B_full h0
        have hdv := fun V => rDiv_any (B gk) ⟨#[10]⟩ V hn (by show 1 ≤ _; omega) (by rw [hN10]; decide)
        rw [N_B, hN10] at hdv
        have HD := hide hdv
        have hm10 : gk % 10 < 10 := Nat.mod_lt _ (by decide)
        have hsm : (B (gk % 10)).size ≤ 500000 := Nat.le_trans (sz_mono (Nat.mod_le _ _)) hn
        have hdg := fun V => digit_any (B (gk % 10)) 0 V (by omega) (by omega)
        rw [N_B, Nat.pow_zero, Nat.div_one, Nat.mod_eq_of_lt (show gk % 10 < 256 by omega)] at hdg
        have HG := hide hdg
        have hq := Nat.le_trans (sz_mono (Nat.div_le_self gk 10)) hn
        have hss : s.size ≤ 1500001 := by
          have e := congrArg List.length HS.out
          rw [List.length_append, bytes_len, HDA.out] at e
          omega
        have hlt : gk / 10 < gk := Nat.div_lt_self (Nat.pos_of_ne_zero h0) (by decide)
        have hst := dg0_step h0
        have HS2 : Hid (dg0 (gk / 10) ++ (strOfNums [48 + ((gk % 10 : Nat) : Int)] ++ s).data.toList = dg0 A) := by
          show _ = _
          rw [← HS.out, hst, ByteArray.data_append, Array.toList_append, strOfNums_data, List.append_assoc]
          have this : (48 + ((gk % 10 : Nat) : Int)).toNat = 48 + gk % 10 := by omega
          rw [List.map_cons, List.map_nil, this]
        clear hst hdv hdg hn hsm
        generalize hd' : gk % 10 = d at *
        clear hd'
        have hconv := fun V : World => run_convert_bytes_arg (P := Tryz.prog) (V.alloc (.cells #[.int .u8 (48 + (d : Int))] 5)) 65 5 Tryz.underlying65 Tryz.underlying5 V.heap.size 0 1 1 [48 + (d : Int)] rfl (fun i hi => by
          obtain rfl : i = 0 := by omega
          rw [cell_of_row _ V.heap.size (0 + 0) _ _ (0, 0) (heap_alloc_new _ _)]
          rfl) 9 Tryz.underlying9
        have hs1 : (strOfNums [48 + (d : Int)]).size = 1 := strOfNums_size _
        go_wp2_with fail
        refine (HD.out _).mono ?_
        rintro e w2 ⟨rfl, hb2⟩
        go_wp2_with fail
        refine (HG.out _).mono ?_
        rintro e w3 ⟨rfl, hw3⟩
        subst hw3
        have hconv2 := hconv w3
        clear hconv
        go_wp2
        go_roundg (gk / 10)
        case measure => exact hlt
        case rel => exact ⟨strOfNums [48 + (d : Int)] ++ s, rfl, rfl, hq, HS2.out, (hBr.trans (hb2.mono hBr.size)).alloc (hBr.trans (hb2.mono hBr.size)).size _⟩
end Go.Proofs.YtmdjhefcohcjhaaGreatDoor


/- strconv.FormatUint at base 10, and a strings.Builder's WriteString, at this program. -/
namespace Go.Proofs.YtmdjhefcohcjhaaGreatDoor
open Go.RowKit Go.Sort Go.Lib

theorem WriteString_any (Bb b : Nat) (bs : List Value) (s : ByteArray) (w : World) (h : Lib.IsBuilder 67 5 Bb b bs w) (hlen : bs.length + s.size ≤ 140737488355328) (hBw : Bb ≤ w.heap.size) :
    Calls Tryz.prog 35 #[.pointer (some ⟨b, 0, none⟩), .string s] w fun e w' => e = .returned (.tuple #[.int .i64 s.size, .nilIface]) ∧ (Lib.BuilderAt 67 5 Bb b (.pointer (some ⟨b, 0, none⟩)) (bs ++ Lib.strCells s) w' ∧ Below Bb w w') :=
  Any.Builder_WriteString (ρ := Tryz.lays105_ren) { Tryz.lays105 with } Tryz.Builder_Extra_105 Bb b bs s w h hlen hBw

theorem holds_zero0 (w : World) (T : TypeId) (nd : Nat) (hs : nd ≤ 24) : Holds (fun (b : UInt8) => Value.int .u8 (b.toNat : Int)) (w.alloc (.cells zeros24 T)) w.heap.size 0 (Array.replicate nd (0 : UInt8)) := fun j hj => by
  rw [Array.size_replicate] at hj
  refine ⟨?_, World.frozen?_alloc_new _ _ _ _⟩
  rw [World.cell?_alloc_new, zeros24_at (0 + j) (by omega)]
  simp [hj]

theorem below_putRow {w : World} (o : Obj) (off k : Nat) (dk : Array UInt8) : Below w.heap.size w ((putRow (fun (b : UInt8) => Value.int .u8 (b.toNat : Int)) (w.alloc o) w.heap.size off dk).drewN k) := by
  refine ⟨rfl, rfl, rfl, ?_, fun i hi => ?_⟩
  · show w.heap.size ≤ ((w.heap.push o).modify _ _).size
    simp
  · show ((w.heap.push o).modify _ _)[i]? = _
    rw [Array.getElem?_modify, if_neg (by omega), Array.getElem?_push, if_neg (by omega)]

set_option maxRecDepth 100000 in
set_option maxHeartbeats 2000000 in
theorem iFormatUint_any (u : Nat) (w : World) (hu64 : u < 18446744073709551616) (htab : Lib.TabIs Tryz.prog w "internal/strconv.uint64pow10" .u64 Lib.pow10Tab) :
    Calls Tryz.prog 122 #[.int .u64 u, .int .i64 10] w fun e w' => e = .returned (.string ⟨(Lib.decDigits u).toArray⟩) ∧ Below w.heap.size w w' := by
  by_cases hs : u < 100
  · go_enter Tryz.func122, Tryz.ntmps122
    go_wp2_with (go_at_call 140; refine (Tryz.internal_strconv_small u hs _).mono ?_; rintro e w' ⟨rfl, rfl⟩)
    go_ret
    exact ⟨rfl, Below.refl _ _⟩
  · have hu1 : 1 ≤ u := by omega
    have hnd20 : Lib.nDigits u ≤ 20 := by have := Lib.numDigits_eq u hu1 hu64; split at this <;> omega
    have hal : Tryz.prog.arrayLen 157 = 24 := by simp [Program.arrayLen, Tryz.underlying157]
    have hsl1 : ∀ V, (Instr.sliceAt 157 (.pointer (some ⟨w.heap.size, 0, none⟩)) none (some (.int .i64 (Lib.nDigits u : Int))) none).run Tryz.prog V = .ok (.slice (some ⟨w.heap.size, 0, none⟩) (Lib.nDigits u) 24) V := fun V => by
      rw [run_sliceAt_array_h V 157 ⟨w.heap.size, 0, none⟩ (by simp [Program.arrayLen, Program.elem, Tryz.underlying157]) .i64 (Lib.nDigits u : Int) (by omega) (by rw [hal]; omega)]
      go_simp
    have hH0 := holds_zero0 w 157 (Lib.nDigits u) (by omega)
    have hfmt := Tryz.internal_strconv_formatBase10 w.heap.size 0 24 u (Array.replicate (Lib.nDigits u) 0) (w.alloc (.cells Lib.zeros24 157)) hH0 (by rw [Array.size_replicate]; exact Lib.lt_pow_nDigits u) hu64 (by rw [Array.size_replicate]; omega)
    rw [Array.size_replicate] at hfmt
    have HH0 := Lib.hid hH0
    clear hH0 hal
    go_enter Tryz.func122, Tryz.ntmps122
    go_wp2_with (first
      | (go_at_call 141; refine (Tryz.internal_strconv_numDigits u hu1 hu64 _ (Lib.tabIs_alloc htab _)).mono ?_; rintro e w' ⟨rfl, rfl⟩))
    refine hfmt.mono ?_
    rintro e w' ⟨rfl, k, v', dk, rfl, hF⟩
    have hcv : (convert 65 9 (.slice (some ⟨w.heap.size, 0, none⟩) (Lib.nDigits u) 24)).run Tryz.prog ((putRow (fun (b : UInt8) => Value.int .u8 (b.toNat : Int)) (w.alloc (.cells Lib.zeros24 157)) w.heap.size 0 dk).drewN k) = .ok (.string ⟨(Lib.decDigits u).toArray⟩) ((putRow (fun (b : UInt8) => Value.int .u8 (b.toNat : Int)) (w.alloc (.cells Lib.zeros24 157)) w.heap.size 0 dk).drewN k) := by
      have h := run_convert_bytes_back (P := Tryz.prog) ((putRow (fun (b : UInt8) => Value.int .u8 (b.toNat : Int)) (w.alloc (.cells Lib.zeros24 157)) w.heap.size 0 dk).drewN k) 65 9 5 ⟨w.heap.size, 0, none⟩ 24 (Lib.decDigits u) Tryz.underlying65 Tryz.underlying5 Tryz.underlying9 (fun j hj => by
        rw [Lib.row_is_numeral hF j hj, Lib.add_plain, World.cell?_drewN]
        exact cell?_putRow (fun (b : UInt8) => Value.int .u8 (b.toNat : Int)) _ w.heap.size 0 _ dk HH0.out (by rw [hF.size, Array.size_replicate]) j (by rw [hF.size]; rw [Lib.decDigits_length] at hj; exact hj))
      rw [Lib.decDigits_length] at h
      exact h
    go_wp2
    go_ret
    exact ⟨rfl, below_putRow _ _ _ _⟩

set_option maxHeartbeats 400000 in
theorem FormatUint_any (u : Nat) (w : World) (hu64 : u < 18446744073709551616) (htab : Lib.TabIs Tryz.prog w "internal/strconv.uint64pow10" .u64 Lib.pow10Tab) :
    Calls Tryz.prog 95 #[.int .u64 u, .int .i64 10] w fun e w' => e = .returned (.string ⟨(Lib.decDigits u).toArray⟩) ∧ Below w.heap.size w w' := by
  go_enter Tryz.func95, Tryz.ntmps95
  go_wp2_with (go_at_call 122; refine (iFormatUint_any u _ hu64 htab).mono ?_; rintro e w1 ⟨rfl, hb⟩)
  go_ret
  exact ⟨rfl, hb⟩
end Go.Proofs.YtmdjhefcohcjhaaGreatDoor

