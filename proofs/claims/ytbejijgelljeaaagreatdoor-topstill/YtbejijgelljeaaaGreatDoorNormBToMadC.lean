/- Package table: Norm. -/
import Derived.Test.YtbejijgelljeaaaGreatDoorFillBToHidQ
import Derived.Test.YtbejijgelljeaaaGreatDoorHidBToNormA
import Derived.Test.YtbejijgelljeaaaGreatDoorDicPToTabP3
import Derived.Test.YtbejijgelljeaaaGreatDoorStepsAToFillA
import Derived.Laws.EntriesVeiled
import Derived.Test.YtbejijgelljeaaaGreatDoorRefQToSumA
import Derived.Test.YtbejijgelljeaaaGreatDoorCore1ToNumD
import Derived.Lib.ItoaNum
import Derived.Test.YtbejijgelljeaaaGreatDoorRefEToNumR
import Derived.Test.YtbejijgelljeaaaGreatDoorDivBToRefC
import Derived.Deep.QuietTactic
import Derived.BigQuiet
namespace Go.Proofs.YtbejijgelljeaaaGreatDoor
open Go.RowKit Go.Shelf

theorem normL_length (l : List Fr) : (normL l).length = l.length := by simp [normL]
theorem normL_get (l : List Fr) {k : Nat} (h : k < (normL l).length) : (normL l)[k] = qF (frQ (l[k]'(by rw [normL_length] at h; exact h)) * (1 / fsum l)) := by simp [normL]
theorem qw_inv {q : Rat} (h : q ≠ 0) : qw (1 / q) ≤ qw q + 1 := by
  have e : val (sgn q) (nu q) (de q) ≠ 0 := by rw [val_own]; exact h
  have h0 := fun h => e (val_zero_iff.2 h)
  have e1 : 1 / q = val (sgn q) (de q) (nu q) := by rw [val_inv _ _ _ (fun h => h0 (.inl h)) (fun h => h0 (.inr h)), val_own, Rat.div_def, Rat.one_mul]
  rw [e1]
  refine Nat.le_trans (qw_val _ _ _) ?_
  show (B q.den).size + (B q.num.natAbs).size + 1 ≤ qw q + 1
  rw [qw]
  omega
theorem qw_sum {l : List Fr} (h : fw l ≤ 10000) : qw (fsum l) ≤ 20002 := by have := fits_qw (fits_sum l); omega

end Go.Proofs.YtbejijgelljeaaaGreatDoor


/- The document's answer: Norm. -/
namespace Go.Proofs.YtbejijgelljeaaaGreatDoor
open Go.RowKit Go.Shelf

end Go.Proofs.YtbejijgelljeaaaGreatDoor


/- The document's answer: Product. -/
namespace Go.Proofs.YtbejijgelljeaaaGreatDoor
open Go.RowKit Go.Shelf

/-- The variables so far. -/
def bothI (a b : List Int) (i : Nat) : List Int := iL (bothN i a b)
theorem bothI_succ (a b : List Int) (i : Nat) : bothI a b (i + 1) = bothI a b i ++ if (inB (i : Int) a || inB (i : Int) b) = true then [(i : Int)] else [] := by
  rw [bothI, bothI, bothN, bothN, List.range_succ, List.filter_append, iL, iL, List.map_append]
  congr 1
  by_cases h : (inB (i : Int) a || inB (i : Int) b) = true
  · simp only [List.filter_cons, h, List.filter_nil, if_true, List.map_cons, List.map_nil]
  · simp only [List.filter_cons, h, List.filter_nil]
    rfl
theorem bothI_len (a b : List Int) (i : Nat) : (bothI a b i).length ≤ i := by
  rw [bothI, iL_length]
  exact Nat.le_trans (List.length_filter_le _ _) (by rw [List.length_range]; exact Nat.le_refl _)
theorem RwI.off {w : World} {B : Nat} {v : Value} {l : List Int} (h : RwI w B v l) (b j : Nat) (y : Value) (hb : b < B) : RwI (w.setCell ⟨b, j, none⟩ y) B v l := by
  refine ⟨h.1, h.2.imp id ?_⟩
  rintro ⟨g, cap, cur, h1, h2, h3, h4⟩
  exact ⟨g, cap, cur, h1, h2, (Below.heap_setCell w ⟨b, j, none⟩ y g (by show g ≠ b; omega)).trans h3, h4⟩
theorem RwI.below {w w' : World} {B : Nat} {v : Value} {l : List Int} (h : RwI w B v l) (hb : Below w.heap.size w w') : RwI w' B v l := by
  refine ⟨h.1, h.2.imp id ?_⟩
  rintro ⟨g, cap, cur, h1, h2, h3, h4⟩
  exact ⟨g, cap, cur, h1, h2, (hb.block g (Array.getElem?_eq_some_iff.1 h3).1).trans h3, h4⟩
theorem RwI.slv {w : World} {B : Nat} {v : Value} {l : List Int} (h : RwI w B v l) : SlV v := by
  obtain ⟨d, cd, e, _⟩ := h.ints
  exact ⟨d, _, cd, e⟩
theorem RwI.intS {w : World} {B : Nat} {d : Option Addr} {cd : Nat} {U : List Int} (h : RwI w B (.slice d U.length cd) U) : IntS w d U := by
  obtain ⟨d', cd', e, hi⟩ := h.ints
  cases e
  exact hi

end Go.Proofs.YtbejijgelljeaaaGreatDoor


/- The law's raw numbers: Pick, sizesOf, All, Some, Less. -/
namespace Go.Proofs.YtbejijgelljeaaaGreatDoor
open Go.RowKit Go.Shelf

/-- A number below n, of any number. -/
def pickN (c : Int) (n : Nat) : Nat := (if c < 0 then (-(c + 1)).toNat else c.toNat) % n
theorem pickN_lt (c : Int) {n : Nat} (h : 1 ≤ n) : pickN c n < n := Nat.mod_lt _ h

set_option maxRecDepth 100000 in
set_option maxHeartbeats 1000000 in
theorem rPick_same (c : Int) (n : Nat) (w : World) (h1 : -9223372036854775808 ≤ c) (h2 : c ≤ 9223372036854775807) (hn : 1 ≤ n) (hn' : n ≤ 1000) :
    Calls Tryz.prog 7 #[.int .i64 c, .int .i64 (n : Nat)] w fun e w' => e = .returned (.int .i64 (pickN c n : Nat)) ∧ w' = w := by
  have HP : Hid (pickN c n = (if c < 0 then (-(c + 1)).toNat else c.toNat) % n) := rfl
  have hlt := pickN_lt c hn
  generalize pickN c n = P at *
  by_cases hc : c < 0
  · rw [if_pos hc] at HP
    obtain ⟨d, hd⟩ : ∃ d : Nat, c = -((d : Int) + 1) := ⟨(-(c + 1)).toNat, by omega⟩
    subst hd
    have HE : Hid ((d : Int) % (n : Int) = (P : Int)) := by
      show _ = _
      rw [HP.out, show (-(-((d : Int) + 1) + 1)).toNat = d by omega, Int.natCast_emod]
    have hw : IntKind.i64.wrap (-((d : Int) + 1) + 1) = -(d : Int) := by rw [IntKind.wrap_i64]; omega
    have hw2 : IntKind.i64.wrap (- -(d : Int)) = (d : Int) := by rw [IntKind.wrap_i64]; omega
    go_enter Tryz.func7, Tryz.ntmps7
    go_wp2
    go_ret
    exact ⟨by rw [HE.out]; rfl, rfl⟩
  · rw [if_neg hc] at HP
    obtain ⟨d, rfl⟩ : ∃ d : Nat, c = d := ⟨c.toNat, by omega⟩
    have HE : Hid ((d : Int) % (n : Int) = (P : Int)) := by
      show _ = _
      rw [HP.out, Int.toNat_natCast, Int.natCast_emod]
    go_enter Tryz.func7, Tryz.ntmps7
    go_wp2
    go_ret
    exact ⟨by rw [HE.out]; rfl, rfl⟩
theorem rPick_any (c : Int) (n : Nat) (w : World) (h1 : -9223372036854775808 ≤ c) (h2 : c ≤ 9223372036854775807) (hn : 1 ≤ n) (hn' : n ≤ 1000) :
    Calls Tryz.prog 7 #[.int .i64 c, .int .i64 (n : Nat)] w fun e w' => e = .returned (.int .i64 (pickN c n : Nat)) ∧ Below w.heap.size w w' := by
  refine (rPick_same c n w h1 h2 hn hn').mono ?_
  rintro e w' ⟨h, rfl⟩
  exact ⟨h, Below.refl _ _⟩

/-- Sizes so far. -/
def Each3 (L : List Int) : Prop := ∀ i (h : i < L.length), 1 ≤ L[i] ∧ L[i] ≤ 3
theorem Each3.snoc {L : List Int} {x : Int} (h : Each3 L) (h1 : 1 ≤ x) (h2 : x ≤ 3) : Each3 (L ++ [x]) := by
  intro i hi
  rw [List.getElem_append]
  by_cases e : i < L.length
  · rw [dif_pos e]; exact h i e
  · rw [dif_neg e, List.getElem_singleton]; exact ⟨h1, h2⟩
theorem Each3.sz {L : List Int} (h : Each3 L) (h1 : 3 ≤ L.length) (h2 : L.length ≤ 5) : Sz3 L := ⟨⟨by omega, by omega, fun i hi => ⟨(h i hi).1, by have := (h i hi).2; omega⟩⟩, fun i hi => (h i hi).2, h1, h2⟩
theorem new_int (w : World) (u : Int) : IntS (w.alloc (.cells #[.int .i64 u] 3)) (some ⟨w.heap.size, 0, none⟩) [u] := fun k hk => by
  obtain rfl : k = 0 := by simp at hk; omega
  exact ⟨w.heap.size, 0, rfl, by simp, (Boxed.new w _ _).cell⟩

end Go.Proofs.YtbejijgelljeaaaGreatDoor


/- Package table: Best. -/
namespace Go.Proofs.YtbejijgelljeaaaGreatDoor
open Go.RowKit Go.Shelf

end Go.Proofs.YtbejijgelljeaaaGreatDoor


/- The law's comparison of two answers beside errors. -/
namespace Go.Proofs.YtbejijgelljeaaaGreatDoor
open Go.RowKit

end Go.Proofs.YtbejijgelljeaaaGreatDoor


/- The law's small functions on tables. -/
namespace Go.Proofs.YtbejijgelljeaaaGreatDoor
open Go.RowKit Go.Shelf

set_option maxRecDepth 100000 in
set_option maxHeartbeats 400000 in
theorem sameFracs_any (a b : Option Addr) (ca cb : Nat) (l : List Fr) (w : World) (ha : FrS w a l) (hb : FrS w b l) (hn : l.length ≤ 100000) :
    Calls Tryz.prog 25 #[.slice a l.length ca, .slice b l.length cb] w fun e w' => e = .returned (.bool true) ∧ Below w.heap.size w w' := by
  have HA := hid ha
  have HB := hid hb
  clear ha hb
  go_enter Tryz.func25, Tryz.ntmps25
  go_wp2_with fail
  go_loopw [5] (fun iv wr => ∃ i : Nat, i ≤ l.length ∧ iv = .int .i64 i ∧ Hid (Below w.heap.size w wr)) (fun iv _ => l.length - (intOf iv).toNat)
  case atStart => exact ⟨0, Nat.zero_le _, rfl, Below.refl _ _⟩
  case round =>
    obtain ⟨i, hi, rfl, HW⟩ := hrel
    by_cases hlt : i < l.length
    · obtain ⟨g, o, rfl, hg, a0, a1, a2⟩ := (HA.out.below HW.out) i hlt
      obtain ⟨g2, o2, rfl, hg2, b0, b1, b2⟩ := (HB.out.below HW.out) i hlt
      generalize l[i] = f at *
      obtain ⟨fn, fx, fy⟩ := f
      simp only at a0 a1 a2 b0 b1 b2
      go_wp2_with fail
      go_quiet (fail)
      go_wp2
      go_roundw
      case rel => exact ⟨i + 1, by omega, by go_num, below_dn HW.out _⟩
      case measure => simp [intOf]; omega
    · obtain rfl : i = l.length := by omega
      go_wp2
      go_ret
      exact ⟨rfl, HW.out⟩

end Go.Proofs.YtbejijgelljeaaaGreatDoor


/- Both answer alike: each call on tables, in package table and in the document's answer. -/
namespace Go.Proofs.YtbejijgelljeaaaGreatDoor
open Go.RowKit Go.Shelf

/-- Both answer the same table and error. -/
def TwoT (w : World) (f g : FuncId) (args : Array Value) : Prop := ∃ (V : List Int) (L : List Fr) (k : Int), V.length ≤ 100000 ∧ L.length ≤ 100000 ∧
  (∀ W, Below w.heap.size w W → Calls Tryz.prog f args W fun e w' => TabA V L k e w' ∧ Below W.heap.size W w') ∧ ∀ W, Below w.heap.size w W → Calls Tryz.prog g args W fun e w' => TabA V L k e w' ∧ Below W.heap.size W w'
/-- A table that came in. -/
structure TIn (w : World) (b c : Option Addr) (cb : Nat) (vars : List Int) (l : List Fr) : Prop where
  ints : IntS w b vars
  cells : FrS w c l
  nil : b = none → cb = 0
  len : vars.length ≤ 4096
  small : fw l ≤ 8192
theorem TIn.below {w w' : World} {b c : Option Addr} {cb : Nat} {vars : List Int} {l : List Fr} (h : TIn w b c cb vars l) (hb : Below w.heap.size w w') : TIn w' b c cb vars l := ⟨h.ints.below hb, h.cells.below hb, h.nil, h.len, h.small⟩
theorem cnt_all {sizes vars : List Int} (h1 : Fine sizes) (h2 : Up vars sizes.length) : cnt (toN sizes) (toN vars) ≤ 65536 := cnt_small h1.sz_le (by rw [toN_length]; have := h1.eight; have := h2.length; omega)
end Go.Proofs.YtbejijgelljeaaaGreatDoor


/- The law's raw numbers: tableOf. -/
namespace Go.Proofs.YtbejijgelljeaaaGreatDoor
open Go.RowKit Go.Shelf

theorem wp_append_fr {w : World} {o : Oper} {a : Act} {K : Act → World → Prop} {Q : Exit → Act → World → Prop} (s x : Operand)
    (ho : o.op = .call { callee := .builtin .append, args := #[s, x], argTypes := #[27, 27] }) (base : Nat) (v : Value) (l : List Fr) (f : Fr) (hs : a.eval s = v) (hown : RwF w base v l) (g : Nat) (hx : a.eval x = .slice (some ⟨g, 0, none⟩) 1 1) (hg : Box w g f.1 f.2.1 f.2.2) (hlen : l.length + 1 ≤ 100000) (hbase : base ≤ w.heap.size)
    (h : ∀ v' w', RwF w' base v' (l ++ [f]) → w.grownBy w' v.ownBlock → K (a.put o.dst v') w') : o.wp Tryz.prog a w K Q := by
  obtain ⟨i0, hi0, hz0, hz1, hz2⟩ := info_parts Tryz.infoFrac
  refine wp_append_own _ s x 27 ho base 33 i0 (.agg #[.bool false, .string ⟨#[]⟩, .string ⟨#[]⟩]) 3 40 Tryz.underlying27 hi0 hz0 hz1 hz2 rfl (by decide) v l.length _ hs hown ⟨g, 0, none⟩ 1 1 [.bool f.1, .string f.2.1, .string f.2.2] hx rfl ?_ ?_ (by unfold maxLen; omega) (by omega) hbase ?_
  · intro j u hj
    match j, hj with
    | 0, hj => cases hj; exact hg.c0
    | 1, hj => cases hj; exact hg.c1
    | 2, hj => cases hj; exact hg.c2
    | j + 3, hj => simp at hj
  · intro u hu
    simp only [List.mem_cons, List.not_mem_nil, or_false] at hu
    rcases hu with rfl | rfl | rfl <;> rfl
  · intro v' w' h1 h2 _
    refine h v' w' ?_ h2
    rw [RwF, List.length_append, frC_snoc]
    exact h1
theorem mkRat_int (k : Int) : mkRat k 1 = (k : Rat) := by
  rw [Rat.mkRat_one]
theorem rOf_q (k : Int) (w : World) (hk : k.natAbs ≤ 255) : Calls Tryz.prog 11 #[.int .i64 k] w fun e w' => ∃ f : Fr, e = .returned (frV f) ∧ (∃ q, f = qF q ∧ qw q ≤ 2) ∧ Below w.heap.size w w' := by
  refine (rOfF_any k w (by omega) (by omega)).mono ?_
  rintro e w' ⟨rfl, hb⟩
  rw [mkRat_int]
  exact ⟨qF (k : Rat), rfl, ⟨_, rfl, int_size hk⟩, hb⟩
theorem Sml.snoc {s : Nat} {l : List Fr} {f : Fr} (h : Sml s l) (hf : ∃ q, f = qF q ∧ qw q ≤ s) : Sml s (l ++ [f]) := fun g hg => (List.mem_append.1 hg).elim (h g) fun e => by rw [List.mem_singleton.1 e]; exact hf


end Go.Proofs.YtbejijgelljeaaaGreatDoor


/- Plain facts on decimal numerals in groups of nine digits. -/
namespace Go.Proofs.YtbejijgelljeaaaGreatDoor
open Go

/-- So many digits of a number, noughts ahead and all. -/
def decs : Nat → Nat → List UInt8
  | 0, _ => []
  | j + 1, r => decs j (r / 10) ++ [UInt8.ofNat (48 + r % 10)]
theorem dec_small {u : Nat} (h : u < 10) : Lib.decDigits u = [UInt8.ofNat (48 + u)] := by rw [Lib.decDigits, dif_pos h]
theorem dec_big {u : Nat} (h : ¬ u < 10) : Lib.decDigits u = Lib.decDigits (u / 10) ++ [UInt8.ofNat (48 + u % 10)] := by rw [Lib.decDigits, dif_neg h]
theorem dec_step (q d : Nat) (hq : q ≠ 0) (hd : d < 10) : Lib.decDigits (q * 10 + d) = Lib.decDigits q ++ [UInt8.ofNat (48 + d)] := by
  rw [dec_big (by omega), show (q * 10 + d) / 10 = q by omega, show (q * 10 + d) % 10 = d by omega]
theorem dec_join (j : Nat) : ∀ (q r : Nat), q ≠ 0 → r < 10 ^ j → Lib.decDigits (q * 10 ^ j + r) = Lib.decDigits q ++ decs j r := by
  induction j with
  | zero => intro q r _ hr; rw [Nat.pow_zero] at hr; have : r = 0 := by omega
            subst this; simp [decs]
  | succ j ih =>
    intro q r hq hr
    have hr' : r / 10 < 10 ^ j := Nat.div_lt_of_lt_mul (by rw [Nat.pow_succ] at hr; omega)
    have hne : q * 10 ^ j + r / 10 ≠ 0 := by
      have : 0 < q * 10 ^ j := Nat.mul_pos (Nat.pos_of_ne_zero hq) (Nat.pow_pos (by decide))
      omega
    have e : q * 10 ^ (j + 1) + r = (q * 10 ^ j + r / 10) * 10 + r % 10 := by
      rw [Nat.pow_succ, Nat.add_mul, Nat.mul_assoc]; omega
    rw [e, dec_step _ _ hne (Nat.mod_lt _ (by decide)), ih q (r / 10) hq hr', decs, List.append_assoc]
theorem decs_zero (j : Nat) : decs j 0 = List.replicate j 48 := by
  induction j with
  | zero => rfl
  | succ j ih => rw [decs, Nat.zero_div, ih, List.replicate_succ']; rfl
theorem decs_pad (j : Nat) : ∀ r, r < 10 ^ (j + 1) → decs (j + 1) r = List.replicate (j + 1 - (Lib.decDigits r).length) 48 ++ Lib.decDigits r := by
  induction j with
  | zero => intro r hr; rw [dec_small (by simpa using hr)]; simp [decs, Nat.mod_eq_of_lt (show r < 10 by simpa using hr)]
  | succ j ih =>
    intro r hr
    by_cases h : r < 10
    · rw [dec_small h, decs, Nat.div_eq_of_lt h, decs_zero, Nat.mod_eq_of_lt h]; simp
    · rw [dec_big h, decs, ih (r / 10) (Nat.div_lt_of_lt_mul (by rw [Nat.pow_succ] at hr; omega)), List.append_assoc, List.length_append, List.length_singleton]
      congr 2
      omega

/-- The i-th group. -/
theorem grp_get (i : Nat) : ∀ n, i < (grp n).length → (grp n)[i]? = some (n / G ^ i % G) := by
  induction i with
  | zero =>
    intro n h
    have hn : n ≠ 0 := by rintro rfl; rw [grp_zero] at h; simp at h
    rw [grp_pos n hn, Nat.pow_zero, Nat.div_one]; rfl
  | succ i ih =>
    intro n h
    have hn : n ≠ 0 := by rintro rfl; rw [grp_zero] at h; simp at h
    rw [grp_pos n hn, List.length_cons] at h
    rw [grp_pos n hn, List.getElem?_cons_succ, ih _ (Nat.lt_of_succ_lt_succ h), Nat.div_div_eq_div_mul, Nat.pow_succ, Nat.mul_comm G]
theorem grp_lt_pow (n : Nat) : n < G ^ (grp n).length := by
  induction n using Nat.strongRecOn with
  | ind n ih =>
    by_cases h : n = 0
    · subst h; rw [grp_zero]; simp
    · rw [grp_pos n h, List.length_cons, Nat.pow_succ]
      have := ih _ (div_G_lt h)
      exact (Nat.div_lt_iff_lt_mul G_pos).1 this
theorem grp_top (n : Nat) (h : n ≠ 0) : n / G ^ ((grp n).length - 1) ≠ 0 := by
  induction n using Nat.strongRecOn with
  | ind n ih =>
    rw [grp_pos n h, List.length_cons, Nat.add_sub_cancel]
    by_cases h2 : n / G = 0
    · rw [h2, grp_zero]; simpa using h
    · have hp : 0 < (grp (n / G)).length := List.length_pos_iff.2 (fun e => h2 ((grp_nil_iff _).1 e))
      have := ih _ (div_G_lt h) h2
      rwa [Nat.div_div_eq_div_mul, Nat.mul_comm, ← Nat.pow_succ, Nat.succ_eq_add_one, Nat.sub_add_cancel hp] at this

/-- What Text has written when it has gone through k groups from the highest down. -/
def txt (n k : Nat) : List UInt8 := if k = 0 then [] else Lib.decDigits (n / G ^ ((grp n).length - k))
theorem txt_zero (n : Nat) : txt n 0 = [] := rfl
theorem txt_all (n : Nat) (h : n ≠ 0) : txt n (grp n).length = Lib.decDigits n := by
  have hp : 0 < (grp n).length := List.length_pos_iff.2 (fun e => h ((grp_nil_iff _).1 e))
  rw [txt, if_neg (by omega), Nat.sub_self, Nat.pow_zero, Nat.div_one]
theorem G_pow9 : G = 10 ^ 9 := rfl
theorem txt_succ (n k : Nat) (hk : k < (grp n).length) : txt n (k + 1) = txt n k ++ (if k = 0 then Lib.decDigits ((grp n)[(grp n).length - 1 - k]?.getD 0) else List.replicate (9 - (Lib.decDigits ((grp n)[(grp n).length - 1 - k]?.getD 0)).length) 48 ++ Lib.decDigits ((grp n)[(grp n).length - 1 - k]?.getD 0)) := by
  have hn : n ≠ 0 := by rintro rfl; rw [grp_zero] at hk; simp at hk
  rw [grp_get _ n (by omega), Option.getD_some]
  by_cases h0 : k = 0
  · subst h0
    rw [txt, if_neg (by omega), txt_zero, if_pos rfl, List.nil_append, Nat.sub_zero]
    congr 1
    have hlt := grp_lt_pow n
    rw [Nat.zero_add]
    refine (Nat.mod_eq_of_lt (Nat.div_lt_of_lt_mul ?_)).symm
    rw [← Nat.pow_succ, Nat.succ_eq_add_one, Nat.sub_add_cancel (by omega)]
    exact hlt
  · rw [txt, if_neg (by omega), txt, if_neg h0, if_neg h0]
    obtain ⟨e, he⟩ : ∃ e, e + 1 = (grp n).length - k := ⟨(grp n).length - k - 1, by omega⟩
    have e1 : (grp n).length - (k + 1) = e := by omega
    have e2 : (grp n).length - 1 - k = e := by omega
    rw [e1, e2, ← he]
    have hq : n / G ^ (e + 1) ≠ 0 := by
      intro hz
      have ht := grp_top n hn
      apply ht
      have hle : e + 1 ≤ (grp n).length - 1 := by omega
      obtain ⟨d, hd⟩ : ∃ d, (grp n).length - 1 = (e + 1) + d := ⟨(grp n).length - 1 - (e + 1), by omega⟩
      rw [hd, Nat.pow_add, ← Nat.div_div_eq_div_mul, hz, Nat.zero_div]
    have hs : n / G ^ e = n / G ^ (e + 1) * 10 ^ 9 + n / G ^ e % G := by
      rw [Nat.pow_succ, ← Nat.div_div_eq_div_mul, ← G_pow9]
      exact (Nat.div_add_mod' _ _).symm
    have hr : n / G ^ e % G < 10 ^ (8 + 1) := Nat.mod_lt _ G_pos
    rw [← decs_pad 8 _ hr]
    generalize n / G ^ e % G = r at *
    rw [hs]
    exact dec_join 9 _ r hq hr
theorem txt_len (n k : Nat) (hk : k ≤ (grp n).length) : (txt n k).length ≤ 9 * k := by
  induction k with
  | zero => simp [txt_zero]
  | succ k ih =>
    have hk' : k < (grp n).length := hk
    have ihk := ih (by omega)
    have hx : (grp n)[(grp n).length - 1 - k]?.getD 0 < 10 ^ 9 := by
      rw [grp_get _ n (by omega)]; exact Nat.mod_lt _ G_pos
    generalize hy : (grp n)[(grp n).length - 1 - k]?.getD 0 = y at *
    have hyl : (Lib.decDigits y).length ≤ 9 := by
      have h1 := decs_pad 8 y hx
      have h2 : (decs 9 y).length = 9 := rfl
      rw [h1, List.length_append] at h2
      omega
    rw [txt_succ n k hk', hy, List.length_append]
    split
    · omega
    · rw [List.length_append, List.length_replicate]; omega

end Go.Proofs.YtbejijgelljeaaaGreatDoor


/- The document's answer: NatText. -/
namespace Go.Proofs.YtbejijgelljeaaaGreatDoor
open Go.RowKit Go.Lib

theorem dec_len (k : Nat) : ∀ n, n < 10 ^ (k + 1) → (decDigits n).length ≤ k + 1 := by
  induction k with
  | zero => intro n h; rw [dec_small (by simpa using h)]; simp
  | succ k ih =>
    intro n h
    by_cases h9 : n < 10
    · rw [dec_small h9]; simp
    · rw [dec_big h9, List.length_append]
      have := ih (n / 10) (by rw [Nat.pow_succ] at h; omega)
      simp
      omega
theorem dec_fits {n k : Nat} (h : n < 256 ^ k) : (decDigits n).length ≤ 3 * k + 1 := by
  apply dec_len
  have h1 : (256 : Nat) ^ k ≤ (10 ^ 3) ^ k := Nat.pow_le_pow_left (by decide) k
  rw [← Nat.pow_mul] at h1
  have h2 : 10 ^ (3 * k) ≤ 10 ^ (3 * k + 1) := Nat.pow_le_pow_right (by decide) (by omega)
  omega
/-- The digits, none of 0. -/
def dg0 (n : Nat) : List UInt8 := if n = 0 then [] else decDigits n
theorem dg0_step {n : Nat} (h : n ≠ 0) : dg0 n = dg0 (n / 10) ++ [UInt8.ofNat (48 + n % 10)] := by
  rw [dg0, if_neg h]
  by_cases h9 : n < 10
  · rw [dec_small h9, dg0, if_pos (by omega), List.nil_append, Nat.mod_eq_of_lt h9]
  · rw [dec_big h9, dg0, if_neg (by omega)]

end Go.Proofs.YtbejijgelljeaaaGreatDoor


/- The document's answer: names of values, and rows of raw weights. -/
namespace Go.Proofs.YtbejijgelljeaaaGreatDoor
open Go.RowKit Go.Shelf Go.Lib

/-- A number's text. -/
def dgB (i : Nat) : ByteArray := ⟨(decDigits i).toArray⟩
theorem dgB_size {i : Nat} (h : i < 10) : (dgB i).size = 1 := by
  rw [dgB, dec_small h]
  rfl
/-- A letter, and a number's text. -/
abbrev nmB (c : UInt8) (i : Nat) : ByteArray := ⟨#[c]⟩ ++ dgB i
/-- What values are called. -/
def valsN (k : Nat) : List ByteArray := (List.range k).map (nmB 118)
theorem valsN_succ (k : Nat) : valsN (k + 1) = valsN k ++ [nmB 118 k] := by simp [valsN, List.range_succ]
theorem valsN_length (k : Nat) : (valsN k).length = k := by simp [valsN]
theorem rNumText (i : Nat) (w : World) (hi : i ≤ 1000) : Calls Tryz.prog 37 #[.int .i64 (i : Nat)] w fun e w' => e = .returned (.string (B i)) ∧ Below w.heap.size w w' := by
  have := rOf_any (i : Int) w (by omega) (by omega)
  rwa [Int.toNat_natCast] at this
/-- A row of raw weights. -/
def rawF (Ls : List Nat) : List Fr := Ls.map fun a : Nat => qF ((a : Rat) / (Ls.sum : Rat))
theorem rawF_length (Ls : List Nat) : (rawF Ls).length = Ls.length := by simp [rawF]
theorem qw_nat {n : Nat} (h : n < 256) : qw (n : Rat) ≤ 2 := by
  have h1 : (n : Rat).num.natAbs = n := by simp
  have h2 : (n : Rat).den = 1 := rfl
  rw [qw, h1, h2, B_size, B_size]
  have h3 := bn_fits 1 n (by omega)
  have h4 := bn_fits 1 1 (by omega)
  omega
theorem sum_le6 : ∀ {Ls : List Nat}, (∀ a ∈ Ls, a ≤ 6) → Ls.sum ≤ 6 * Ls.length
  | [], _ => Nat.le_refl _
  | a :: l, h => by
    have h1 := h a List.mem_cons_self
    have h2 := sum_le6 fun b hb => h b (List.mem_cons_of_mem _ hb)
    simp only [List.sum_cons, List.length_cons]
    omega
theorem rawF_small {Ls : List Nat} (h : ∀ a ∈ Ls, a ≤ 6) (hl : Ls.length ≤ 3) (hs : 1 ≤ Ls.sum) : ∀ f ∈ rawF Ls, f.2.1.size + f.2.2.size ≤ 2 := by
  intro f hf
  obtain ⟨a, ha, rfl⟩ := List.mem_map.1 hf
  have h6 := sum_le6 h
  have h1 := h a ha
  show (nu ((a : Rat) / (Ls.sum : Rat))).size + (de ((a : Rat) / (Ls.sum : Rat))).size ≤ 2
  rw [own_size]
  have hfit : Fits 1 ((a : Rat) / (Ls.sum : Rat)) := ⟨(a : Int), Ls.sum, by omega, by rw [Rat.mkRat_eq_div]; rfl, by omega, by simp; omega⟩
  exact fits_qw hfit
theorem rawF_row {Ls : List Nat} (hs : 1 ≤ Ls.sum) : rowB (rawF Ls) = true := by
  have hne : (Ls.sum : Rat) ≠ 0 := fun e => by
    have e' : Ls.sum = 0 := by exact_mod_cast e
    omega
  have hpos : (0 : Rat) < (Ls.sum : Rat) := Rat.lt_of_le_of_ne Rat.natCast_nonneg (Ne.symm hne)
  rw [rowB, Bool.and_eq_true]
  constructor
  · rw [List.all_eq_true]
    intro f hf
    obtain ⟨a, ha, rfl⟩ := List.mem_map.1 hf
    refine decide_eq_true ?_
    rw [frQ_qF, Rat.not_lt]
    have ha0 : (0 : Rat) ≤ (a : Rat) := Rat.natCast_nonneg
    rw [Rat.div_def]
    exact Rat.mul_nonneg ha0 (Rat.le_of_lt (Rat.inv_pos.2 hpos))
  · refine decide_eq_true ?_
    have key : ∀ (l : List Nat) (s c : Rat), (l.map fun a : Nat => qF ((a : Rat) / c)).foldl (fun s f => s + frv f) s = s + (l.sum : Rat) / c := by
      intro l
      induction l with
      | nil => intro s c; show s = s + ((0 : Nat) : Rat) / c; rw [Rat.div_def]; grind
      | cons a l ih =>
        intro s c
        rw [List.map_cons, List.foldl_cons, ih, show frv (qF ((a : Rat) / c)) = (a : Rat) / c from frQ_qF _, List.sum_cons, Rat.div_def, Rat.div_def, Rat.div_def, Rat.natCast_add, Rat.add_mul, Rat.add_assoc]
    rw [fsum, rawF, key, Rat.zero_add, Rat.div_def, Rat.mul_inv_cancel _ hne]
end Go.Proofs.YtbejijgelljeaaaGreatDoor


/- The document's answer: a row of raw weights. -/
namespace Go.Proofs.YtbejijgelljeaaaGreatDoor
open Go.RowKit Go.Shelf Go.Lib

theorem iL_sum_snoc (Ls : List Nat) (a : Nat) : iL (Ls ++ [a]) = iL Ls ++ [(a : Int)] := by simp [iL]
theorem RwI.put {w : World} {B g n cap : Nat} {l : List Int} (h : RwI w B (.slice (some ⟨g, 0, none⟩) n cap) l) (j : Nat) (y : Int) : RwI (w.setCell ⟨g, j, none⟩ (.int .i64 y)) B (.slice (some ⟨g, 0, none⟩) n cap) (l.set j y) := by
  rcases h.2 with ⟨h1, _⟩ | ⟨g', cap', cur, h1, h2, h3, h4, h5, h6, h7⟩
  · cases h1
  · cases h1
    refine ⟨by simp, .inr ⟨g, cap, _, by simp, h2, heap_setCell_same w g j _ _ _ h3, by simpa using h4, h5, by simpa using h6, ?_⟩⟩
    rw [Array.toList_setIfInBounds, List.length_set, List.map_set, ← h7, List.take_set]
theorem RwF.lower {w : World} {B B' : Nat} {v : Value} {l : List Fr} (h : RwF w B v l) (hb : B' ≤ B) : RwF w B' v l := by
  refine ⟨h.1, ?_⟩
  rcases h.2 with h1 | ⟨g, cap, cur, h1, h2, h3, h4⟩
  · exact .inl h1
  · exact .inr ⟨g, cap, cur, h1, Nat.le_trans hb h2, h3, h4⟩
theorem RwI.lower {w : World} {B B' : Nat} {v : Value} {l : List Int} (h : RwI w B v l) (hb : B' ≤ B) : RwI w B' v l := by
  refine ⟨h.1, ?_⟩
  rcases h.2 with h1 | ⟨g, cap, cur, h1, h2, h3, h4⟩
  · exact .inl h1
  · exact .inr ⟨g, cap, cur, h1, Nat.le_trans hb h2, h3, h4⟩
theorem RwI.emptyB (w : World) (B : Nat) : RwI w B (.slice none 0 0) [] := ⟨rfl, .inl ⟨rfl, rfl⟩⟩
/-- Raw weights so far. -/
structure Wts (Ls : List Nat) (i : Nat) : Prop where
  len : Ls.length = i
  six : ∀ a ∈ Ls, a ≤ 6

set_option maxRecDepth 100000 in
set_option maxHeartbeats 2000000 in
theorem rowOf_any (d : Option Addr) (cd k n : Nat) (W : List Int) (w : World) (hW : IntS w d W) (hr : ∀ x ∈ W, -9223372036854775808 ≤ x ∧ x ≤ 9223372036854775807) (hk : k ≤ 100000) (hn1 : 1 ≤ n) (hn3 : n ≤ 5) (hWl : W.length ≤ 140737488355328) :
    Calls Tryz.prog 29 #[.slice d W.length cd, .int .i64 (k : Nat), .int .i64 (n : Nat)] w fun e w' => ∃ (x : Value) (Ls : List Nat), e = .returned x ∧ RwF w' w.heap.size x (rawF Ls) ∧ Wts Ls n ∧ 1 ≤ Ls.sum ∧ Below w.heap.size w w' := by
  have HW := hid hW
  have HR := hid hr
  have HPK := hid (fun (c : Int) (h : -9223372036854775808 ≤ c ∧ c ≤ 9223372036854775807) (U : World) => rPick_any c 7 U h.1 h.2 (by omega) (by omega))
  have HPL := hid (fun (c : Int) => pickN_lt c (n := 7) (by omega))
  have HOF := hid (fun (a : Nat) (h : a ≤ 100) (U : World) => rOfF_any (a : Int) U (by omega) (by omega))
  have HOF' : Hid (∀ (a : Nat), a ≤ 100 → ∀ U : World, Calls Tryz.prog 11 #[.int .i64 (a : Nat)] U fun e w' => e = .returned (frV (qF (a : Rat))) ∧ Below U.heap.size U w') := fun a ha U => by
    have h := HOF.out a ha U
    rw [mkRat_int] at h
    exact h
  have HDV : Hid (∀ (a s : Nat), a ≤ 100 → 1 ≤ s → s ≤ 100 → ∀ U : World, Calls Tryz.prog 52 #[frV (qF (a : Rat)), frV (qF (s : Rat))] U fun e w' => e = .returned (.tuple #[frV (qF ((a : Rat) / (s : Rat))), .int .i64 0]) ∧ Below U.heap.size U w') := fun a s ha hs1 hs2 U => by
    have hne : (s : Rat) ≠ 0 := fun e => by
      have e' : s = 0 := by exact_mod_cast e
      omega
    have h := rDivF_yes (sgn (a : Rat)) (sgn (s : Rat)) (nu (a : Rat)) (de (a : Rat)) (nu (s : Rat)) (de (s : Rat)) U (by rw [val_own]; exact hne) (by rw [own_size]; have := qw_nat (n := a) (by omega); omega) (by rw [own_size]; have := qw_nat (n := s) (by omega); omega)
    rw [val_own, val_own] at h
    exact h
  clear HOF
  have HOF := HOF'
  clear HOF' hW hr
  go_enter Tryz.func29, Tryz.ntmps29
  go_wp2_with fail
  go_loopw [7, 8, 9] (fun x sv iv wr => ∃ (i : Nat) (Ls : List Nat), i ≤ n ∧ iv = .int .i64 i ∧ sv = .int .i64 (Ls.sum : Nat) ∧ Hid (Wts Ls i) ∧ Hid (RwI wr w.heap.size x (iL Ls)) ∧ Hid (Below w.heap.size w wr)) (fun _ _ iv _ => n - (Go.RowKit.intOf iv).toNat)
  case atStart => exact ⟨0, [], Nat.zero_le _, rfl, rfl, ⟨rfl, fun a ha => by cases ha⟩, RwI.emptyB _ _, Below.refl _ _⟩
  case round =>
    obtain ⟨i, Ls, hi, rfl, rfl, HL, HX, HB⟩ := hrel
    by_cases hlt : i < n
    · have hs18 : Ls.sum ≤ 100 := by have := sum_le6 HL.out.six; have := HL.out.len; omega
      have hll := HL.out.len
      by_cases hw0 : 0 < W.length
      · obtain ⟨ki, hki⟩ : ∃ ki, ki = k + i := ⟨_, rfl⟩
        have hwr : IntKind.i64.wrap ((k : Int) + (i : Int)) = (ki : Int) := by rw [IntKind.wrap_i64]; omega
        obtain ⟨t, ht⟩ : ∃ t, t = ki % W.length := ⟨_, rfl⟩
        have htl : t < W.length := by rw [ht]; exact Nat.mod_lt _ hw0
        have hrem : (ki : Int) % (W.length : Int) = (t : Int) := by rw [ht, Int.natCast_emod]
        obtain ⟨g', o', rfl, hg', cW⟩ := (HW.out.below HB.out) t htl
        have hxr := HR.out W[t] (List.getElem_mem htl)
        have hpl := HPL.out W[t]
        have HPT := hid (fun U => HPK.out W[t] hxr U)
        have hwpos : (0 : Int) < (W.length : Int) := by omega
        have hwne : ¬ (W.length : Int) = 0 := by omega
        have hwr2 : IntKind.i64.wrap ((ki : Int) % (W.length : Int)) = (t : Int) := by rw [hrem, IntKind.wrap_i64]; omega
        clear ht hki hw0
        generalize W[t] = wt at *
        generalize pickN wt 7 = p at *
        go_wp2_with fail
        refine (HPT.out _).mono ?_
        rintro e w1 ⟨rfl, hb1⟩
        have HX1 := hid (HX.out.below hb1)
        have HB1 := hid (HB.out.trans (hb1.mono HB.out.size))
        have HXA := hid (HX1.out.below ((Below.refl _ w1).alloc (Nat.le_refl _) (.cells #[.int .i64 (p : Int)] 3)))
        have HBA := hid (HB1.out.alloc HB1.out.size (.cells #[.int .i64 (p : Int)] 3))
        have HIA := hid (one_int w1 (p : Int))
        have hbs : w.heap.size ≤ (w1.alloc (.cells #[.int .i64 (p : Int)] 3)).heap.size := HBA.out.size
        have hil : (iL Ls).length = i := by rw [iL_length]; exact hll
        have HSU := hid (iL_sum_snoc Ls p)
        have hsm : IntKind.i64.wrap ((Ls.sum : Int) + (p : Int)) = (((Ls ++ [p]).sum : Nat) : Int) := by rw [IntKind.wrap_i64]; simp; omega
        have HWT : Hid (Wts (Ls ++ [p]) (i + 1)) := ⟨by simp [hll], fun a ha => by rcases List.mem_append.1 ha with ha | ha; exact HL.out.six a ha; rw [List.mem_singleton.1 ha]; omega⟩
        generalize hs2 : (Ls ++ [p]).sum = s2 at *
        have HS2 := hid hs2
        clear hs2
        clear cW hb1 HX HB HX1 HB1
        go_wp2_with (at_builtin; refine wpList_append_ints rfl _ _ rfl w.heap.size _ (iL Ls) [(p : Int)] rfl HXA.out (some ⟨w1.heap.size, 0, none⟩) 1 rfl HIA.out (fun e => by cases e) (by simp; omega) hbs ?_; intro v' w3 hr3 hg3; have HB3 := hid (HBA.out.grown hg3 hbs (fun k e => HXA.out.own k e)))
        go_roundw
        case rel => exact ⟨i + 1, Ls ++ [p], by omega, by go_num, by rw [HS2.out], HWT, by rw [HSU.out]; exact hr3, HB3⟩
        case measure => simp [Go.RowKit.intOf]; omega
      · have hgt : ¬ (0 : Int) < (W.length : Int) := by omega
        have hgt2 : decide (0 < W.length) = false := decide_eq_false (by omega)
        have HXA := hid (HX.out.below ((Below.refl _ wr).alloc (Nat.le_refl _) (.cells #[.int .i64 1] 3)))
        have HBA := hid (HB.out.alloc HB.out.size (.cells #[.int .i64 1] 3))
        have HIA := hid (one_int wr 1)
        have hbs : w.heap.size ≤ (wr.alloc (.cells #[.int .i64 1] 3)).heap.size := HBA.out.size
        have hil : (iL Ls).length = i := by rw [iL_length]; exact hll
        have HSU := hid (iL_sum_snoc Ls 1)
        have hsm : IntKind.i64.wrap ((Ls.sum : Int) + 1) = (((Ls ++ [1]).sum : Nat) : Int) := by rw [IntKind.wrap_i64]; simp; omega
        have HWT : Hid (Wts (Ls ++ [1]) (i + 1)) := ⟨by simp [hll], fun a ha => by rcases List.mem_append.1 ha with ha | ha; exact HL.out.six a ha; rw [List.mem_singleton.1 ha]; omega⟩
        have HS2 := hid (Eq.refl (Ls ++ [1]).sum)
        generalize hs2 : (Ls ++ [1]).sum = s2 at *
        have HS3 := hid hs2
        clear hs2 HS2 HX HB hw0
        go_wp2_with (at_builtin; refine wpList_append_ints rfl _ _ rfl w.heap.size _ (iL Ls) [(1 : Int)] rfl HXA.out (some ⟨wr.heap.size, 0, none⟩) 1 rfl HIA.out (fun e => by cases e) (by simp; omega) hbs ?_; intro v' w3 hr3 hg3; have HB3 := hid (HBA.out.grown hg3 hbs (fun k e => HXA.out.own k e)))
        go_roundw
        case rel => exact ⟨i + 1, Ls ++ [1], by omega, by go_num, by rw [HS3.out], HWT, by rw [HSU.out]; exact hr3, HB3⟩
        case measure => simp [Go.RowKit.intOf]; omega
    · obtain rfl : n = i := by omega
      have hs18 : Ls.sum ≤ 100 := by have := sum_le6 HL.out.six; have := HL.out.len; omega
      have hll := HL.out.len
      by_cases hs0 : Ls.sum = 0
      · have hlp : 0 < (iL Ls).length := by rw [iL_length]; omega
        rcases HX.out.cases with ⟨_, hnil⟩ | ⟨g, cap, rfl, hg0, hg, hc1, hc2, hh⟩
        · rw [hnil] at hlp; exact absurd hlp (by simp)
        · have hput := HX.out.put 0 1
          obtain ⟨hc0, hf0⟩ := hh 0 (by simpa using hlp)
          rw [Nat.zero_add] at hc0 hf0
          have HBP := hid (HB.out.setCell (p := ⟨g, 0, none⟩) hg0 (.int .i64 1))
          have hilen : (iL Ls).length = n := by rw [iL_length]; exact hll
          rw [hilen]
          obtain ⟨a0, l0, rfl⟩ : ∃ a0 l0, Ls = a0 :: l0 := by
            cases Ls with
            | nil => rw [← hll] at hn1; exact absurd hn1 (by simp)
            | cons a0 l0 => exact ⟨a0, l0, rfl⟩
          have ha0 : a0 = 0 ∧ l0.sum = 0 := by simp at hs0; exact hs0
          have HXP : Hid (RwI (wr.setCell ⟨g, 0, none⟩ (.int .i64 1)) w.heap.size (.slice (some ⟨g, 0, none⟩) n cap) (iL (1 :: l0))) := by
            rw [hilen] at hput
            exact hput
          have HW2 : Hid (Wts (1 :: l0) n) := ⟨by simpa using hll, fun a ha => by rcases List.mem_cons.1 ha with rfl | ha; omega; exact HL.out.six a (List.mem_cons_of_mem _ ha)⟩
          have HSS : Hid ((1 :: l0).sum = 1 ∧ 1 ≤ 1 ∧ 1 ≤ 100) := ⟨by simp [ha0.2], by omega, by omega⟩
          have hi0 : (0 : Int) < (n : Int) := by omega
          rw [hs0, show ((0 : Nat) : Int) = 0 from rfl]
          clear hs0 hput hh HX HB hilen hs18 hll HL
          go_upto_region 14 with fail
          clear hc0 hf0 ha0
          generalize (wr.setCell ⟨g, 0, none⟩ (.int .i64 1)) = wb at *
          have HX2 := HXP
          have HB2 := HBP
          obtain ⟨S, hS⟩ : ∃ S : Nat, S = 1 := ⟨1, rfl⟩
          obtain ⟨Ls2, hL2⟩ : ∃ Ls2, Ls2 = 1 :: l0 := ⟨_, rfl⟩
          rw [← hL2] at HW2 HSS HX2
          have HSS2 : Hid (Ls2.sum = S ∧ 1 ≤ S ∧ S ≤ 100) := by rw [hS]; exact HSS
          have e1 : (1 : Int) = ((S : Nat) : Int) := by rw [hS]; rfl
          rw [e1]
          clear HSS HXP HBP hL2 hS e1
          have HSS := HSS2
          clear HSS2
          obtain ⟨d7, cd7, e7, hi7⟩ := HX2.out.ints
          have HI7 := hid hi7
          have hil2 : (iL Ls2).length = n := by rw [iL_length]; exact HW2.out.len
          rw [hil2] at e7
          cases e7
          have hS1 := HSS.out.2.1
          have hS2 := HSS.out.2.2
          have HSQ := hid HSS.out.1
          have HFL : Hid ((rawF Ls2).length = n) := by show _ = _; rw [rawF_length]; exact HW2.out.len
          have HFG : Hid (∀ j (h : j < Ls2.length), (rawF Ls2)[j]'(by rw [rawF_length]; exact h) = qF ((Ls2[j] : Rat) / (S : Rat))) := fun j h => by simp [rawF, HSQ.out]
          clear hi7 HSS
          go_wp2_with fail
          go_loopw [11, 12] (fun x iv wr2 => ∃ i : Nat, i ≤ n ∧ iv = .int .i64 i ∧ Hid (RwF wr2 wb.heap.size x ((rawF Ls2).take i)) ∧ Hid (Below wb.heap.size wb wr2)) (fun _ iv _ => n - (Go.RowKit.intOf iv).toNat)
          case atStart => exact ⟨0, Nat.zero_le _, rfl, RwF.empty _ _, Below.refl _ _⟩
          case round =>
            obtain ⟨i, hi, rfl, HY, HBB⟩ := hrel
            by_cases hlt : i < n
            · have hiL : i < (iL Ls2).length := by rw [hil2]; exact hlt
              have hiN : i < Ls2.length := by rw [← iL_length]; exact hiL
              obtain ⟨g', o', e8, hg', cL⟩ := (HI7.out.below HBB.out) i hiL
              cases e8
              (try rw [Nat.zero_add] at cL)
              have e1 : (iL Ls2)[i]'hiL = ((Ls2[i]'hiN : Nat) : Int) := by simp [iL]
              rw [e1] at cL
              have ha6 := HW2.out.six (Ls2[i]'hiN) (List.getElem_mem hiN)
              have hfg := HFG.out i hiN
              have HST : Hid ((rawF Ls2).take i ++ [qF (((Ls2[i]'hiN : Nat) : Rat) / (S : Rat))] = (rawF Ls2).take (i + 1)) := by show _ = _; rw [List.take_succ_eq_append_getElem (by rw [HFL.out]; exact hlt), hfg]
              clear e1 hfg
              generalize (Ls2[i]'hiN) = av at *
              have HO1 := hid (fun U => HOF.out av (by omega) U)
              have HO2 := hid (fun U => HOF.out S (by omega) U)
              have HDV2 := hid (fun U => HDV.out av S (by omega) (by omega) (by omega) U)
              generalize qF ((av : Nat) : Rat) = fa at *
              generalize qF ((S : Nat) : Rat) = fs at *
              generalize qF (((av : Nat) : Rat) / ((S : Nat) : Rat)) = fq at *
              obtain ⟨an, ax, ay⟩ := fa
              obtain ⟨sn, sx, sy⟩ := fs
              obtain ⟨qn, qx, qy⟩ := fq
              go_wp2_with fail
              refine (HO1.out _).mono ?_
              rintro e v1 ⟨rfl, hb1⟩
              go_wp2_with fail
              refine (HO2.out _).mono ?_
              rintro e v2 ⟨rfl, hb2⟩
              go_wp2_with fail
              refine (HDV2.out _).mono ?_
              rintro e v3 ⟨rfl, hb3⟩
              have hb23 := hb2.trans (hb3.mono hb2.size)
              have hb13 := hb1.trans (hb23.mono hb1.size)
              clear hb1 hb2 hb3 hb23
              have hbx := Box.new v3 qn qx qy
              have hb4 := hb13.alloc hb13.size (FC qn qx qy)
              obtain ⟨k0, k1, k2, -⟩ := hbx.facts
              have hbx2 : Box ((v3.alloc (FC qn qx qy)).alloc (FC qn qx qy)) (v3.heap.size + 1) qn qx qy := by
                have h := Box.new (v3.alloc (FC qn qx qy)) qn qx qy
                rwa [World.size_alloc] at h
              have hb5 := hb4.alloc hb4.size (FC qn qx qy)
              have HY5 := hid (HY.out.below hb5)
              have HB5 := hid (HBB.out.trans (hb5.mono HBB.out.size))
              have HBX := hid hbx2
              have hbs : wb.heap.size ≤ ((v3.alloc (FC qn qx qy)).alloc (FC qn qx qy)).heap.size := HB5.out.size
              have htl : ((rawF Ls2).take i).length ≤ 5 := by rw [List.length_take, HFL.out]; omega
              clear hb13 hb4 hb5 hbx hbx2 HY HBB cL
              go_wp2_with (at_builtin; refine wpList_append_fr rfl _ _ rfl wb.heap.size _ ((rawF Ls2).take i) (qn, qx, qy) rfl HY5.out (v3.heap.size + 1) rfl HBX.out (by omega) hbs ?_; intro v' v6 hr6 hg6; have HB6 := hid (HB5.out.grown hg6 hbs (fun k e => HY5.out.own k e)))
              go_roundw
              case rel => exact ⟨i + 1, by omega, by go_num, by rw [← HST.out]; exact hr6, HB6⟩
              case measure => simp [Go.RowKit.intOf]; omega
            · obtain rfl : i = n := by omega
              go_wp2
              go_ret
              have hr := HY.out
              rw [List.take_of_length_le (by rw [HFL.out]; exact Nat.le_refl _)] at hr
              exact ⟨_, Ls2, rfl, hr.lower HB2.out.size, HW2.out, by rw [HSQ.out]; exact hS1, HB2.out.trans (HBB.out.mono HB2.out.size)⟩
      · have hs0' : ¬ (Ls.sum : Int) = 0 := by omega
        obtain ⟨S, hS⟩ : ∃ S, Ls.sum = S := ⟨_, rfl⟩
        have HSS : Hid (Ls.sum = S ∧ 1 ≤ S ∧ S ≤ 100) := ⟨hS, by omega, by omega⟩
        rw [hS] at hs0' ⊢
        obtain ⟨Ls2, hL2⟩ : ∃ Ls2, Ls2 = Ls := ⟨_, rfl⟩
        rw [← hL2] at HL HX HSS
        have HW2 := HL
        have HX2 := HX
        have HB2 := HB
        have hsb : ((S : Int) == 0) = false := by simpa using hs0'
        clear hs0 hS hL2 HL HX HB hs18 hll
        go_upto_region 14 with fail
        clear hs0' hsb
        generalize wr = wb at *
        obtain ⟨d7, cd7, e7, hi7⟩ := HX2.out.ints
        have HI7 := hid hi7
        have hil2 : (iL Ls2).length = n := by rw [iL_length]; exact HW2.out.len
        rw [hil2] at e7
        cases e7
        have hS1 := HSS.out.2.1
        have hS2 := HSS.out.2.2
        have HSQ := hid HSS.out.1
        have HFL : Hid ((rawF Ls2).length = n) := by show _ = _; rw [rawF_length]; exact HW2.out.len
        have HFG : Hid (∀ j (h : j < Ls2.length), (rawF Ls2)[j]'(by rw [rawF_length]; exact h) = qF ((Ls2[j] : Rat) / (S : Rat))) := fun j h => by simp [rawF, HSQ.out]
        clear hi7 HSS
        go_wp2_with fail
        go_loopw [11, 12] (fun x iv wr2 => ∃ i : Nat, i ≤ n ∧ iv = .int .i64 i ∧ Hid (RwF wr2 wb.heap.size x ((rawF Ls2).take i)) ∧ Hid (Below wb.heap.size wb wr2)) (fun _ iv _ => n - (Go.RowKit.intOf iv).toNat)
        case atStart => exact ⟨0, Nat.zero_le _, rfl, RwF.empty _ _, Below.refl _ _⟩
        case round =>
          obtain ⟨i, hi, rfl, HY, HBB⟩ := hrel
          by_cases hlt : i < n
          · have hiL : i < (iL Ls2).length := by rw [hil2]; exact hlt
            have hiN : i < Ls2.length := by rw [← iL_length]; exact hiL
            obtain ⟨g', o', e8, hg', cL⟩ := (HI7.out.below HBB.out) i hiL
            cases e8
            (try rw [Nat.zero_add] at cL)
            have e1 : (iL Ls2)[i]'hiL = ((Ls2[i]'hiN : Nat) : Int) := by simp [iL]
            rw [e1] at cL
            have ha6 := HW2.out.six (Ls2[i]'hiN) (List.getElem_mem hiN)
            have hfg := HFG.out i hiN
            have HST : Hid ((rawF Ls2).take i ++ [qF (((Ls2[i]'hiN : Nat) : Rat) / (S : Rat))] = (rawF Ls2).take (i + 1)) := by show _ = _; rw [List.take_succ_eq_append_getElem (by rw [HFL.out]; exact hlt), hfg]
            clear e1 hfg
            generalize (Ls2[i]'hiN) = av at *
            have HO1 := hid (fun U => HOF.out av (by omega) U)
            have HO2 := hid (fun U => HOF.out S (by omega) U)
            have HDV2 := hid (fun U => HDV.out av S (by omega) (by omega) (by omega) U)
            generalize qF ((av : Nat) : Rat) = fa at *
            generalize qF ((S : Nat) : Rat) = fs at *
            generalize qF (((av : Nat) : Rat) / ((S : Nat) : Rat)) = fq at *
            obtain ⟨an, ax, ay⟩ := fa
            obtain ⟨sn, sx, sy⟩ := fs
            obtain ⟨qn, qx, qy⟩ := fq
            go_wp2_with fail
            refine (HO1.out _).mono ?_
            rintro e v1 ⟨rfl, hb1⟩
            go_wp2_with fail
            refine (HO2.out _).mono ?_
            rintro e v2 ⟨rfl, hb2⟩
            go_wp2_with fail
            refine (HDV2.out _).mono ?_
            rintro e v3 ⟨rfl, hb3⟩
            have hb23 := hb2.trans (hb3.mono hb2.size)
            have hb13 := hb1.trans (hb23.mono hb1.size)
            clear hb1 hb2 hb3 hb23
            have hbx := Box.new v3 qn qx qy
            have hb4 := hb13.alloc hb13.size (FC qn qx qy)
            obtain ⟨k0, k1, k2, -⟩ := hbx.facts
            have hbx2 : Box ((v3.alloc (FC qn qx qy)).alloc (FC qn qx qy)) (v3.heap.size + 1) qn qx qy := by
              have h := Box.new (v3.alloc (FC qn qx qy)) qn qx qy
              rwa [World.size_alloc] at h
            have hb5 := hb4.alloc hb4.size (FC qn qx qy)
            have HY5 := hid (HY.out.below hb5)
            have HB5 := hid (HBB.out.trans (hb5.mono HBB.out.size))
            have HBX := hid hbx2
            have hbs : wb.heap.size ≤ ((v3.alloc (FC qn qx qy)).alloc (FC qn qx qy)).heap.size := HB5.out.size
            have htl : ((rawF Ls2).take i).length ≤ 5 := by rw [List.length_take, HFL.out]; omega
            clear hb13 hb4 hb5 hbx hbx2 HY HBB cL
            go_wp2_with (at_builtin; refine wpList_append_fr rfl _ _ rfl wb.heap.size _ ((rawF Ls2).take i) (qn, qx, qy) rfl HY5.out (v3.heap.size + 1) rfl HBX.out (by omega) hbs ?_; intro v' v6 hr6 hg6; have HB6 := hid (HB5.out.grown hg6 hbs (fun k e => HY5.out.own k e)))
            go_roundw
            case rel => exact ⟨i + 1, by omega, by go_num, by rw [← HST.out]; exact hr6, HB6⟩
            case measure => simp [Go.RowKit.intOf]; omega
          · obtain rfl : i = n := by omega
            go_wp2
            go_ret
            have hr := HY.out
            rw [List.take_of_length_le (by rw [HFL.out]; exact Nat.le_refl _)] at hr
            exact ⟨_, Ls2, rfl, hr.lower HB2.out.size, HW2.out, by rw [HSQ.out]; exact hS1, HB2.out.trans (HBB.out.mono HB2.out.size)⟩
end Go.Proofs.YtbejijgelljeaaaGreatDoor


/- Nets: the document's answer: NetCheck. -/
namespace Go.Proofs.YtbejijgelljeaaaGreatDoor
open Go.RowKit Go.Shelf

/-- A net in memory. -/
structure NetI (w : World) (a b c : Option Addr) (V : List Vr) (L : List (List Int)) (R : List (List Fr)) : Prop where
  vars : VsS w a V
  pars : LsS w b L
  rows : FsS w c R
theorem NetI.below {w w' : World} {a b c : Option Addr} {V : List Vr} {L : List (List Int)} {R : List (List Fr)} (h : NetI w a b c V L R) (hb : Below w.heap.size w w') : NetI w' a b c V L R := ⟨h.vars.below hb, h.pars.below hb, h.rows.below hb⟩
/-- A net that is not too great. -/
structure NSm (V : List Vr) (L : List (List Int)) (R : List (List Fr)) : Prop where
  vars : VSm V
  pars : L.length ≤ 5000 ∧ ∀ l ∈ L, l.length ≤ 5000
  rows : R.length ≤ 5000 ∧ ∀ l ∈ R, l.length ≤ 5000 ∧ fw l ≤ 10000
theorem fine_sizes {V : List Vr} {L : List (List Int)} (hl : L.length = V.length) (hg : gcE L = 0) (hv : varsE V = 0) : Fine (iL (sizesN V)) ∧ L.length ≤ 8 ∧ ∀ v (h : v < L.length), Up L[v] L.length := by
  have hgb : gB L = true := by
    rw [gcE] at hg
    by_cases h : gB L = true
    · exact h
    · rw [if_neg h] at hg; exact absurd hg (by decide)
  obtain ⟨h1, h8, h3, _⟩ := gB_parts hgb
  have hf : ∀ i, i < V.length → varE V i = 0 := by
    rw [varsE] at hv
    by_cases h : namesE (namesV V) = 0
    · rw [if_pos h] at hv
      intro i hi
      have key : ∀ {n : Nat}, firstE (varE V) n = 0 → ∀ j, j < n → varE V j = 0 := by
        intro n
        induction n with
        | zero => intro _ j hj; omega
        | succ n ih =>
          intro hz j hj
          rw [firstE] at hz
          by_cases e : firstE (varE V) n = 0
          · rw [if_pos e] at hz
            rcases Nat.lt_or_ge j n with h2 | h2
            · exact ih e j h2
            · obtain rfl : j = n := by omega
              exact hz
          · rw [if_neg e] at hz; exact absurd hz e
      exact key hv i hi
    · rw [if_neg h] at hv; exact absurd hv h
  refine ⟨⟨by rw [iL_length, sizesN_length]; omega, by rw [iL_length, sizesN_length]; omega, fun i hi => ?_⟩, h8, fun v hv => ris_up (allRis_at h3 hv)⟩
  rw [iL_length, sizesN_length] at hi
  have h4 := hf i hi
  rw [varE, getV hi] at h4
  have h5 : 1 ≤ V[i].2.length ∧ V[i].2.length ≤ 4 := by
    by_cases e : 1 ≤ V[i].2.length ∧ V[i].2.length ≤ 4
    · exact e
    · rw [if_neg e] at h4; exact absurd h4 (by decide)
  have e : (iL (sizesN V))[i]'(by rw [iL_length, sizesN_length]; exact hi) = (V[i].2.length : Int) := by simp [iL, sizesN]
  rw [e]
  omega
theorem names_take {V : List Vr} {i : Nat} (h : i < V.length) : (namesV V).take (i + 1) = (namesV V).take i ++ [V[i].1] := by
  obtain ⟨h1, h2⟩ := List.getElem?_eq_some_iff.1 (namesV_get h)
  rw [List.take_succ_eq_append_getElem h1, h2]

end Go.Proofs.YtbejijgelljeaaaGreatDoor


/- The document's answer: arrays of what a call makes: variables, lists of parents, lists of rows. -/
namespace Go.Proofs.YtbejijgelljeaaaGreatDoor
open Go.RowKit Go.Shelf Go.Lib

/-- All blocks of cells of this type lie as they lay. -/
def KeepT (t : TypeId) (w w' : World) : Prop := ∀ (k : Nat) (c : Array Value) (fr : Nat × Nat), w.heap[k]? = some (Obj.cells c t fr) → w'.heap[k]? = some (Obj.cells c t fr)
theorem KeepT.below {t : TypeId} {w w' : World} (hb : Below w.heap.size w w') : KeepT t w w' := fun k _ _ h => (hb.block k (Array.getElem?_eq_some_iff.1 h).1).trans h
theorem KeepT.grown {t t' : TypeId} {w w' : World} {row : Option Nat} (hg : w.grownBy w' row) (hr : ∀ g, row = some g → ∃ c fr, w.heap[g]? = some (.cells c t' fr)) (hne : t ≠ t') : KeepT t w w' := fun k c fr h => by
  refine (hg.block k (Array.getElem?_eq_some_iff.1 h).1 fun e => ?_).trans h
  obtain ⟨c', fr', h'⟩ := hr k e.symm
  rw [h] at h'
  cases h'
  exact hne rfl
theorem KeepT.set {t t' : TypeId} {w : World} {b : Nat} {c' : Array Value} {fr' : Nat × Nat} (hb : w.heap[b]? = some (.cells c' t' fr')) (hne : t ≠ t') (j : Nat) (y : Value) : KeepT t w (w.setCell ⟨b, j, none⟩ y) := fun k c fr h => by
  refine (Below.heap_setCell w ⟨b, j, none⟩ y k fun e => ?_).trans h
  have e' : k = b := e
  subst e'
  rw [h] at hb
  cases hb
  exact hne rfl
theorem KeepT.trans {t : TypeId} {a b c : World} (h : KeepT t a b) (k : KeepT t b c) : KeepT t a c := fun i cs fr hi => k i cs fr (h i cs fr hi)
theorem owns_keep {w w' : World} {B : Nat} {e : TypeId} {s : Nat} {v : Value} {n : Nat} {xs : List Value} (h : w.ownsRow B e s v n xs) (hk : KeepT e w w') : w'.ownsRow B e s v n xs := by
  refine ⟨h.1, ?_⟩
  rcases h.2 with h1 | ⟨g, cap, cur, h1, h2, h3, h4⟩
  · exact .inl h1
  · exact .inr ⟨g, cap, cur, h1, h2, hk _ _ _ h3, h4⟩
theorem owns_typed {w : World} {B : Nat} {e : TypeId} {s : Nat} {v : Value} {n : Nat} {xs : List Value} (h : w.ownsRow B e s v n xs) : ∀ g, v.ownBlock = some g → ∃ c fr, w.heap[g]? = some (.cells c e fr) := fun g hg => by
  rcases h.2 with ⟨rfl, _⟩ | ⟨g', cap, cur, rfl, h2, h3, h4⟩
  · cases hg
  · cases hg
    exact ⟨_, _, h3⟩
theorem owns_from {w : World} {B : Nat} {e : TypeId} {s : Nat} {v : Value} {n : Nat} {xs : List Value} (h : w.ownsRow B e s v n xs) : ∀ g, v.ownBlock = some g → B ≤ g := fun g hg => by
  rcases h.2 with ⟨rfl, _⟩ | ⟨g', cap, cur, rfl, h2, h3, h4⟩
  · cases hg
  · cases hg
    exact h2
theorem owns_slice {w : World} {B : Nat} {e : TypeId} {s : Nat} {v : Value} {n : Nat} {xs : List Value} (h : w.ownsRow B e s v n xs) : ∃ a c, v = .slice a n c ∧ (a = none → c = 0) := by
  rcases h.2 with ⟨rfl, rfl⟩ | ⟨g', cap, cur, rfl, h2, h3, h4⟩
  · exact ⟨none, 0, rfl, fun _ => rfl⟩
  · exact ⟨_, _, rfl, fun e => by cases e⟩
theorem owns_lower {w : World} {B B' : Nat} {e : TypeId} {s : Nat} {v : Value} {n : Nat} {xs : List Value} (h : w.ownsRow B e s v n xs) (hb : B' ≤ B) : w.ownsRow B' e s v n xs := by
  refine ⟨h.1, ?_⟩
  rcases h.2 with h1 | ⟨g, cap, cur, h1, h2, h3, h4⟩
  · exact .inl h1
  · exact .inr ⟨g, cap, cur, h1, Nat.le_trans hb h2, h3, h4⟩
theorem owns_cell {w : World} {B : Nat} {e : TypeId} {s : Nat} {a : Option Addr} {n c : Nat} {xs : List Value} (h : w.ownsRow B e s (.slice a n c) n xs) {j : Nat} (hj : j < xs.length) : ∃ g, a = some ⟨g, 0, none⟩ ∧ g < w.heap.size ∧ w.cell? ⟨g, j, none⟩ = some xs[j] := by
  rcases h.2 with ⟨h1, h2⟩ | ⟨g', cap, cur, h1, h2, h3, h4, h5, h6, h7⟩
  · have := h.1
    subst h2
    rw [Nat.zero_mul] at this
    omega
  · cases h1
    refine ⟨g', rfl, (Array.getElem?_eq_some_iff.1 h3).1, ?_⟩
    have hl : j < n * s := by have := h.1; omega
    rw [cell_of_row w g' j _ _ (0, 0) h3]
    have e' : cur[j]? = (cur.toList.take (n * s))[j]? := by
      rw [List.getElem?_take, if_pos hl, Array.getElem?_toList]
    rw [e', h7, List.getElem?_eq_getElem hj]
/-- Variables: name, the list of values as it lies there, the values. -/
abbrev PV : Type := ByteArray × Value × List ByteArray
def vC : List PV → List Value
  | [] => []
  | p :: l => .string p.1 :: p.2.1 :: vC l
theorem vC_length : ∀ l, (vC l).length = l.length * 2
  | [] => rfl
  | p :: l => by
    show (vC l).length + 1 + 1 = (l.length + 1) * 2
    rw [vC_length l]
    omega
theorem vC_append (p : PV) : ∀ l, vC (l ++ [p]) = vC l ++ [.string p.1, p.2.1]
  | [] => rfl
  | q :: l => by
    show Value.string q.1 :: q.2.1 :: vC (l ++ [p]) = _
    rw [vC_append p l]
    rfl
theorem vC_get : ∀ (l : List PV) (k : Nat) (h : k < l.length), (vC l)[k * 2]'(by rw [vC_length]; omega) = .string l[k].1 ∧ (vC l)[k * 2 + 1]'(by rw [vC_length]; omega) = l[k].2.1
  | p :: l, 0, _ => ⟨rfl, rfl⟩
  | p :: l, k + 1, h => by
    obtain ⟨h1, h2⟩ := vC_get l k (by simpa using h)
    refine ⟨?_, ?_⟩
    · simp only [show (k + 1) * 2 = k * 2 + 1 + 1 by omega]
      exact h1
    · simp only [show (k + 1) * 2 + 1 = k * 2 + 1 + 1 + 1 by omega]
      exact h2
abbrev PL : Type := Value × List Int
def OwL (w : World) (B : Nat) (y : Value) (P : List PL) : Prop := w.ownsRow B 22 1 y P.length (P.map (·.1)) ∧ ∀ p ∈ P, RwI w B p.1 p.2
abbrev PR : Type := Value × List Fr
def OwR (w : World) (B : Nat) (z : Value) (P : List PR) : Prop := w.ownsRow B 27 1 z P.length (P.map (·.1)) ∧ ∀ p ∈ P, RwF w B p.1 p.2
theorem OwL.keep {w w' : World} {B : Nat} {x : Value} {P : List PL} (h : OwL w B x P) (h1 : KeepT 22 w w') (h2 : KeepT 3 w w') : OwL w' B x P := ⟨owns_keep h.1 h1, fun p hp => owns_keep (h.2 p hp) h2⟩
theorem OwR.keep {w w' : World} {B : Nat} {x : Value} {P : List PR} (h : OwR w B x P) (h1 : KeepT 27 w w') (h2 : KeepT 33 w w') : OwR w' B x P := ⟨owns_keep h.1 h1, fun p hp => owns_keep (h.2 p hp) h2⟩
theorem OwL.nil (w : World) (B : Nat) : OwL w B (.slice none 0 0) [] := ⟨⟨rfl, .inl ⟨rfl, rfl⟩⟩, fun p hp => by cases hp⟩
theorem OwR.nil (w : World) (B : Nat) : OwR w B (.slice none 0 0) [] := ⟨⟨rfl, .inl ⟨rfl, rfl⟩⟩, fun p hp => by cases hp⟩
theorem Tryz.infoInts : (Tryz.prog.info? 22).map (fun i => (i.zero, i.size, i.bytes)) = some (some (.slice none 0 0), 1, 24) := by kernel_rfl
theorem Tryz.infoFracs : (Tryz.prog.info? 27).map (fun i => (i.zero, i.size, i.bytes)) = some (some (.slice none 0 0), 1, 24) := by kernel_rfl
theorem wpList_append_rs {w : World} {ops : Array Oper} {rest : List Oper} {o : Oper} {a : Act} {Q : Exit → Act → World → Prop} (hgd : o.guard = none) (s x : Operand)
    (ho : o.op = .call { callee := .builtin .append, args := #[s, x], argTypes := #[24, 24] }) (base : Nat) (v : Value) (P : List PR) (q : Value) (hq : SlV q) (hs : a.eval s = v) (hown : w.ownsRow base 27 1 v P.length (P.map (·.1))) (g : Nat) (hx : a.eval x = .slice (some ⟨g, 0, none⟩) 1 1) (hg : w.cell? ⟨g, 0, none⟩ = some q) (hlen : P.length + 1 ≤ 100000) (hbase : base ≤ w.heap.size)
    (h : ∀ v' w', w'.ownsRow base 27 1 v' (P.length + 1) (P.map (·.1) ++ [q]) → w.grownBy w' v.ownBlock → wpList Tryz.prog ops Q rest (a.put o.dst v') w') : wpList Tryz.prog ops Q (o :: rest) a w := by
  obtain ⟨i0, hi0, hz0, hz1, hz2⟩ := info_parts Tryz.infoFracs
  refine wpList_append_own _ hgd s x 24 ho base 27 i0 (.slice none 0 0) 1 24 Tryz.underlying24 hi0 hz0 hz1 hz2 rfl (by decide) v P.length _ hs hown ⟨g, 0, none⟩ 1 1 [q] hx rfl ?_ ?_ (by unfold maxLen; omega) (by omega) hbase ?_
  · intro j u hj
    match j, hj with
    | 0, hj => cases hj; exact hg
    | j + 1, hj => simp at hj
  · intro u hu
    simp only [List.mem_cons, List.not_mem_nil, or_false] at hu
    subst hu
    obtain ⟨_, _, _, rfl⟩ := hq
    rfl
  · intro v' w' h1 h2 _
    exact h v' w' h1 h2
theorem frC_append (a : List Fr) : ∀ l, frC (l ++ a) = frC l ++ frC a
  | [] => rfl
  | f :: l => by
    show Value.bool f.1 :: Value.string f.2.1 :: Value.string f.2.2 :: frC (l ++ a) = _
    rw [frC_append a l]
    rfl
theorem frC_cell {w : World} {g o : Nat} : ∀ {l : List Fr}, FrS w (some ⟨g, o, none⟩) l → ∀ j u, (frC l)[j]? = some u → w.cell? ((⟨g, o, none⟩ : Addr).add j) = some u ∧ u.oneCell' = true := by
  intro l h j u hj
  have hjl : j < (frC l).length := (List.getElem?_eq_some_iff.1 hj).1
  rw [frC_length] at hjl
  have hk : j / 3 < l.length := by omega
  obtain ⟨g', o', e, _, h0, h1, h2⟩ := h (j / 3) hk
  cases e
  have hadd : (⟨g, o, none⟩ : Addr).add j = ⟨g, o + j, none⟩ := by
    rw [Addr.add]
    by_cases h0 : j = 0
    · subst h0; simp
    · simp [h0]
  have hget := frC_get l (j / 3) hk
  rw [hadd]
  have hm : j % 3 = 0 ∨ j % 3 = 1 ∨ j % 3 = 2 := by omega
  rcases hm with hm | hm | hm
  · have e : j = j / 3 * 3 := by omega
    rw [e] at hj ⊢
    rw [hget.1] at hj
    cases hj
    exact ⟨h0, rfl⟩
  · have e : j = j / 3 * 3 + 1 := by omega
    rw [e] at hj ⊢
    rw [hget.2.1] at hj
    cases hj
    exact ⟨by rw [← Nat.add_assoc]; exact h1, rfl⟩
  · have e : j = j / 3 * 3 + 2 := by omega
    rw [e] at hj ⊢
    rw [hget.2.2] at hj
    cases hj
    exact ⟨by rw [← Nat.add_assoc]; exact h2, rfl⟩
theorem wpList_append_frs {w : World} {ops : Array Oper} {rest : List Oper} {o : Oper} {a : Act} {Q : Exit → Act → World → Prop} (hgd : o.guard = none) (s x : Operand)
    (ho : o.op = .call { callee := .builtin .append, args := #[s, x], argTypes := #[27, 27] }) (base : Nat) (v : Value) (l la : List Fr) (hs : a.eval s = v) (hown : RwF w base v l) (g og ca : Nat) (hx : a.eval x = .slice (some ⟨g, og, none⟩) la.length ca) (hf : FrS w (some ⟨g, og, none⟩) la) (hlen : l.length + la.length ≤ 100000) (hbase : base ≤ w.heap.size)
    (h : ∀ v' w', RwF w' base v' (l ++ la) → w.grownBy w' v.ownBlock → wpList Tryz.prog ops Q rest (a.put o.dst v') w') : wpList Tryz.prog ops Q (o :: rest) a w := by
  obtain ⟨i0, hi0, hz0, hz1, hz2⟩ := info_parts Tryz.infoFrac
  refine wpList_append_own _ hgd s x 27 ho base 33 i0 (.agg #[.bool false, .string ⟨#[]⟩, .string ⟨#[]⟩]) 3 40 Tryz.underlying27 hi0 hz0 hz1 hz2 rfl (by decide) v l.length _ hs hown ⟨g, og, none⟩ la.length ca (frC la) hx (by rw [frC_length]; omega) (fun j u hj => (frC_cell hf j u hj).1) (fun u hu => ?_) (by unfold maxLen; omega) (by omega) hbase ?_
  · obtain ⟨j, hj, rfl⟩ := List.getElem_of_mem hu
    exact (frC_cell hf j _ (List.getElem?_eq_getElem hj)).2
  · intro v' w' h1 h2 _
    refine h v' w' ?_ h2
    rw [RwF, List.length_append, frC_append]
    exact h1
end Go.Proofs.YtbejijgelljeaaaGreatDoor

