/- The law's small functions on tables. -/
import Derived.Test.YtncccbdledcibaaGreatDoorRtEToOneA
import Derived.Laws.EntriesVeiled
import Derived.Test.YtncccbdledcibaaGreatDoorRefRToTabP2
import Derived.Test.YtncccbdledcibaaGreatDoorTabR1ToTabP1
import Derived.Laws.BitsAllLaws
import Derived.Test.YtncccbdledcibaaGreatDoorTabR5ToStandA
import Derived.Test.YtncccbdledcibaaGreatDoorNumFToNumH
namespace Go.Proofs.YtncccbdledcibaaGreatDoor
open Go.RowKit Go.Shelf

set_option maxRecDepth 100000 in
set_option maxHeartbeats 400000 in
theorem sameInts_any (a b : Option Addr) (ca cb : Nat) (l : List Int) (w : World) (ha : IntS w a l) (hb : IntS w b l) (hn : l.length ≤ 100000) :
    Calls Tryz.prog 12 #[.slice a l.length ca, .slice b l.length cb] w fun e w' => e = .returned (.bool true) ∧ Below w.heap.size w w' := by
  have HA := hid ha
  have HB := hid hb
  clear ha hb
  go_enter Tryz.func12, Tryz.ntmps12
  go_wp2_with fail
  go_loopw [5] (fun iv wr => ∃ i : Nat, i ≤ l.length ∧ iv = .int .i64 i ∧ Hid (Below w.heap.size w wr)) (fun iv _ => l.length - (intOf iv).toNat)
  case atStart => exact ⟨0, Nat.zero_le _, rfl, Below.refl _ _⟩
  case round =>
    obtain ⟨i, hi, rfl, HW⟩ := hrel
    by_cases hlt : i < l.length
    · obtain ⟨g, o, rfl, hg, c0⟩ := (HA.out.below HW.out) i hlt
      obtain ⟨g2, o2, rfl, hg2, c2⟩ := (HB.out.below HW.out) i hlt
      generalize l[i] = x at *
      go_wp2_with fail
      go_quiet (fail)
      go_wp2
      go_roundw
      case rel => exact ⟨i + 1, by omega, by go_num, below_dn HW.out _⟩
      case measure => simp [intOf]; omega
    · obtain rfl : i = l.length := by omega
      go_wp2
      go_ret
      exact ⟨rfl, HW.out⟩

set_option maxRecDepth 100000 in
set_option maxHeartbeats 400000 in
theorem sameFracs_any (a b : Option Addr) (ca cb : Nat) (l : List Fr) (w : World) (ha : FrS w a l) (hb : FrS w b l) (hn : l.length ≤ 100000) :
    Calls Tryz.prog 46 #[.slice a l.length ca, .slice b l.length cb] w fun e w' => e = .returned (.bool true) ∧ Below w.heap.size w w' := by
  have HA := hid ha
  have HB := hid hb
  clear ha hb
  go_enter Tryz.func46, Tryz.ntmps46
  go_wp2_with fail
  go_loopw [5] (fun iv wr => ∃ i : Nat, i ≤ l.length ∧ iv = .int .i64 i ∧ Hid (Below w.heap.size w wr)) (fun iv _ => l.length - (intOf iv).toNat)
  case atStart => exact ⟨0, Nat.zero_le _, rfl, Below.refl _ _⟩
  case round =>
    obtain ⟨i, hi, rfl, HW⟩ := hrel
    by_cases hlt : i < l.length
    · obtain ⟨g, o, rfl, hg, a0, a1, a2⟩ := (HA.out.below HW.out) i hlt
      obtain ⟨g2, o2, rfl, hg2, b0, b1, b2⟩ := (HB.out.below HW.out) i hlt
      generalize l[i] = f at *
      obtain ⟨fn, fx, fy⟩ := f
      simp only at a0 a1 a2 b0 b1 b2
      go_wp2_with fail
      go_quiet (fail)
      go_wp2
      go_roundw
      case rel => exact ⟨i + 1, by omega, by go_num, below_dn HW.out _⟩
      case measure => simp [intOf]; omega
    · obtain rfl : i = l.length := by omega
      go_wp2
      go_ret
      exact ⟨rfl, HW.out⟩

set_option maxRecDepth 100000 in
set_option maxHeartbeats 400000 in
theorem sameTable_any (a b c d : Option Addr) (ca cb cc cd : Nat) (vars : List Int) (l : List Fr) (w : World) (ha : IntS w a vars) (hb : FrS w b l) (hc : IntS w c vars) (hd : FrS w d l) (hn : vars.length ≤ 100000) (hm : l.length ≤ 100000) :
    Calls Tryz.prog 15 #[.agg #[.slice a vars.length ca, .slice b l.length cb], .agg #[.slice c vars.length cc, .slice d l.length cd]] w fun e w' => e = .returned (.bool true) ∧ Below w.heap.size w w' := by
  have HA := hid ha
  have HB := hid hb
  have HC := hid hc
  have HD := hid hd
  clear ha hb hc hd
  have hB : Below w.heap.size w ((w.alloc (TC (.slice a vars.length ca) (.slice b l.length cb))).alloc (TC (.slice c vars.length cc) (.slice d l.length cd))) := ((Below.refl _ w).alloc (Nat.le_refl _) _).alloc (by simp) _
  have h0 := (TBox.at (w := w) rfl (.slice a vars.length ca) (.slice b l.length cb)).alloc (TC (.slice c vars.length cc) (.slice d l.length cd))
  have h1 := TBox.at (w := w.alloc (TC (.slice a vars.length ca) (.slice b l.length cb))) (g := w.heap.size + 1) (by simp) (.slice c vars.length cc) (.slice d l.length cd)
  have k0 := h0.c0
  have k1 := h1.c0
  go_enter Tryz.func15, Tryz.ntmps15
  go_wp2_with fail
  generalize ((w.alloc (TC (.slice a vars.length ca) (.slice b l.length cb))).alloc (TC (.slice c vars.length cc) (.slice d l.length cd))) = W at *
  refine (sameInts_any a c ca cc vars _ (HA.out.below hB) (HC.out.below hB) hn).mono ?_
  rintro e w1 ⟨rfl, hb1⟩
  replace hB := hB.trans (hb1.mono hB.size)
  replace h0 := h0.below hb1 h0.lt
  replace h1 := h1.below hb1 h1.lt
  clear k0 k1 hb1
  have k0 := h0.c1
  have k1 := h1.c1
  go_wp2_with fail
  refine (sameFracs_any b d cb cd l _ (HB.out.below hB) (HD.out.below hB) hm).mono ?_
  rintro e w2 ⟨rfl, hb2⟩
  go_wp2
  go_ret
  exact ⟨rfl, hB.trans (hb2.mono hB.size)⟩

end Go.Proofs.YtncccbdledcibaaGreatDoor

/- Both answer alike: each call on tables, in package table and in the document's answer. -/
namespace Go.Proofs.YtncccbdledcibaaGreatDoor
open Go.RowKit Go.Shelf

/-- Both answer the same table and error. -/
def TwoT (w : World) (f g : FuncId) (args : Array Value) : Prop := ∃ (V : List Int) (L : List Fr) (k : Int), V.length ≤ 100000 ∧ L.length ≤ 100000 ∧
  (∀ W, Below w.heap.size w W → Calls Tryz.prog f args W fun e w' => TabA V L k e w' ∧ Below W.heap.size W w') ∧ ∀ W, Below w.heap.size w W → Calls Tryz.prog g args W fun e w' => TabA V L k e w' ∧ Below W.heap.size W w'
/-- A table that came in. -/
structure TIn (w : World) (b c : Option Addr) (cb : Nat) (vars : List Int) (l : List Fr) : Prop where
  ints : IntS w b vars
  cells : FrS w c l
  nil : b = none → cb = 0
  len : vars.length ≤ 4096
  small : fw l ≤ 8192
theorem TIn.below {w w' : World} {b c : Option Addr} {cb : Nat} {vars : List Int} {l : List Fr} (h : TIn w b c cb vars l) (hb : Below w.heap.size w w') : TIn w' b c cb vars l := ⟨h.ints.below hb, h.cells.below hb, h.nil, h.len, h.small⟩
theorem cnt_all {sizes vars : List Int} (h1 : Fine sizes) (h2 : Up vars sizes.length) : cnt (toN sizes) (toN vars) ≤ 65536 := cnt_small h1.sz_le (by rw [toN_length]; have := h1.eight; have := h2.length; omega)
theorem FrS.farT {V : World} {c : Option Addr} {l : List Fr} {g : Nat} {x y : Value} (h : FrS V c l) (hb : TBox V g x y) (hx : SlV x) (hy : SlV y) (j : Nat) (u : Value) : FrS (V.setCell ⟨g, j, none⟩ u) c l := fun k hk => by
  obtain ⟨g', o, rfl, hlt, h0, h1, h2⟩ := h k hk
  obtain ⟨a1, n1, c1, rfl⟩ := hx
  obtain ⟨a2, n2, c2, rfl⟩ := hy
  have hne : ¬ g' = g := fun e => by
    subst e
    rw [cell_of_row V g' _ _ _ (0, 0) hb] at h0
    match hm : o + k * 3 with
    | 0 => rw [hm] at h0; simp at h0
    | 1 => rw [hm] at h0; simp at h0
    | m + 2 => rw [hm] at h0; simp at h0
  have far : ∀ i, (V.setCell ⟨g, j, none⟩ u).cell? ⟨g', i, none⟩ = V.cell? ⟨g', i, none⟩ := fun i => World.cell?_setCell_other _ _ _ _ (fun e => hne (congrArg Addr.block e).symm)
  exact ⟨g', o, rfl, Nat.lt_of_lt_of_le hlt (KeepsOthers.setCell V _ _).size, (far _).trans h0, (far _).trans h1, (far _).trans h2⟩
theorem FrS.putT {V : World} {c : Option Addr} {l : List Fr} {g : Nat} {x y : Value} (h : FrS V c l) (hb : TBox V g x y) (hx : SlV x) (hy : SlV y) {x' : Value} (hx' : SlV x') (y' : Value) : FrS ((V.setCell ⟨g, 0, none⟩ x').setCell ⟨g, 1, none⟩ y') c l := by
  have h1 : TBox (V.setCell ⟨g, 0, none⟩ x') g x' y := heap_setCell_same V g 0 _ _ x' hb
  exact (h.farT hb hx hy 0 _).farT h1 hx' hy 1 _
end Go.Proofs.YtncccbdledcibaaGreatDoor


/- The law's raw numbers: tableOf. -/
namespace Go.Proofs.YtncccbdledcibaaGreatDoor
open Go.RowKit Go.Shelf

theorem wp_append_fr {w : World} {o : Oper} {a : Act} {K : Act → World → Prop} {Q : Exit → Act → World → Prop} (s x : Operand)
    (ho : o.op = .call { callee := .builtin .append, args := #[s, x], argTypes := #[29, 29] }) (base : Nat) (v : Value) (l : List Fr) (f : Fr) (hs : a.eval s = v) (hown : RwF w base v l) (g : Nat) (hx : a.eval x = .slice (some ⟨g, 0, none⟩) 1 1) (hg : Box w g f.1 f.2.1 f.2.2) (hlen : l.length + 1 ≤ 100000) (hbase : base ≤ w.heap.size)
    (h : ∀ v' w', RwF w' base v' (l ++ [f]) → w.grownBy w' v.ownBlock → K (a.put o.dst v') w') : o.wp Tryz.prog a w K Q := by
  obtain ⟨i0, hi0, hz0, hz1, hz2⟩ := info_parts Tryz.infoFrac
  refine wp_append_own _ s x 29 ho base 37 i0 (.agg #[.bool false, .string ⟨#[]⟩, .string ⟨#[]⟩]) 3 40 Tryz.underlying29 hi0 hz0 hz1 hz2 rfl (by decide) v l.length _ hs hown ⟨g, 0, none⟩ 1 1 [.bool f.1, .string f.2.1, .string f.2.2] hx rfl ?_ ?_ (by unfold maxLen; omega) (by omega) hbase ?_
  · intro j u hj
    match j, hj with
    | 0, hj => cases hj; exact hg.c0
    | 1, hj => cases hj; exact hg.c1
    | 2, hj => cases hj; exact hg.c2
    | j + 3, hj => simp at hj
  · intro u hu
    simp only [List.mem_cons, List.not_mem_nil, or_false] at hu
    rcases hu with rfl | rfl | rfl <;> rfl
  · intro v' w' h1 h2 _
    refine h v' w' ?_ h2
    rw [RwF, List.length_append, frC_snoc]
    exact h1
theorem mkRat_int (k : Int) : mkRat k 1 = (k : Rat) := by
  rw [Rat.mkRat_one]
theorem rOf_q (k : Int) (w : World) (hk : k.natAbs ≤ 255) : Calls Tryz.prog 20 #[.int .i64 k] w fun e w' => ∃ f : Fr, e = .returned (frV f) ∧ (∃ q, f = qF q ∧ qw q ≤ 2) ∧ Below w.heap.size w w' := by
  refine (rOfF_any k w (by omega) (by omega)).mono ?_
  rintro e w' ⟨rfl, hb⟩
  rw [mkRat_int]
  exact ⟨qF (k : Rat), rfl, ⟨_, rfl, int_size hk⟩, hb⟩
theorem Sml.snoc {s : Nat} {l : List Fr} {f : Fr} (h : Sml s l) (hf : ∃ q, f = qF q ∧ qw q ≤ s) : Sml s (l ++ [f]) := fun g hg => (List.mem_append.1 hg).elim (h g) fun e => by rw [List.mem_singleton.1 e]; exact hf


end Go.Proofs.YtncccbdledcibaaGreatDoor


/- Package graph: sets as bits. -/
namespace Go.Proofs.YtncccbdledcibaaGreatDoor
open Go.RowKit

/-- A set of numbers as bits. -/
def mskN : List Nat → Nat
  | [] => 0
  | v :: l => mskN l ||| 2 ^ v
theorem msk_bit (l : List Nat) (v : Nat) : (mskN l).testBit v = decide (v ∈ l) := by
  induction l with
  | nil => simp [mskN]
  | cons u l ih =>
    rw [mskN, Nat.testBit_or, ih, Nat.testBit_two_pow]
    by_cases h : u = v
    · subst h; simp
    · have h' : ¬ v = u := fun e => h e.symm
      simp [h, h']
theorem msk_ext {a b : List Nat} (h : ∀ x, x ∈ a ↔ x ∈ b) : mskN a = mskN b := by
  apply Nat.eq_of_testBit_eq
  intro i
  rw [msk_bit, msk_bit]
  exact decide_eq_decide.2 (h i)
theorem msk_lt : ∀ {l : List Nat}, (∀ v ∈ l, v < 8) → mskN l < 256
  | [], _ => by decide
  | v :: l, h => by
    have h1 := msk_lt (l := l) fun u hu => h u (List.mem_cons_of_mem _ hu)
    have h2 : 2 ^ v < 2 ^ 8 := Nat.pow_lt_pow_right (by decide) (h v List.mem_cons_self)
    exact Nat.or_lt_two_pow (n := 8) h1 h2
theorem bit_div (s v : Nat) : (s / 2 ^ v &&& 1 = 1) ↔ s.testBit v = true := by
  rw [Nat.testBit_eq_decide_div_mod_eq, decide_eq_true_iff, Nat.and_one_is_mod]
theorem holds_iff {s p : Nat} (hs : s < 256) (hp : p < 256) : (p &&& (4294967295 - s) = 0) ↔ ∀ v, p.testBit v = true → s.testBit v = true := by
  have e : 4294967295 - s = 2 ^ 32 - (s + 1) := by omega
  have hs' : s < 2 ^ 32 := by omega
  rw [e]
  constructor
  · intro h v hv
    have h1 : (p &&& (2 ^ 32 - (s + 1))).testBit v = false := by rw [h]; simp
    rw [Nat.testBit_and, hv, Nat.testBit_two_pow_sub_succ hs', Bool.true_and] at h1
    have hlt : v < 32 := by
      rcases Nat.lt_or_ge v 32 with h2 | h2
      · exact h2
      · have := Nat.testBit_lt_two_pow (x := p) (i := v) (Nat.lt_of_lt_of_le (show p < 2 ^ 32 by omega) (Nat.pow_le_pow_right (by decide) h2))
        rw [this] at hv
        cases hv
    simpa [hlt] using h1
  · intro h
    apply Nat.eq_of_testBit_eq
    intro i
    rw [Nat.testBit_and, Nat.testBit_two_pow_sub_succ hs', Nat.zero_testBit]
    cases hp' : p.testBit i
    · rfl
    · rw [h i hp']; simp

set_option maxRecDepth 100000 in
set_option maxHeartbeats 400000 in
theorem sWith_any (l : List Nat) (v : Nat) (w : World) (hl : ∀ u ∈ l, u < 8) (hv : v < 8) :
    Calls Tryz.prog 140 #[.int .u32 (mskN l : Nat), .int .i64 (v : Nat)] w fun e w' => e = .returned (.int .u32 (mskN (v :: l) : Nat)) ∧ w' = w := by
  have hs := msk_lt hl
  have h2 : 2 ^ v < 256 := show 2 ^ v < 2 ^ 8 from Nat.pow_lt_pow_right (by decide) hv
  have HE : Hid (bits BinOp.or IntKind.u32 (mskN l : Nat) (2 ^ v % 4294967296) = ((mskN (v :: l) : Nat) : Int)) := by
    show _ = _
    have e : ((2 : Int) ^ v % 4294967296) = ((2 ^ v : Nat) : Int) := by
      have e2 : ((2 : Int) ^ v) = ((2 ^ v : Nat) : Int) := by rw [Int.natCast_pow]; rfl
      rw [e2]
      generalize (2 ^ v : Nat) = q at *
      omega
    rw [e, u32_or_nat _ _ (by omega) (by omega)]
    rfl
  generalize mskN (v :: l) = r at *
  generalize mskN l = s at *
  go_enter Tryz.func140, Tryz.ntmps140
  go_wp2
  go_ret
  exact ⟨by rw [HE.out]; rfl, rfl⟩
set_option maxRecDepth 100000 in
set_option maxHeartbeats 400000 in
theorem sHas_any (l : List Nat) (v : Nat) (w : World) (hl : ∀ u ∈ l, u < 8) (hv : v < 8) :
    Calls Tryz.prog 138 #[.int .u32 (mskN l : Nat), .int .i64 (v : Nat)] w fun e w' => e = .returned (.bool (decide (v ∈ l))) ∧ w' = w := by
  have hs := msk_lt hl
  have HE : Hid ((bits BinOp.and IntKind.u32 ((mskN l : Nat) / 2 ^ v) 1 == 1) = decide (v ∈ l)) := by
    show _ = _
    have e : (((mskN l : Nat) : Int) / 2 ^ v) = ((mskN l / 2 ^ v : Nat) : Int) := by rw [Int.natCast_ediv, Int.natCast_pow]; rfl
    have hle : mskN l / 2 ^ v ≤ mskN l := Nat.div_le_self _ _
    rw [e, show (1 : Int) = ((1 : Nat) : Int) from rfl, u32_and_nat _ _ (by omega) (by omega), ← msk_bit, Bool.eq_iff_iff, ← bit_div, beq_iff_eq]
    omega
  generalize decide (v ∈ l) = r at *
  generalize mskN l = s at *
  go_enter Tryz.func138, Tryz.ntmps138
  go_wp2
  go_ret
  exact ⟨by rw [HE.out]; rfl, rfl⟩
set_option maxRecDepth 100000 in
set_option maxHeartbeats 400000 in
theorem sHolds_any (l p : List Nat) (w : World) (hl : ∀ u ∈ l, u < 8) (hp : ∀ u ∈ p, u < 8) :
    Calls Tryz.prog 139 #[.int .u32 (mskN l : Nat), .int .u32 (mskN p : Nat)] w fun e w' => e = .returned (.bool (decide (∀ v ∈ p, v ∈ l))) ∧ w' = w := by
  have hs := msk_lt hl
  have hq := msk_lt hp
  have HE : Hid ((bits BinOp.andNot IntKind.u32 (mskN p : Nat) (mskN l : Nat) == 0) = decide (∀ v ∈ p, v ∈ l)) := by
    show _ = _
    have hi := holds_iff hs hq
    simp only [msk_bit, decide_eq_true_eq] at hi
    rw [u32_andNot_nat _ _ (by omega) (by omega), Bool.eq_iff_iff, beq_iff_eq, decide_eq_true_iff, ← hi]
    omega
  generalize decide (∀ v ∈ p, v ∈ l) = r at *
  generalize mskN l = s at *
  generalize mskN p = t at *
  go_enter Tryz.func139, Tryz.ntmps139
  go_wp2
  go_ret
  exact ⟨by rw [HE.out]; rfl, rfl⟩

theorem toN_take (l : List Int) (i : Nat) : toN (l.take i) = (toN l).take i := by simp [toN, List.map_take]
theorem ris_small {l : List Int} {n i : Nat} (hn : n ≤ 8) (h : (List.range i).all (okAt l n) = true) (hi : i ≤ l.length) : ∀ u ∈ toN (l.take i), u < 8 := by
  intro u hu
  obtain ⟨x, hx, rfl⟩ := List.mem_map.1 hu
  obtain ⟨j, hj, rfl⟩ := List.getElem_of_mem hx
  rw [List.length_take] at hj
  have h1 := List.all_eq_true.1 h j (List.mem_range.2 (by omega))
  rw [okAt, decide_eq_true_iff, getD_eq (by omega)] at h1
  rw [List.getElem_take]
  omega
/-- What setOf answers. -/
def setA (l : List Int) (n : Nat) : Nat := if risB l n = true then mskN (toN l) else 0
set_option maxRecDepth 100000 in
set_option maxHeartbeats 1000000 in
theorem setOf_any (a : Option Addr) (cap : Nat) (l : List Int) (n : Nat) (w : World) (h : IntS w a l) (hn : l.length ≤ 140737488355328) (hnn : n ≤ 8) :
    Calls Tryz.prog 164 #[.slice a l.length cap, .int .i64 (n : Nat)] w fun e w' => e = .returned (.tuple #[.int .u32 (setA l n : Nat), .bool (risB l n)]) ∧ w' = w := by
  have HF := hid h
  clear h
  have HB := hid (fun i h e => risB_bad (l := l) (n := n) (i := i) h e)
  have HT : Hid ((List.range l.length).all (okAt l n) = true → risB l n = true) := id
  have HA1 : Hid (risB l n = true → setA l n = mskN (toN l)) := fun h => if_pos h
  have HA2 : Hid (risB l n = false → setA l n = 0) := fun h => if_neg (by rw [h]; decide)
  generalize risB l n = rb at *
  generalize setA l n = ra at *
  go_enter Tryz.func164, Tryz.ntmps164
  go_wp2_with fail
  go_loopw [6, 7, 12] (fun sv lv iv wr => ∃ i : Nat, i ≤ l.length ∧ iv = .int .i64 i ∧ lv = .int .i64 (least l i) ∧ sv = .int .u32 (mskN (toN (l.take i)) : Nat) ∧ Hid ((List.range i).all (okAt l n) = true) ∧ wr = w) (fun _ _ iv _ => l.length - (intOf iv).toNat)
  case atStart => exact ⟨0, Nat.zero_le _, rfl, rfl, rfl, rfl, rfl⟩
  case round =>
    obtain ⟨i, hi, rfl, rfl, rfl, HI, rfl⟩ := hrel
    by_cases hlt : i < l.length
    · obtain ⟨g, o, rfl, hg, c0⟩ := HF.out i hlt
      obtain ⟨hok, hl0⟩ := okAt_least hlt HI.out
      have HLS := hid (least_succ hlt)
      have HOK := hid hok
      have HSM := hid (ris_small hnn HI.out hi)
      have HST : Hid (∀ x : Nat, (x : Int) = l[i] → mskN (x :: toN (l.take i)) = mskN (toN (l.take (i + 1)))) := fun x hx => msk_ext fun z => by
        rw [List.take_succ_eq_append_getElem hlt, ← hx, toN, toN, List.map_append]
        simp only [List.mem_cons, List.mem_append, List.map_cons, List.map_nil, List.not_mem_nil, or_false, Int.toNat_natCast]
        exact or_comm
      clear hok
      generalize hs1 : mskN (toN (l.take (i + 1))) = s1 at *
      have HS1 := hid hs1
      clear hs1
      generalize toN (l.take i) = pre at *
      generalize least l i = m at *
      generalize l[i] = x at *
      by_cases e : m ≤ x ∧ x < n
      · have HS := hid (ris_succ HI.out (by rw [HOK.out]; exact decide_eq_true e))
        obtain ⟨e1, e2⟩ := e
        obtain ⟨X, rfl⟩ : ∃ X : Nat, x = X := ⟨x.toNat, by omega⟩
        have hst := HST.out X rfl
        go_wp2_with fail
        refine (sWith_any pre X _ HSM.out (by omega)).mono ?_
        rintro e w1 ⟨rfl, rfl⟩
        rw [hst]
        go_wp2
        go_roundw
        case rel => exact ⟨i + 1, by omega, by go_num, by rw [HLS.out], by rw [HS1.out], HS.out, trivial⟩
        case measure => simp [intOf]; omega
      · have HE := hid (HB.out i hlt (by rw [HOK.out]; exact decide_eq_false e))
        rcases (show x < m ∨ (m ≤ x ∧ (n : Int) ≤ x) by omega) with h3 | ⟨h3, h4⟩
        all_goals
          clear e
          go_wp2
          go_ret2
          exact ⟨by rw [HA2.out HE.out, HE.out]; rfl, rfl⟩
    · obtain rfl : i = l.length := by omega
      have HE := hid (HT.out HI.out)
      have HA := hid (HA1.out HE.out)
      rw [List.take_length]
      go_wp2
      go_ret2
      exact ⟨by rw [HA.out, HE.out]; rfl, rfl⟩
end Go.Proofs.YtncccbdledcibaaGreatDoor

/- Package graph: lists of lists, and their sets. -/
namespace Go.Proofs.YtncccbdledcibaaGreatDoor
open Go.RowKit

/-- A list of lists of ints in memory. -/
def LsS (w : World) (a : Option Addr) (L : List (List Int)) : Prop := ∀ k (h : k < L.length), ∃ g o b c, a = some ⟨g, o, none⟩ ∧ g < w.heap.size ∧ w.cell? ⟨g, o + k, none⟩ = some (.slice b L[k].length c) ∧ IntS w b L[k]
theorem LsS.below {w w' : World} {a : Option Addr} {L : List (List Int)} (h : LsS w a L) (hb : Below w.heap.size w w') : LsS w' a L := fun k hk => by
  obtain ⟨g, o, b, c, h1, h2, h3, h4⟩ := h k hk
  exact ⟨g, o, b, c, h1, Nat.lt_of_lt_of_le h2 hb.size, (hb.cell (p := ⟨g, o + k, none⟩) h2).trans h3, h4.below hb⟩
/-- What is nil in a list of lists has no room. -/
def LsN (w : World) (a : Option Addr) (L : List (List Int)) : Prop := ∀ k, k < L.length → ∀ g o b n c, a = some ⟨g, o, none⟩ → w.cell? ⟨g, o + k, none⟩ = some (.slice b n c) → b = none → c = 0
theorem LsN.below {w w' : World} {a : Option Addr} {L : List (List Int)} (h : LsN w a L) (hl : LsS w a L) (hb : Below w.heap.size w w') : LsN w' a L := fun k hk g o b n c ha hc hn => by
  obtain ⟨g', o', _, _, e, hg, _⟩ := hl k hk
  rw [ha] at e
  cases e
  exact h k hk g o b n c ha ((hb.cell (p := ⟨g, o + k, none⟩) hg).symm.trans hc) hn
abbrev uv (x : Nat) : Value := .int .u32 (x : Int)
/-- The block g holds these sets. -/
def RowU (w : World) (g : Nat) (l : List Nat) : Prop := w.heap[g]? = some (.cells (l.map uv).toArray 157 (0, 0))
theorem RowU.cell {w : World} {g : Nat} {l : List Nat} (h : RowU w g l) (j : Nat) (hj : j < l.length) : w.cell? ⟨g, j, none⟩ = some (.int .u32 (l[j] : Nat)) := by
  rw [cell_of_row w g j _ _ (0, 0) h]
  simp [uv, hj]
theorem RowU.fz {w : World} {g : Nat} {l : List Nat} (h : RowU w g l) (j : Nat) : w.frozen? ⟨g, j, none⟩ = false := frozen_of_row w g j _ _ h
theorem RowU.lt {w : World} {g : Nat} {l : List Nat} (h : RowU w g l) : g < w.heap.size := (Array.getElem?_eq_some_iff.1 h).1
theorem RowU.below {w w' : World} {g b : Nat} {l : List Nat} (h : RowU w g l) (hb : Below b w w') (hg : g < b) : RowU w' g l := (hb.block g hg).trans h
theorem RowU.set {w : World} {g : Nat} {l : List Nat} (h : RowU w g l) (j y : Nat) : RowU (w.setCell ⟨g, j, none⟩ (.int .u32 (y : Int))) g (l.set j y) := by
  have h2 := heap_setCell_same w g j _ _ (.int .u32 (y : Int)) h
  rw [RowU, h2]
  simp [List.map_set, uv]
theorem made_sets (n : Nat) : (madeCells (Value.int .u32 0).cells (n * 1)).toList = (List.replicate n (0 : Nat)).map uv := by
  rw [show (Value.int .u32 0).cells = #[Value.int .u32 0] from rfl, toList_madeCells_one, Nat.mul_one, List.map_replicate]; rfl
theorem Tryz.infoSet : (Tryz.prog.info? 157).map (fun i => (i.zero, i.size, i.bytes)) = some (some (.int .u32 0), 1, 4) := by kernel_rfl

/-- All lists rise. -/
def allRis (L : List (List Int)) (n : Nat) : Bool := L.all fun l => risB l n
/-- Their sets. -/
def masks (L : List (List Int)) : List Nat := L.map fun l => mskN (toN l)
theorem masks_length (L : List (List Int)) : (masks L).length = L.length := by simp [masks]
theorem allRis_bad {L : List (List Int)} {n i : Nat} (h : i < L.length) (e : risB L[i] n = false) : allRis L n = false := by
  rw [allRis, List.all_eq_false]; exact ⟨L[i], List.getElem_mem h, by rw [e]; decide⟩
theorem setA_yes {l : List Int} {n : Nat} (h : risB l n = true) : setA l n = mskN (toN l) := if_pos h

set_option maxRecDepth 100000 in
set_option maxHeartbeats 1000000 in
theorem setsOf_any (a : Option Addr) (ca n : Nat) (L : List (List Int)) (w : World) (h : LsS w a L) (hL : L.length ≤ 8) (hn : n ≤ 8) (hl : ∀ l ∈ L, l.length ≤ 140737488355328) :
    Calls Tryz.prog 137 #[.slice a L.length ca, .int .i64 (n : Nat)] w fun e w' => Below w.heap.size w w' ∧
      ((allRis L n = true ∧ ∃ G, e = .returned (.tuple #[.slice (some ⟨G, 0, none⟩) L.length L.length, .bool true]) ∧ w.heap.size ≤ G ∧ RowU w' G (masks L)) ∨ (allRis L n = false ∧ e = .returned (.tuple #[.slice none 0 0, .bool false]))) := by
  obtain ⟨i0, hi0, hz0, hz1, hz2⟩ := info_parts Tryz.infoSet
  have HF := hid h
  have HB := hid (fun i h e => allRis_bad (L := L) (n := n) (i := i) h e)
  have HT : Hid ((∀ i (h : i < L.length), risB L[i] n = true) → allRis L n = true) := fun h => List.all_eq_true.2 fun l hl => by
    obtain ⟨i, hi, rfl⟩ := List.getElem_of_mem hl
    exact h i hi
  have HM : Hid (∀ i (h : i < L.length), (masks L)[i]? = some (mskN (toN L[i]))) := fun i h => by simp [masks, h]
  have HSZ := hid hl
  have hml := masks_length L
  generalize allRis L n = rb at *
  generalize masks L = ms at *
  clear h hl
  go_enter Tryz.func137, Tryz.ntmps137
  go_wp2_with (first
    | (at_make; refine wpList_make_full _ rfl _ _ 92 rfl w.heap.size 157 i0 (.int .u32 0) 1 Tryz.underlying92 hi0 hz0 hz1 .i64 .i64 _ _ L.length rfl rfl (by go_num) (by go_num) (by rw [hz2]; omega) (by unfold maxLen; omega) (Nat.le_refl _) ?_; intro w2 hown2 hgrow2))
  have hb2 := block_of_own hown2
  rw [made_sets] at hb2
  have HB2 : Hid (Below w.heap.size w w2) := (Below.refl _ w).grown hgrow2 (Nat.le_refl _) (fun k e => by cases e)
  have HI : Hid (RowU w2 w.heap.size (List.replicate L.length 0)) := hb2
  clear hown2 hgrow2 hb2
  go_wp2_with fail
  go_loopw [15] (fun iv wr => ∃ i : Nat, i ≤ L.length ∧ iv = .int .i64 i ∧ Hid (∀ j (h : j < L.length), j < i → risB L[j] n = true) ∧ Hid (RowU wr w.heap.size (partD ms i)) ∧ Hid (Below w.heap.size w wr)) (fun iv _ => L.length - (intOf iv).toNat)
  case atStart => exact ⟨0, Nat.zero_le _, rfl, fun j _ h => absurd h (by omega), by rw [partD_zero, hml]; exact HI, HB2⟩
  case round =>
    obtain ⟨i, hi, rfl, HR, HU, HBW⟩ := hrel
    clear HI HB2
    by_cases hlt : i < L.length
    · obtain ⟨g, o, b, c, rfl, hg, c0, hI⟩ := (HF.out.below HBW.out) i hlt
      have hll := HSZ.out L[i] (List.getElem_mem hlt)
      have HII := hid hI
      clear hI
      have HBi := hid (HB.out i hlt)
      have HMi := hid (HM.out i hlt)
      have HRi : Hid (risB L[i] n = true → ∀ j (h : j < L.length), j < i + 1 → risB L[j] n = true) := fun h j hj hji => by
        rcases Nat.lt_or_ge j i with h2 | h2
        · exact HR.out j hj h2
        · obtain rfl : j = i := by omega
          exact h
      have HSA : Hid (risB L[i] n = true → setA L[i] n = mskN (toN L[i])) := setA_yes
      generalize L[i] = l at *
      go_wp2_with fail
      refine (setOf_any b c l n _ HII.out hll hn).mono ?_
      rintro e w3 ⟨rfl, rfl⟩
      cases hr : risB l n with
      | false =>
        have HE := hid (HBi.out hr)
        generalize setA l n = s at *
        go_wp2
        go_ret2
        exact ⟨HBW.out, .inr ⟨HE.out, rfl⟩⟩
      | true =>
        rw [HSA.out hr]
        have HPR := hid (HRi.out hr)
        have k0 := HU.out.cell i (by rw [partD_length _ (by omega)]; omega)
        have f0 := HU.out.fz i
        have HSE := hid (HU.out.set i (mskN (toN l)))
        have HPS : Hid ((partD ms i).set i (mskN (toN l)) = partD ms (i + 1)) := by
          show _ = _
          obtain ⟨h1, h2⟩ := List.getElem?_eq_some_iff.1 HMi.out
          rw [← h2]
          exact partD_set ms h1
        rw [HPS.out] at HSE
        have HBS := hid (HBW.out.setCell (p := ⟨w.heap.size, i, none⟩) (Nat.le_refl _) (.int .u32 (mskN (toN l) : Nat)))
        clear hr
        generalize mskN (toN l) = s at *
        generalize (partD ms i)[i]'(by rw [partD_length _ (by omega)]; omega) = z at *
        go_wp2
        go_roundw
        case rel => exact ⟨i + 1, by omega, by go_num, HPR, HSE, HBS⟩
        case measure => simp [intOf]; omega
    · obtain rfl : i = L.length := by omega
      have HE := hid (HT.out fun j hj => HR.out j hj hj)
      have hU := HU.out
      rw [← hml, partD_all] at hU
      have HUU := hid hU
      clear hU
      go_wp2
      go_ret2
      exact ⟨HBW.out, .inl ⟨HE.out, _, rfl, Nat.le_refl _, HUU.out⟩⟩
end Go.Proofs.YtncccbdledcibaaGreatDoor

/- Package graph: readOthers. -/
namespace Go.Proofs.YtncccbdledcibaaGreatDoor
open Go.RowKit

/-- No list has its own number. -/
def noSelf (L : List (List Int)) : Bool := (List.range L.length).all fun v => !decide (v ∈ toN (L.getD v []))
/-- Lists of other nodes. -/
def gB (L : List (List Int)) : Bool := decide (1 ≤ L.length ∧ L.length ≤ 8) && allRis L L.length && noSelf L

set_option maxRecDepth 100000 in
set_option maxHeartbeats 400000 in
theorem mayCount_any (n : Nat) (w : World) :
    Calls Tryz.prog 136 #[.int .i64 (n : Nat)] w fun e w' => e = .returned (.bool (decide (1 ≤ n ∧ n ≤ 8))) ∧ w' = w := by
  by_cases h1 : 1 ≤ n
  · by_cases h2 : n ≤ 8
    · rw [decide_eq_true (p := 1 ≤ n ∧ n ≤ 8) ⟨h1, h2⟩]
      have e1 : (1 : Int) ≤ (n : Int) := by omega
      have e2 : (n : Int) ≤ 8 := by omega
      go_enter Tryz.func136, Tryz.ntmps136
      go_wp2
      go_ret
      exact ⟨rfl, rfl⟩
    · rw [decide_eq_false (p := 1 ≤ n ∧ n ≤ 8) (fun h => h2 h.2)]
      have e1 : (1 : Int) ≤ (n : Int) := by omega
      have HE : Hid (decide ((n : Int) ≤ 8) = false) := decide_eq_false (by omega)
      clear h2
      go_enter Tryz.func136, Tryz.ntmps136
      go_wp2
      go_ret
      exact ⟨by rw [HE.out]; rfl, rfl⟩
  · rw [decide_eq_false (p := 1 ≤ n ∧ n ≤ 8) (fun h => h1 h.1)]
    obtain rfl : n = 0 := by omega
    clear h1
    go_enter Tryz.func136, Tryz.ntmps136
    go_wp2
    go_ret
    exact ⟨rfl, rfl⟩
theorem ris_all {l : List Int} {n : Nat} (hn : n ≤ 8) (h : risB l n = true) : ∀ u ∈ toN l, u < 8 := by
  have := ris_small (l := l) (n := n) (i := l.length) hn h (Nat.le_refl _)
  rwa [List.take_length] at this
theorem allRis_at {L : List (List Int)} {n i : Nat} (h : allRis L n = true) (hi : i < L.length) : risB L[i] n = true := List.all_eq_true.1 h _ (List.getElem_mem hi)
theorem noSelf_bad {L : List (List Int)} {i : Nat} (h : i < L.length) (e : i ∈ toN L[i]) : noSelf L = false := by
  rw [noSelf, List.all_eq_false]
  refine ⟨i, List.mem_range.2 h, ?_⟩
  rw [List.getD_eq_getElem?_getD, List.getElem?_eq_getElem h]
  simpa using e
theorem noSelf_good {L : List (List Int)} (h : ∀ i (hi : i < L.length), ¬ i ∈ toN L[i]) : noSelf L = true := by
  rw [noSelf, List.all_eq_true]
  intro i hi
  have hi' := List.mem_range.1 hi
  rw [List.getD_eq_getElem?_getD, List.getElem?_eq_getElem hi']
  simpa using h i hi'

set_option maxRecDepth 100000 in
set_option maxHeartbeats 1000000 in
theorem readOthers_any (a : Option Addr) (ca : Nat) (L : List (List Int)) (w : World) (h : LsS w a L) (hl : ∀ l ∈ L, l.length ≤ 140737488355328) :
    Calls Tryz.prog 105 #[.slice a L.length ca] w fun e w' => Below w.heap.size w w' ∧
      ((gB L = true ∧ ∃ G, e = .returned (.tuple #[.slice (some ⟨G, 0, none⟩) L.length L.length, .bool true]) ∧ w.heap.size ≤ G ∧ RowU w' G (masks L)) ∨ (gB L = false ∧ ∃ v, e = .returned (.tuple #[v, .bool false]))) := by
  have HF := hid h
  have HL := hid hl
  have HG : Hid (gB L = (decide (1 ≤ L.length ∧ L.length ≤ 8) && allRis L L.length && noSelf L)) := rfl
  generalize gB L = gb at *
  clear h hl
  cases hm : decide (1 ≤ L.length ∧ L.length ≤ 8) with
  | false =>
    have HC := hid (fun V : World => mayCount_any L.length V)
    rw [hm] at HG HC
    have HGF : Hid (gb = false) := by show _ = _; rw [HG.out]; rfl
    clear hm HG
    go_enter Tryz.func105, Tryz.ntmps105
    go_wp2_with fail
    refine (HC.out _).mono ?_
    rintro e w1 ⟨rfl, rfl⟩
    go_wp2
    go_ret2
    exact ⟨Below.refl _ _, .inr ⟨HGF.out, _, rfl⟩⟩
  | true =>
    have HC := hid (fun V : World => mayCount_any L.length V)
    rw [hm] at HG HC
    obtain ⟨h1, h8⟩ := of_decide_eq_true hm
    have HS := hid (fun (V : World) (hV : LsS V a L) => setsOf_any a ca L.length L V hV h8 h8 HL.out)
    have HRA : Hid (allRis L L.length = true → ∀ i (hi : i < L.length), ∀ u ∈ toN L[i], u < 8) := fun h i hi => ris_all h8 (allRis_at h hi)
    have HNB := hid (fun i h e => noSelf_bad (L := L) (i := i) h e)
    have HNG := hid (fun h => noSelf_good (L := L) h)
    have HM : Hid (∀ i (h : i < L.length), (masks L)[i]? = some (mskN (toN L[i]))) := fun i h => by simp [masks, h]
    clear hm
    generalize allRis L L.length = ra at *
    generalize noSelf L = rn at *
    generalize masks L = ms at *
    go_enter Tryz.func105, Tryz.ntmps105
    go_wp2_with fail
    refine (HC.out _).mono ?_
    rintro e w1 ⟨rfl, rfl⟩
    go_wp2_with fail
    refine (HS.out _ HF.out).mono ?_
    rintro e w2 ⟨hb, ⟨hra, G, rfl, hG, hU⟩ | ⟨hra, rfl⟩⟩
    · have HU := hid hU
      have HB := hid hb
      have HAT := hid (HRA.out hra)
      have HGB : Hid (gb = rn) := by show _ = _; rw [HG.out, hra]; rfl
      clear hU hb hra HG
      go_wp2_with fail
      go_loopw [21] (fun iv wr => ∃ i : Nat, i ≤ L.length ∧ iv = .int .i64 i ∧ Hid (∀ j (h : j < L.length), j < i → ¬ j ∈ toN L[j]) ∧ wr = w2) (fun iv _ => L.length - (intOf iv).toNat)
      case atStart => exact ⟨0, Nat.zero_le _, rfl, fun j _ h => absurd h (by omega), rfl⟩
      case round =>
        obtain ⟨i, hi, rfl, HR, rfl⟩ := hrel
        by_cases hlt : i < L.length
        · have hmi := HM.out i hlt
          obtain ⟨hm1, hm2⟩ := List.getElem?_eq_some_iff.1 hmi
          have c0 := HU.out.cell i hm1
          rw [hm2] at c0
          have HNi := hid (HNB.out i hlt)
          have HRi : Hid (¬ i ∈ toN L[i] → ∀ j (h : j < L.length), j < i + 1 → ¬ j ∈ toN L[j]) := fun h j hj hji => by
            rcases Nat.lt_or_ge j i with h2 | h2
            · exact HR.out j hj h2
            · obtain rfl : j = i := by omega
              exact h
          have HH := hid (fun V : World => sHas_any (toN L[i]) i V (HAT.out i hlt) (by omega))
          clear hmi hm1 hm2
          generalize toN L[i] = l at *
          go_wp2_with fail
          refine (HH.out _).mono ?_
          rintro e w3 ⟨rfl, rfl⟩
          by_cases hin : i ∈ l
          · rw [decide_eq_true hin]
            have HE := hid (HNi.out hin)
            clear hin
            go_wp2
            go_ret2
            exact ⟨HB.out, .inr ⟨by rw [HGB.out]; exact HE.out, _, rfl⟩⟩
          · rw [decide_eq_false hin]
            have HE := hid (HRi.out hin)
            clear hin
            go_wp2
            go_roundw
            case rel => exact ⟨i + 1, by omega, by go_num, HE, trivial⟩
            case measure => simp [intOf]; omega
        · obtain rfl : i = L.length := by omega
          have HE := hid (HNG.out fun j hj => HR.out j hj hj)
          go_wp2
          go_ret2
          exact ⟨HB.out, .inl ⟨by rw [HGB.out]; exact HE.out, G, rfl, hG, HU.out⟩⟩
    · have HGB : Hid (gb = false) := by show _ = _; rw [HG.out, hra]; rfl
      have HB := hid hb
      clear hra hb HG
      go_wp2_with fail
      go_loopw [21] (fun iv wr => iv = .int .i64 0 ∧ wr = w2) (fun _ _ => 0)
      case atStart => exact ⟨rfl, rfl⟩
      case round =>
        obtain ⟨rfl, rfl⟩ := hrel
        go_wp2
        go_ret2
        exact ⟨HB.out, .inr ⟨HGB.out, _, rfl⟩⟩
end Go.Proofs.YtncccbdledcibaaGreatDoor

/- Plain: the order of nodes, each behind its parents, the least first. -/
namespace Go.Proofs.YtncccbdledcibaaGreatDoor

/-- May a node come next? -/
def freeB (P : List (List Nat)) (out : List Nat) (v : Nat) : Bool := !decide (v ∈ out) && decide (∀ u ∈ P.getD v [], u ∈ out)
/-- The least that may. -/
def nextV (P : List (List Nat)) (out : List Nat) : Option Nat := (List.range P.length).find? (freeB P out)
/-- Those that stand there behind k steps. -/
def ordN (P : List (List Nat)) : Nat → List Nat
  | 0 => []
  | k + 1 => match nextV P (ordN P k) with
    | some v => ordN P k ++ [v]
    | none => ordN P k
theorem find_range {p : Nat → Bool} : ∀ {n v : Nat}, v < n → p v = true → (∀ u, u < v → p u = false) → (List.range n).find? p = some v := by
  intro n
  induction n with
  | zero => intro v h; omega
  | succ n ih =>
    intro v hv hp hu
    rw [List.range_succ, List.find?_append]
    rcases Nat.lt_or_ge v n with h | h
    · rw [ih h hp hu]; rfl
    · obtain rfl : v = n := by omega
      have : (List.range v).find? p = none := List.find?_eq_none.2 fun u hu' => by rw [hu u (List.mem_range.1 hu')]; decide
      rw [this]
      simp [hp]
theorem next_some {P : List (List Nat)} {out : List Nat} {v : Nat} (hv : v < P.length) (hp : freeB P out v = true) (hu : ∀ u, u < v → freeB P out u = false) : nextV P out = some v := find_range hv hp hu
theorem next_none {P : List (List Nat)} {out : List Nat} (hu : ∀ u, u < P.length → freeB P out u = false) : nextV P out = none := List.find?_eq_none.2 fun u hu' => by rw [hu u (List.mem_range.1 hu')]; decide
theorem ord_some {P : List (List Nat)} {k v : Nat} (h : nextV P (ordN P k) = some v) : ordN P (k + 1) = ordN P k ++ [v] := by rw [ordN, h]
theorem ord_none {P : List (List Nat)} {k : Nat} (h : nextV P (ordN P k) = none) : ∀ j, ordN P (k + j) = ordN P k
  | 0 => rfl
  | j + 1 => by
    have ih := ord_none h j
    show ordN P (k + j + 1) = _
    rw [ordN, ih, h]
theorem ord_stuck {P : List (List Nat)} {k n : Nat} (h : nextV P (ordN P k) = none) (hk : k ≤ n) : ordN P n = ordN P k := by
  have := ord_none h (n - k)
  rwa [show k + (n - k) = n by omega] at this
theorem ord_len (P : List (List Nat)) : ∀ k, (ordN P k).length ≤ k
  | 0 => Nat.le_refl _
  | k + 1 => by
    have := ord_len P k
    rw [ordN]
    cases nextV P (ordN P k) with
    | none => show (ordN P k).length ≤ _; omega
    | some v => show (ordN P k ++ [v]).length ≤ _; rw [List.length_append]; simp; omega
theorem ord_lt (P : List (List Nat)) : ∀ k, ∀ v ∈ ordN P k, v < P.length
  | 0, v, hv => by cases hv
  | k + 1, v, hv => by
    rw [ordN] at hv
    cases e : nextV P (ordN P k) with
    | none => rw [e] at hv; exact ord_lt P k v hv
    | some u =>
      rw [e] at hv
      rcases List.mem_append.1 hv with h | h
      · exact ord_lt P k v h
      · obtain rfl := List.mem_singleton.1 h
        exact List.mem_range.1 (List.mem_of_find?_eq_some e)
theorem ord_full (P : List (List Nat)) {k : Nat} (h : nextV P (ordN P k) = none) (hk : k < P.length) : (ordN P P.length).length < P.length := by
  rw [ord_stuck h (Nat.le_of_lt hk)]
  have := ord_len P k
  omega
/-- The parents, as numbers. -/
def parN (L : List (List Int)) : List (List Nat) := L.map toN
theorem parN_length (L : List (List Int)) : (parN L).length = L.length := by simp [parN]
theorem parN_get {L : List (List Int)} {i : Nat} (h : i < L.length) : (parN L).getD i [] = toN L[i] := by simp [parN, List.getD_eq_getElem?_getD, h]
theorem masks_par (L : List (List Int)) : masks L = (parN L).map mskN := by simp [masks, parN]
theorem iL_append (a b : List Nat) : iL (a ++ b) = iL a ++ iL b := by simp [iL]
/-- What Check answers. -/
def gcE (L : List (List Int)) : Int := if gB L = true then (if (ordN (parN L) L.length).length < L.length then 10 else 0) else 11
end Go.Proofs.YtncccbdledcibaaGreatDoor

/- Names: packages net and the document's answer. -/
namespace Go.Proofs.YtncccbdledcibaaGreatDoor
open Go.RowKit

def letN (c : Nat) : Bool := decide (97 ≤ c ∧ c ≤ 122)
def figN (c : Nat) : Bool := decide (48 ≤ c ∧ c ≤ 57)
def worN (c : Nat) : Bool := letN c || figN c || decide (c = 95)
/-- Like a word. -/
def wordB (s : ByteArray) : Bool := (s.data.toList.all fun c => worN c.toNat) && letN (s.data.toList.headD 0).toNat
def isVar (s : ByteArray) : Bool := s.toList == [118, 97, 114]
def isElse (s : ByteArray) : Bool := s.toList == [101, 108, 115, 101]
/-- A name. -/
def nameB (s : ByteArray) : Bool := decide (s.size ≤ 12) && !isVar s && !isElse s && wordB s

theorem letN_eq (c : Nat) : letN c = decide (97 ≤ c ∧ c ≤ 122) := rfl
set_option maxRecDepth 100000 in
set_option maxHeartbeats 400000 in
theorem nLetter_any (c : Nat) (w : World) : Calls Tryz.prog 142 #[.int .u8 (c : Nat)] w fun e w' => e = .returned (.bool (letN c)) ∧ w' = w := by
  rw [letN]
  by_cases h1 : 97 ≤ c
  · have HE : Hid (decide ((c : Int) ≤ 122) = decide (97 ≤ c ∧ c ≤ 122)) := decide_eq_decide.2 ⟨fun h => ⟨h1, by omega⟩, fun h => by omega⟩
    have e1 : (97 : Int) ≤ (c : Int) := by omega
    go_enter Tryz.func142, Tryz.ntmps142
    go_wp2
    go_ret
    exact ⟨by rw [← HE.out]; rfl, rfl⟩
  · have HE : Hid (decide (97 ≤ c ∧ c ≤ 122) = false) := decide_eq_false fun h => h1 h.1
    rw [HE.out]
    have e1 : (c : Int) < 97 := by omega
    clear h1
    go_enter Tryz.func142, Tryz.ntmps142
    go_wp2
    go_ret
    exact ⟨rfl, rfl⟩
set_option maxRecDepth 100000 in
set_option maxHeartbeats 400000 in
theorem rLetter_any (c : Nat) (w : World) : Calls Tryz.prog 147 #[.int .u8 (c : Nat)] w fun e w' => e = .returned (.bool (letN c)) ∧ w' = w := by
  rw [letN]
  by_cases h1 : 97 ≤ c
  · have HE : Hid (decide ((c : Int) ≤ 122) = decide (97 ≤ c ∧ c ≤ 122)) := decide_eq_decide.2 ⟨fun h => ⟨h1, by omega⟩, fun h => by omega⟩
    have e1 : (97 : Int) ≤ (c : Int) := by omega
    go_enter Tryz.func147, Tryz.ntmps147
    go_wp2
    go_ret
    exact ⟨by rw [← HE.out]; rfl, rfl⟩
  · have HE : Hid (decide (97 ≤ c ∧ c ≤ 122) = false) := decide_eq_false fun h => h1 h.1
    rw [HE.out]
    have e1 : (c : Int) < 97 := by omega
    clear h1
    go_enter Tryz.func147, Tryz.ntmps147
    go_wp2
    go_ret
    exact ⟨rfl, rfl⟩
set_option maxRecDepth 100000 in
set_option maxHeartbeats 400000 in
theorem nDigit_any (c : Nat) (w : World) : Calls Tryz.prog 165 #[.int .u8 (c : Nat)] w fun e w' => e = .returned (.bool (figN c)) ∧ w' = w := by
  rw [figN]
  by_cases h1 : 48 ≤ c
  · have HE : Hid (decide ((c : Int) ≤ 57) = decide (48 ≤ c ∧ c ≤ 57)) := decide_eq_decide.2 ⟨fun h => ⟨h1, by omega⟩, fun h => by omega⟩
    have e1 : (48 : Int) ≤ (c : Int) := by omega
    go_enter Tryz.func165, Tryz.ntmps165
    go_wp2
    go_ret
    exact ⟨by rw [← HE.out]; rfl, rfl⟩
  · have HE : Hid (decide (48 ≤ c ∧ c ≤ 57) = false) := decide_eq_false fun h => h1 h.1
    rw [HE.out]
    have e1 : (c : Int) < 48 := by omega
    clear h1
    go_enter Tryz.func165, Tryz.ntmps165
    go_wp2
    go_ret
    exact ⟨rfl, rfl⟩
set_option maxRecDepth 100000 in
set_option maxHeartbeats 400000 in
theorem rFigure_any (c : Nat) (w : World) : Calls Tryz.prog 148 #[.int .u8 (c : Nat)] w fun e w' => e = .returned (.bool (figN c)) ∧ w' = w := by
  rw [figN]
  by_cases h1 : 48 ≤ c
  · have HE : Hid (decide ((c : Int) ≤ 57) = decide (48 ≤ c ∧ c ≤ 57)) := decide_eq_decide.2 ⟨fun h => ⟨h1, by omega⟩, fun h => by omega⟩
    have e1 : (48 : Int) ≤ (c : Int) := by omega
    go_enter Tryz.func148, Tryz.ntmps148
    go_wp2
    go_ret
    exact ⟨by rw [← HE.out]; rfl, rfl⟩
  · have HE : Hid (decide (48 ≤ c ∧ c ≤ 57) = false) := decide_eq_false fun h => h1 h.1
    rw [HE.out]
    have e1 : (c : Int) < 48 := by omega
    clear h1
    go_enter Tryz.func148, Tryz.ntmps148
    go_wp2
    go_ret
    exact ⟨rfl, rfl⟩
set_option maxRecDepth 100000 in
set_option maxHeartbeats 400000 in
theorem nGoes_any (c : Nat) (w : World) : Calls Tryz.prog 141 #[.int .u8 (c : Nat)] w fun e w' => e = .returned (.bool (worN c)) ∧ w' = w := by
  have HW : Hid (worN c = (letN c || figN c || decide (c = 95))) := rfl
  have HL := hid (nLetter_any c)
  have HF := hid (nDigit_any c)
  generalize worN c = r at *
  go_enter Tryz.func141, Tryz.ntmps141
  go_wp2_with fail
  refine (HL.out _).mono ?_
  rintro e w1 ⟨rfl, rfl⟩
  cases hl : letN c with
  | true =>
    rw [hl] at HW
    have HE : Hid (r = true) := HW.out
    clear hl
    go_wp2
    go_ret
    exact ⟨by rw [HE.out]; rfl, rfl⟩
  | false =>
    rw [hl] at HW
    go_wp2_with fail
    refine (HF.out _).mono ?_
    rintro e w2 ⟨rfl, rfl⟩
    cases hf : figN c with
    | true =>
      rw [hf] at HW
      have HE : Hid (r = true) := HW.out
      clear hl hf
      go_wp2
      go_ret
      exact ⟨by rw [HE.out]; rfl, rfl⟩
    | false =>
      rw [hf] at HW
      have HE : Hid (r = ((c : Int) == 95)) := by
        show _ = _
        rw [HW.out, Bool.false_or, Bool.false_or, Bool.eq_iff_iff, decide_eq_true_iff, beq_iff_eq]
        omega
      clear hl hf
      go_wp2
      go_ret
      exact ⟨by rw [HE.out]; rfl, rfl⟩
end Go.Proofs.YtncccbdledcibaaGreatDoor

/- Names: isName, of package net and of the document's answer. -/
namespace Go.Proofs.YtncccbdledcibaaGreatDoor
open Go.RowKit

theorem take_byte {s : ByteArray} {k : Nat} (h : k < s.size) : s.data.toList.take (k + 1) = s.data.toList.take k ++ [s[k]] := by
  have h' : k < s.data.toList.length := by simpa using h
  rw [List.take_succ_eq_append_getElem h']
  rfl
theorem word_bad {s : ByteArray} {k : Nat} (h : k < s.size) (e : worN s[k].toNat = false) : wordB s = false := by
  have hm : s[k] ∈ s.data.toList := by
    have : s.data.toList[k]'(by simpa using h) = s[k] := rfl
    rw [← this]; exact List.getElem_mem _
  have : (s.data.toList.all fun c => worN c.toNat) = false := by
    rw [List.all_eq_false]; exact ⟨_, hm, by rw [e]; decide⟩
  rw [wordB, this]; rfl
theorem head_zero {s : ByteArray} (h : 0 < s.size) : s.data.toList.headD 0 = s[0] := by
  obtain ⟨⟨l⟩⟩ := s
  cases l with
  | nil => exact absurd h (by decide)
  | cons c l => rfl
theorem word_full {s : ByteArray} (h : 0 < s.size) (e : (s.data.toList.take s.size).all (fun c => worN c.toNat) = true) : wordB s = letN s[0].toNat := by
  have e2 : s.data.toList.all (fun c => worN c.toNat) = true := by
    rwa [List.take_of_length_le (by simp)] at e
  rw [wordB, e2, Bool.true_and, head_zero h]
theorem wor_let {c : Nat} (h : letN c = true) : worN c = true := by rw [worN, h]; rfl

set_option maxRecDepth 100000 in
set_option maxHeartbeats 1000000 in
theorem nName_any (s : ByteArray) (w : World) (hs : s.size ≤ 140737488355328) :
    Calls Tryz.prog 107 #[.string s] w fun e w' => e = .returned (.bool (nameB s)) ∧ w' = w := by
  have HN : Hid (nameB s = (decide (s.size ≤ 12) && !isVar s && !isElse s && wordB s)) := rfl
  have HWB := hid (fun k h e => word_bad (s := s) (k := k) h e)
  have HWF := hid (fun h e => word_full (s := s) h e)
  have HW0 : Hid (s.size = 0 → wordB s = false) := fun h => by
    have : s.data.toList = [] := List.length_eq_zero_iff.1 (by rw [Array.length_toList]; exact h)
    rw [wordB, this]; rfl
  generalize nameB s = nb at *
  generalize wordB s = wb at *
  by_cases h0 : s.size = 0
  · have HE : Hid (nb = false) := by show _ = _; rw [HN.out, HW0.out h0]; simp
    have e1 : (s.size : Int) < 1 := by omega
    clear h0 HN
    go_enter Tryz.func107, Tryz.ntmps107
    go_wp2
    go_ret
    exact ⟨by rw [HE.out]; rfl, rfl⟩
  by_cases h12 : 12 < s.size
  · have HE : Hid (nb = false) := by show _ = _; rw [HN.out, decide_eq_false (show ¬ s.size ≤ 12 by omega)]; rfl
    have e1 : (1 : Int) ≤ (s.size : Int) := by omega
    have e2 : (12 : Int) < (s.size : Int) := by omega
    clear h0 HN
    go_enter Tryz.func107, Tryz.ntmps107
    go_wp2
    go_ret
    exact ⟨by rw [HE.out]; rfl, rfl⟩
  have e1 : (1 : Int) ≤ (s.size : Int) := by omega
  have e2 : (s.size : Int) ≤ 12 := by omega
  cases hv : isVar s with
  | true =>
    have HE : Hid (nb = false) := by show _ = _; rw [HN.out, hv]; simp
    rw [isVar] at hv
    clear HN h0 h12
    go_enter Tryz.func107, Tryz.ntmps107
    go_wp2
    go_ret
    exact ⟨by rw [HE.out]; rfl, rfl⟩
  | false =>
    cases he : isElse s with
    | true =>
      have HE : Hid (nb = false) := by show _ = _; rw [HN.out, he]; simp
      rw [isVar] at hv
      rw [isElse] at he
      clear HN h0 h12
      go_enter Tryz.func107, Tryz.ntmps107
      go_wp2
      go_ret
      exact ⟨by rw [HE.out]; rfl, rfl⟩
    | false =>
      have HE : Hid (nb = wb) := by show _ = _; rw [HN.out, hv, he, decide_eq_true (show s.size ≤ 12 by omega)]; simp
      rw [isVar] at hv
      rw [isElse] at he
      have h1 : 0 < s.size := by omega
      clear HN h0 h12
      go_enter Tryz.func107, Tryz.ntmps107
      go_wp2_with fail
      go_loopw [22] (fun iv wr => ∃ k : Nat, k ≤ s.size ∧ iv = .int .i64 k ∧ Hid ((s.data.toList.take k).all (fun c => worN c.toNat) = true) ∧ wr = w) (fun iv _ => s.size - (intOf iv).toNat)
      case atStart => exact ⟨0, Nat.zero_le _, rfl, rfl, rfl⟩
      case round =>
        obtain ⟨k, hk, rfl, HA, rfl⟩ := hrel
        by_cases hlt : k < s.size
        · have HB := hid (HWB.out k hlt)
          have HT : Hid (worN s[k].toNat = true → (s.data.toList.take (k + 1)).all (fun c => worN c.toNat) = true) := fun h => by
            rw [take_byte hlt, List.all_append, HA.out]
            simp [h]
          go_wp2_with fail
          refine (nGoes_any s[k].toNat _).mono ?_
          rintro e w1 ⟨rfl, rfl⟩
          cases hw : worN s[k].toNat with
          | false =>
            have HF := hid (HB.out hw)
            clear hw
            go_wp2
            go_ret
            exact ⟨by rw [HE.out, HF.out]; rfl, rfl⟩
          | true =>
            have HS := hid (HT.out hw)
            clear hw
            go_wp2
            go_roundw
            case rel => exact ⟨k + 1, by omega, by go_num, HS, trivial⟩
            case measure => simp [intOf]; omega
        · obtain rfl : k = s.size := by omega
          have HF := hid (HWF.out h1 HA.out)
          go_wp2_with fail
          refine (nLetter_any s[0].toNat _).mono ?_
          rintro e w1 ⟨rfl, rfl⟩
          go_wp2
          go_ret
          exact ⟨by rw [HE.out, HF.out]; rfl, rfl⟩

theorem word_head {s : ByteArray} (h : 0 < s.size) (e : letN s[0].toNat = false) : wordB s = false := by rw [wordB, head_zero h, e, Bool.and_false]
set_option maxRecDepth 100000 in
set_option maxHeartbeats 1000000 in
theorem rWord_any (s : ByteArray) (w : World) (hs : s.size ≤ 140737488355328) :
    Calls Tryz.prog 113 #[.string s] w fun e w' => e = .returned (.bool (wordB s)) ∧ w' = w := by
  have HWB := hid (fun k h e => word_bad (s := s) (k := k) h e)
  have HWH := hid (fun h e => word_head (s := s) h e)
  have HWF := hid (fun h e => word_full (s := s) h e)
  have HW0 : Hid (s.size = 0 → wordB s = false) := fun h => by
    have : s.data.toList = [] := List.length_eq_zero_iff.1 (by rw [Array.length_toList]; exact h)
    rw [wordB, this]; rfl
  generalize wordB s = wb at *
  go_enter Tryz.func113, Tryz.ntmps113
  go_wp2_with fail
  go_loopw [3] (fun iv wr => ∃ k : Nat, k ≤ s.size ∧ iv = .int .i64 k ∧ Hid ((s.data.toList.take k).all (fun c => worN c.toNat) = true ∧ (0 < k → ∀ h : 0 < s.size, letN s[0].toNat = true)) ∧ wr = w) (fun iv _ => s.size - (intOf iv).toNat)
  case atStart => exact ⟨0, Nat.zero_le _, rfl, ⟨rfl, fun h => absurd h (by omega)⟩, rfl⟩
  case round =>
    obtain ⟨k, hk, rfl, HA, rfl⟩ := hrel
    by_cases hlt : k < s.size
    · have HB := hid (HWB.out k hlt)
      have HT : Hid (worN s[k].toNat = true → (0 < k ∨ letN s[k].toNat = true) → (s.data.toList.take (k + 1)).all (fun c => worN c.toNat) = true ∧ (0 < k + 1 → ∀ h : 0 < s.size, letN s[0].toNat = true)) := fun h h' => ⟨by
        rw [take_byte hlt, List.all_append, HA.out.1]
        simp [h], fun _ h0 => h'.elim (fun h2 => HA.out.2 h2 h0) fun h2 => by
          by_cases e : k = 0
          · subst e; exact h2
          · exact HA.out.2 (by omega) h0⟩
      have HWk : Hid (worN s[k].toNat = (letN s[k].toNat || figN s[k].toNat || decide (s[k].toNat = 95))) := rfl
      go_wp2_with fail
      refine (rLetter_any s[k].toNat _).mono ?_
      rintro e w1 ⟨rfl, rfl⟩
      go_wp2_with fail
      refine (rFigure_any s[k].toNat _).mono ?_
      rintro e w2 ⟨rfl, rfl⟩
      cases hl : letN s[k].toNat with
      | true =>
        have HS := hid (HT.out (wor_let hl) (.inr hl))
        clear hl
        generalize figN s[k].toNat = q at *
        go_wp2
        go_roundw
        case rel => exact ⟨k + 1, by omega, by go_num, HS, trivial⟩
        case measure => simp [intOf]; omega
      | false =>
        rw [hl] at HWk
        by_cases hk0 : k = 0
        · subst hk0
          have HF := hid (HWH.out hlt hl)
          clear hl
          generalize figN s[0].toNat = q at *
          go_wp2
          go_ret
          exact ⟨by rw [HF.out]; rfl, rfl⟩
        · have hkb : ((k : Int) == 0) = false := by
            have : ¬ (k : Int) = 0 := by omega
            simpa using this
          have hk1 : 0 < k := by omega
          cases hf : figN s[k].toNat with
          | true =>
            rw [hf] at HWk
            have HS := hid (HT.out HWk.out (.inl hk1))
            clear hl hf hk0
            go_wp2
            go_roundw
            case rel => exact ⟨k + 1, by omega, by go_num, HS, trivial⟩
            case measure => simp [intOf]; omega
          | false =>
            rw [hf] at HWk
            by_cases h95 : s[k].toNat = 95
            · have HS := hid (HT.out (by rw [HWk.out, h95]; rfl) (.inl hk1))
              have h9 : (((s[k].toNat : Nat) : Int) != 95) = false := by rw [h95]; rfl
              clear hl hf hk0
              go_wp2
              go_roundw
              case rel => exact ⟨k + 1, by omega, by go_num, HS, trivial⟩
              case measure => simp [intOf]; omega
            · have HF := hid (HB.out (by rw [HWk.out, decide_eq_false h95]; rfl))
              have h9 : (((s[k].toNat : Nat) : Int) != 95) = true := by
                have : ¬ ((s[k].toNat : Nat) : Int) = 95 := by omega
                simpa using this
              clear hl hf hk0 h95
              go_wp2
              go_ret
              exact ⟨by rw [HF.out]; rfl, rfl⟩
    · obtain rfl : k = s.size := by omega
      by_cases h0 : s.size = 0
      · have HF := hid (HW0.out h0)
        have HI : Hid (s.toList.isEmpty = true) := by
          have : s.data.toList = [] := List.length_eq_zero_iff.1 (by rw [Array.length_toList]; exact h0)
          show _ = _
          rw [toList_data, this]; rfl
        clear h0 hlt
        go_wp2
        go_ret
        exact ⟨by rw [HF.out, HI.out]; rfl, rfl⟩
      · have HF := hid (HWF.out (by omega) HA.out.1)
        have HL := hid (HA.out.2 (by omega) (by omega))
        have HI : Hid (s.toList.isEmpty = false) := by
          have : ¬ s.data.toList = [] := fun e => h0 (by have := congrArg List.length e; rwa [Array.length_toList] at this)
          show _ = _
          rw [toList_data]
          simpa using this
        clear hlt
        go_wp2
        go_ret
        exact ⟨by rw [HF.out, HL.out, HI.out]; rfl, rfl⟩

set_option maxRecDepth 100000 in
set_option maxHeartbeats 1000000 in
theorem rName_any (s : ByteArray) (w : World) (hs : s.size ≤ 140737488355328) :
    Calls Tryz.prog 79 #[.string s] w fun e w' => e = .returned (.bool (nameB s)) ∧ w' = w := by
  have HN : Hid (nameB s = (decide (s.size ≤ 12) && !isVar s && !isElse s && wordB s)) := rfl
  have HW := hid (fun V : World => rWord_any s V hs)
  generalize nameB s = nb at *
  generalize wordB s = wb at *
  cases wb with
  | false =>
    have HE : Hid (nb = false) := by show _ = _; rw [HN.out, Bool.and_false]
    clear HN
    go_enter Tryz.func79, Tryz.ntmps79
    go_wp2_with fail
    refine (HW.out _).mono ?_
    rintro e w1 ⟨rfl, rfl⟩
    go_wp2
    go_ret
    exact ⟨by rw [HE.out]; rfl, rfl⟩
  | true =>
    by_cases h12 : 12 < s.size
    · have HE : Hid (nb = false) := by show _ = _; rw [HN.out, decide_eq_false (show ¬ s.size ≤ 12 by omega)]; rfl
      have e2 : (12 : Int) < (s.size : Int) := by omega
      clear HN
      go_enter Tryz.func79, Tryz.ntmps79
      go_wp2_with fail
      refine (HW.out _).mono ?_
      rintro e w1 ⟨rfl, rfl⟩
      go_wp2
      go_ret
      exact ⟨by rw [HE.out]; rfl, rfl⟩
    have e2 : (s.size : Int) ≤ 12 := by omega
    cases hv : isVar s with
    | true =>
      have HE : Hid (nb = false) := by show _ = _; rw [HN.out, hv]; simp
      rw [isVar] at hv
      have hv' : (s.toList != [118, 97, 114]) = false := by rw [bne, hv]; rfl
      clear HN h12
      go_enter Tryz.func79, Tryz.ntmps79
      go_wp2_with fail
      refine (HW.out _).mono ?_
      rintro e w1 ⟨rfl, rfl⟩
      go_wp2
      go_ret
      exact ⟨by rw [HE.out]; rfl, rfl⟩
    | false =>
      have HEL : Hid (nb = (s.toList != [101, 108, 115, 101])) := by show _ = _; rw [HN.out, hv, decide_eq_true (show s.size ≤ 12 by omega), Bool.and_true, bne, isElse]; simp
      rw [isVar] at hv
      have hv' : (s.toList != [118, 97, 114]) = true := by rw [bne, hv]; rfl
      clear HN h12
      go_enter Tryz.func79, Tryz.ntmps79
      go_wp2_with fail
      refine (HW.out _).mono ?_
      rintro e w1 ⟨rfl, rfl⟩
      go_wp2
      go_ret
      exact ⟨by rw [HEL.out]; rfl, rfl⟩
end Go.Proofs.YtncccbdledcibaaGreatDoor
