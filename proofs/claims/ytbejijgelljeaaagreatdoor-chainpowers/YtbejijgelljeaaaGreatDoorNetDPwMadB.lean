/- Nets: what is wrong with rows; the document's answer: NetCheck, as far as the names. -/
import Derived.Test.YtbejijgelljeaaaGreatDoorChnPPwRtC
import Derived.Test.YtbejijgelljeaaaGreatDoorCore6PwParseA
import Derived.Test.YtbejijgelljeaaaGreatDoorFracFPwHidP
import Derived.Test.YtbejijgelljeaaaGreatDoorCore1PwMem
import Derived.Deep.RegionHeld3
import Derived.Laws.EntriesVeiled
import Derived.Shelf.Slices.CompactI
import Derived.Deep.OwnRows
import Derived.Test.YtbejijgelljeaaaGreatDoorRefHPwNumR
import Derived.Lib.ItoaNum
import Derived.Test.YtbejijgelljeaaaGreatDoorDivAPwRefN
namespace Go.Proofs.YtbejijgelljeaaaGreatDoor
open Go.RowKit Go.Shelf
/-- Lists of fractions in memory. -/
def FsS (w : World) (a : Option Addr) (R : List (List Fr)) : Prop := ∀ k (h : k < R.length), ∃ g o b c, a = some ⟨g, o, none⟩ ∧ g < w.heap.size ∧ w.cell? ⟨g, o + k, none⟩ = some (.slice b R[k].length c) ∧ FrS w b R[k] ∧ R[k].length ≤ c
theorem FsS.below {w w' : World} {a : Option Addr} {R : List (List Fr)} (h : FsS w a R) (hb : Below w.heap.size w w') : FsS w' a R := fun k hk => by
  obtain ⟨g, o, b, c, h1, h2, h3, h4, h5⟩ := h k hk
  exact ⟨g, o, b, c, h1, Nat.lt_of_lt_of_le h2 hb.size, (hb.cell (p := ⟨g, o + k, none⟩) h2).trans h3, h4.below hb, h5⟩
end Go.Proofs.YtbejijgelljeaaaGreatDoor

/- Rows that may be, in packages chain and hidden; the small questions that package hidden asks. -/
namespace Go.Proofs.YtbejijgelljeaaaGreatDoor
open Go.RowKit Go.Shelf
theorem rowB_eq (l : List Fr) : (!(l.any fun f => decide (frQ f < 0)) && decide (fsum l = 1)) = rowB l := by
  have h : ∀ l : List Fr, (!(l.any fun f => decide (frQ f < 0))) = l.all fun f => decide (¬ frQ f < 0) := fun l => by
    induction l with
    | nil => rfl
    | cons f l ih => rw [List.any_cons, List.all_cons, Bool.not_or, ih, decide_not]
  rw [rowB, h]
set_option maxRecDepth 100000 in
set_option maxHeartbeats 400000 in
theorem chBelow_any (n zn : Bool) (x y zx zy : ByteArray) (B : Nat) (w : World) (hx : Box w B zn zx zy) (hz : val zn zx zy = 0) (hzs : zx.size + zy.size ≤ 100000) (hs : x.size + y.size ≤ 10000) :
    Calls Tryz.prog 82 #[.agg #[.bool n, .string x, .string y], .pointer (some ⟨B, 0, none⟩)] w fun e w' => e = .returned (.bool (decide (val n x y < 0))) ∧ Below w.heap.size w w' := by
  have HD : Hid (decide (cmpQ (val n x y) 0 < 0) = decide (val n x y < 0)) := by show _ = _; rw [decide_eq_decide]; exact cmp_below
  generalize decide (val n x y < 0) = R at *
  have hA := (Below.refl w.heap.size w).alloc (Nat.le_refl _) (FC n x y)
  obtain ⟨k0, k1, k2, -⟩ := (Box.new w n x y).facts
  obtain ⟨z0, z1, z2, -⟩ := (hx.below hA hx.lt).facts
  go_enter Tryz.func82, Tryz.ntmps82
  go_wp2_with fail
  generalize (w.alloc (FC n x y)) = W at *
  refine (fCmp_q (w := W) (cmpQ (val n x y) 0) rfl hz rfl (by omega) hzs).mono ?_
  rintro e w2 ⟨rfl, hb2⟩
  have HB := hid (hA.trans (hb2.mono hA.size))
  clear hA hb2 k0 k1 k2 z0 z1 z2
  generalize cmpQ (val n x y) 0 = c at *
  go_wp2
  go_ret
  exact ⟨by rw [← HD.out]; rfl, HB.out⟩
set_option maxRecDepth 100000 in
set_option maxHeartbeats 1000000 in
theorem chRow_any (a : Option Addr) (ca : Nat) (l : List Fr) (w : World) (h : FrS w a l) (hw : fw l ≤ 10000) (hn : l.length ≤ 10000) :
    Calls Tryz.prog 56 #[.slice a l.length ca] w fun e w' => e = .returned (.bool (rowB l)) ∧ Below w.heap.size w w' := by
  have HF := hid h
  have HS := hid (fun (V : World) (hV : FrS V a l) => fSum_any a ca l V hV hw hn)
  have HO0 := hid (fun V : World => fOf_q (k := 0) (w := V) 0 0 rfl (by decide) (by rfl))
  have HO1 := hid (fun V : World => fOf_q (k := 1) (w := V) 1 1 rfl (by decide) (by rfl))
  have HQ : Hid (val (sgn (fsum l)) (nu (fsum l)) (de (fsum l)) = fsum l ∧ (nu (fsum l)).size + (de (fsum l)).size ≤ 100000) := ⟨val_own _, by
    have h1 := fits_qw (fits_sum l)
    rw [own_size]
    omega⟩
  have H1 : Hid (val (sgn 1) (nu 1) (de 1) = 1 ∧ (nu 1).size + (de 1).size ≤ 100000) := ⟨val_own _, by
    have h1 : qw 1 ≤ 2 := qw_one2
    rw [own_size]
    omega⟩
  have HC := hid (fun (B : Nat) (V : World) (hV : FrS V a l) (hx : Box V B (sgn 0) (nu 0) (de 0)) => conFr_any a ca 82 #[.pointer (some ⟨B, 0, none⟩)] l (fun f => decide (frQ f < 0)) V hV hn (enters_of Tryz.func82 (by kernel_rfl) rfl) (fun q hq U hU => chBelow_any q.1 (sgn 0) q.2.1 q.2.2 (nu 0) (de 0) B U (hx.below hU hx.lt) (val_own _) (by have := qw_zero; rw [own_size]; omega) (by have := fw_mem hq; omega)))
  have HR := hid (rowB_eq l)
  have HCS := hid (cmp_same (p := fsum l))
  generalize rowB l = rb at *
  generalize (l.any fun f => decide (frQ f < 0)) = an at *
  clear h hw
  simp only [C] at HS
  generalize sgn 0 = zn at *
  generalize nu 0 = zx at *
  generalize de 0 = zy at *
  go_enter Tryz.func56, Tryz.ntmps56
  go_wp2_with fail
  refine (HO0.out _).mono ?_
  rintro e w0 ⟨rfl, hb0⟩
  have HB0 := hid (hb0.alloc hb0.size (FC zn zx zy))
  have HX := hid (Box.new w0 zn zx zy)
  clear hb0
  go_wp2_with fail
  generalize (w0.alloc (FC zn zx zy)) = wa at *
  generalize w0.heap.size = B at *
  refine (HC.out B _ (HF.out.below HB0.out) HX.out).mono ?_
  rintro e w1 ⟨rfl, hb1⟩
  have HB1 := hid (HB0.out.trans (hb1.mono HB0.out.size))
  clear hb1
  cases an with
  | true =>
    go_wp2
    go_ret
    exact ⟨by rw [← HR.out]; rfl, HB1.out⟩
  | false =>
    go_wp2_with fail
    refine (HS.out _ (HF.out.below HB1.out)).mono ?_
    rintro e w5 ⟨rfl, hb5⟩
    have HB5 := hid (HB1.out.trans (hb5.mono HB1.out.size))
    clear hb5
    go_wp2_with fail
    refine (HO1.out _).mono ?_
    rintro e w6 ⟨rfl, hb6⟩
    have HB6 := hid (HB5.out.trans (hb6.mono HB5.out.size))
    clear hb6
    go_wp2_with fail
    refine (fCmp_q (w := w6) (cmpQ (fsum l) 1) HQ.out.1 H1.out.1 rfl HQ.out.2 H1.out.2).mono ?_
    rintro e w7 ⟨rfl, hb7⟩
    have HB7 := hid (HB6.out.trans (hb7.mono HB6.out.size))
    clear hb7
    generalize cmpQ (fsum l) 1 = c at *
    go_wp2
    go_ret
    exact ⟨by rw [← HR.out, ← HCS.out]; rfl, HB7.out⟩
end Go.Proofs.YtbejijgelljeaaaGreatDoor

/- Lists of fractions that packages hidden and chain make: times, shown, moved; the first greatest. -/
namespace Go.Proofs.YtbejijgelljeaaaGreatDoor
open Go.RowKit Go.Shelf
/-- So many fractions in lowest terms. -/
def lF (n : Nat) (f : Nat → Rat) : List Fr := (List.range n).map fun i => qF (f i)
theorem lF_length (n : Nat) (f : Nat → Rat) : (lF n f).length = n := by simp [lF]
theorem lF_get {n : Nat} {f : Nat → Rat} {i : Nat} (h : i < (lF n f).length) : (lF n f)[i] = qF (f i) := by simp [lF]
theorem lF_get? {n : Nat} {f : Nat → Rat} {i : Nat} (h : i < n) : (lF n f)[i]? = some (qF (f i)) := by
  rw [List.getElem?_eq_getElem (by rw [lF_length]; exact h), lF_get]
theorem lF_congr {n : Nat} {f g : Nat → Rat} (h : ∀ i, i < n → f i = g i) : lF n f = lF n g := by
  refine List.ext_getElem (by rw [lF_length, lF_length]) fun i h1 h2 => ?_
  rw [lF_get, lF_get, h i (by rw [lF_length] at h1; exact h1)]
theorem fsum_lF (f : Nat → Rat) : ∀ n, fsum (lF n f) = sumR f n
  | 0 => rfl
  | n + 1 => by
    have e : lF (n + 1) f = lF n f ++ [qF (f n)] := by simp [lF, List.range_succ]
    rw [e, fsum_snoc, fsum_lF f n, sumR]
    congr 1
    exact frQ_qF _
/-- Numbers, each as long as may be, stand for these. -/
structure Lst (n : Nat) (f : Nat → Rat) (l : List Fr) : Prop where
  len : l.length = n
  is : ∀ i (h : i < l.length), frQ l[i] = f i
  size : ∀ i (h : i < l.length), l[i].2.1.size + l[i].2.2.size ≤ 1500
theorem Lst.mk' {n : Nat} {f : Nat → Rat} (h : ∀ i, i < n → qw (f i) ≤ 1500) : Lst n f (lF n f) := by
  refine ⟨lF_length n f, fun i hi => by rw [lF_get]; exact frQ_qF _, fun i hi => ?_⟩
  rw [lF_get]
  show (nu (f i)).size + (de (f i)).size ≤ 1500
  rw [own_size]
  exact h i (by rw [lF_length] at hi; exact hi)
/-- A list under way in the block G. -/
structure MF (w : World) (G : Nat) (l : List Fr) (U : World) : Prop where
  row : RowF U G l
  bel : Below w.heap.size w U
theorem MF.step {w U U' : World} {G : Nat} {l : List Fr} (h : MF w G l U) (hb : Below U.heap.size U U') : MF w G l U' := ⟨h.row.below hb h.row.lt, h.bel.trans (hb.mono h.bel.size)⟩
theorem MF.drew {w U : World} {G : Nat} {l : List Fr} (h : MF w G l U) : MF w G l U.drew := ⟨h.row, h.bel.drew⟩
theorem MF.put {w U : World} {G : Nat} {l : List Fr} (h : MF w G l U) (hg : w.heap.size ≤ G) (i : Nat) (f : Fr) : MF w G (l.set i f) (((U.setCell ⟨G, i * 3, none⟩ (.bool f.1)).setCell ⟨G, i * 3 + 1, none⟩ (.string f.2.1)).setCell ⟨G, i * 3 + 2, none⟩ (.string f.2.2)) :=
  ⟨h.row.put i f, ((h.bel.setCell (p := ⟨G, i * 3, none⟩) hg _).setCell (p := ⟨G, i * 3 + 1, none⟩) hg _).setCell (p := ⟨G, i * 3 + 2, none⟩) hg _⟩
end Go.Proofs.YtbejijgelljeaaaGreatDoor

/- shown of package hidden, moved of package chain. -/
namespace Go.Proofs.YtbejijgelljeaaaGreatDoor
open Go.RowKit Go.Shelf
theorem Box.away {w : World} {g : Nat} {n : Bool} {x y : ByteArray} (h : Box w g n x y) (b j : Nat) (v : Value) (hne : g ≠ b) : Box (w.setCell ⟨b, j, none⟩ v) g n x y := (Below.heap_setCell w ⟨b, j, none⟩ v g hne).trans h
end Go.Proofs.YtbejijgelljeaaaGreatDoor

/- Plain facts for the sums' order: taking two variables out in either order leaves the same numbers; what has nothing of a variable may be taken out of the sum. -/
namespace Go.Proofs.YtbejijgelljeaaaGreatDoor
open Go.RowKit Go.Shelf
/-- Numbers in lowest terms, of so many bytes at most. -/
def Sml (s : Nat) (l : List Fr) : Prop := ∀ f ∈ l, ∃ q, f = qF q ∧ qw q ≤ s
end Go.Proofs.YtbejijgelljeaaaGreatDoor

/- The law's tables: what Out and Product answer there, and that the orders agree. -/
namespace Go.Proofs.YtbejijgelljeaaaGreatDoor
open Go.RowKit Go.Shelf
/-- A table of the law. -/
structure TL (sizes vars : List Int) (l : List Fr) (s : Nat) : Prop where
  up : Up vars sizes.length
  len : l.length = cnt (toN sizes) (toN vars)
  sml : Sml s l
end Go.Proofs.YtbejijgelljeaaaGreatDoor

/- The document's answer: Product. -/
namespace Go.Proofs.YtbejijgelljeaaaGreatDoor
open Go.RowKit Go.Shelf
theorem RwI.below {w w' : World} {B : Nat} {v : Value} {l : List Int} (h : RwI w B v l) (hb : Below w.heap.size w w') : RwI w' B v l := by
  refine ⟨h.1, h.2.imp id ?_⟩
  rintro ⟨g, cap, cur, h1, h2, h3, h4⟩
  exact ⟨g, cap, cur, h1, h2, (hb.block g (Array.getElem?_eq_some_iff.1 h3).1).trans h3, h4⟩
end Go.Proofs.YtbejijgelljeaaaGreatDoor

/- The law's raw numbers: Pick, sizesOf, All, Some, Less. -/
namespace Go.Proofs.YtbejijgelljeaaaGreatDoor
open Go.RowKit Go.Shelf
/-- A number below n, of any number. -/
def pickN (c : Int) (n : Nat) : Nat := (if c < 0 then (-(c + 1)).toNat else c.toNat) % n
theorem pickN_lt (c : Int) {n : Nat} (h : 1 ≤ n) : pickN c n < n := Nat.mod_lt _ h
set_option maxRecDepth 100000 in
set_option maxHeartbeats 1000000 in
theorem rPick_same (c : Int) (n : Nat) (w : World) (h1 : -9223372036854775808 ≤ c) (h2 : c ≤ 9223372036854775807) (hn : 1 ≤ n) (hn' : n ≤ 1000) :
    Calls Tryz.prog 7 #[.int .i64 c, .int .i64 (n : Nat)] w fun e w' => e = .returned (.int .i64 (pickN c n : Nat)) ∧ w' = w := by
  have HP : Hid (pickN c n = (if c < 0 then (-(c + 1)).toNat else c.toNat) % n) := rfl
  have hlt := pickN_lt c hn
  generalize pickN c n = P at *
  by_cases hc : c < 0
  · rw [if_pos hc] at HP
    obtain ⟨d, hd⟩ : ∃ d : Nat, c = -((d : Int) + 1) := ⟨(-(c + 1)).toNat, by omega⟩
    subst hd
    have HE : Hid ((d : Int) % (n : Int) = (P : Int)) := by
      show _ = _
      rw [HP.out, show (-(-((d : Int) + 1) + 1)).toNat = d by omega, Int.natCast_emod]
    have hw : IntKind.i64.wrap (-((d : Int) + 1) + 1) = -(d : Int) := by rw [IntKind.wrap_i64]; omega
    have hw2 : IntKind.i64.wrap (- -(d : Int)) = (d : Int) := by rw [IntKind.wrap_i64]; omega
    go_enter Tryz.func7, Tryz.ntmps7
    go_wp2
    go_ret
    exact ⟨by rw [HE.out]; rfl, rfl⟩
  · rw [if_neg hc] at HP
    obtain ⟨d, rfl⟩ : ∃ d : Nat, c = d := ⟨c.toNat, by omega⟩
    have HE : Hid ((d : Int) % (n : Int) = (P : Int)) := by
      show _ = _
      rw [HP.out, Int.toNat_natCast, Int.natCast_emod]
    go_enter Tryz.func7, Tryz.ntmps7
    go_wp2
    go_ret
    exact ⟨by rw [HE.out]; rfl, rfl⟩
theorem rPick_any (c : Int) (n : Nat) (w : World) (h1 : -9223372036854775808 ≤ c) (h2 : c ≤ 9223372036854775807) (hn : 1 ≤ n) (hn' : n ≤ 1000) :
    Calls Tryz.prog 7 #[.int .i64 c, .int .i64 (n : Nat)] w fun e w' => e = .returned (.int .i64 (pickN c n : Nat)) ∧ Below w.heap.size w w' := by
  refine (rPick_same c n w h1 h2 hn hn').mono ?_
  rintro e w' ⟨h, rfl⟩
  exact ⟨h, Below.refl _ _⟩
theorem new_int (w : World) (u : Int) : IntS (w.alloc (.cells #[.int .i64 u] 3)) (some ⟨w.heap.size, 0, none⟩) [u] := fun k hk => by
  obtain rfl : k = 0 := by simp at hk; omega
  exact ⟨w.heap.size, 0, rfl, by simp, (Boxed.new w _ _).cell⟩
end Go.Proofs.YtbejijgelljeaaaGreatDoor

/- The law's raw numbers: tableOf. -/
namespace Go.Proofs.YtbejijgelljeaaaGreatDoor
open Go.RowKit Go.Shelf
theorem wp_append_fr {w : World} {o : Oper} {a : Act} {K : Act → World → Prop} {Q : Exit → Act → World → Prop} (s x : Operand)
    (ho : o.op = .call { callee := .builtin .append, args := #[s, x], argTypes := #[27, 27] }) (base : Nat) (v : Value) (l : List Fr) (f : Fr) (hs : a.eval s = v) (hown : RwF w base v l) (g : Nat) (hx : a.eval x = .slice (some ⟨g, 0, none⟩) 1 1) (hg : Box w g f.1 f.2.1 f.2.2) (hlen : l.length + 1 ≤ 100000) (hbase : base ≤ w.heap.size)
    (h : ∀ v' w', RwF w' base v' (l ++ [f]) → w.grownBy w' v.ownBlock → K (a.put o.dst v') w') : o.wp Tryz.prog a w K Q := by
  obtain ⟨i0, hi0, hz0, hz1, hz2⟩ := info_parts Tryz.infoFrac
  refine wp_append_own _ s x 27 ho base 33 i0 (.agg #[.bool false, .string ⟨#[]⟩, .string ⟨#[]⟩]) 3 40 Tryz.underlying27 hi0 hz0 hz1 hz2 rfl (by decide) v l.length _ hs hown ⟨g, 0, none⟩ 1 1 [.bool f.1, .string f.2.1, .string f.2.2] hx rfl ?_ ?_ (by unfold maxLen; omega) (by omega) hbase ?_
  · intro j u hj
    match j, hj with
    | 0, hj => cases hj; exact hg.c0
    | 1, hj => cases hj; exact hg.c1
    | 2, hj => cases hj; exact hg.c2
    | j + 3, hj => simp at hj
  · intro u hu
    simp only [List.mem_cons, List.not_mem_nil, or_false] at hu
    rcases hu with rfl | rfl | rfl <;> rfl
  · intro v' w' h1 h2 _
    refine h v' w' ?_ h2
    rw [RwF, List.length_append, frC_snoc]
    exact h1
theorem mkRat_int (k : Int) : mkRat k 1 = (k : Rat) := by
  rw [Rat.mkRat_one]
end Go.Proofs.YtbejijgelljeaaaGreatDoor

/- The document's answer: names of values, and rows of raw weights. -/
namespace Go.Proofs.YtbejijgelljeaaaGreatDoor
open Go.RowKit Go.Shelf Go.Lib
/-- A row of raw weights. -/
def rawF (Ls : List Nat) : List Fr := Ls.map fun a : Nat => qF ((a : Rat) / (Ls.sum : Rat))
theorem rawF_length (Ls : List Nat) : (rawF Ls).length = Ls.length := by simp [rawF]
theorem qw_nat {n : Nat} (h : n < 256) : qw (n : Rat) ≤ 2 := by
  have h1 : (n : Rat).num.natAbs = n := by simp
  have h2 : (n : Rat).den = 1 := rfl
  rw [qw, h1, h2, B_size, B_size]
  have h3 := bn_fits 1 n (by omega)
  have h4 := bn_fits 1 1 (by omega)
  omega
theorem sum_le6 : ∀ {Ls : List Nat}, (∀ a ∈ Ls, a ≤ 6) → Ls.sum ≤ 6 * Ls.length
  | [], _ => Nat.le_refl _
  | a :: l, h => by
    have h1 := h a List.mem_cons_self
    have h2 := sum_le6 fun b hb => h b (List.mem_cons_of_mem _ hb)
    simp only [List.sum_cons, List.length_cons]
    omega
theorem rawF_row {Ls : List Nat} (hs : 1 ≤ Ls.sum) : rowB (rawF Ls) = true := by
  have hne : (Ls.sum : Rat) ≠ 0 := fun e => by
    have e' : Ls.sum = 0 := by exact_mod_cast e
    omega
  have hpos : (0 : Rat) < (Ls.sum : Rat) := Rat.lt_of_le_of_ne Rat.natCast_nonneg (Ne.symm hne)
  rw [rowB, Bool.and_eq_true]
  constructor
  · rw [List.all_eq_true]
    intro f hf
    obtain ⟨a, ha, rfl⟩ := List.mem_map.1 hf
    refine decide_eq_true ?_
    rw [frQ_qF, Rat.not_lt]
    have ha0 : (0 : Rat) ≤ (a : Rat) := Rat.natCast_nonneg
    rw [Rat.div_def]
    exact Rat.mul_nonneg ha0 (Rat.le_of_lt (Rat.inv_pos.2 hpos))
  · refine decide_eq_true ?_
    have key : ∀ (l : List Nat) (s c : Rat), (l.map fun a : Nat => qF ((a : Rat) / c)).foldl (fun s f => s + frv f) s = s + (l.sum : Rat) / c := by
      intro l
      induction l with
      | nil => intro s c; show s = s + ((0 : Nat) : Rat) / c; rw [Rat.div_def]; grind
      | cons a l ih =>
        intro s c
        rw [List.map_cons, List.foldl_cons, ih, show frv (qF ((a : Rat) / c)) = (a : Rat) / c from frQ_qF _, List.sum_cons, Rat.div_def, Rat.div_def, Rat.div_def, Rat.natCast_add, Rat.add_mul, Rat.add_assoc]
    rw [fsum, rawF, key, Rat.zero_add, Rat.div_def, Rat.mul_inv_cancel _ hne]
end Go.Proofs.YtbejijgelljeaaaGreatDoor

/- The document's answer: a row of raw weights. -/
namespace Go.Proofs.YtbejijgelljeaaaGreatDoor
open Go.RowKit Go.Shelf Go.Lib
theorem iL_sum_snoc (Ls : List Nat) (a : Nat) : iL (Ls ++ [a]) = iL Ls ++ [(a : Int)] := by simp [iL]
theorem RwI.put {w : World} {B g n cap : Nat} {l : List Int} (h : RwI w B (.slice (some ⟨g, 0, none⟩) n cap) l) (j : Nat) (y : Int) : RwI (w.setCell ⟨g, j, none⟩ (.int .i64 y)) B (.slice (some ⟨g, 0, none⟩) n cap) (l.set j y) := by
  rcases h.2 with ⟨h1, _⟩ | ⟨g', cap', cur, h1, h2, h3, h4, h5, h6, h7⟩
  · cases h1
  · cases h1
    refine ⟨by simp, .inr ⟨g, cap, _, by simp, h2, heap_setCell_same w g j _ _ _ h3, by simpa using h4, h5, by simpa using h6, ?_⟩⟩
    rw [Array.toList_setIfInBounds, List.length_set, List.map_set, ← h7, List.take_set]
theorem RwF.lower {w : World} {B B' : Nat} {v : Value} {l : List Fr} (h : RwF w B v l) (hb : B' ≤ B) : RwF w B' v l := by
  refine ⟨h.1, ?_⟩
  rcases h.2 with h1 | ⟨g, cap, cur, h1, h2, h3, h4⟩
  · exact .inl h1
  · exact .inr ⟨g, cap, cur, h1, Nat.le_trans hb h2, h3, h4⟩
theorem RwI.lower {w : World} {B B' : Nat} {v : Value} {l : List Int} (h : RwI w B v l) (hb : B' ≤ B) : RwI w B' v l := by
  refine ⟨h.1, ?_⟩
  rcases h.2 with h1 | ⟨g, cap, cur, h1, h2, h3, h4⟩
  · exact .inl h1
  · exact .inr ⟨g, cap, cur, h1, Nat.le_trans hb h2, h3, h4⟩
theorem RwI.emptyB (w : World) (B : Nat) : RwI w B (.slice none 0 0) [] := ⟨rfl, .inl ⟨rfl, rfl⟩⟩
/-- Raw weights so far. -/
structure Wts (Ls : List Nat) (i : Nat) : Prop where
  len : Ls.length = i
  six : ∀ a ∈ Ls, a ≤ 6
set_option maxRecDepth 100000 in
set_option maxHeartbeats 2000000 in
theorem rowOf_any (d : Option Addr) (cd k n : Nat) (W : List Int) (w : World) (hW : IntS w d W) (hr : ∀ x ∈ W, -9223372036854775808 ≤ x ∧ x ≤ 9223372036854775807) (hk : k ≤ 100000) (hn1 : 1 ≤ n) (hn3 : n ≤ 5) (hWl : W.length ≤ 140737488355328) :
    Calls Tryz.prog 29 #[.slice d W.length cd, .int .i64 (k : Nat), .int .i64 (n : Nat)] w fun e w' => ∃ (x : Value) (Ls : List Nat), e = .returned x ∧ RwF w' w.heap.size x (rawF Ls) ∧ Wts Ls n ∧ 1 ≤ Ls.sum ∧ Below w.heap.size w w' := by
  have HW := hid hW
  have HR := hid hr
  have HPK := hid (fun (c : Int) (h : -9223372036854775808 ≤ c ∧ c ≤ 9223372036854775807) (U : World) => rPick_any c 7 U h.1 h.2 (by omega) (by omega))
  have HPL := hid (fun (c : Int) => pickN_lt c (n := 7) (by omega))
  have HOF := hid (fun (a : Nat) (h : a ≤ 100) (U : World) => rOfF_any (a : Int) U (by omega) (by omega))
  have HOF' : Hid (∀ (a : Nat), a ≤ 100 → ∀ U : World, Calls Tryz.prog 11 #[.int .i64 (a : Nat)] U fun e w' => e = .returned (frV (qF (a : Rat))) ∧ Below U.heap.size U w') := fun a ha U => by
    have h := HOF.out a ha U
    rw [mkRat_int] at h
    exact h
  have HDV : Hid (∀ (a s : Nat), a ≤ 100 → 1 ≤ s → s ≤ 100 → ∀ U : World, Calls Tryz.prog 52 #[frV (qF (a : Rat)), frV (qF (s : Rat))] U fun e w' => e = .returned (.tuple #[frV (qF ((a : Rat) / (s : Rat))), .int .i64 0]) ∧ Below U.heap.size U w') := fun a s ha hs1 hs2 U => by
    have hne : (s : Rat) ≠ 0 := fun e => by
      have e' : s = 0 := by exact_mod_cast e
      omega
    have h := rDivF_yes (sgn (a : Rat)) (sgn (s : Rat)) (nu (a : Rat)) (de (a : Rat)) (nu (s : Rat)) (de (s : Rat)) U (by rw [val_own]; exact hne) (by rw [own_size]; have := qw_nat (n := a) (by omega); omega) (by rw [own_size]; have := qw_nat (n := s) (by omega); omega)
    rw [val_own, val_own] at h
    exact h
  clear HOF
  have HOF := HOF'
  clear HOF' hW hr
  go_enter Tryz.func29, Tryz.ntmps29
  go_wp2_with fail
  go_loopw [7, 8, 9] (fun x sv iv wr => ∃ (i : Nat) (Ls : List Nat), i ≤ n ∧ iv = .int .i64 i ∧ sv = .int .i64 (Ls.sum : Nat) ∧ Hid (Wts Ls i) ∧ Hid (RwI wr w.heap.size x (iL Ls)) ∧ Hid (Below w.heap.size w wr)) (fun _ _ iv _ => n - (Go.RowKit.intOf iv).toNat)
  case atStart => exact ⟨0, [], Nat.zero_le _, rfl, rfl, ⟨rfl, fun a ha => by cases ha⟩, RwI.emptyB _ _, Below.refl _ _⟩
  case round =>
    obtain ⟨i, Ls, hi, rfl, rfl, HL, HX, HB⟩ := hrel
    by_cases hlt : i < n
    · have hs18 : Ls.sum ≤ 100 := by have := sum_le6 HL.out.six; have := HL.out.len; omega
      have hll := HL.out.len
      by_cases hw0 : 0 < W.length
      · obtain ⟨ki, hki⟩ : ∃ ki, ki = k + i := ⟨_, rfl⟩
        have hwr : IntKind.i64.wrap ((k : Int) + (i : Int)) = (ki : Int) := by rw [IntKind.wrap_i64]; omega
        obtain ⟨t, ht⟩ : ∃ t, t = ki % W.length := ⟨_, rfl⟩
        have htl : t < W.length := by rw [ht]; exact Nat.mod_lt _ hw0
        have hrem : (ki : Int) % (W.length : Int) = (t : Int) := by rw [ht, Int.natCast_emod]
        obtain ⟨g', o', rfl, hg', cW⟩ := (HW.out.below HB.out) t htl
        have hxr := HR.out W[t] (List.getElem_mem htl)
        have hpl := HPL.out W[t]
        have HPT := hid (fun U => HPK.out W[t] hxr U)
        have hwpos : (0 : Int) < (W.length : Int) := by omega
        have hwne : ¬ (W.length : Int) = 0 := by omega
        have hwr2 : IntKind.i64.wrap ((ki : Int) % (W.length : Int)) = (t : Int) := by rw [hrem, IntKind.wrap_i64]; omega
        clear ht hki hw0
        generalize W[t] = wt at *
        generalize pickN wt 7 = p at *
        go_wp2_with fail
        refine (HPT.out _).mono ?_
        rintro e w1 ⟨rfl, hb1⟩
        have HX1 := hid (HX.out.below hb1)
        have HB1 := hid (HB.out.trans (hb1.mono HB.out.size))
        have HXA := hid (HX1.out.below ((Below.refl _ w1).alloc (Nat.le_refl _) (.cells #[.int .i64 (p : Int)] 3)))
        have HBA := hid (HB1.out.alloc HB1.out.size (.cells #[.int .i64 (p : Int)] 3))
        have HIA := hid (one_int w1 (p : Int))
        have hbs : w.heap.size ≤ (w1.alloc (.cells #[.int .i64 (p : Int)] 3)).heap.size := HBA.out.size
        have hil : (iL Ls).length = i := by rw [iL_length]; exact hll
        have HSU := hid (iL_sum_snoc Ls p)
        have hsm : IntKind.i64.wrap ((Ls.sum : Int) + (p : Int)) = (((Ls ++ [p]).sum : Nat) : Int) := by rw [IntKind.wrap_i64]; simp; omega
        have HWT : Hid (Wts (Ls ++ [p]) (i + 1)) := ⟨by simp [hll], fun a ha => by rcases List.mem_append.1 ha with ha | ha; exact HL.out.six a ha; rw [List.mem_singleton.1 ha]; omega⟩
        generalize hs2 : (Ls ++ [p]).sum = s2 at *
        have HS2 := hid hs2
        clear hs2
        clear cW hb1 HX HB HX1 HB1
        go_wp2_with (at_builtin; refine wpList_append_ints rfl _ _ rfl w.heap.size _ (iL Ls) [(p : Int)] rfl HXA.out (some ⟨w1.heap.size, 0, none⟩) 1 rfl HIA.out (fun e => by cases e) (by simp; omega) hbs ?_; intro v' w3 hr3 hg3; have HB3 := hid (HBA.out.grown hg3 hbs (fun k e => HXA.out.own k e)))
        go_roundw
        case rel => exact ⟨i + 1, Ls ++ [p], by omega, by go_num, by rw [HS2.out], HWT, by rw [HSU.out]; exact hr3, HB3⟩
        case measure => simp [Go.RowKit.intOf]; omega
      · have hgt : ¬ (0 : Int) < (W.length : Int) := by omega
        have hgt2 : decide (0 < W.length) = false := decide_eq_false (by omega)
        have HXA := hid (HX.out.below ((Below.refl _ wr).alloc (Nat.le_refl _) (.cells #[.int .i64 1] 3)))
        have HBA := hid (HB.out.alloc HB.out.size (.cells #[.int .i64 1] 3))
        have HIA := hid (one_int wr 1)
        have hbs : w.heap.size ≤ (wr.alloc (.cells #[.int .i64 1] 3)).heap.size := HBA.out.size
        have hil : (iL Ls).length = i := by rw [iL_length]; exact hll
        have HSU := hid (iL_sum_snoc Ls 1)
        have hsm : IntKind.i64.wrap ((Ls.sum : Int) + 1) = (((Ls ++ [1]).sum : Nat) : Int) := by rw [IntKind.wrap_i64]; simp; omega
        have HWT : Hid (Wts (Ls ++ [1]) (i + 1)) := ⟨by simp [hll], fun a ha => by rcases List.mem_append.1 ha with ha | ha; exact HL.out.six a ha; rw [List.mem_singleton.1 ha]; omega⟩
        have HS2 := hid (Eq.refl (Ls ++ [1]).sum)
        generalize hs2 : (Ls ++ [1]).sum = s2 at *
        have HS3 := hid hs2
        clear hs2 HS2 HX HB hw0
        go_wp2_with (at_builtin; refine wpList_append_ints rfl _ _ rfl w.heap.size _ (iL Ls) [(1 : Int)] rfl HXA.out (some ⟨wr.heap.size, 0, none⟩) 1 rfl HIA.out (fun e => by cases e) (by simp; omega) hbs ?_; intro v' w3 hr3 hg3; have HB3 := hid (HBA.out.grown hg3 hbs (fun k e => HXA.out.own k e)))
        go_roundw
        case rel => exact ⟨i + 1, Ls ++ [1], by omega, by go_num, by rw [HS3.out], HWT, by rw [HSU.out]; exact hr3, HB3⟩
        case measure => simp [Go.RowKit.intOf]; omega
    · obtain rfl : n = i := by omega
      have hs18 : Ls.sum ≤ 100 := by have := sum_le6 HL.out.six; have := HL.out.len; omega
      have hll := HL.out.len
      by_cases hs0 : Ls.sum = 0
      · have hlp : 0 < (iL Ls).length := by rw [iL_length]; omega
        rcases HX.out.cases with ⟨_, hnil⟩ | ⟨g, cap, rfl, hg0, hg, hc1, hc2, hh⟩
        · rw [hnil] at hlp; exact absurd hlp (by simp)
        · have hput := HX.out.put 0 1
          obtain ⟨hc0, hf0⟩ := hh 0 (by simpa using hlp)
          rw [Nat.zero_add] at hc0 hf0
          have HBP := hid (HB.out.setCell (p := ⟨g, 0, none⟩) hg0 (.int .i64 1))
          have hilen : (iL Ls).length = n := by rw [iL_length]; exact hll
          rw [hilen]
          obtain ⟨a0, l0, rfl⟩ : ∃ a0 l0, Ls = a0 :: l0 := by
            cases Ls with
            | nil => rw [← hll] at hn1; exact absurd hn1 (by simp)
            | cons a0 l0 => exact ⟨a0, l0, rfl⟩
          have ha0 : a0 = 0 ∧ l0.sum = 0 := by simp at hs0; exact hs0
          have HXP : Hid (RwI (wr.setCell ⟨g, 0, none⟩ (.int .i64 1)) w.heap.size (.slice (some ⟨g, 0, none⟩) n cap) (iL (1 :: l0))) := by
            rw [hilen] at hput
            exact hput
          have HW2 : Hid (Wts (1 :: l0) n) := ⟨by simpa using hll, fun a ha => by rcases List.mem_cons.1 ha with rfl | ha; omega; exact HL.out.six a (List.mem_cons_of_mem _ ha)⟩
          have HSS : Hid ((1 :: l0).sum = 1 ∧ 1 ≤ 1 ∧ 1 ≤ 100) := ⟨by simp [ha0.2], by omega, by omega⟩
          have hi0 : (0 : Int) < (n : Int) := by omega
          rw [hs0, show ((0 : Nat) : Int) = 0 from rfl]
          clear hs0 hput hh HX HB hilen hs18 hll HL
          go_upto_region 14 with fail
          clear hc0 hf0 ha0
          generalize (wr.setCell ⟨g, 0, none⟩ (.int .i64 1)) = wb at *
          have HX2 := HXP
          have HB2 := HBP
          obtain ⟨S, hS⟩ : ∃ S : Nat, S = 1 := ⟨1, rfl⟩
          obtain ⟨Ls2, hL2⟩ : ∃ Ls2, Ls2 = 1 :: l0 := ⟨_, rfl⟩
          rw [← hL2] at HW2 HSS HX2
          have HSS2 : Hid (Ls2.sum = S ∧ 1 ≤ S ∧ S ≤ 100) := by rw [hS]; exact HSS
          have e1 : (1 : Int) = ((S : Nat) : Int) := by rw [hS]; rfl
          rw [e1]
          clear HSS HXP HBP hL2 hS e1
          have HSS := HSS2
          clear HSS2
          obtain ⟨d7, cd7, e7, hi7⟩ := HX2.out.ints
          have HI7 := hid hi7
          have hil2 : (iL Ls2).length = n := by rw [iL_length]; exact HW2.out.len
          rw [hil2] at e7
          cases e7
          have hS1 := HSS.out.2.1
          have hS2 := HSS.out.2.2
          have HSQ := hid HSS.out.1
          have HFL : Hid ((rawF Ls2).length = n) := by show _ = _; rw [rawF_length]; exact HW2.out.len
          have HFG : Hid (∀ j (h : j < Ls2.length), (rawF Ls2)[j]'(by rw [rawF_length]; exact h) = qF ((Ls2[j] : Rat) / (S : Rat))) := fun j h => by simp [rawF, HSQ.out]
          clear hi7 HSS
          go_wp2_with fail
          go_loopw [11, 12] (fun x iv wr2 => ∃ i : Nat, i ≤ n ∧ iv = .int .i64 i ∧ Hid (RwF wr2 wb.heap.size x ((rawF Ls2).take i)) ∧ Hid (Below wb.heap.size wb wr2)) (fun _ iv _ => n - (Go.RowKit.intOf iv).toNat)
          case atStart => exact ⟨0, Nat.zero_le _, rfl, RwF.empty _ _, Below.refl _ _⟩
          case round =>
            obtain ⟨i, hi, rfl, HY, HBB⟩ := hrel
            by_cases hlt : i < n
            · have hiL : i < (iL Ls2).length := by rw [hil2]; exact hlt
              have hiN : i < Ls2.length := by rw [← iL_length]; exact hiL
              obtain ⟨g', o', e8, hg', cL⟩ := (HI7.out.below HBB.out) i hiL
              cases e8
              (try rw [Nat.zero_add] at cL)
              have e1 : (iL Ls2)[i]'hiL = ((Ls2[i]'hiN : Nat) : Int) := by simp [iL]
              rw [e1] at cL
              have ha6 := HW2.out.six (Ls2[i]'hiN) (List.getElem_mem hiN)
              have hfg := HFG.out i hiN
              have HST : Hid ((rawF Ls2).take i ++ [qF (((Ls2[i]'hiN : Nat) : Rat) / (S : Rat))] = (rawF Ls2).take (i + 1)) := by show _ = _; rw [List.take_succ_eq_append_getElem (by rw [HFL.out]; exact hlt), hfg]
              clear e1 hfg
              generalize (Ls2[i]'hiN) = av at *
              have HO1 := hid (fun U => HOF.out av (by omega) U)
              have HO2 := hid (fun U => HOF.out S (by omega) U)
              have HDV2 := hid (fun U => HDV.out av S (by omega) (by omega) (by omega) U)
              generalize qF ((av : Nat) : Rat) = fa at *
              generalize qF ((S : Nat) : Rat) = fs at *
              generalize qF (((av : Nat) : Rat) / ((S : Nat) : Rat)) = fq at *
              obtain ⟨an, ax, ay⟩ := fa
              obtain ⟨sn, sx, sy⟩ := fs
              obtain ⟨qn, qx, qy⟩ := fq
              go_wp2_with fail
              refine (HO1.out _).mono ?_
              rintro e v1 ⟨rfl, hb1⟩
              go_wp2_with fail
              refine (HO2.out _).mono ?_
              rintro e v2 ⟨rfl, hb2⟩
              go_wp2_with fail
              refine (HDV2.out _).mono ?_
              rintro e v3 ⟨rfl, hb3⟩
              have hb23 := hb2.trans (hb3.mono hb2.size)
              have hb13 := hb1.trans (hb23.mono hb1.size)
              clear hb1 hb2 hb3 hb23
              have hbx := Box.new v3 qn qx qy
              have hb4 := hb13.alloc hb13.size (FC qn qx qy)
              obtain ⟨k0, k1, k2, -⟩ := hbx.facts
              have hbx2 : Box ((v3.alloc (FC qn qx qy)).alloc (FC qn qx qy)) (v3.heap.size + 1) qn qx qy := by
                have h := Box.new (v3.alloc (FC qn qx qy)) qn qx qy
                rwa [World.size_alloc] at h
              have hb5 := hb4.alloc hb4.size (FC qn qx qy)
              have HY5 := hid (HY.out.below hb5)
              have HB5 := hid (HBB.out.trans (hb5.mono HBB.out.size))
              have HBX := hid hbx2
              have hbs : wb.heap.size ≤ ((v3.alloc (FC qn qx qy)).alloc (FC qn qx qy)).heap.size := HB5.out.size
              have htl : ((rawF Ls2).take i).length ≤ 5 := by rw [List.length_take, HFL.out]; omega
              clear hb13 hb4 hb5 hbx hbx2 HY HBB cL
              go_wp2_with (at_builtin; refine wpList_append_fr rfl _ _ rfl wb.heap.size _ ((rawF Ls2).take i) (qn, qx, qy) rfl HY5.out (v3.heap.size + 1) rfl HBX.out (by omega) hbs ?_; intro v' v6 hr6 hg6; have HB6 := hid (HB5.out.grown hg6 hbs (fun k e => HY5.out.own k e)))
              go_roundw
              case rel => exact ⟨i + 1, by omega, by go_num, by rw [← HST.out]; exact hr6, HB6⟩
              case measure => simp [Go.RowKit.intOf]; omega
            · obtain rfl : i = n := by omega
              go_wp2
              go_ret
              have hr := HY.out
              rw [List.take_of_length_le (by rw [HFL.out]; exact Nat.le_refl _)] at hr
              exact ⟨_, Ls2, rfl, hr.lower HB2.out.size, HW2.out, by rw [HSQ.out]; exact hS1, HB2.out.trans (HBB.out.mono HB2.out.size)⟩
      · have hs0' : ¬ (Ls.sum : Int) = 0 := by omega
        obtain ⟨S, hS⟩ : ∃ S, Ls.sum = S := ⟨_, rfl⟩
        have HSS : Hid (Ls.sum = S ∧ 1 ≤ S ∧ S ≤ 100) := ⟨hS, by omega, by omega⟩
        rw [hS] at hs0' ⊢
        obtain ⟨Ls2, hL2⟩ : ∃ Ls2, Ls2 = Ls := ⟨_, rfl⟩
        rw [← hL2] at HL HX HSS
        have HW2 := HL
        have HX2 := HX
        have HB2 := HB
        have hsb : ((S : Int) == 0) = false := by simpa using hs0'
        clear hs0 hS hL2 HL HX HB hs18 hll
        go_upto_region 14 with fail
        clear hs0' hsb
        generalize wr = wb at *
        obtain ⟨d7, cd7, e7, hi7⟩ := HX2.out.ints
        have HI7 := hid hi7
        have hil2 : (iL Ls2).length = n := by rw [iL_length]; exact HW2.out.len
        rw [hil2] at e7
        cases e7
        have hS1 := HSS.out.2.1
        have hS2 := HSS.out.2.2
        have HSQ := hid HSS.out.1
        have HFL : Hid ((rawF Ls2).length = n) := by show _ = _; rw [rawF_length]; exact HW2.out.len
        have HFG : Hid (∀ j (h : j < Ls2.length), (rawF Ls2)[j]'(by rw [rawF_length]; exact h) = qF ((Ls2[j] : Rat) / (S : Rat))) := fun j h => by simp [rawF, HSQ.out]
        clear hi7 HSS
        go_wp2_with fail
        go_loopw [11, 12] (fun x iv wr2 => ∃ i : Nat, i ≤ n ∧ iv = .int .i64 i ∧ Hid (RwF wr2 wb.heap.size x ((rawF Ls2).take i)) ∧ Hid (Below wb.heap.size wb wr2)) (fun _ iv _ => n - (Go.RowKit.intOf iv).toNat)
        case atStart => exact ⟨0, Nat.zero_le _, rfl, RwF.empty _ _, Below.refl _ _⟩
        case round =>
          obtain ⟨i, hi, rfl, HY, HBB⟩ := hrel
          by_cases hlt : i < n
          · have hiL : i < (iL Ls2).length := by rw [hil2]; exact hlt
            have hiN : i < Ls2.length := by rw [← iL_length]; exact hiL
            obtain ⟨g', o', e8, hg', cL⟩ := (HI7.out.below HBB.out) i hiL
            cases e8
            (try rw [Nat.zero_add] at cL)
            have e1 : (iL Ls2)[i]'hiL = ((Ls2[i]'hiN : Nat) : Int) := by simp [iL]
            rw [e1] at cL
            have ha6 := HW2.out.six (Ls2[i]'hiN) (List.getElem_mem hiN)
            have hfg := HFG.out i hiN
            have HST : Hid ((rawF Ls2).take i ++ [qF (((Ls2[i]'hiN : Nat) : Rat) / (S : Rat))] = (rawF Ls2).take (i + 1)) := by show _ = _; rw [List.take_succ_eq_append_getElem (by rw [HFL.out]; exact hlt), hfg]
            clear e1 hfg
            generalize (Ls2[i]'hiN) = av at *
            have HO1 := hid (fun U => HOF.out av (by omega) U)
            have HO2 := hid (fun U => HOF.out S (by omega) U)
            have HDV2 := hid (fun U => HDV.out av S (by omega) (by omega) (by omega) U)
            generalize qF ((av : Nat) : Rat) = fa at *
            generalize qF ((S : Nat) : Rat) = fs at *
            generalize qF (((av : Nat) : Rat) / ((S : Nat) : Rat)) = fq at *
            obtain ⟨an, ax, ay⟩ := fa
            obtain ⟨sn, sx, sy⟩ := fs
            obtain ⟨qn, qx, qy⟩ := fq
            go_wp2_with fail
            refine (HO1.out _).mono ?_
            rintro e v1 ⟨rfl, hb1⟩
            go_wp2_with fail
            refine (HO2.out _).mono ?_
            rintro e v2 ⟨rfl, hb2⟩
            go_wp2_with fail
            refine (HDV2.out _).mono ?_
            rintro e v3 ⟨rfl, hb3⟩
            have hb23 := hb2.trans (hb3.mono hb2.size)
            have hb13 := hb1.trans (hb23.mono hb1.size)
            clear hb1 hb2 hb3 hb23
            have hbx := Box.new v3 qn qx qy
            have hb4 := hb13.alloc hb13.size (FC qn qx qy)
            obtain ⟨k0, k1, k2, -⟩ := hbx.facts
            have hbx2 : Box ((v3.alloc (FC qn qx qy)).alloc (FC qn qx qy)) (v3.heap.size + 1) qn qx qy := by
              have h := Box.new (v3.alloc (FC qn qx qy)) qn qx qy
              rwa [World.size_alloc] at h
            have hb5 := hb4.alloc hb4.size (FC qn qx qy)
            have HY5 := hid (HY.out.below hb5)
            have HB5 := hid (HBB.out.trans (hb5.mono HBB.out.size))
            have HBX := hid hbx2
            have hbs : wb.heap.size ≤ ((v3.alloc (FC qn qx qy)).alloc (FC qn qx qy)).heap.size := HB5.out.size
            have htl : ((rawF Ls2).take i).length ≤ 5 := by rw [List.length_take, HFL.out]; omega
            clear hb13 hb4 hb5 hbx hbx2 HY HBB cL
            go_wp2_with (at_builtin; refine wpList_append_fr rfl _ _ rfl wb.heap.size _ ((rawF Ls2).take i) (qn, qx, qy) rfl HY5.out (v3.heap.size + 1) rfl HBX.out (by omega) hbs ?_; intro v' v6 hr6 hg6; have HB6 := hid (HB5.out.grown hg6 hbs (fun k e => HY5.out.own k e)))
            go_roundw
            case rel => exact ⟨i + 1, by omega, by go_num, by rw [← HST.out]; exact hr6, HB6⟩
            case measure => simp [Go.RowKit.intOf]; omega
          · obtain rfl : i = n := by omega
            go_wp2
            go_ret
            have hr := HY.out
            rw [List.take_of_length_le (by rw [HFL.out]; exact Nat.le_refl _)] at hr
            exact ⟨_, Ls2, rfl, hr.lower HB2.out.size, HW2.out, by rw [HSQ.out]; exact hS1, HB2.out.trans (HBB.out.mono HB2.out.size)⟩
end Go.Proofs.YtbejijgelljeaaaGreatDoor
