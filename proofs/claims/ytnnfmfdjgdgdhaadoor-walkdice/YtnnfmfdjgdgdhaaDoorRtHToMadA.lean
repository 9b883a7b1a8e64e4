/- The document's answer: Product. -/
import Derived.Test.YtnnfmfdjgdgdhaaDoorTogAToRtG
import Derived.Test.YtnnfmfdjgdgdhaaDoorRefSToTabN
import Derived.Test.YtnnfmfdjgdgdhaaDoorFillBToDicP
import Derived.Test.YtnnfmfdjgdgdhaaDoorTabR3ToJoinB
import Derived.Laws.EntriesVeiled
import Derived.Test.YtnnfmfdjgdgdhaaDoorSetAToFillA
import Derived.Test.YtnnfmfdjgdgdhaaDoorMemToReckA
import Derived.Lib.ItoaNum
import Derived.Test.YtnnfmfdjgdgdhaaDoorRefHToRefJ
import Derived.Test.YtnnfmfdjgdgdhaaDoorDivCToRefA
namespace Go.Proofs.YtnnfmfdjgdgdhaaDoor
open Go.RowKit Go.Shelf

/-- The variables so far. -/
def bothI (a b : List Int) (i : Nat) : List Int := iL (bothN i a b)
theorem bothI_succ (a b : List Int) (i : Nat) : bothI a b (i + 1) = bothI a b i ++ if (inB (i : Int) a || inB (i : Int) b) = true then [(i : Int)] else [] := by
  rw [bothI, bothI, bothN, bothN, List.range_succ, List.filter_append, iL, iL, List.map_append]
  congr 1
  by_cases h : (inB (i : Int) a || inB (i : Int) b) = true
  · simp only [List.filter_cons, h, List.filter_nil, if_true, List.map_cons, List.map_nil]
  · simp only [List.filter_cons, h, List.filter_nil]
    rfl
theorem bothI_len (a b : List Int) (i : Nat) : (bothI a b i).length ≤ i := by
  rw [bothI, iL_length]
  exact Nat.le_trans (List.length_filter_le _ _) (by rw [List.length_range]; exact Nat.le_refl _)
theorem RwI.off {w : World} {B : Nat} {v : Value} {l : List Int} (h : RwI w B v l) (b j : Nat) (y : Value) (hb : b < B) : RwI (w.setCell ⟨b, j, none⟩ y) B v l := by
  refine ⟨h.1, h.2.imp id ?_⟩
  rintro ⟨g, cap, cur, h1, h2, h3, h4⟩
  exact ⟨g, cap, cur, h1, h2, (Below.heap_setCell w ⟨b, j, none⟩ y g (by show g ≠ b; omega)).trans h3, h4⟩
theorem RwI.below {w w' : World} {B : Nat} {v : Value} {l : List Int} (h : RwI w B v l) (hb : Below w.heap.size w w') : RwI w' B v l := by
  refine ⟨h.1, h.2.imp id ?_⟩
  rintro ⟨g, cap, cur, h1, h2, h3, h4⟩
  exact ⟨g, cap, cur, h1, h2, (hb.block g (Array.getElem?_eq_some_iff.1 h3).1).trans h3, h4⟩
theorem RwI.slv {w : World} {B : Nat} {v : Value} {l : List Int} (h : RwI w B v l) : SlV v := by
  obtain ⟨d, cd, e, _⟩ := h.ints
  exact ⟨d, _, cd, e⟩
theorem RwI.intS {w : World} {B : Nat} {d : Option Addr} {cd : Nat} {U : List Int} (h : RwI w B (.slice d U.length cd) U) : IntS w d U := by
  obtain ⟨d', cd', e, hi⟩ := h.ints
  cases e
  exact hi

end Go.Proofs.YtnnfmfdjgdgdhaaDoor


/- The law's raw numbers: Pick, sizesOf, All, Some, Less. -/
namespace Go.Proofs.YtnnfmfdjgdgdhaaDoor
open Go.RowKit Go.Shelf

/-- A number below n, of any number. -/
def pickN (c : Int) (n : Nat) : Nat := (if c < 0 then (-(c + 1)).toNat else c.toNat) % n
theorem pickN_lt (c : Int) {n : Nat} (h : 1 ≤ n) : pickN c n < n := Nat.mod_lt _ h

set_option maxRecDepth 100000 in
set_option maxHeartbeats 1000000 in
theorem rPick_same (c : Int) (n : Nat) (w : World) (h1 : -9223372036854775808 ≤ c) (h2 : c ≤ 9223372036854775807) (hn : 1 ≤ n) (hn' : n ≤ 1000) :
    Calls Tryd.prog 5 #[.int .i64 c, .int .i64 (n : Nat)] w fun e w' => e = .returned (.int .i64 (pickN c n : Nat)) ∧ w' = w := by
  have HP : Hid (pickN c n = (if c < 0 then (-(c + 1)).toNat else c.toNat) % n) := rfl
  have hlt := pickN_lt c hn
  generalize pickN c n = P at *
  by_cases hc : c < 0
  · rw [if_pos hc] at HP
    obtain ⟨d, hd⟩ : ∃ d : Nat, c = -((d : Int) + 1) := ⟨(-(c + 1)).toNat, by omega⟩
    subst hd
    have HE : Hid ((d : Int) % (n : Int) = (P : Int)) := by
      show _ = _
      rw [HP.out, show (-(-((d : Int) + 1) + 1)).toNat = d by omega, Int.natCast_emod]
    have hw : IntKind.i64.wrap (-((d : Int) + 1) + 1) = -(d : Int) := by rw [IntKind.wrap_i64]; omega
    have hw2 : IntKind.i64.wrap (- -(d : Int)) = (d : Int) := by rw [IntKind.wrap_i64]; omega
    go_enter Tryd.func5, Tryd.ntmps5
    go_wp2
    go_ret
    exact ⟨by rw [HE.out]; rfl, rfl⟩
  · rw [if_neg hc] at HP
    obtain ⟨d, rfl⟩ : ∃ d : Nat, c = d := ⟨c.toNat, by omega⟩
    have HE : Hid ((d : Int) % (n : Int) = (P : Int)) := by
      show _ = _
      rw [HP.out, Int.toNat_natCast, Int.natCast_emod]
    go_enter Tryd.func5, Tryd.ntmps5
    go_wp2
    go_ret
    exact ⟨by rw [HE.out]; rfl, rfl⟩
theorem rPick_any (c : Int) (n : Nat) (w : World) (h1 : -9223372036854775808 ≤ c) (h2 : c ≤ 9223372036854775807) (hn : 1 ≤ n) (hn' : n ≤ 1000) :
    Calls Tryd.prog 5 #[.int .i64 c, .int .i64 (n : Nat)] w fun e w' => e = .returned (.int .i64 (pickN c n : Nat)) ∧ Below w.heap.size w w' := by
  refine (rPick_same c n w h1 h2 hn hn').mono ?_
  rintro e w' ⟨h, rfl⟩
  exact ⟨h, Below.refl _ _⟩

/-- Sizes so far. -/
def Each3 (L : List Int) : Prop := ∀ i (h : i < L.length), 1 ≤ L[i] ∧ L[i] ≤ 3
theorem Each3.snoc {L : List Int} {x : Int} (h : Each3 L) (h1 : 1 ≤ x) (h2 : x ≤ 3) : Each3 (L ++ [x]) := by
  intro i hi
  rw [List.getElem_append]
  by_cases e : i < L.length
  · rw [dif_pos e]; exact h i e
  · rw [dif_neg e, List.getElem_singleton]; exact ⟨h1, h2⟩
theorem Each3.sz {L : List Int} (h : Each3 L) (h1 : 3 ≤ L.length) (h2 : L.length ≤ 5) : Sz3 L := ⟨⟨by omega, by omega, fun i hi => ⟨(h i hi).1, by have := (h i hi).2; omega⟩⟩, fun i hi => (h i hi).2, h1, h2⟩
theorem new_int (w : World) (u : Int) : IntS (w.alloc (.cells #[.int .i64 u] 3)) (some ⟨w.heap.size, 0, none⟩) [u] := fun k hk => by
  obtain rfl : k = 0 := by simp at hk; omega
  exact ⟨w.heap.size, 0, rfl, by simp, (Boxed.new w _ _).cell⟩

end Go.Proofs.YtnnfmfdjgdgdhaaDoor


/- Package table: Best. -/
namespace Go.Proofs.YtnnfmfdjgdgdhaaDoor
open Go.RowKit Go.Shelf

end Go.Proofs.YtnnfmfdjgdgdhaaDoor


/- The law's comparison of two answers beside errors. -/
namespace Go.Proofs.YtnnfmfdjgdgdhaaDoor
open Go.RowKit

end Go.Proofs.YtnnfmfdjgdgdhaaDoor


/- The law's small functions on tables. -/
namespace Go.Proofs.YtnnfmfdjgdgdhaaDoor
open Go.RowKit Go.Shelf

end Go.Proofs.YtnnfmfdjgdgdhaaDoor


/- Both answer alike: each call on tables, in package table and in the document's answer. -/
namespace Go.Proofs.YtnnfmfdjgdgdhaaDoor
open Go.RowKit Go.Shelf

/-- Both answer the same table and error. -/
def TwoT (w : World) (f g : FuncId) (args : Array Value) : Prop := ∃ (V : List Int) (L : List Fr) (k : Int), V.length ≤ 100000 ∧ L.length ≤ 100000 ∧
  (∀ W, Below w.heap.size w W → Calls Tryd.prog f args W fun e w' => TabA V L k e w' ∧ Below W.heap.size W w') ∧ ∀ W, Below w.heap.size w W → Calls Tryd.prog g args W fun e w' => TabA V L k e w' ∧ Below W.heap.size W w'
/-- A table that came in. -/
structure TIn (w : World) (b c : Option Addr) (cb : Nat) (vars : List Int) (l : List Fr) : Prop where
  ints : IntS w b vars
  cells : FrS w c l
  nil : b = none → cb = 0
  len : vars.length ≤ 4096
  small : fw l ≤ 8192
theorem TIn.below {w w' : World} {b c : Option Addr} {cb : Nat} {vars : List Int} {l : List Fr} (h : TIn w b c cb vars l) (hb : Below w.heap.size w w') : TIn w' b c cb vars l := ⟨h.ints.below hb, h.cells.below hb, h.nil, h.len, h.small⟩
theorem cnt_all {sizes vars : List Int} (h1 : Fine sizes) (h2 : Up vars sizes.length) : cnt (toN sizes) (toN vars) ≤ 65536 := cnt_small h1.sz_le (by rw [toN_length]; have := h1.eight; have := h2.length; omega)
end Go.Proofs.YtnnfmfdjgdgdhaaDoor


/- The law's raw numbers: tableOf. -/
namespace Go.Proofs.YtnnfmfdjgdgdhaaDoor
open Go.RowKit Go.Shelf

theorem wp_append_fr {w : World} {o : Oper} {a : Act} {K : Act → World → Prop} {Q : Exit → Act → World → Prop} (s x : Operand)
    (ho : o.op = .call { callee := .builtin .append, args := #[s, x], argTypes := #[23, 23] }) (base : Nat) (v : Value) (l : List Fr) (f : Fr) (hs : a.eval s = v) (hown : RwF w base v l) (g : Nat) (hx : a.eval x = .slice (some ⟨g, 0, none⟩) 1 1) (hg : Box w g f.1 f.2.1 f.2.2) (hlen : l.length + 1 ≤ 100000) (hbase : base ≤ w.heap.size)
    (h : ∀ v' w', RwF w' base v' (l ++ [f]) → w.grownBy w' v.ownBlock → K (a.put o.dst v') w') : o.wp Tryd.prog a w K Q := by
  obtain ⟨i0, hi0, hz0, hz1, hz2⟩ := info_parts Tryd.infoFrac
  refine wp_append_own _ s x 23 ho base 30 i0 (.agg #[.bool false, .string ⟨#[]⟩, .string ⟨#[]⟩]) 3 40 Tryd.underlying23 hi0 hz0 hz1 hz2 rfl (by decide) v l.length _ hs hown ⟨g, 0, none⟩ 1 1 [.bool f.1, .string f.2.1, .string f.2.2] hx rfl ?_ ?_ (by unfold maxLen; omega) (by omega) hbase ?_
  · intro j u hj
    match j, hj with
    | 0, hj => cases hj; exact hg.c0
    | 1, hj => cases hj; exact hg.c1
    | 2, hj => cases hj; exact hg.c2
    | j + 3, hj => simp at hj
  · intro u hu
    simp only [List.mem_cons, List.not_mem_nil, or_false] at hu
    rcases hu with rfl | rfl | rfl <;> rfl
  · intro v' w' h1 h2 _
    refine h v' w' ?_ h2
    rw [RwF, List.length_append, frC_snoc]
    exact h1
theorem mkRat_int (k : Int) : mkRat k 1 = (k : Rat) := by
  rw [Rat.mkRat_one]
theorem rOf_q (k : Int) (w : World) (hk : k.natAbs ≤ 255) : Calls Tryd.prog 9 #[.int .i64 k] w fun e w' => ∃ f : Fr, e = .returned (frV f) ∧ (∃ q, f = qF q ∧ qw q ≤ 2) ∧ Below w.heap.size w w' := by
  refine (rOfF_any k w (by omega) (by omega)).mono ?_
  rintro e w' ⟨rfl, hb⟩
  rw [mkRat_int]
  exact ⟨qF (k : Rat), rfl, ⟨_, rfl, int_size hk⟩, hb⟩
theorem Sml.snoc {s : Nat} {l : List Fr} {f : Fr} (h : Sml s l) (hf : ∃ q, f = qF q ∧ qw q ≤ s) : Sml s (l ++ [f]) := fun g hg => (List.mem_append.1 hg).elim (h g) fun e => by rw [List.mem_singleton.1 e]; exact hf


end Go.Proofs.YtnnfmfdjgdgdhaaDoor


/- Nets: the answer's Sizes; namesOf, checkVars. -/
namespace Go.Proofs.YtnnfmfdjgdgdhaaDoor
open Go.RowKit Go.Shelf

theorem iL_take_succ {l : List Nat} {i x : Nat} (h : l[i]? = some x) : iL (l.take (i + 1)) = iL (l.take i) ++ [(x : Int)] := by
  obtain ⟨h1, h2⟩ := List.getElem?_eq_some_iff.1 h
  rw [List.take_succ_eq_append_getElem h1, h2, iL_append]; rfl
theorem made_strs (n : Nat) : (madeCells (Value.string ⟨#[]⟩).cells (n * 1)).toList = (List.replicate n (⟨#[]⟩ : ByteArray)).map Value.string := by
  rw [show (Value.string ⟨#[]⟩).cells = #[Value.string ⟨#[]⟩] from rfl, toList_madeCells_one, Nat.mul_one, List.map_replicate]
/-- Texts, as far as they are written. -/
def partS (l : List ByteArray) (i : Nat) : List ByteArray := l.take i ++ List.replicate (l.length - i) ⟨#[]⟩
theorem partS_zero (l : List ByteArray) : partS l 0 = List.replicate l.length ⟨#[]⟩ := by simp [partS]
theorem partS_length (l : List ByteArray) {i : Nat} (h : i ≤ l.length) : (partS l i).length = l.length := by simp [partS]; omega
theorem partS_all (l : List ByteArray) : partS l l.length = l := by simp [partS]
theorem partS_set (l : List ByteArray) {i : Nat} (h : i < l.length) : (partS l i).set i l[i] = partS l (i + 1) := by
  have h1 : l.length - i = (l.length - (i + 1)) + 1 := by omega
  have h2 : (l.take i).length = i := by rw [List.length_take]; omega
  rw [partS, partS, h1, List.replicate_succ, List.set_append_right _ _ (by omega), h2, Nat.sub_self, List.set_cons_zero, List.take_succ_eq_append_getElem h, List.append_assoc]
  rfl
/-- The variables' names. -/
def namesV (V : List Vr) : List ByteArray := V.map fun x => x.1
theorem namesV_length (V : List Vr) : (namesV V).length = V.length := by simp [namesV]
theorem namesV_get {V : List Vr} {i : Nat} (h : i < V.length) : (namesV V)[i]? = some V[i].1 := by simp [namesV, h]

end Go.Proofs.YtnnfmfdjgdgdhaaDoor


/- Nets: checkVars. -/
namespace Go.Proofs.YtnnfmfdjgdgdhaaDoor
open Go.RowKit Go.Shelf

/-- What is wrong with a variable's values. -/
def varE (V : List Vr) (i : Nat) : Int := if 1 ≤ (V.getD i (⟨#[]⟩, [])).2.length ∧ (V.getD i (⟨#[]⟩, [])).2.length ≤ 4 then namesE (V.getD i (⟨#[]⟩, [])).2 else 2
/-- What is wrong with variables. -/
def varsE (V : List Vr) : Int := if namesE (namesV V) = 0 then firstE (varE V) V.length else namesE (namesV V)
theorem getV {V : List Vr} {i : Nat} (h : i < V.length) : V.getD i (⟨#[]⟩, []) = V[i] := by rw [List.getD_eq_getElem?_getD, List.getElem?_eq_getElem h]; rfl
/-- Sizes of all texts. -/
def VSm (V : List Vr) : Prop := V.length ≤ 5000 ∧ ∀ x ∈ V, x.1.size ≤ 5000 ∧ x.2.length ≤ 5000 ∧ ∀ s ∈ x.2, s.size ≤ 5000
theorem varE_lim {V : List Vr} {i : Nat} (h : i < V.length) (e : ¬ (1 ≤ V[i].2.length ∧ V[i].2.length ≤ 4)) : varE V i = 2 := by rw [varE, getV h, if_neg e]
theorem varE_names {V : List Vr} {i : Nat} (h : i < V.length) (e : 1 ≤ V[i].2.length ∧ V[i].2.length ≤ 4) : varE V i = namesE V[i].2 := by rw [varE, getV h, if_pos e]

end Go.Proofs.YtnnfmfdjgdgdhaaDoor


/- Package graph: read, Check. -/
namespace Go.Proofs.YtnnfmfdjgdgdhaaDoor
open Go.RowKit Go.Shelf

theorem gB_parts {L : List (List Int)} (h : gB L = true) : 1 ≤ L.length ∧ L.length ≤ 8 ∧ allRis L L.length = true ∧ noSelf L = true := by
  rw [gB, Bool.and_eq_true, Bool.and_eq_true, decide_eq_true_iff] at h
  exact ⟨h.1.1.1, h.1.1.2, h.1.2, h.2⟩
theorem gB_par {L : List (List Int)} (h : gB L = true) : ∀ p ∈ parN L, ∀ u ∈ p, u < 8 := by
  obtain ⟨h1, h2, h3, h4⟩ := gB_parts h
  intro p hp
  obtain ⟨l, hl, rfl⟩ := List.mem_map.1 hp
  exact ris_all h2 (List.all_eq_true.1 h3 l hl)

end Go.Proofs.YtnnfmfdjgdgdhaaDoor


/- The document's answer: listsOK, Order, GraphCheck. -/
namespace Go.Proofs.YtnnfmfdjgdgdhaaDoor
open Go.RowKit Go.Shelf

theorem inB_mem {k : Int} {l : List Int} : inB k l = true ↔ k ∈ l := by simp [inB]
theorem inB_nat {l : List Int} {x : Int} (hx : 0 ≤ x) (hl : ∀ y ∈ l, 0 ≤ y) : inB x l = decide (x.toNat ∈ toN l) := by
  rw [Bool.eq_iff_iff, decide_eq_true_iff, inB_mem]
  constructor
  · intro h; exact List.mem_map.2 ⟨x, h, rfl⟩
  · intro h
    obtain ⟨y, hy, e⟩ := List.mem_map.1 h
    have := hl y hy
    obtain rfl : y = x := by omega
    exact hy
theorem inB_iL (l : List Nat) {x : Int} (hx : 0 ≤ x) : inB x (iL l) = decide (x.toNat ∈ l) := by
  rw [inB_nat hx fun y hy => by obtain ⟨z, _, rfl⟩ := List.mem_map.1 hy; omega, toN_iL]
theorem ris_nonneg {l : List Int} {n : Nat} (h : risB l n = true) : ∀ y ∈ l, 0 ≤ y := fun y hy => by
  obtain ⟨i, hi, rfl⟩ := List.getElem_of_mem hy
  exact ((ris_up h).each i hi).1
theorem gB_ris {L : List (List Int)} {i : Nat} (h : i < L.length) (e : risB L[i] L.length = false) : gB L = false := by rw [gB, allRis_bad h e]; simp
theorem gB_self {L : List (List Int)} {i : Nat} (h : i < L.length) (e : i ∈ toN L[i]) : gB L = false := by rw [gB, noSelf_bad h e]; simp
theorem gB_yes {L : List (List Int)} (h1 : 1 ≤ L.length) (h2 : L.length ≤ 8) (h : ∀ i (hi : i < L.length), risB L[i] L.length = true ∧ ¬ i ∈ toN L[i]) : gB L = true := by
  rw [gB, decide_eq_true (p := 1 ≤ L.length ∧ L.length ≤ 8) ⟨h1, h2⟩, noSelf_good fun i hi => (h i hi).2]
  have : allRis L L.length = true := List.all_eq_true.2 fun l hl => by
    obtain ⟨i, hi, rfl⟩ := List.getElem_of_mem hl
    exact (h i hi).1
  rw [this]; rfl

end Go.Proofs.YtnnfmfdjgdgdhaaDoor


/- The document's answer: Order, GraphCheck. -/
namespace Go.Proofs.YtnnfmfdjgdgdhaaDoor
open Go.RowKit Go.Shelf

/-- The least from j on that may come next. -/
def fromN (P : List (List Nat)) (out : List Nat) (j : Nat) : Option Nat := (List.range' j (P.length - j)).find? (freeB P out)
def encO : Option Nat → Int
  | some v => (v : Int)
  | none => -1
theorem fromN_zero (P : List (List Nat)) (out : List Nat) : fromN P out 0 = nextV P out := by rw [fromN, nextV, List.range_eq_range']; rfl
theorem fromN_end (P : List (List Nat)) (out : List Nat) : fromN P out P.length = none := by rw [fromN, Nat.sub_self]; rfl
theorem fromN_step {P : List (List Nat)} {out : List Nat} {j : Nat} (h : j < P.length) : fromN P out j = if freeB P out j = true then some j else fromN P out (j + 1) := by
  rw [fromN, fromN, show P.length - j = (P.length - (j + 1)) + 1 by omega, List.range'_succ, List.find?_cons]
  cases freeB P out j <;> rfl
/-- Is a node free as far as i of its parents say? -/
def freeI (P : List (List Nat)) (out : List Nat) (v i : Nat) : Bool := !decide (v ∈ out) && decide (∀ u ∈ (P.getD v []).take i, u ∈ out)
theorem freeI_zero (P : List (List Nat)) (out : List Nat) (v : Nat) : freeI P out v 0 = !decide (v ∈ out) := by simp [freeI]
theorem freeI_succ {P : List (List Nat)} {out p : List Nat} {v i : Nat} (hp : P.getD v [] = p) (h : i < p.length) : freeI P out v (i + 1) = (freeI P out v i && decide (p[i] ∈ out)) := by
  rw [freeI, freeI, hp, List.take_succ_eq_append_getElem h, Bool.and_assoc]
  congr 1
  rw [Bool.eq_iff_iff, Bool.and_eq_true, decide_eq_true_iff, decide_eq_true_iff, decide_eq_true_iff]
  constructor
  · intro H
    exact ⟨fun u hu => H u (List.mem_append_left _ hu), H _ (List.mem_append_right _ List.mem_cons_self)⟩
  · rintro ⟨H1, H2⟩ u hu
    rcases List.mem_append.1 hu with hu | hu
    · exact H1 u hu
    · rw [List.mem_singleton.1 hu]; exact H2
theorem freeI_all {P : List (List Nat)} {out p : List Nat} {v : Nat} (hp : P.getD v [] = p) : freeI P out v p.length = freeB P out v := by
  rw [freeI, freeB, hp, List.take_length]

end Go.Proofs.YtnnfmfdjgdgdhaaDoor


/- Nets: what is wrong with rows; the document's answer: NetCheck, as far as the names. -/
namespace Go.Proofs.YtnnfmfdjgdgdhaaDoor
open Go.RowKit Go.Shelf

/-- Lists of fractions in memory. -/
def FsS (w : World) (a : Option Addr) (R : List (List Fr)) : Prop := ∀ k (h : k < R.length), ∃ g o b c, a = some ⟨g, o, none⟩ ∧ g < w.heap.size ∧ w.cell? ⟨g, o + k, none⟩ = some (.slice b R[k].length c) ∧ FrS w b R[k] ∧ R[k].length ≤ c
theorem FsS.below {w w' : World} {a : Option Addr} {R : List (List Fr)} (h : FsS w a R) (hb : Below w.heap.size w w') : FsS w' a R := fun k hk => by
  obtain ⟨g, o, b, c, h1, h2, h3, h4, h5⟩ := h k hk
  exact ⟨g, o, b, c, h1, Nat.lt_of_lt_of_le h2 hb.size, (hb.cell (p := ⟨g, o + k, none⟩) h2).trans h3, h4.below hb, h5⟩
/-- The i-th so many. -/
def chunkF (l : List Fr) (k i : Nat) : List Fr := (l.drop (i * k)).take k
/-- What is wrong with a variable's rows. -/
def rowE (S : List Nat) (L : List (List Int)) (R : List (List Fr)) (v : Nat) : Int :=
  if (R.getD v []).length = cnt S (toN (L.getD v [])) * sz S v then (if ((List.range (cnt S (toN (L.getD v [])))).all fun i => rowB (chunkF (R.getD v []) (sz S v) i)) = true then 0 else 9) else 8
/-- What is wrong with a net. -/
def netE (V : List Vr) (L : List (List Int)) (R : List (List Fr)) : Int :=
  if L.length = V.length ∧ R.length = V.length then (if gcE L = 0 then (if varsE V = 0 then firstE (rowE (sizesN V) L R) V.length else varsE V) else gcE L) else 8
theorem FrS.chunk {w : World} {g o : Nat} {l : List Fr} {k i m : Nat} (h : FrS w (some ⟨g, o, none⟩) l) (hm : (i + 1) * k ≤ l.length) (hk : m = k) : FrS w (some ⟨g, o + i * k * 3, none⟩) (chunkF l k i) ∧ (chunkF l k i).length = m := by
  have hlen : (chunkF l k i).length = k := by
    rw [chunkF, List.length_take, List.length_drop]
    have : (i + 1) * k = i * k + k := by rw [Nat.add_mul, Nat.one_mul]
    omega
  refine ⟨fun j hj => ?_, by rw [hlen, hk]⟩
  have e : (i + 1) * k = i * k + k := by rw [Nat.add_mul, Nat.one_mul]
  rw [hlen] at hj
  obtain ⟨g', o', h1, h2, h3, h4, h5⟩ := h (i * k + j) (by omega)
  cases h1
  have ej : (chunkF l k i)[j]'(by rw [hlen]; exact hj) = l[i * k + j]'(by omega) := by
    simp only [chunkF, List.getElem_take, List.getElem_drop]
  refine ⟨g, o + i * k * 3, rfl, h2, ?_, ?_, ?_⟩
  · rw [ej, show o + i * k * 3 + j * 3 = o + (i * k + j) * 3 by rw [Nat.add_mul]; omega]; exact h3
  · rw [ej, show o + i * k * 3 + j * 3 = o + (i * k + j) * 3 by rw [Nat.add_mul]; omega]; exact h4
  · rw [ej, show o + i * k * 3 + j * 3 = o + (i * k + j) * 3 by rw [Nat.add_mul]; omega]; exact h5
theorem fw_chunk (l : List Fr) (k i : Nat) : fw (chunkF l k i) ≤ fw l := by
  have h1 := fw_take (l.drop (i * k)) k
  have h2 := fw_append (l.take (i * k)) (l.drop (i * k))
  rw [List.take_append_drop] at h2
  rw [chunkF]
  omega
end Go.Proofs.YtnnfmfdjgdgdhaaDoor


/- Plain facts on decimal numerals in groups of nine digits. -/
namespace Go.Proofs.YtnnfmfdjgdgdhaaDoor
open Go

/-- So many digits of a number, noughts ahead and all. -/
def decs : Nat → Nat → List UInt8
  | 0, _ => []
  | j + 1, r => decs j (r / 10) ++ [UInt8.ofNat (48 + r % 10)]
theorem dec_small {u : Nat} (h : u < 10) : Lib.decDigits u = [UInt8.ofNat (48 + u)] := by rw [Lib.decDigits, dif_pos h]
theorem dec_big {u : Nat} (h : ¬ u < 10) : Lib.decDigits u = Lib.decDigits (u / 10) ++ [UInt8.ofNat (48 + u % 10)] := by rw [Lib.decDigits, dif_neg h]
theorem dec_step (q d : Nat) (hq : q ≠ 0) (hd : d < 10) : Lib.decDigits (q * 10 + d) = Lib.decDigits q ++ [UInt8.ofNat (48 + d)] := by
  rw [dec_big (by omega), show (q * 10 + d) / 10 = q by omega, show (q * 10 + d) % 10 = d by omega]
theorem dec_join (j : Nat) : ∀ (q r : Nat), q ≠ 0 → r < 10 ^ j → Lib.decDigits (q * 10 ^ j + r) = Lib.decDigits q ++ decs j r := by
  induction j with
  | zero => intro q r _ hr; rw [Nat.pow_zero] at hr; have : r = 0 := by omega
            subst this; simp [decs]
  | succ j ih =>
    intro q r hq hr
    have hr' : r / 10 < 10 ^ j := Nat.div_lt_of_lt_mul (by rw [Nat.pow_succ] at hr; omega)
    have hne : q * 10 ^ j + r / 10 ≠ 0 := by
      have : 0 < q * 10 ^ j := Nat.mul_pos (Nat.pos_of_ne_zero hq) (Nat.pow_pos (by decide))
      omega
    have e : q * 10 ^ (j + 1) + r = (q * 10 ^ j + r / 10) * 10 + r % 10 := by
      rw [Nat.pow_succ, Nat.add_mul, Nat.mul_assoc]; omega
    rw [e, dec_step _ _ hne (Nat.mod_lt _ (by decide)), ih q (r / 10) hq hr', decs, List.append_assoc]
theorem decs_zero (j : Nat) : decs j 0 = List.replicate j 48 := by
  induction j with
  | zero => rfl
  | succ j ih => rw [decs, Nat.zero_div, ih, List.replicate_succ']; rfl
theorem decs_pad (j : Nat) : ∀ r, r < 10 ^ (j + 1) → decs (j + 1) r = List.replicate (j + 1 - (Lib.decDigits r).length) 48 ++ Lib.decDigits r := by
  induction j with
  | zero => intro r hr; rw [dec_small (by simpa using hr)]; simp [decs, Nat.mod_eq_of_lt (show r < 10 by simpa using hr)]
  | succ j ih =>
    intro r hr
    by_cases h : r < 10
    · rw [dec_small h, decs, Nat.div_eq_of_lt h, decs_zero, Nat.mod_eq_of_lt h]; simp
    · rw [dec_big h, decs, ih (r / 10) (Nat.div_lt_of_lt_mul (by rw [Nat.pow_succ] at hr; omega)), List.append_assoc, List.length_append, List.length_singleton]
      congr 2
      omega

/-- The i-th group. -/
theorem grp_get (i : Nat) : ∀ n, i < (grp n).length → (grp n)[i]? = some (n / G ^ i % G) := by
  induction i with
  | zero =>
    intro n h
    have hn : n ≠ 0 := by rintro rfl; rw [grp_zero] at h; simp at h
    rw [grp_pos n hn, Nat.pow_zero, Nat.div_one]; rfl
  | succ i ih =>
    intro n h
    have hn : n ≠ 0 := by rintro rfl; rw [grp_zero] at h; simp at h
    rw [grp_pos n hn, List.length_cons] at h
    rw [grp_pos n hn, List.getElem?_cons_succ, ih _ (Nat.lt_of_succ_lt_succ h), Nat.div_div_eq_div_mul, Nat.pow_succ, Nat.mul_comm G]
theorem grp_lt_pow (n : Nat) : n < G ^ (grp n).length := by
  induction n using Nat.strongRecOn with
  | ind n ih =>
    by_cases h : n = 0
    · subst h; rw [grp_zero]; simp
    · rw [grp_pos n h, List.length_cons, Nat.pow_succ]
      have := ih _ (div_G_lt h)
      exact (Nat.div_lt_iff_lt_mul G_pos).1 this
theorem grp_top (n : Nat) (h : n ≠ 0) : n / G ^ ((grp n).length - 1) ≠ 0 := by
  induction n using Nat.strongRecOn with
  | ind n ih =>
    rw [grp_pos n h, List.length_cons, Nat.add_sub_cancel]
    by_cases h2 : n / G = 0
    · rw [h2, grp_zero]; simpa using h
    · have hp : 0 < (grp (n / G)).length := List.length_pos_iff.2 (fun e => h2 ((grp_nil_iff _).1 e))
      have := ih _ (div_G_lt h) h2
      rwa [Nat.div_div_eq_div_mul, Nat.mul_comm, ← Nat.pow_succ, Nat.succ_eq_add_one, Nat.sub_add_cancel hp] at this

/-- What Text has written when it has gone through k groups from the highest down. -/
def txt (n k : Nat) : List UInt8 := if k = 0 then [] else Lib.decDigits (n / G ^ ((grp n).length - k))
theorem txt_zero (n : Nat) : txt n 0 = [] := rfl
theorem txt_all (n : Nat) (h : n ≠ 0) : txt n (grp n).length = Lib.decDigits n := by
  have hp : 0 < (grp n).length := List.length_pos_iff.2 (fun e => h ((grp_nil_iff _).1 e))
  rw [txt, if_neg (by omega), Nat.sub_self, Nat.pow_zero, Nat.div_one]
theorem G_pow9 : G = 10 ^ 9 := rfl
theorem txt_succ (n k : Nat) (hk : k < (grp n).length) : txt n (k + 1) = txt n k ++ (if k = 0 then Lib.decDigits ((grp n)[(grp n).length - 1 - k]?.getD 0) else List.replicate (9 - (Lib.decDigits ((grp n)[(grp n).length - 1 - k]?.getD 0)).length) 48 ++ Lib.decDigits ((grp n)[(grp n).length - 1 - k]?.getD 0)) := by
  have hn : n ≠ 0 := by rintro rfl; rw [grp_zero] at hk; simp at hk
  rw [grp_get _ n (by omega), Option.getD_some]
  by_cases h0 : k = 0
  · subst h0
    rw [txt, if_neg (by omega), txt_zero, if_pos rfl, List.nil_append, Nat.sub_zero]
    congr 1
    have hlt := grp_lt_pow n
    rw [Nat.zero_add]
    refine (Nat.mod_eq_of_lt (Nat.div_lt_of_lt_mul ?_)).symm
    rw [← Nat.pow_succ, Nat.succ_eq_add_one, Nat.sub_add_cancel (by omega)]
    exact hlt
  · rw [txt, if_neg (by omega), txt, if_neg h0, if_neg h0]
    obtain ⟨e, he⟩ : ∃ e, e + 1 = (grp n).length - k := ⟨(grp n).length - k - 1, by omega⟩
    have e1 : (grp n).length - (k + 1) = e := by omega
    have e2 : (grp n).length - 1 - k = e := by omega
    rw [e1, e2, ← he]
    have hq : n / G ^ (e + 1) ≠ 0 := by
      intro hz
      have ht := grp_top n hn
      apply ht
      have hle : e + 1 ≤ (grp n).length - 1 := by omega
      obtain ⟨d, hd⟩ : ∃ d, (grp n).length - 1 = (e + 1) + d := ⟨(grp n).length - 1 - (e + 1), by omega⟩
      rw [hd, Nat.pow_add, ← Nat.div_div_eq_div_mul, hz, Nat.zero_div]
    have hs : n / G ^ e = n / G ^ (e + 1) * 10 ^ 9 + n / G ^ e % G := by
      rw [Nat.pow_succ, ← Nat.div_div_eq_div_mul, ← G_pow9]
      exact (Nat.div_add_mod' _ _).symm
    have hr : n / G ^ e % G < 10 ^ (8 + 1) := Nat.mod_lt _ G_pos
    rw [← decs_pad 8 _ hr]
    generalize n / G ^ e % G = r at *
    rw [hs]
    exact dec_join 9 _ r hq hr
theorem txt_len (n k : Nat) (hk : k ≤ (grp n).length) : (txt n k).length ≤ 9 * k := by
  induction k with
  | zero => simp [txt_zero]
  | succ k ih =>
    have hk' : k < (grp n).length := hk
    have ihk := ih (by omega)
    have hx : (grp n)[(grp n).length - 1 - k]?.getD 0 < 10 ^ 9 := by
      rw [grp_get _ n (by omega)]; exact Nat.mod_lt _ G_pos
    generalize hy : (grp n)[(grp n).length - 1 - k]?.getD 0 = y at *
    have hyl : (Lib.decDigits y).length ≤ 9 := by
      have h1 := decs_pad 8 y hx
      have h2 : (decs 9 y).length = 9 := rfl
      rw [h1, List.length_append] at h2
      omega
    rw [txt_succ n k hk', hy, List.length_append]
    split
    · omega
    · rw [List.length_append, List.length_replicate]; omega

end Go.Proofs.YtnnfmfdjgdgdhaaDoor


/- The document's answer: NatText. -/
namespace Go.Proofs.YtnnfmfdjgdgdhaaDoor
open Go.RowKit Go.Lib

theorem dec_len (k : Nat) : ∀ n, n < 10 ^ (k + 1) → (decDigits n).length ≤ k + 1 := by
  induction k with
  | zero => intro n h; rw [dec_small (by simpa using h)]; simp
  | succ k ih =>
    intro n h
    by_cases h9 : n < 10
    · rw [dec_small h9]; simp
    · rw [dec_big h9, List.length_append]
      have := ih (n / 10) (by rw [Nat.pow_succ] at h; omega)
      simp
      omega
theorem dec_fits {n k : Nat} (h : n < 256 ^ k) : (decDigits n).length ≤ 3 * k + 1 := by
  apply dec_len
  have h1 : (256 : Nat) ^ k ≤ (10 ^ 3) ^ k := Nat.pow_le_pow_left (by decide) k
  rw [← Nat.pow_mul] at h1
  have h2 : 10 ^ (3 * k) ≤ 10 ^ (3 * k + 1) := Nat.pow_le_pow_right (by decide) (by omega)
  omega
/-- The digits, none of 0. -/
def dg0 (n : Nat) : List UInt8 := if n = 0 then [] else decDigits n
theorem dg0_step {n : Nat} (h : n ≠ 0) : dg0 n = dg0 (n / 10) ++ [UInt8.ofNat (48 + n % 10)] := by
  rw [dg0, if_neg h]
  by_cases h9 : n < 10
  · rw [dec_small h9, dg0, if_pos (by omega), List.nil_append, Nat.mod_eq_of_lt h9]
  · rw [dec_big h9, dg0, if_neg (by omega)]

end Go.Proofs.YtnnfmfdjgdgdhaaDoor


/- The document's answer: names of values, and rows of raw weights. -/
namespace Go.Proofs.YtnnfmfdjgdgdhaaDoor
open Go.RowKit Go.Shelf Go.Lib

/-- A number's text. -/
def dgB (i : Nat) : ByteArray := ⟨(decDigits i).toArray⟩
theorem dgB_size {i : Nat} (h : i < 10) : (dgB i).size = 1 := by
  rw [dgB, dec_small h]
  rfl
/-- A letter, and a number's text. -/
abbrev nmB (c : UInt8) (i : Nat) : ByteArray := ⟨#[c]⟩ ++ dgB i
/-- What values are called. -/
def valsN (k : Nat) : List ByteArray := (List.range k).map (nmB 118)
theorem valsN_succ (k : Nat) : valsN (k + 1) = valsN k ++ [nmB 118 k] := by simp [valsN, List.range_succ]
theorem valsN_length (k : Nat) : (valsN k).length = k := by simp [valsN]
theorem rNumText (i : Nat) (w : World) (hi : i ≤ 1000) : Calls Tryd.prog 19 #[.int .i64 (i : Nat)] w fun e w' => e = .returned (.string (B i)) ∧ Below w.heap.size w w' := by
  have := rOf_any (i : Int) w (by omega) (by omega)
  rwa [Int.toNat_natCast] at this
/-- A row of raw weights. -/
def rawF (Ls : List Nat) : List Fr := Ls.map fun a : Nat => qF ((a : Rat) / (Ls.sum : Rat))
theorem rawF_length (Ls : List Nat) : (rawF Ls).length = Ls.length := by simp [rawF]
theorem qw_nat {n : Nat} (h : n < 256) : qw (n : Rat) ≤ 2 := by
  have h1 : (n : Rat).num.natAbs = n := by simp
  have h2 : (n : Rat).den = 1 := rfl
  rw [qw, h1, h2, B_size, B_size]
  have h3 := bn_fits 1 n (by omega)
  have h4 := bn_fits 1 1 (by omega)
  omega
theorem sum_le6 : ∀ {Ls : List Nat}, (∀ a ∈ Ls, a ≤ 6) → Ls.sum ≤ 6 * Ls.length
  | [], _ => Nat.le_refl _
  | a :: l, h => by
    have h1 := h a List.mem_cons_self
    have h2 := sum_le6 fun b hb => h b (List.mem_cons_of_mem _ hb)
    simp only [List.sum_cons, List.length_cons]
    omega
theorem rawF_small {Ls : List Nat} (h : ∀ a ∈ Ls, a ≤ 6) (hl : Ls.length ≤ 3) (hs : 1 ≤ Ls.sum) : ∀ f ∈ rawF Ls, f.2.1.size + f.2.2.size ≤ 2 := by
  intro f hf
  obtain ⟨a, ha, rfl⟩ := List.mem_map.1 hf
  have h6 := sum_le6 h
  have h1 := h a ha
  show (nu ((a : Rat) / (Ls.sum : Rat))).size + (de ((a : Rat) / (Ls.sum : Rat))).size ≤ 2
  rw [own_size]
  have hfit : Fits 1 ((a : Rat) / (Ls.sum : Rat)) := ⟨(a : Int), Ls.sum, by omega, by rw [Rat.mkRat_eq_div]; rfl, by omega, by simp; omega⟩
  exact fits_qw hfit
theorem rawF_row {Ls : List Nat} (hs : 1 ≤ Ls.sum) : rowB (rawF Ls) = true := by
  have hne : (Ls.sum : Rat) ≠ 0 := fun e => by
    have e' : Ls.sum = 0 := by exact_mod_cast e
    omega
  have hpos : (0 : Rat) < (Ls.sum : Rat) := Rat.lt_of_le_of_ne Rat.natCast_nonneg (Ne.symm hne)
  rw [rowB, Bool.and_eq_true]
  constructor
  · rw [List.all_eq_true]
    intro f hf
    obtain ⟨a, ha, rfl⟩ := List.mem_map.1 hf
    refine decide_eq_true ?_
    rw [frQ_qF, Rat.not_lt]
    have ha0 : (0 : Rat) ≤ (a : Rat) := Rat.natCast_nonneg
    rw [Rat.div_def]
    exact Rat.mul_nonneg ha0 (Rat.le_of_lt (Rat.inv_pos.2 hpos))
  · refine decide_eq_true ?_
    have key : ∀ (l : List Nat) (s c : Rat), (l.map fun a : Nat => qF ((a : Rat) / c)).foldl (fun s f => s + frv f) s = s + (l.sum : Rat) / c := by
      intro l
      induction l with
      | nil => intro s c; show s = s + ((0 : Nat) : Rat) / c; rw [Rat.div_def]; grind
      | cons a l ih =>
        intro s c
        rw [List.map_cons, List.foldl_cons, ih, show frv (qF ((a : Rat) / c)) = (a : Rat) / c from frQ_qF _, List.sum_cons, Rat.div_def, Rat.div_def, Rat.div_def, Rat.natCast_add, Rat.add_mul, Rat.add_assoc]
    rw [fsum, rawF, key, Rat.zero_add, Rat.div_def, Rat.mul_inv_cancel _ hne]
end Go.Proofs.YtnnfmfdjgdgdhaaDoor

