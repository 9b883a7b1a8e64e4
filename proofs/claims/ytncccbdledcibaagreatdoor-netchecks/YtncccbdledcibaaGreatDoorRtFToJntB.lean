/- The document's answer: TableBest. -/
import Derived.Test.YtncccbdledcibaaGreatDoorRtEOwn
import Derived.Test.YtncccbdledcibaaGreatDoorBestAToNetA
import Derived.Laws.EntriesVeiled
import Derived.Test.YtncccbdledcibaaGreatDoorJntAToProdB
import Derived.Test.YtncccbdledcibaaGreatDoorSwapNToSwapT
import Derived.Test.YtncccbdledcibaaGreatDoorTabR1ToTabR3
namespace Go.Proofs.YtncccbdledcibaaGreatDoor
open Go.RowKit Go.Shelf

theorem bestN_up {l : List Fr} {i : Nat} (h : 1 ≤ i) (hc : 0 < cmpQ (frQ (celF l i)) (frQ (celF l (bestN l (i - 1))))) : bestN l i = i := by
  obtain ⟨k, rfl⟩ : ∃ k, i = k + 1 := ⟨i - 1, by omega⟩
  rw [Nat.add_sub_cancel] at hc
  rw [bestN, if_pos ((cmp_turn _ _).1 hc)]
theorem bestN_keep {l : List Fr} {i : Nat} (h : 1 ≤ i) (hc : ¬ 0 < cmpQ (frQ (celF l i)) (frQ (celF l (bestN l (i - 1))))) : bestN l i = bestN l (i - 1) := by
  obtain ⟨k, rfl⟩ : ∃ k, i = k + 1 := ⟨i - 1, by omega⟩
  rw [Nat.add_sub_cancel] at hc ⊢
  rw [bestN, if_neg (fun h => hc ((cmp_turn _ _).2 h))]

end Go.Proofs.YtncccbdledcibaaGreatDoor

/- Package table: Norm's closure. -/
namespace Go.Proofs.YtncccbdledcibaaGreatDoor
open Go.RowKit Go.Shelf

end Go.Proofs.YtncccbdledcibaaGreatDoor

/- Package table: Norm. -/
namespace Go.Proofs.YtncccbdledcibaaGreatDoor
open Go.RowKit Go.Shelf

theorem normL_length (l : List Fr) : (normL l).length = l.length := by simp [normL]
theorem normL_get (l : List Fr) {k : Nat} (h : k < (normL l).length) : (normL l)[k] = qF (frQ (l[k]'(by rw [normL_length] at h; exact h)) * (1 / fsum l)) := by simp [normL]
theorem qw_inv {q : Rat} (h : q ≠ 0) : qw (1 / q) ≤ qw q + 1 := by
  have e : val (sgn q) (nu q) (de q) ≠ 0 := by rw [val_own]; exact h
  have h0 := fun h => e (val_zero_iff.2 h)
  have e1 : 1 / q = val (sgn q) (de q) (nu q) := by rw [val_inv _ _ _ (fun h => h0 (.inl h)) (fun h => h0 (.inr h)), val_own, Rat.div_def, Rat.one_mul]
  rw [e1]
  refine Nat.le_trans (qw_val _ _ _) ?_
  show (B q.den).size + (B q.num.natAbs).size + 1 ≤ qw q + 1
  rw [qw]
  omega
theorem qw_sum {l : List Fr} (h : fw l ≤ 10000) : qw (fsum l) ≤ 20002 := by have := fits_qw (fits_sum l); omega

end Go.Proofs.YtncccbdledcibaaGreatDoor

/- The document's answer: Norm. -/
namespace Go.Proofs.YtncccbdledcibaaGreatDoor
open Go.RowKit Go.Shelf

end Go.Proofs.YtncccbdledcibaaGreatDoor

/- The document's answer: Product. -/
namespace Go.Proofs.YtncccbdledcibaaGreatDoor
open Go.RowKit Go.Shelf

/-- What Product holds: two tables, its result's block. -/
def QH (w V : World) (x y z t : Value) : Prop := TBox V w.heap.size x y ∧ TBox V (w.heap.size + 1) z t ∧ TBox V (w.heap.size + 1 + 1) (.slice none 0 0) (.slice none 0 0) ∧ Below w.heap.size w V
theorem QH.step {w V V' : World} {x y z t : Value} (h : QH w V x y z t) (hb : Below V.heap.size V V') : QH w V' x y z t := ⟨h.1.below hb h.1.lt, h.2.1.below hb h.2.1.lt, h.2.2.1.below hb h.2.2.1.lt, h.2.2.2.trans (hb.mono h.2.2.2.size)⟩
theorem QH.new (w : World) (x y z t : Value) : QH w (((w.alloc (TC x y)).alloc (TC z t)).alloc (TC (.slice none 0 0) (.slice none 0 0))) x y z t := ⟨((TBox.at rfl _ _).alloc _).alloc _, (TBox.at (by simp) _ _).alloc _, TBox.at (by simp) _ _, (((Below.refl _ w).alloc (Nat.le_refl _) _).alloc (by simp) _).alloc (by simp; omega) _⟩
/-- The variables so far. -/
def bothI (a b : List Int) (i : Nat) : List Int := iL (bothN i a b)
theorem bothI_succ (a b : List Int) (i : Nat) : bothI a b (i + 1) = bothI a b i ++ if (inB (i : Int) a || inB (i : Int) b) = true then [(i : Int)] else [] := by
  rw [bothI, bothI, bothN, bothN, List.range_succ, List.filter_append, iL, iL, List.map_append]
  congr 1
  by_cases h : (inB (i : Int) a || inB (i : Int) b) = true
  · simp only [List.filter_cons, h, List.filter_nil, if_true, List.map_cons, List.map_nil]
  · simp only [List.filter_cons, h, List.filter_nil]
    rfl
theorem bothI_len (a b : List Int) (i : Nat) : (bothI a b i).length ≤ i := by
  rw [bothI, iL_length]
  exact Nat.le_trans (List.length_filter_le _ _) (by rw [List.length_range]; exact Nat.le_refl _)
theorem RwI.off {w : World} {B : Nat} {v : Value} {l : List Int} (h : RwI w B v l) (b j : Nat) (y : Value) (hb : b < B) : RwI (w.setCell ⟨b, j, none⟩ y) B v l := by
  refine ⟨h.1, h.2.imp id ?_⟩
  rintro ⟨g, cap, cur, h1, h2, h3, h4⟩
  exact ⟨g, cap, cur, h1, h2, (Below.heap_setCell w ⟨b, j, none⟩ y g (by show g ≠ b; omega)).trans h3, h4⟩
theorem RwI.below {w w' : World} {B : Nat} {v : Value} {l : List Int} (h : RwI w B v l) (hb : Below w.heap.size w w') : RwI w' B v l := by
  refine ⟨h.1, h.2.imp id ?_⟩
  rintro ⟨g, cap, cur, h1, h2, h3, h4⟩
  exact ⟨g, cap, cur, h1, h2, (hb.block g (Array.getElem?_eq_some_iff.1 h3).1).trans h3, h4⟩
theorem RwI.slv {w : World} {B : Nat} {v : Value} {l : List Int} (h : RwI w B v l) : SlV v := by
  obtain ⟨d, cd, e, _⟩ := h.ints
  exact ⟨d, _, cd, e⟩
/-- A table whose variables grow. -/
def VX (w0 V : World) (x : Value) (l : List Int) : Prop := Below w0.heap.size w0 V ∧ TBox V w0.heap.size x (.slice none 0 0) ∧ RwI V (w0.heap.size + 1) x l
theorem VX.step {w0 V V' : World} {x : Value} {l : List Int} (h : VX w0 V x l) (hb : Below V.heap.size V V') : VX w0 V' x l := ⟨h.1.trans (hb.mono h.1.size), h.2.1.below hb h.2.1.lt, h.2.2.below hb⟩
theorem VX.push {w0 V V' : World} {x x' : Value} {l l' : List Int} (h : VX w0 V x l) (hr : RwI V' (w0.heap.size + 1) x' l') (hg : V.grownBy V' x.ownBlock) : VX w0 (V'.setCell ⟨w0.heap.size, 0, none⟩ x') x' l' := by
  have hs : w0.heap.size + 1 ≤ V.heap.size := h.2.1.lt
  have hb : Below (w0.heap.size + 1) V V' := (Below.refl _ V).grown hg hs h.2.2.own
  have ht := h.2.1.below hb (by omega)
  refine ⟨(h.1.trans (hb.mono (by omega))).setCell (p := ⟨w0.heap.size, 0, none⟩) (Nat.le_refl _) _, heap_setCell_same _ _ 0 _ _ _ ht, hr.off _ 0 _ (by omega)⟩
theorem VX.mid {w0 V V' : World} {x : Value} {l : List Int} (h : VX w0 V x l) (hg : V.grownBy V' x.ownBlock) : TBox V' w0.heap.size x (.slice none 0 0) := by
  have hs : w0.heap.size + 1 ≤ V.heap.size := h.2.1.lt
  exact h.2.1.below ((Below.refl _ V).grown hg hs h.2.2.own) (by omega)
/-- A table whose variables lie behind it, and whose cells grow behind these. -/
def PX (w0 w1 V : World) (x y : Value) (L : List Fr) : Prop := Below w0.heap.size w0 V ∧ TBox V w0.heap.size x y ∧ RwF V w1.heap.size y L ∧ (∀ k, w0.heap.size < k → k < w1.heap.size → V.heap[k]? = w1.heap[k]?) ∧ w1.heap.size ≤ V.heap.size
theorem PX.step {w0 w1 V V' : World} {x y : Value} {L : List Fr} (h : PX w0 w1 V x y L) (hb : Below V.heap.size V V') : PX w0 w1 V' x y L := ⟨h.1.trans (hb.mono h.1.size), h.2.1.below hb h.2.1.lt, h.2.2.1.below hb, fun k h1 h2 => (hb.block k (by have := h.2.2.2.2; omega)).trans (h.2.2.2.1 k h1 h2), Nat.le_trans h.2.2.2.2 hb.size⟩
theorem PX.push {w0 w1 V V' : World} {x y y' : Value} {L L' : List Fr} (h : PX w0 w1 V x y L) (h01 : w0.heap.size < w1.heap.size) (hr : RwF V' w1.heap.size y' L') (hg : V.grownBy V' y.ownBlock) : PX w0 w1 (V'.setCell ⟨w0.heap.size, 1, none⟩ y') x y' L' := by
  have hb : Below w1.heap.size V V' := (Below.refl _ V).grown hg h.2.2.2.2 h.2.2.1.own
  have ht := h.2.1.below hb h01
  refine ⟨(h.1.trans (hb.mono (by omega))).setCell (p := ⟨w0.heap.size, 1, none⟩) (Nat.le_refl _) _, heap_setCell_same _ _ 1 _ _ _ ht, hr.off _ 1 _ h01, fun k h1 h2 => ?_, ?_⟩
  · rw [Below.heap_setCell V' ⟨w0.heap.size, 1, none⟩ y' k (by show k ≠ w0.heap.size; omega), hb.block k h2]
    exact h.2.2.2.1 k h1 h2
  · exact Nat.le_trans (Nat.le_trans h.2.2.2.2 hb.size) (KeepsOthers.setCell V' _ _).size
theorem PX.mid {w0 w1 V V' : World} {x y : Value} {L : List Fr} (h : PX w0 w1 V x y L) (h01 : w0.heap.size < w1.heap.size) (hg : V.grownBy V' y.ownBlock) : TBox V' w0.heap.size x y := h.2.1.below ((Below.refl _ V).grown hg h.2.2.2.2 h.2.2.1.own) h01
theorem PX.vars {w0 w1 V : World} {x y : Value} {L : List Fr} {d : Option Addr} {cd : Nat} {U : List Int} (h : PX w0 w1 V x y L) (hr : RwI w1 (w0.heap.size + 1) (.slice d U.length cd) U) : RwI V (w0.heap.size + 1) (.slice d U.length cd) U := by
  refine ⟨hr.1, hr.2.imp id ?_⟩
  rintro ⟨g, cap, cur, h1, h2, h3, h4⟩
  exact ⟨g, cap, cur, h1, h2, (h.2.2.2.1 g (by omega) (Array.getElem?_eq_some_iff.1 h3).1).trans h3, h4⟩
theorem RwI.intS {w : World} {B : Nat} {d : Option Addr} {cd : Nat} {U : List Int} (h : RwI w B (.slice d U.length cd) U) : IntS w d U := by
  obtain ⟨d', cd', e, hi⟩ := h.ints
  cases e
  exact hi

end Go.Proofs.YtncccbdledcibaaGreatDoor

/- The law's raw numbers: Pick, sizesOf, All, Some, Less. -/
namespace Go.Proofs.YtncccbdledcibaaGreatDoor
open Go.RowKit Go.Shelf

/-- A number below n, of any number. -/
def pickN (c : Int) (n : Nat) : Nat := (if c < 0 then (-(c + 1)).toNat else c.toNat) % n
theorem pickN_lt (c : Int) {n : Nat} (h : 1 ≤ n) : pickN c n < n := Nat.mod_lt _ h

set_option maxRecDepth 100000 in
set_option maxHeartbeats 1000000 in
theorem rPick_any (c : Int) (n : Nat) (w : World) (h1 : -9223372036854775808 ≤ c) (h2 : c ≤ 9223372036854775807) (hn : 1 ≤ n) (hn' : n ≤ 1000) :
    Calls Tryz.prog 48 #[.int .i64 c, .int .i64 (n : Nat)] w fun e w' => e = .returned (.int .i64 (pickN c n : Nat)) ∧ Below w.heap.size w w' := by
  have HP : Hid (pickN c n = (if c < 0 then (-(c + 1)).toNat else c.toNat) % n) := rfl
  have hlt := pickN_lt c hn
  generalize pickN c n = P at *
  by_cases hc : c < 0
  · rw [if_pos hc] at HP
    obtain ⟨d, hd⟩ : ∃ d : Nat, c = -((d : Int) + 1) := ⟨(-(c + 1)).toNat, by omega⟩
    subst hd
    have HE : Hid ((d : Int) % (n : Int) = (P : Int)) := by
      show _ = _
      rw [HP.out, show (-(-((d : Int) + 1) + 1)).toNat = d by omega, Int.natCast_emod]
    have hw : IntKind.i64.wrap (-((d : Int) + 1) + 1) = -(d : Int) := by rw [IntKind.wrap_i64]; omega
    have hw2 : IntKind.i64.wrap (- -(d : Int)) = (d : Int) := by rw [IntKind.wrap_i64]; omega
    go_enter Tryz.func48, Tryz.ntmps48
    go_wp2
    go_ret
    exact ⟨by rw [HE.out]; rfl, Below.refl _ _⟩
  · rw [if_neg hc] at HP
    obtain ⟨d, rfl⟩ : ∃ d : Nat, c = d := ⟨c.toNat, by omega⟩
    have HE : Hid ((d : Int) % (n : Int) = (P : Int)) := by
      show _ = _
      rw [HP.out, Int.toNat_natCast, Int.natCast_emod]
    go_enter Tryz.func48, Tryz.ntmps48
    go_wp2
    go_ret
    exact ⟨by rw [HE.out]; rfl, Below.refl _ _⟩

/-- Sizes so far. -/
def Each3 (L : List Int) : Prop := ∀ i (h : i < L.length), 1 ≤ L[i] ∧ L[i] ≤ 3
theorem Each3.snoc {L : List Int} {x : Int} (h : Each3 L) (h1 : 1 ≤ x) (h2 : x ≤ 3) : Each3 (L ++ [x]) := by
  intro i hi
  rw [List.getElem_append]
  by_cases e : i < L.length
  · rw [dif_pos e]; exact h i e
  · rw [dif_neg e, List.getElem_singleton]; exact ⟨h1, h2⟩
theorem Each3.sz {L : List Int} (h : Each3 L) (h1 : 3 ≤ L.length) (h2 : L.length ≤ 5) : Sz3 L := ⟨⟨by omega, by omega, fun i hi => ⟨(h i hi).1, by have := (h i hi).2; omega⟩⟩, fun i hi => (h i hi).2, h1, h2⟩
theorem new_int (w : World) (u : Int) : IntS (w.alloc (.cells #[.int .i64 u] 3)) (some ⟨w.heap.size, 0, none⟩) [u] := fun k hk => by
  obtain rfl : k = 0 := by simp at hk; omega
  exact ⟨w.heap.size, 0, rfl, by simp, (Boxed.new w _ _).cell⟩

set_option maxRecDepth 100000 in
set_option maxHeartbeats 1000000 in
theorem rAll_any (a : Option Addr) (ca n : Nat) (w : World) (hn : n ≤ 1000) :
    Calls Tryz.prog 19 #[.slice a n ca] w fun e w' => ∃ x, e = .returned x ∧ RwI w' w.heap.size x (iL (List.range n)) ∧ Below w.heap.size w w' := by
  obtain ⟨i0, hi0, hz0, hz1, hz2⟩ := info_parts Tryz.infoInt
  have HT := hid (fun i : Nat => show iL (List.range (i + 1)) = iL (List.range i) ++ [(i : Int)] by rw [List.range_succ, iL, iL, List.map_append]; rfl)
  have HLE := hid (fun i : Nat => show (iL (List.range i)).length = i by simp [iL])
  have hnil : iL (List.range 0) = [] := rfl
  generalize hg : (fun i : Nat => iL (List.range i)) = F at *
  have hF : ∀ i : Nat, iL (List.range i) = F i := fun i => by rw [← hg]
  simp only [hF] at HT HLE hnil ⊢
  clear hg hF
  go_enter Tryz.func19, Tryz.ntmps19
  go_wp2_with fail
  go_loopw [3, 4] (fun xv iv wr => ∃ i : Nat, i ≤ n ∧ iv = .int .i64 i ∧ Hid (RwI wr w.heap.size xv (F i)) ∧ Hid (Below w.heap.size w wr)) (fun _ iv _ => n - (intOf iv).toNat)
  case atStart => exact ⟨0, Nat.zero_le _, rfl, by rw [hnil]; exact ⟨rfl, .inl ⟨rfl, rfl⟩⟩, Below.refl _ _⟩
  case round =>
    obtain ⟨i, hi, rfl, HR, HB⟩ := hrel
    by_cases hlt : i < n
    · have HLI := hid (HLE.out i)
      have HOWN := hid HR.out.own
      have HRA : Hid (RwI (wr.alloc (.cells #[.int .i64 (i : Nat)] 3)) w.heap.size _ (F i)) := World.ownsRow.alloc HR.out _
      have HBA := hid (HB.out.alloc HB.out.size (.cells #[.int .i64 (i : Nat)] 3))
      have HIA := hid (new_int wr (i : Nat))
      go_wp2_with (at_builtin; refine wpList_append_ints rfl _ _ rfl w.heap.size _ (F i) [((i : Nat) : Int)] rfl HRA.out (some ⟨wr.heap.size, 0, none⟩) 1 rfl HIA.out (fun e => by cases e) (by rw [HLI.out]; simp; omega) HBA.out.size ?_; intro v' w3 hr3 hg3)
      have HR3 := hid hr3
      have HB3 := hid (HBA.out.grown hg3 HBA.out.size HOWN.out)
      clear hr3 hg3
      go_roundw
      case rel => exact ⟨i + 1, by omega, by go_num, by rw [HT.out]; exact HR3, HB3⟩
      case measure => simp [intOf]; omega
    · obtain rfl : i = n := by omega
      go_wp2
      go_ret
      exact ⟨_, rfl, HR.out, HB.out⟩
end Go.Proofs.YtncccbdledcibaaGreatDoor

/- Nets: Joint of the document's answer. -/
namespace Go.Proofs.YtncccbdledcibaaGreatDoor
open Go.RowKit Go.Shelf

def allI (n : Nat) : List Int := iL (List.range n)
theorem allI_length (n : Nat) : (allI n).length = n := by simp [allI, iL]
/-- What Joint answers: the error. -/
def jE (V : List Vr) (L : List (List Int)) (R : List (List Fr)) (at_ : List Int) : Int := if netE V L R = 0 then (indexA (iL (sizesN V)) (allI V.length) at_).2 else netE V L R
/-- What Joint answers: the number. -/
def jF (V : List Vr) (L : List (List Int)) (R : List (List Fr)) (at_ : List Int) : Fr := if jE V L R at_ = 0 then qF (prodV V L R (fun u => (toN at_).getD u 0) V.length) else (false, ⟨#[]⟩, ⟨#[]⟩)
theorem index_zero {sizes vars l : List Int} (h : (indexA sizes vars l).2 = 0) : l.length = vars.length ∧ ∀ i, i < vars.length → valB (toN sizes) (toN vars) l i = true := by
  rw [indexA] at h
  by_cases h1 : countB sizes vars = true
  · rw [if_pos h1] at h
    by_cases h2 : l.length = vars.length
    · rw [if_pos h2] at h
      by_cases h3 : (List.range vars.length).all (valB (toN sizes) (toN vars) l) = true
      · exact ⟨h2, fun i hi => List.all_eq_true.1 h3 i (List.mem_range.2 hi)⟩
      · rw [if_neg h3] at h; exact absurd h (by decide)
    · rw [if_neg h2] at h; exact absurd h (by decide)
  · rw [if_neg h1] at h; exact absurd h (by decide)
/-- Values that Index takes are values. -/
theorem at_fit {V : List Vr} {at_ : List Int} (hS : Fine (iL (sizesN V))) (h : (indexA (iL (sizesN V)) (allI V.length) at_).2 = 0) :
    at_.length = V.length ∧ iL (toN at_) = at_ ∧ (∀ u, (toN at_).getD u 0 < sz (sizesN V) u) ∧ ∀ u, u < V.length → (toN at_)[u]? = some ((toN at_).getD u 0) := by
  obtain ⟨h1, h2⟩ := index_zero h
  rw [allI_length] at h1 h2
  have hp := hS.pos
  rw [toN_iL] at hp
  have hv : ∀ i (hi : i < at_.length), 0 ≤ at_[i] ∧ at_[i] < (sz (sizesN V) i : Int) := fun i hi => by
    have := h2 i (by omega)
    rw [valB, decide_eq_true_iff, toN_iL, allI, toN_iL, getD_eq hi, List.getD_eq_getElem?_getD, List.getElem?_range (by omega)] at this
    exact this
  refine ⟨h1, ?_, fun u => ?_, fun u hu => ?_⟩
  · apply List.ext_getElem
    · simp [iL, toN]
    · intro i h3 h4
      have := hv i h4
      simp only [iL, toN, List.getElem_map]
      omega
  · by_cases hu : u < at_.length
    · rw [List.getD_eq_getElem?_getD, List.getElem?_eq_getElem (by rw [toN_length]; exact hu), Option.getD_some, toN_get hu]
      have := hv u hu
      omega
    · rw [List.getD_eq_getElem?_getD, List.getElem?_eq_none (by rw [toN_length]; omega)]
      exact sz_pos hp u
  · rw [List.getD_eq_getElem?_getD, List.getElem?_eq_getElem (by rw [toN_length]; omega)]
    rfl

set_option maxRecDepth 100000 in
set_option maxHeartbeats 2000000 in
theorem rJoint_any (a b c d : Option Addr) (ca cb cc cd : Nat) (V : List Vr) (L : List (List Int)) (R : List (List Fr)) (at_ : List Int) (w : World) (h : NetI w a b c V L R) (hs : NSm V L R) (hw : ∀ l ∈ R, fw l ≤ 4200) (hA : IntS w d at_) (hAl : at_.length ≤ 5000) :
    Calls Tryz.prog 9 #[.agg #[.slice a V.length ca, .slice b L.length cb, .slice c R.length cc], .slice d at_.length cd] w fun e w' => e = .returned (.tuple #[frV (jF V L R at_), .int .i64 (jE V L R at_)]) ∧ Below w.heap.size w w' := by
  have HI := hid h
  have HA := hid hA
  have hV5 := hs.vars.1
  have HNC := hid (fun (U : World) (hU : NetI U a b c V L R) => rNetCheck_any a b c ca cb cc V L R U hU hs)
  have HE1 : Hid (netE V L R ≠ 0 → jE V L R at_ = netE V L R ∧ jF V L R at_ = (false, ⟨#[]⟩, ⟨#[]⟩)) := fun h => by
    have e : jE V L R at_ = netE V L R := if_neg h
    exact ⟨e, by rw [jF, e, if_neg h]⟩
  have HE2 : Hid (netE V L R = 0 → (indexA (iL (sizesN V)) (allI V.length) at_).2 ≠ 0 → jE V L R at_ = (indexA (iL (sizesN V)) (allI V.length) at_).2 ∧ jF V L R at_ = (false, ⟨#[]⟩, ⟨#[]⟩)) := fun h h' => by
    have e : jE V L R at_ = (indexA (iL (sizesN V)) (allI V.length) at_).2 := if_pos h
    exact ⟨e, by rw [jF, e, if_neg h']⟩
  have HE3 : Hid (netE V L R = 0 → (indexA (iL (sizesN V)) (allI V.length) at_).2 = 0 → jE V L R at_ = 0 ∧ jF V L R at_ = qF (prodV V L R (fun u => (toN at_).getD u 0) V.length)) := fun h h' => by
    have e : jE V L R at_ = 0 := (if_pos h).trans h'
    exact ⟨e, by rw [jF, if_pos e]⟩
  have HOK : Hid (netE V L R = 0 → NOK V L R) := netE_ok
  have HJ : Hid (netE V L R = 0 → (indexA (iL (sizesN V)) (allI V.length) at_).2 = 0 → ∀ U : World, NetI U a b c V L R → IntS U d at_ → Calls Tryz.prog 39 #[.agg #[.slice a V.length ca, .slice b L.length cb, .slice c R.length cc], .slice d at_.length cd] U fun e w' => e = .returned (frV (qF (prodV V L R (fun u => (toN at_).getD u 0) V.length))) ∧ Below U.heap.size U w') := fun h1 h2 U h3 h4 => by
    have hok := netE_ok h1
    obtain ⟨e1, e2, e3, e4⟩ := at_fit hok.fine h2
    have := rJoint1_any a b c d ca cb cc cd V L R (toN at_) U h3 hok hw (by rw [e2]; exact h4) (by rw [toN_length]; exact e1) _ e3 e4
    rwa [toN_length] at this
  have hsl : (iL (sizesN V)).length = V.length := by rw [iL_length, sizesN_length]
  have hal := allI_length V.length
  have HIX : Hid (∀ (U : World) (x y : Option Addr) (cx cy : Nat), IntS U x (iL (sizesN V)) → IntS U y (allI V.length) → IntS U d at_ → Calls Tryz.prog 38 #[.slice x V.length cx, .slice y V.length cy, .slice d at_.length cd] U fun e w' => e = .returned (.tuple #[.int .i64 (indexA (iL (sizesN V)) (allI V.length) at_).1, .int .i64 (indexA (iL (sizesN V)) (allI V.length) at_).2]) ∧ Below U.heap.size U w') := fun U x y cx cy h1 h2 h3 => by
    have := rIndex_any x y d cx cy cd (iL (sizesN V)) (allI V.length) at_ U h1 h2 h3 (by omega) (by omega) (by omega)
    rwa [hsl, hal] at this
  have HSL := hid hsl
  have HAL := hid hal
  generalize jE V L R at_ = je at *
  generalize jF V L R at_ = jf at *
  generalize netE V L R = ne at *
  clear h hA hs hw hsl hal hAl
  have HK0 := hid (LK.new w (.slice a V.length ca) (.slice b L.length cb) (.slice c R.length cc))
  obtain ⟨c0, c1, c2⟩ := HK0.out.1.1.cells
  go_enter Tryz.func9, Tryz.ntmps9
  go_wp2_with fail
  generalize ((w.alloc (NC (.slice a V.length ca) (.slice b L.length cb) (.slice c R.length cc))).alloc (FC false ⟨#[]⟩ ⟨#[]⟩)) = w1 at *
  refine (HNC.out _ (HI.out.below HK0.out.1.2)).mono ?_
  rintro e w2 ⟨rfl, hb⟩
  have hK := HK0.out.step hb
  clear hb HK0 c0 c1 c2 HNC
  obtain ⟨c0, c1, c2⟩ := hK.1.1.cells
  by_cases hn0 : ne = 0
  · subst hn0
    have HE2' := hid (HE2.out rfl)
    have HE3' := hid (HE3.out rfl)
    have HJ' := hid (HJ.out rfl)
    have HK := hid hK
    have hn8 := (HOK.out rfl).n8
    clear HE1 HE2 HE3 HJ hK HOK
    go_wp2_with fail
    refine (rSizes_any a b c ca cb cc L.length R.length V _ (HI.out.below HK.out.1.2).vars hV5).mono ?_
    rintro e w3 ⟨xv, rfl, hrw, hb⟩
    obtain ⟨x, cx, rfl, hx⟩ := hrw.ints
    rw [HSL.out]
    have HK3 := hid (HK.out.step hb)
    clear hb hrw c0 c1 c2 HK
    go_wp2_with fail
    refine (rAll_any x cx V.length _ (by omega)).mono ?_
    rintro e w4 ⟨xv, rfl, hrw, hb⟩
    obtain ⟨y, cy, rfl, hy⟩ := hrw.ints
    have hy' : IntS w4 y (allI V.length) := hy
    rw [show (iL (List.range V.length)).length = V.length from HAL.out]
    have HK4 := hid (HK3.out.step hb)
    have HX4 := hid (hx.below hb)
    have HY4 := hid hy'
    clear hb hrw hx hy hy' HK3
    go_wp2_with fail
    refine (HIX.out _ x y cx cy HX4.out HY4.out (HA.out.below HK4.out.1.2)).mono ?_
    rintro e w5 ⟨rfl, hb⟩
    have hK5 := HK4.out.step hb
    clear hb HK4 HX4 HY4 HIX
    obtain ⟨c0, c1, c2⟩ := hK5.1.1.cells
    generalize (indexA (iL (sizesN V)) (allI V.length) at_).1 = i1 at *
    generalize (indexA (iL (sizesN V)) (allI V.length) at_).2 = i2 at *
    by_cases hi0 : i2 = 0
    · subst hi0
      obtain ⟨q1, q2⟩ := HE3'.out rfl
      have HQ1 := hid q1
      have HQ2 := hid q2
      have HJ2 := hid (HJ'.out rfl)
      have HK5 := hid hK5
      clear q1 q2 HE2' HE3' HJ' hK5
      generalize qF (prodV V L R (fun u => (toN at_).getD u 0) V.length) = jq at *
      obtain ⟨jn, jx, jy⟩ := jq
      go_wp2_with fail
      refine (HJ2.out _ (HI.out.below HK5.out.1.2) (HA.out.below HK5.out.1.2)).mono ?_
      rintro e w6 ⟨rfl, hb⟩
      have hK6 := HK5.out.step hb
      obtain ⟨k0, k1, k2, f0, f1, f2⟩ := hK6.2.facts
      have hfin := hK6.2.put jn jx jy
      have hbf := below_put hK6.1.2 (show w.heap.size ≤ w.heap.size + 1 by omega) (.bool jn) (.string jx) (.string jy)
      clear hb c0 c1 c2
      go_wp2
      refine bodyPost_ret (hfin.result2 rfl _ rfl) rfl ?_
      exact ⟨by rw [HQ1.out, HQ2.out]; rfl, hbf⟩
    · obtain ⟨q1, q2⟩ := HE2'.out hi0
      have HQ1 := hid q1
      have HQ2 := hid q2
      have hib : (i2 == 0) = false := by simpa using hi0
      obtain ⟨k0, k1, k2, f0, f1, f2⟩ := hK5.2.facts
      have hfin := hK5.2.put false ⟨#[]⟩ ⟨#[]⟩
      have hbf := below_put hK5.1.2 (show w.heap.size ≤ w.heap.size + 1 by omega) (.bool false) (.string ⟨#[]⟩) (.string ⟨#[]⟩)
      clear q1 q2 hi0 c0 c1 c2
      go_wp2
      refine bodyPost_ret (hfin.result2 rfl _ rfl) rfl ?_
      exact ⟨by rw [HQ1.out, HQ2.out]; rfl, hbf⟩
  · obtain ⟨q1, q2⟩ := HE1.out hn0
    have HQ1 := hid q1
    have HQ2 := hid q2
    have hnb : (ne == 0) = false := by simpa using hn0
    obtain ⟨k0, k1, k2, f0, f1, f2⟩ := hK.2.facts
    have hfin := hK.2.put false ⟨#[]⟩ ⟨#[]⟩
    have hbf := below_put hK.1.2 (show w.heap.size ≤ w.heap.size + 1 by omega) (.bool false) (.string ⟨#[]⟩) (.string ⟨#[]⟩)
    clear q1 q2 hn0 c0 c1 c2
    go_wp2
    refine bodyPost_ret (hfin.result2 rfl _ rfl) rfl ?_
    exact ⟨by rw [HQ1.out, HQ2.out]; rfl, hbf⟩
end Go.Proofs.YtncccbdledcibaaGreatDoor
