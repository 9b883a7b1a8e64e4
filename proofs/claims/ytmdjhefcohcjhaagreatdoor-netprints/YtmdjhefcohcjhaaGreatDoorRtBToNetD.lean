/- The document's answer: an assignment as one of all variables; a list without one. -/
import Derived.Test.YtmdjhefcohcjhaaGreatDoorRowBToRtA
import Derived.Test.YtmdjhefcohcjhaaGreatDoorStandCToSliB
import Derived.Laws.EntriesVeiled
import Derived.Test.YtmdjhefcohcjhaaGreatDoorOrdBToRowA
namespace Go.Proofs.YtmdjhefcohcjhaaGreatDoor
open Go.RowKit Go.Shelf

theorem lessN_take {vars : List Int} {v : Int} {i : Nat} (h : i < vars.length) : lessN (vars.take (i + 1)) v = lessN (vars.take i) v ++ if vars[i] = v then [] else [vars[i]] := by
  rw [List.take_succ_eq_append_getElem h, lessN, lessN, List.filter_append]
  congr 1
  by_cases e : vars[i] = v
  · simp [e]
  · simp [e]

end Go.Proofs.YtmdjhefcohcjhaaGreatDoor


/- Package table: the closures of Fix and Out. -/
namespace Go.Proofs.YtmdjhefcohcjhaaGreatDoor
open Go.RowKit Go.Shelf

end Go.Proofs.YtmdjhefcohcjhaaGreatDoor


/- Package table: Fix. -/
namespace Go.Proofs.YtmdjhefcohcjhaaGreatDoor
open Go.RowKit Go.Shelf

theorem up_iff {l : List Int} {n : Nat} : Up l n ↔ (∀ x ∈ l, 0 ≤ x ∧ x < n) ∧ l.Pairwise (· < ·) := by
  constructor
  · intro h
    refine ⟨fun x hx => ?_, List.pairwise_iff_getElem.2 fun i j hi hj hij => h.lt i j hj hij⟩
    obtain ⟨i, hi, rfl⟩ := List.getElem_of_mem hx
    exact h.each i hi
  · rintro ⟨h1, h2⟩
    exact ⟨fun i hi => h1 _ (List.getElem_mem hi), fun i j hj hi => List.pairwise_iff_getElem.1 h2 i j (by omega) hj hi⟩
theorem lessN_up {vars : List Int} {n : Nat} (h : Up vars n) (v : Int) : Up (lessN vars v) n := by
  rw [up_iff] at h ⊢
  exact ⟨fun x hx => h.1 x (List.mem_filter.1 hx).1, h.2.filter _⟩
theorem lessN_out {vars : List Int} {n v : Nat} (h : Up vars n) : ¬ v ∈ toN (lessN vars (v : Int)) := fun hm => by
  obtain ⟨x, hx, e⟩ := List.mem_map.1 hm
  have h1 := (up_iff.1 (lessN_up h v)).1 x hx
  have h2 := (List.mem_filter.1 hx).2
  simp at h2
  omega
theorem fixL_length (S vars rest : List Nat) (v x : Nat) (l : List Fr) : (fixL S vars rest v x l).length = cnt S rest := by simp [fixL]
theorem fixL_get (S vars rest : List Nat) (v x : Nat) (l : List Fr) {k : Nat} (h : k < (fixL S vars rest v x l).length) : (fixL S vars rest v x l)[k] = qF (frQ (celF l (pos S (withV (asg S rest k) v x) vars))) := by simp [fixL]
/-- The place of an assignment with one more value is a place. -/
theorem with_lt {sizes vars rest : List Int} {v x K m : Nat} (hk : checkA sizes vars m = 0) (hK : K < cnt (toN sizes) (toN rest)) (hx : x < sz (toN sizes) v) : pos (toN sizes) (withV (asg (toN sizes) (toN rest) K) v x) (toN vars) < m := by
  obtain ⟨h1, h2, h3⟩ := checkA_parts hk
  rw [h3]
  exact pos_lt _ (withV_lt (fun u => asg_lt h1.pos _ _ u hK) hx) _
end Go.Proofs.YtmdjhefcohcjhaaGreatDoor


/- The document's answer: tables that grow cell by cell. -/
namespace Go.Proofs.YtmdjhefcohcjhaaGreatDoor
open Go.RowKit Go.Shelf

/-- A list of fractions in memory of its own. -/
def RwF (w : World) (B : Nat) (v : Value) (l : List Fr) : Prop := w.ownsRow B 47 3 v l.length (frC l)
theorem RwF.empty (w : World) (B : Nat) : RwF w B (.slice none 0 0) [] := ⟨rfl, .inl ⟨rfl, rfl⟩⟩
theorem RwF.below {w w' : World} {B : Nat} {v : Value} {l : List Fr} (h : RwF w B v l) (hb : Below w.heap.size w w') : RwF w' B v l := by
  refine ⟨h.1, h.2.imp id ?_⟩
  rintro ⟨g, cap, cur, h1, h2, h3, h4⟩
  exact ⟨g, cap, cur, h1, h2, (hb.block g (Array.getElem?_eq_some_iff.1 h3).1).trans h3, h4⟩
theorem RwF.off {w : World} {B : Nat} {v : Value} {l : List Fr} (h : RwF w B v l) (b j : Nat) (y : Value) (hb : b < B) : RwF (w.setCell ⟨b, j, none⟩ y) B v l := by
  refine ⟨h.1, h.2.imp id ?_⟩
  rintro ⟨g, cap, cur, h1, h2, h3, h4⟩
  exact ⟨g, cap, cur, h1, h2, (Below.heap_setCell w ⟨b, j, none⟩ y g (by show g ≠ b; omega)).trans h3, h4⟩
theorem RwF.own {w : World} {B : Nat} {v : Value} {l : List Fr} (h : RwF w B v l) : ∀ k, v.ownBlock = some k → B ≤ k := by
  intro k hk
  rcases h.2 with ⟨rfl, _⟩ | ⟨g, cap, cur, rfl, h2, _⟩
  · cases hk
  · cases hk
    exact h2
theorem RwF.fr {w : World} {B : Nat} {v : Value} {l : List Fr} (h : RwF w B v l) : ∃ d cd, v = .slice d l.length cd ∧ FrS w d l := by
  rcases h.2 with ⟨h1, h2⟩ | ⟨g, cap, cur, h1, h2, h3, h4, h5, h6, h7⟩
  · have : l = [] := List.length_eq_zero_iff.1 h2
    subst this
    exact ⟨none, 0, h1, fun k hk => absurd hk (by simp)⟩
  · refine ⟨_, _, h1, fun k hk => ?_⟩
    obtain ⟨e1, e2, e3⟩ := frC_get l k hk
    have at_ : ∀ j, j < l.length * 3 → cur[j]? = (frC l)[j]? := fun j hj => by
      rw [← h7, List.getElem?_take, if_pos hj, Array.getElem?_toList]
    refine ⟨g, 0, rfl, (Array.getElem?_eq_some_iff.1 h3).1, ?_, ?_, ?_⟩
    · rw [cell_of_row w g _ _ _ (0, 0) h3, Nat.zero_add, at_ _ (by omega)]; exact e1
    · rw [cell_of_row w g _ _ _ (0, 0) h3, Nat.zero_add, at_ _ (by omega)]; exact e2
    · rw [cell_of_row w g _ _ _ (0, 0) h3, Nat.zero_add, at_ _ (by omega)]; exact e3
theorem RwF.slv {w : World} {B : Nat} {v : Value} {l : List Fr} (h : RwF w B v l) : SlV v := by
  obtain ⟨d, cd, e, _⟩ := h.fr
  exact ⟨d, _, cd, e⟩
theorem frC_snoc (l : List Fr) (f : Fr) : frC (l ++ [f]) = frC l ++ [.bool f.1, .string f.2.1, .string f.2.2] := by
  induction l with
  | nil => rfl
  | cons x l ih => simp only [List.cons_append, frC, ih]
theorem wpList_append_fr {w : World} {ops : Array Oper} {rest : List Oper} {o : Oper} {a : Act} {Q : Exit → Act → World → Prop} (hgd : o.guard = none) (s x : Operand)
    (ho : o.op = .call { callee := .builtin .append, args := #[s, x], argTypes := #[36, 36] }) (base : Nat) (v : Value) (l : List Fr) (f : Fr) (hs : a.eval s = v) (hown : RwF w base v l) (g : Nat) (hx : a.eval x = .slice (some ⟨g, 0, none⟩) 1 1) (hg : Box w g f.1 f.2.1 f.2.2) (hlen : l.length + 1 ≤ 100000) (hbase : base ≤ w.heap.size)
    (h : ∀ v' w', RwF w' base v' (l ++ [f]) → w.grownBy w' v.ownBlock → wpList Tryz.prog ops Q rest (a.put o.dst v') w') : wpList Tryz.prog ops Q (o :: rest) a w := by
  obtain ⟨i0, hi0, hz0, hz1, hz2⟩ := info_parts Tryz.infoFrac
  refine wpList_append_own _ hgd s x 36 ho base 47 i0 (.agg #[.bool false, .string ⟨#[]⟩, .string ⟨#[]⟩]) 3 40 Tryz.underlying36 hi0 hz0 hz1 hz2 rfl (by decide) v l.length _ hs hown ⟨g, 0, none⟩ 1 1 [.bool f.1, .string f.2.1, .string f.2.2] hx rfl ?_ ?_ (by unfold maxLen; omega) (by omega) hbase ?_
  · intro j u hj
    match j, hj with
    | 0, hj => cases hj; exact hg.c0
    | 1, hj => cases hj; exact hg.c1
    | 2, hj => cases hj; exact hg.c2
    | j + 3, hj => simp at hj
  · intro u hu
    simp only [List.mem_cons, List.not_mem_nil, or_false] at hu
    rcases hu with rfl | rfl | rfl <;> rfl
  · intro v' w' h1 h2 _
    refine h v' w' ?_ h2
    rw [RwF, List.length_append, frC_snoc]
    exact h1

end Go.Proofs.YtmdjhefcohcjhaaGreatDoor


/- The document's answer: Fix. -/
namespace Go.Proofs.YtmdjhefcohcjhaaGreatDoor
open Go.RowKit Go.Shelf

theorem countB_of {sizes vars : List Int} (h1 : Fine sizes) (h2 : Up vars sizes.length) : countB sizes vars = true := by
  rw [countB, Bool.and_eq_true]
  constructor
  · rw [fitB, Bool.and_eq_true, decide_eq_true_iff]
    refine ⟨⟨h1.one, h1.eight⟩, List.all_eq_true.2 fun x hx => ?_⟩
    obtain ⟨i, hi, rfl⟩ := List.getElem_of_mem hx
    rw [okSize, decide_eq_true_iff]
    exact h1.each i hi
  · rw [risB, List.all_eq_true]
    intro i hi
    have hi' := List.mem_range.1 hi
    rw [okAt, decide_eq_true_iff, getD_eq hi']
    refine ⟨(h2.each i hi').1, (h2.each i hi').2, fun h0 => ?_⟩
    rw [getD_eq (show i - 1 < vars.length by omega)]
    exact h2.lt (i - 1) i hi' (by omega)
theorem rCount_in (a b : Option Addr) (ca cb : Nat) (sizes vars : List Int) (w : World) (hs : IntS w a sizes) (hv : IntS w b vars) (hfi : Fine sizes) (hup : Up vars sizes.length) :
    Calls Tryz.prog 13 #[.slice a sizes.length ca, .slice b vars.length cb] w fun e w' => e = .returned (.tuple #[.int .i64 (cnt (toN sizes) (toN vars) : Nat), .int .i64 0]) ∧ Below w.heap.size w w' := by
  have h8 := hfi.eight
  have h9 := hup.length
  have h := rCount_any a b ca cb sizes vars w hs hv (by omega) (by omega)
  rw [countA_yes (countB_of hfi hup)] at h
  exact h
theorem rWhere_in (a b : Option Addr) (ca cb K : Nat) (sizes vars : List Int) (w : World) (hs : IntS w a sizes) (hv : IntS w b vars) (hfi : Fine sizes) (hup : Up vars sizes.length) (hK : K < cnt (toN sizes) (toN vars)) :
    Calls Tryz.prog 14 #[.slice a sizes.length ca, .slice b vars.length cb, .int .i64 (K : Nat)] w fun e w' => ∃ (c : Option Addr) (cc : Nat), e = .returned (.tuple #[.slice c vars.length cc, .int .i64 0]) ∧ IntS w' c (iL (digs (toN sizes) (toN vars) K)) ∧ Below w.heap.size w w' := by
  have h8 := hfi.eight
  have h9 := hup.length
  have hcb := countB_of hfi hup
  have h := rWhere_any a b ca cb sizes vars (K : Int) w hs hv (by omega) (by omega)
  have e1 : whereL sizes vars (K : Int) = digs (toN sizes) (toN vars) K := by rw [whereL, if_pos ⟨hcb, by omega, by omega⟩, Int.toNat_natCast]
  have e2 : whereE sizes vars (K : Int) = 0 := by rw [whereE, if_pos hcb, if_pos ⟨by omega, by omega⟩]
  rw [e1, e2, digs_length, toN_length] at h
  exact h
theorem Canon_r {n : Bool} {x y : ByteArray} {w : World} (s1 : x.size + y.size ≤ 100000) :
    Calls Tryz.prog 45 #[.agg #[.bool n, .string x, .string y]] w fun e w' => e = .returned (frV (qF (val n x y))) ∧ Below w.heap.size w w' := rCanon_any n x y w (by omega) (by omega)

end Go.Proofs.YtmdjhefcohcjhaaGreatDoor


/- Nets: what is wrong with rows; the document's answer: NetCheck, as far as the names. -/
namespace Go.Proofs.YtmdjhefcohcjhaaGreatDoor
open Go.RowKit Go.Shelf

/-- Lists of fractions in memory. -/
def FsS (w : World) (a : Option Addr) (R : List (List Fr)) : Prop := ∀ k (h : k < R.length), ∃ g o b c, a = some ⟨g, o, none⟩ ∧ g < w.heap.size ∧ w.cell? ⟨g, o + k, none⟩ = some (.slice b R[k].length c) ∧ FrS w b R[k] ∧ R[k].length ≤ c
theorem FsS.below {w w' : World} {a : Option Addr} {R : List (List Fr)} (h : FsS w a R) (hb : Below w.heap.size w w') : FsS w' a R := fun k hk => by
  obtain ⟨g, o, b, c, h1, h2, h3, h4, h5⟩ := h k hk
  exact ⟨g, o, b, c, h1, Nat.lt_of_lt_of_le h2 hb.size, (hb.cell (p := ⟨g, o + k, none⟩) h2).trans h3, h4.below hb, h5⟩
/-- The i-th so many. -/
def chunkF (l : List Fr) (k i : Nat) : List Fr := (l.drop (i * k)).take k
/-- What is wrong with a variable's rows. -/
def rowE (S : List Nat) (L : List (List Int)) (R : List (List Fr)) (v : Nat) : Int :=
  if (R.getD v []).length = cnt S (toN (L.getD v [])) * sz S v then (if ((List.range (cnt S (toN (L.getD v [])))).all fun i => rowB (chunkF (R.getD v []) (sz S v) i)) = true then 0 else 9) else 8
/-- What is wrong with a net. -/
def netE (V : List Vr) (L : List (List Int)) (R : List (List Fr)) : Int :=
  if L.length = V.length ∧ R.length = V.length then (if gcE L = 0 then (if varsE V = 0 then firstE (rowE (sizesN V) L R) V.length else varsE V) else gcE L) else 8
theorem FrS.chunk {w : World} {g o : Nat} {l : List Fr} {k i m : Nat} (h : FrS w (some ⟨g, o, none⟩) l) (hm : (i + 1) * k ≤ l.length) (hk : m = k) : FrS w (some ⟨g, o + i * k * 3, none⟩) (chunkF l k i) ∧ (chunkF l k i).length = m := by
  have hlen : (chunkF l k i).length = k := by
    rw [chunkF, List.length_take, List.length_drop]
    have : (i + 1) * k = i * k + k := by rw [Nat.add_mul, Nat.one_mul]
    omega
  refine ⟨fun j hj => ?_, by rw [hlen, hk]⟩
  have e : (i + 1) * k = i * k + k := by rw [Nat.add_mul, Nat.one_mul]
  rw [hlen] at hj
  obtain ⟨g', o', h1, h2, h3, h4, h5⟩ := h (i * k + j) (by omega)
  cases h1
  have ej : (chunkF l k i)[j]'(by rw [hlen]; exact hj) = l[i * k + j]'(by omega) := by
    simp only [chunkF, List.getElem_take, List.getElem_drop]
  refine ⟨g, o + i * k * 3, rfl, h2, ?_, ?_, ?_⟩
  · rw [ej, show o + i * k * 3 + j * 3 = o + (i * k + j) * 3 by rw [Nat.add_mul]; omega]; exact h3
  · rw [ej, show o + i * k * 3 + j * 3 = o + (i * k + j) * 3 by rw [Nat.add_mul]; omega]; exact h4
  · rw [ej, show o + i * k * 3 + j * 3 = o + (i * k + j) * 3 by rw [Nat.add_mul]; omega]; exact h5
theorem fw_chunk (l : List Fr) (k i : Nat) : fw (chunkF l k i) ≤ fw l := by
  have h1 := fw_take (l.drop (i * k)) k
  have h2 := fw_append (l.take (i * k)) (l.drop (i * k))
  rw [List.take_append_drop] at h2
  rw [chunkF]
  omega
/-- A list of texts in memory of its own. -/
def RwS (w : World) (B : Nat) (v : Value) (l : List ByteArray) : Prop := w.ownsRow B 9 1 v l.length (l.map Value.string)
theorem RwS.own {w : World} {B : Nat} {v : Value} {l : List ByteArray} (h : RwS w B v l) : ∀ k, v.ownBlock = some k → B ≤ k := by
  intro k hk
  rcases h.2 with ⟨rfl, _⟩ | ⟨g, cap, cur, rfl, h2, _⟩
  · cases hk
  · cases hk
    exact h2
theorem RwS.st {w : World} {B : Nat} {v : Value} {l : List ByteArray} (h : RwS w B v l) : ∃ d cd, v = .slice d l.length cd ∧ StS w d l := by
  rcases h.2 with ⟨h1, h2⟩ | ⟨g, cap, cur, h1, h2, h3, h4, h5, h6, h7⟩
  · have : l = [] := List.length_eq_zero_iff.1 h2
    subst this
    exact ⟨none, 0, h1, fun k hk => absurd hk (by simp)⟩
  · refine ⟨_, _, h1, fun j hj => ⟨g, 0, rfl, (Array.getElem?_eq_some_iff.1 h3).1, ?_⟩⟩
    rw [Nat.zero_add, cell_of_row w g j _ _ (0, 0) h3]
    have e : cur[j]? = (cur.toList.take (l.length * 1))[j]? := by
      rw [List.getElem?_take, if_pos (by omega), Array.getElem?_toList]
    rw [e, h7, List.getElem?_map, List.getElem?_eq_getElem hj]
    rfl
theorem wpList_append_str {w : World} {ops : Array Oper} {rest : List Oper} {o : Oper} {a : Act} {Q : Exit → Act → World → Prop} (hgd : o.guard = none) (s x : Operand)
    (ho : o.op = .call { callee := .builtin .append, args := #[s, x], argTypes := #[31, 31] }) (base : Nat) (v : Value) (l : List ByteArray) (f : ByteArray) (hs : a.eval s = v) (hown : RwS w base v l) (g : Nat) (hx : a.eval x = .slice (some ⟨g, 0, none⟩) 1 1) (hg : w.cell? ⟨g, 0, none⟩ = some (.string f)) (hlen : l.length + 1 ≤ 100000) (hbase : base ≤ w.heap.size)
    (h : ∀ v' w', RwS w' base v' (l ++ [f]) → w.grownBy w' v.ownBlock → wpList Tryz.prog ops Q rest (a.put o.dst v') w') : wpList Tryz.prog ops Q (o :: rest) a w := by
  obtain ⟨i0, hi0, hz0, hz1, hz2⟩ := info_parts Tryz.infoStr
  refine wpList_append_own _ hgd s x 31 ho base 9 i0 (.string ⟨#[]⟩) 1 16 Tryz.underlying31 hi0 hz0 hz1 hz2 rfl (by decide) v l.length _ hs hown ⟨g, 0, none⟩ 1 1 [.string f] hx rfl ?_ ?_ (by unfold maxLen; omega) (by omega) hbase ?_
  · intro j u hj
    match j, hj with
    | 0, hj => cases hj; exact hg
    | j + 1, hj => simp at hj
  · intro u hu
    simp only [List.mem_cons, List.not_mem_nil, or_false] at hu
    subst hu; rfl
  · intro v' w' h1 h2 _
    refine h v' w' ?_ h2
    rw [RwS, List.length_append, List.map_append]
    exact h1
theorem one_str (w : World) (u : ByteArray) : (w.alloc (.cells #[.string u] 9)).cell? ⟨w.heap.size, 0, none⟩ = some (.string u) := (Boxed.new w _ _).cell
end Go.Proofs.YtmdjhefcohcjhaaGreatDoor

