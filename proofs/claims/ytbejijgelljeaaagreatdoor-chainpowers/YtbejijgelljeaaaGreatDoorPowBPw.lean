/- inParts of package chain: a chain's numbers as whole numbers over one that all share. -/
import Derived.Test.YtbejijgelljeaaaGreatDoorPowAPw
namespace Go.Proofs.YtbejijgelljeaaaGreatDoor
open Go.RowKit Go.Shelf
/-- Rows of fractions of any form, as a call has them. -/
structure RaW (n F : Nat) (P : Nat → Nat → Rat) (R : List (List Fr)) : Prop where
  len : R.length = n
  row : ∀ i (h : i < R.length), R[i].length = n
  is : ∀ i j (h : i < R.length) (h' : j < R[i].length), frQ R[i][j] = P i j
  size : ∀ i j (h : i < R.length) (h' : j < R[i].length), R[i][j].2.1.size + R[i][j].2.2.size ≤ F
theorem FsS.raw {w : World} {a : Option Addr} {R : List (List Fr)} (h : FsS w a R) {i : Nat} (hi : i < R.length) : ∃ g o b c, a = some ⟨g, o, none⟩ ∧ g < w.heap.size ∧ w.cell? ⟨g, o + i, none⟩ = some (.slice b R[i].length c) ∧ FrS w b R[i] := by
  obtain ⟨g, o, b, c, h1, h2, h3, h4, _⟩ := h i hi
  exact ⟨g, o, b, c, h1, h2, h3, h4⟩
theorem Box.tri3 {w : World} {g : Nat} {neg : Bool} {num den : ByteArray} (h : Box w g neg num den) : w.cell? ⟨g, 0, none⟩ = some (.bool neg) ∧ w.cell? ⟨g, 1, none⟩ = some (.string num) ∧ w.cell? ⟨g, 2, none⟩ = some (.string den) := ⟨h.c0, h.c1, h.c2⟩
theorem frQ_qw (f : Fr) : qw (frQ f) ≤ 2 * (f.2.1.size + f.2.2.size + 1) := fits_qw (fits_val f.1 f.2.1 f.2.2)
/-- The number that all share, under way. -/
structure OfK (n F : Nat) (P : Nat → Nat → Rat) (i j o : Nat) : Prop where
  pos : 0 < o
  dvd : ∀ a b, a < n → b < n → (a < i ∨ (a = i ∧ b < j)) → (P a b).den ∣ o
  size : (B o).size ≤ 1 + (2 * F + 2) * (i * n + j)
theorem OfK.start (n F : Nat) (P : Nat → Nat → Rat) : OfK n F P 0 0 1 := ⟨by decide, fun a b _ _ h => by omega, by have := B_one_size; omega⟩
theorem OfK.step {n F : Nat} {P : Nat → Nat → Rat} {i j o : Nat} (h : OfK n F P i j o) (hq : qw (P i j) ≤ 2 * F + 2) : OfK n F P i (j + 1) (lcmS o (P i j).den) := by
  refine ⟨lcmS_pos h.pos (P i j).den_pos, fun a b ha hb hab => ?_, ?_⟩
  · by_cases e : a = i ∧ b = j
    · rw [e.1, e.2]
      exact lcmS_right _ _
    · exact Nat.dvd_trans (h.dvd a b ha hb (by omega)) (lcmS_left _ _)
  · have h1 := h.size
    have h2 := sz_mul o ((P i j).den / Nat.gcd o (P i j).den)
    have h3 := sz_mono (Nat.div_le_self (P i j).den (Nat.gcd o (P i j).den))
    have h4 : (B (P i j).den).size ≤ qw (P i j) := Nat.le_add_left _ _
    have h5 : (2 * F + 2) * (i * n + (j + 1)) = (2 * F + 2) * (i * n + j) + (2 * F + 2) := by rw [← Nat.add_assoc, Nat.mul_succ]
    show (B (o * _)).size ≤ _
    omega
theorem OfK.next {n F : Nat} {P : Nat → Nat → Rat} {i o : Nat} (h : OfK n F P i n o) : OfK n F P (i + 1) 0 o := ⟨h.pos, fun a b ha hb hab => h.dvd a b ha hb (by omega), by have h1 := h.size; rw [show (i + 1) * n + 0 = i * n + n by rw [Nat.add_zero, Nat.add_mul, Nat.one_mul]]; exact h1⟩
/-- How many parts go there. -/
def ptN (P : Nat → Nat → Rat) (o i j : Nat) : Nat := (P i j).num.natAbs * (o / (P i j).den)
theorem ptN_is {P : Nat → Nat → Rat} {o i j : Nat} (h0 : 0 ≤ P i j) (hd : (P i j).den ∣ o) : ((ptN P o i j : Nat) : Rat) = P i j * (o : Rat) := by
  obtain ⟨k, rfl⟩ := hd
  have hdp := (P i j).den_pos
  have hn : ((P i j).num.natAbs : Int) = (P i j).num := Int.natAbs_of_nonneg (Rat.num_nonneg.2 h0)
  rw [ptN, Nat.mul_div_cancel_left _ hdp, Rat.natCast_mul, Rat.natCast_mul, ← Rat.mul_assoc]
  congr 1
  have hd0 : ((P i j).den : Rat) ≠ 0 := by
    have := Nat.ne_of_gt hdp
    exact fun e => this (by exact_mod_cast e)
  have h2 : P i j * ((P i j).den : Rat) = ((P i j).num : Rat) := by
    have h3 := Rat.mkRat_eq_div (P i j).num (P i j).den
    rw [Rat.mkRat_self] at h3
    generalize ((P i j).num : Rat) = x at *
    generalize ((P i j).den : Rat) = y at *
    rw [h3, Rat.div_def, Rat.mul_assoc, Rat.inv_mul_cancel _ hd0, Rat.mul_one]
  rw [h2, ← hn]
  rfl
theorem ptN_size {F : Nat} {P : Nat → Nat → Rat} {o i j : Nat} (hq : qw (P i j) ≤ 2 * F + 2) : (B (ptN P o i j)).size ≤ 2 * F + 2 + (B o).size := by
  have h1 := sz_mul (P i j).num.natAbs (o / (P i j).den)
  have h2 := sz_mono (Nat.div_le_self o (P i j).den)
  have h3 : (B (P i j).num.natAbs).size ≤ qw (P i j) := Nat.le_add_right _ _
  show (B (_ * _)).size ≤ _
  omega
/-- Rows of rows, as slices. -/
def RowW (w : World) (G : Nat) (X : List Value) : Prop := w.heap[G]? = some (.cells X.toArray 100 (0, 0))
theorem RowW.cell {w : World} {g : Nat} {X : List Value} (h : RowW w g X) (j : Nat) (hj : j < X.length) : w.cell? ⟨g, j, none⟩ = some X[j] := by
  rw [cell_of_row w g j _ _ (0, 0) h]
  simp [hj]
theorem RowW.fz {w : World} {g : Nat} {X : List Value} (h : RowW w g X) (j : Nat) : w.frozen? ⟨g, j, none⟩ = false := frozen_of_row w g j _ _ h
theorem RowW.lt {w : World} {g : Nat} {X : List Value} (h : RowW w g X) : g < w.heap.size := (Array.getElem?_eq_some_iff.1 h).1
theorem RowW.set {w : World} {g : Nat} {X : List Value} (h : RowW w g X) (j : Nat) (v : Value) : RowW (w.setCell ⟨g, j, none⟩ v) g (X.set j v) := by
  have h1 : (w.setCell ⟨g, j, none⟩ v).heap[g]? = some (.cells (X.toArray.setIfInBounds j v) 100 (0, 0)) := heap_setCell_same w g j _ _ _ h
  rw [RowW, h1]
  simp
/-- A list of whole numbers in memory of its own. -/
def RwSn (w : World) (B : Nat) (v : Value) (l : List Nat) : Prop := w.ownsRow B 31 1 v l.length (stC l)
theorem RwSn.empty (w : World) (B : Nat) : RwSn w B (.slice none 0 0) [] := ⟨rfl, .inl ⟨rfl, rfl⟩⟩
theorem wp_append_st {w : World} {o : Oper} {a : Act} {K : Act → World → Prop} {Q : Exit → Act → World → Prop} (s x : Operand)
    (ho : o.op = .call { callee := .builtin .append, args := #[s, x], argTypes := #[100, 100] }) (base : Nat) (v : Value) (l : List Nat) (f : Nat) (hs : a.eval s = v) (hown : RwSn w base v l) (g : Nat) (hx : a.eval x = .slice (some ⟨g, 0, none⟩) 1 1) (hg : w.cell? ⟨g, 0, none⟩ = some (.string (B f))) (hlen : l.length + 1 ≤ 100000) (hbase : base ≤ w.heap.size)
    (h : ∀ v' w', RwSn w' base v' (l ++ [f]) → w.grownBy w' v.ownBlock → K (a.put o.dst v') w') : o.wp Tryz.prog a w K Q := by
  obtain ⟨i0, hi0, hz0, hz1, hz2⟩ := info_parts Tryz.infoNat
  refine wp_append_own _ s x 100 ho base 31 i0 (.string ⟨#[]⟩) 1 16 Tryz.underlying100 hi0 hz0 hz1 hz2 rfl (by decide) v l.length _ hs hown ⟨g, 0, none⟩ 1 1 [.string (B f)] hx rfl ?_ ?_ (by unfold maxLen; omega) (by omega) hbase ?_
  · intro j u hj
    match j, hj with
    | 0, hj => cases hj; exact hg
    | j + 1, hj => simp at hj
  · intro u hu
    simp only [List.mem_cons, List.not_mem_nil, or_false] at hu
    subst hu
    rfl
  · intro v' w' h1 h2 _
    refine h v' w' ?_ h2
    rw [RwSn, List.length_append, stC_snoc]
    exact h1
/-- A block that begins with these. -/
def CurN (U : World) (g n : Nat) (f : Nat → Nat) : Prop := ∃ cur : Array Value, U.heap[g]? = some (.cells cur 31 (0, 0)) ∧ ∀ j, j < n → cur[j]? = some (.string (B (f j)))
theorem CurN.block {U U' : World} {g n : Nat} {f : Nat → Nat} (h : CurN U g n f) (e : U'.heap[g]? = U.heap[g]?) : CurN U' g n f := by
  obtain ⟨cur, h1, h2⟩ := h
  exact ⟨cur, e.trans h1, h2⟩
theorem CurN.lt {U : World} {g n : Nat} {f : Nat → Nat} (h : CurN U g n f) : g < U.heap.size := by
  obtain ⟨cur, h1, h2⟩ := h
  exact (Array.getElem?_eq_some_iff.1 h1).1
theorem CurN.st {U : World} {g n : Nat} {f : Nat → Nat} (h : CurN U g n f) : NtS U (some ⟨g, 0, none⟩) (lN n f) := fun k hk => by
  have hl := h.lt
  obtain ⟨cur, h1, h2⟩ := h
  refine ⟨g, 0, rfl, hl, ?_⟩
  rw [Nat.zero_add, cell_of_row U g k _ _ (0, 0) h1, h2 k (by rw [lN_length] at hk; exact hk), lN_get]
theorem RwSn.cur {w : World} {B' n : Nat} {v : Value} {f : Nat → Nat} (h : RwSn w B' v (lN n f)) (h1 : 1 ≤ n) : ∃ g c, v = .slice (some ⟨g, 0, none⟩) n c ∧ B' ≤ g ∧ CurN w g n f := by
  have hl := lN_length n f
  rcases h.2 with ⟨e1, e2⟩ | ⟨g, cap, cur, e1, e2, e3, e4, e5, e6, e7⟩
  · omega
  · refine ⟨g, cap, by rw [e1, hl], e2, cur, e3, fun j hj => ?_⟩
    have h9 : cur[j]? = (stC (lN n f))[j]? := by
      rw [← e7, List.getElem?_take, if_pos (by omega), Array.getElem?_toList]
    rw [h9]
    simp [stC, lN, hj]
/-- Rows of whole numbers of which the first k are made, and of the next one so many numbers. -/
structure NgS (w : World) (n G k Mk : Nat) (M : Nat → Nat → Nat) (v : Value) (j : Nat) (U : World) : Prop where
  top : ∃ X : List Value, X.length = n ∧ RowW U G X ∧ X[k]? = some v ∧ (∀ t, k < t → t < n → X[t]? = some (.slice none 0 0)) ∧ ∀ t, t < k → ∃ g c, X[t]? = some (.slice (some ⟨g, 0, none⟩) n c) ∧ G < g ∧ g < Mk ∧ CurN U g n (M t)
  cur : RwSn U Mk v (lN j (M k))
  gl : w.heap.size ≤ G
  gm : G < Mk
  mu : Mk ≤ U.heap.size
  bel : Below w.heap.size w U
theorem NgS.step {w U U' : World} {n G k Mk j : Nat} {M : Nat → Nat → Nat} {v : Value} (h : NgS w n G k Mk M v j U) (hb : Below U.heap.size U U') : NgS w n G k Mk M v j U' := by
  obtain ⟨X, h1, h2, h3, h4, h5⟩ := h.top
  refine ⟨⟨X, h1, (hb.block G h2.lt).trans h2, h3, h4, fun t ht => ?_⟩, owns_keep h.cur (KeepT.below hb), h.gl, h.gm, Nat.le_trans h.mu hb.size, h.bel.trans (hb.mono h.bel.size)⟩
  obtain ⟨g, c, e1, e2, e3, e4⟩ := h5 t ht
  exact ⟨g, c, e1, e2, e3, e4.block (hb.block g e4.lt)⟩
theorem NgS.cell {w U : World} {n G k Mk j : Nat} {M : Nat → Nat → Nat} {v : Value} (h : NgS w n G k Mk M v j U) (hk : k < n) : U.cell? ⟨G, k, none⟩ = some v := by
  obtain ⟨X, h1, h2, h3, h4, h5⟩ := h.top
  have hk' : k < X.length := by omega
  rw [h2.cell k hk']
  rw [List.getElem?_eq_getElem hk'] at h3
  exact h3
theorem NgS.pre {w U U' : World} {n G k Mk j : Nat} {M : Nat → Nat → Nat} {v : Value} (h : NgS w n G k Mk M v j U) (hg : U.grownBy U' v.ownBlock) : ∃ X : List Value, X.length = n ∧ RowW U' G X ∧ X[k]? = some v ∧ (∀ t, k < t → t < n → X[t]? = some (.slice none 0 0)) ∧ ∀ t, t < k → ∃ g c, X[t]? = some (.slice (some ⟨g, 0, none⟩) n c) ∧ G < g ∧ g < Mk ∧ CurN U' g n (M t) := by
  obtain ⟨X, h1, h2, h3, h4, h5⟩ := h.top
  refine ⟨X, h1, (hg.block G h2.lt fun e => by have h8 := owns_from h.cur G e.symm; have h9 := h.gm; omega).trans h2, h3, h4, fun t ht => ?_⟩
  obtain ⟨g, c, e1, e2, e3, e4⟩ := h5 t ht
  exact ⟨g, c, e1, e2, e3, e4.block (hg.block g e4.lt fun e => by have h8 := owns_from h.cur g e.symm; omega)⟩
theorem NgS.push {w U U' : World} {n G k Mk j : Nat} {M : Nat → Nat → Nat} {v v' : Value} (h : NgS w n G k Mk M v j U) (hk : k < n) (hg : U.grownBy U' v.ownBlock) (hr : RwSn U' Mk v' (lN j (M k) ++ [M k j])) : NgS w n G k Mk M v' (j + 1) (U'.setCell ⟨G, k, none⟩ v') := by
  obtain ⟨X, h1, h2, h3, h4, h5⟩ := h.pre hg
  refine ⟨⟨X.set k v', by rw [List.length_set]; exact h1, h2.set k v', by rw [List.getElem?_set_self (by omega)], fun t ht1 ht2 => by rw [List.getElem?_set_ne (by omega)]; exact h4 t ht1 ht2, fun t ht => ?_⟩, ?_, h.gl, h.gm, Nat.le_trans h.mu (Nat.le_trans hg.size (by simp [World.setCell])), ?_⟩
  · obtain ⟨g, c, e1, e2, e3, e4⟩ := h5 t ht
    refine ⟨g, c, by rw [List.getElem?_set_ne (by omega)]; exact e1, e2, e3, e4.block (Below.heap_setCell U' ⟨G, k, none⟩ v' g (by show g ≠ G; omega))⟩
  · rw [lN_snoc]
    exact owns_keep hr (KeepT.set h2 (by decide) k _)
  · exact (h.bel.grown hg h.bel.size (fun x e => Nat.le_trans (Nat.le_trans h.gl (Nat.le_of_lt h.gm)) (owns_from h.cur x e))).setCell (p := ⟨G, k, none⟩) h.gl _
theorem NgS.next {w U : World} {n G k Mk : Nat} {M : Nat → Nat → Nat} {v : Value} (h : NgS w n G k Mk M v n U) (h1n : 1 ≤ n) (hk : k + 1 < n) : NgS w n G (k + 1) U.heap.size M (.slice none 0 0) 0 U := by
  obtain ⟨X, h1, h2, h3, h4, h5⟩ := h.top
  obtain ⟨g, c, e1, e2, e3⟩ := h.cur.cur h1n
  refine ⟨⟨X, h1, h2, h4 (k + 1) (by omega) hk, fun t ht1 ht2 => h4 t (by omega) ht2, fun t ht => ?_⟩, RwSn.empty _ _, h.gl, h2.lt, Nat.le_refl _, h.bel⟩
  by_cases e : t = k
  · subst e
    exact ⟨g, c, by rw [h3, e1], Nat.lt_of_lt_of_le h.gm e2, e3.lt, e3⟩
  · obtain ⟨g', c', q1, q2, q3, q4⟩ := h5 t (by omega)
    exact ⟨g', c', q1, q2, q4.lt, q4⟩
theorem NgS.all {w U : World} {n G k Mk : Nat} {M : Nat → Nat → Nat} {v : Value} (h : NgS w n G k Mk M v n U) (h1n : 1 ≤ n) (hk : k + 1 = n) : NtR U (some ⟨G, 0, none⟩) n M := fun t ht => by
  obtain ⟨X, h1, h2, h3, h4, h5⟩ := h.top
  obtain ⟨g, c, e1, e2, e3⟩ := h.cur.cur h1n
  have ht' : t < X.length := by omega
  by_cases e : t = k
  · subst e
    refine ⟨G, 0, some ⟨g, 0, none⟩, c, rfl, h2.lt, ?_, e3.st⟩
    rw [Nat.zero_add, h2.cell t ht']
    rw [List.getElem?_eq_getElem ht', e1] at h3
    exact h3
  · obtain ⟨g', c', q1, q2, q3, q4⟩ := h5 t (by omega)
    refine ⟨G, 0, some ⟨g', 0, none⟩, c', rfl, h2.lt, ?_, q4.st⟩
    rw [Nat.zero_add, h2.cell t ht']
    rw [List.getElem?_eq_getElem ht'] at q1
    exact q1
/-- Between two rows: k are made. -/
def NfS (w : World) (n G k : Nat) (M : Nat → Nat → Nat) (U : World) : Prop := (k < n → NgS w n G k U.heap.size M (.slice none 0 0) 0 U) ∧ (k = n → NtR U (some ⟨G, 0, none⟩) n M) ∧ Below w.heap.size w U
theorem NgS.end {w U : World} {n G k Mk : Nat} {M : Nat → Nat → Nat} {v : Value} (h : NgS w n G k Mk M v n U) (h1n : 1 ≤ n) : NfS w n G (k + 1) M U := ⟨fun hk => h.next h1n hk, fun hk => h.all h1n hk, h.bel⟩
theorem NgS.away {w U : World} {n G k Mk j gB : Nat} {M : Nat → Nat → Nat} {v : Value} (h : NgS w n G k Mk M v j U) (hB : Mk ≤ gB) (n1 : Bool) (x1 y1 : ByteArray) {n0 : Bool} {x0 y0 : ByteArray} (hx : Box U gB n0 x0 y0) : NgS w n G k Mk M v j (((U.setCell ⟨gB, 0, none⟩ (.bool n1)).setCell ⟨gB, 1, none⟩ (.string x1)).setCell ⟨gB, 2, none⟩ (.string y1)) := by
  have hgm := h.gm
  have key : ∀ g, g ≠ gB → (((U.setCell ⟨gB, 0, none⟩ (.bool n1)).setCell ⟨gB, 1, none⟩ (.string x1)).setCell ⟨gB, 2, none⟩ (.string y1)).heap[g]? = U.heap[g]? := fun g hg => (Below.heap_setCell _ ⟨gB, 2, none⟩ (.string y1) g hg).trans ((Below.heap_setCell _ ⟨gB, 1, none⟩ (.string x1) g hg).trans (Below.heap_setCell _ ⟨gB, 0, none⟩ (.bool n1) g hg))
  obtain ⟨X, h1, h2, h3, h4, h5⟩ := h.top
  refine ⟨⟨X, h1, (key G (by omega)).trans h2, h3, h4, fun t ht => ?_⟩, owns_keep h.cur fun g c fr hg => ?_, h.gl, h.gm, Nat.le_trans h.mu (by simp [World.setCell]), below_put h.bel (Nat.le_trans (Nat.le_trans h.gl (Nat.le_of_lt h.gm)) hB) _ _ _⟩
  · obtain ⟨g, c, e1, e2, e3, e4⟩ := h5 t ht
    exact ⟨g, c, e1, e2, e3, e4.block (key g (by omega))⟩
  · refine (key g fun e => ?_).trans hg
    subst e
    have hx' : U.heap[g]? = some (.cells #[.bool n0, .string x0, .string y0] 33 (0, 0)) := hx
    rw [hg] at hx'
    have h2 := Option.some.inj hx'
    injection h2 with _ h4
    exact absurd h4 (by decide)
set_option maxRecDepth 100000 in
set_option maxHeartbeats 4000000 in
theorem chInParts_any (a : Option Addr) (ca n F : Nat) (P : Nat → Nat → Rat) (R : List (List Fr)) (w : World) (hR : FsS w a R) (hW : RaW n F P R) (h1 : 1 ≤ n) (hn : n ≤ 100) (hF : F ≤ 40000) (hp : ∀ i j, i < n → j < n → 0 ≤ P i j) :
    Calls Tryz.prog 74 #[.slice a n ca] w fun e w' => ∃ G D Cn, e = .returned (.tuple #[.slice (some ⟨G, 0, none⟩) n n, .string (B D)]) ∧ NtR w' (some ⟨G, 0, none⟩) n Cn ∧ 0 < D ∧ (B D).size ≤ 1 + (2 * F + 2) * (n * n) ∧ (∀ i j, i < n → j < n → ((Cn i j : Nat) : Rat) = P i j * (D : Rat) ∧ (B (Cn i j)).size ≤ 2 * F + 2 + (B D).size) ∧ Below w.heap.size w w' := by
  obtain ⟨i0, hi0, hz0, hz1, hz2⟩ := info_parts Tryz.infoNats
  have HR := hid hR
  have HW := hid hW
  have HQ : Hid (∀ i j, i < n → j < n → qw (P i j) ≤ 2 * F + 2) := fun i j hi hj => by
    have h8 : i < R.length := by rw [hW.len]; exact hi
    have h9 : j < R[i].length := by rw [hW.row]; exact hj
    rw [← hW.is i j h8 h9]
    have := frQ_qw R[i][j]
    have := hW.size i j h8 h9
    omega
  have HNN : Hid (∀ i j o, i < n → j ≤ n → OfK n F P i j o → (B o).size ≤ 1099511627776) := fun i j o hi hj h => by
    have h8 := h.size
    have h7 : i * n ≤ n * n := Nat.mul_le_mul_right _ (by omega)
    have h6 : n * n ≤ 100 * 100 := Nat.mul_le_mul hn hn
    have h5 : (2 * F + 2) * (i * n + j) ≤ 80002 * 10100 := Nat.mul_le_mul (by omega) (by omega)
    omega
  have HPS := hid hp
  clear hR hW hp
  have HO1 := hid (fun V : World => Of_any 1 V (by omega) (by omega))
  go_enter Tryz.func74, Tryz.ntmps74
  go_wp2_with fail
  refine (HO1.out _).mono ?_
  rintro e w1 ⟨rfl, hb1⟩
  have HB1 := hid hb1
  clear hb1
  rw [show (1 : Int).toNat = 1 from rfl]
  go_wp2_with fail
  go_loopw [3, 22] (fun sv iv wr => ∃ i o : Nat, i ≤ n ∧ iv = .int .i64 i ∧ sv = .string (B o) ∧ Hid (OfK n F P i 0 o) ∧ Hid (Below w.heap.size w wr)) (fun _ iv _ => n - (intOf iv).toNat)
  case atStart => exact ⟨0, 1, Nat.zero_le _, rfl, rfl, OfK.start n F P, HB1⟩
  case round =>
    obtain ⟨i, o, hi, rfl, rfl, HO, HB⟩ := hrel
    clear HB1
    by_cases hlt : i < n
    · have hiR : i < R.length := by rw [HW.out.len]; exact hlt
      obtain ⟨g, og, b, c, rfl, hg, c0, hfr⟩ := HR.out.raw hiR
      rw [HW.out.row i hiR] at c0
      have c0' := (HB.out.cell (p := ⟨g, _, none⟩) hg).trans c0
      have HFR := hid hfr
      clear c0 hfr
      go_wp2_with fail
      clear c0'
      go_loopw [3, 28] (fun sv jv wr => ∃ j o : Nat, j ≤ n ∧ jv = .int .i64 j ∧ sv = .string (B o) ∧ Hid (OfK n F P i j o) ∧ Hid (Below w.heap.size w wr)) (fun _ jv _ => n - (intOf jv).toNat)
      case atStart => exact ⟨0, o, Nat.zero_le _, rfl, rfl, HO, HB⟩
      case round =>
        obtain ⟨j, o, hj, rfl, rfl, HO, HB⟩ := hrel
        by_cases hlj : j < n
        · have hjR : j < R[i].length := by rw [HW.out.row i hiR]; exact hlj
          obtain ⟨gb, ob, rfl, hgb, b0, b1, b2⟩ := (HFR.out.below HB.out) j hjR
          have hq := HQ.out i j hlt hlj
          have hsz := HW.out.size i j hiR hjR
          have his := HW.out.is i j hiR hjR
          have hos := HNN.out i j o hlt hj HO.out
          have HON := hid (HO.out.step hq)
          have HCA : Hid (∀ U : World, Calls Tryz.prog 96 #[.agg #[.bool R[i][j].1, .string R[i][j].2.1, .string R[i][j].2.2]] U fun e w' => e = .returned (.agg #[.bool (sgn (P i j)), .string (nu (P i j)), .string (de (P i j))]) ∧ Below U.heap.size U w') := fun U => Canon_q (P i j) his (by omega)
          generalize R[i][j] = f at *
          obtain ⟨fn, fx, fy⟩ := f
          simp only at b0 b1 b2 HCA
          have hds : (B (P i j).den).size ≤ 1099511627776 := by
            have h8 : (B (P i j).den).size ≤ qw (P i j) := Nat.le_add_left _ _
            omega
          have hdp := (P i j).den_pos
          obtain ⟨d, hd⟩ : ∃ x, (P i j).den = x := ⟨_, rfl⟩
          have HDE : Hid (de (P i j) = B d) := by show B _ = _; rw [hd]
          rw [hd] at hds hdp HON
          have HGC : Hid (∀ U : World, Calls Tryz.prog 88 #[.string (B o), .string (B d)] U fun e w' => e = .returned (.string (B (Nat.gcd o d))) ∧ Below U.heap.size U w') := fun U => by
            have h9 := Gcd_any (B o) (B d) U (by omega) (by omega)
            rw [N_B, N_B] at h9
            exact h9
          have hgp : Nat.gcd o d ≠ 0 := Nat.ne_of_gt (Nat.gcd_pos_of_pos_right _ hdp)
          have hgs : (B (Nat.gcd o d)).size ≤ 1099511627776 := Nat.le_trans (sz_mono (Nat.le_of_dvd hdp (Nat.gcd_dvd_right o d))) hds
          have HDV : Hid (∀ U : World, Calls Tryz.prog 89 #[.string (B d), .string (B (Nat.gcd o d))] U fun e w' => e = .returned (.tuple #[.string (B (d / Nat.gcd o d)), .string (B (d % Nat.gcd o d)), .bool true]) ∧ Below U.heap.size U w') := fun U => by
            have h9 := Div_yes (B d) (B (Nat.gcd o d)) U hds hgs (by rw [N_B]; exact hgp)
            rw [N_B, N_B] at h9
            exact h9
          have hls : (B (d / Nat.gcd o d)).size ≤ 1099511627776 := Nat.le_trans (sz_mono (Nat.div_le_self _ _)) hds
          have HMU : Hid (∀ U : World, Calls Tryz.prog 75 #[.string (B o), .string (B (d / Nat.gcd o d))] U fun e w' => e = .returned (.string (B (lcmS o d))) ∧ Below U.heap.size U w') := fun U => by
            have h9 := Mul_any (B o) (B (d / Nat.gcd o d)) U hos hls
            rw [N_B, N_B] at h9
            exact h9
          generalize hx1 : B (Nat.gcd o d) = bg at *
          generalize hx2 : B (d / Nat.gcd o d) = bl at *
          generalize hx3 : B (d % Nat.gcd o d) = br at *
          clear hq hsz his hos hds hdp hd hgp hgs hls hx1 hx2 hx3
          have HBA : Hid (Below w.heap.size w (wr.alloc (FC fn fx fy))) := HB.out.alloc HB.out.size _
          obtain ⟨k0, k1, k2⟩ := (Box.new wr fn fx fy).tri3
          go_wp2_with fail
          clear k0 k1 k2 b0 b1 b2
          refine (HCA.out _).mono ?_
          rintro e w2 ⟨rfl, hb⟩
          have HB2 := hid (HBA.out.trans (hb.mono HBA.out.size))
          clear hb HBA HB
          rw [HDE.out]
          generalize sgn (P i j) = sg0 at *
          generalize nu (P i j) = nu0 at *
          have hfd : ∀ U : World, (Instr.field 33 (.agg #[.bool sg0, .string nu0, .string (B d)]) 2).run Tryz.prog U = .ok (.string (B d)) U := fun _ => by kernel_rfl
          go_wp2_with fail
          clear hfd
          refine (HGC.out _).mono ?_
          rintro e w3 ⟨rfl, hb⟩
          have HB3 := hid (HB2.out.trans (hb.mono HB2.out.size))
          clear hb HB2
          go_wp2_with fail
          refine (HDV.out _).mono ?_
          rintro e w4 ⟨rfl, hb⟩
          have HB4 := hid (HB3.out.trans (hb.mono HB3.out.size))
          clear hb HB3
          go_wp2_with fail
          refine (HMU.out _).mono ?_
          rintro e w5 ⟨rfl, hb⟩
          have HB5 := hid (HB4.out.trans (hb.mono HB4.out.size))
          clear hb HB4
          go_wp2
          go_roundw
          case rel => exact ⟨j + 1, _, by omega, by go_num, rfl, HON, HB5⟩
          case measure => simp [intOf]; omega
        · obtain rfl : n = j := by omega
          have HO2 := hid HO.out.next
          go_wp2
          go_roundw
          case rel => exact ⟨i + 1, o, by omega, by go_num, rfl, HO2, HB⟩
          case measure => simp [intOf]; omega
    · obtain rfl : n = i := by omega
      have hos : (B o).size ≤ 1 + (2 * F + 2) * (n * n) := by have h8 := HO.out.size; rw [Nat.add_zero] at h8; exact h8
      have hop := HO.out.pos
      have HDVD := hid (fun x y (hx : x < n) (hy : y < n) => HO.out.dvd x y hx hy (.inl hx))
      have hob : (B o).size ≤ 1099511627776 := by
        have h6 : n * n ≤ 100 * 100 := Nat.mul_le_mul hn hn
        have h5 : (2 * F + 2) * (n * n) ≤ 80002 * 10000 := Nat.mul_le_mul (by omega) (by omega)
        omega
      clear HO HNN
      have HOS := hid hos
      clear hos
      go_upto_region 14 with (at_make; refine wpList_make_full _ rfl _ _ 97 rfl wr.heap.size 100 i0 (.slice none 0 0) 1 Tryz.underlying97 hi0 hz0 hz1 .i64 .i64 _ _ n rfl rfl (by go_num) (by go_num) (by rw [hz2]; omega) (by unfold maxLen; omega) (Nat.le_refl _) ?_; intro w2 hown2 hgrow2)
      have hb2 := block_of_own hown2
      rw [made_slices] at hb2
      have hB2 : Below wr.heap.size wr w2 := (Below.refl _ wr).grown hgrow2 (Nat.le_refl _) (fun k e => by cases e)
      have HB2 := hid (HB.out.trans (hB2.mono HB.out.size))
      have HK0 : Hid (NfS w n wr.heap.size 0 (ptN P o) w2) := by
        refine ⟨fun _ => ⟨⟨_, by simp, hb2, by rw [List.getElem?_replicate, if_pos (by omega)], fun t _ ht => by simp [ht], fun t ht => absurd ht (by omega)⟩, RwSn.empty _ _, HB.out.size, (Array.getElem?_eq_some_iff.1 hb2).1, Nat.le_refl _, HB2.out⟩, fun e => by omega, HB2.out⟩
      clear hown2 hgrow2 hb2 hB2 HB2 HB
      obtain ⟨G, hG⟩ : ∃ G, wr.heap.size = G := ⟨_, rfl⟩
      rw [hG] at HK0
      simp only [hG]
      clear hG
      go_wp2_with fail
      go_loopw [54] (fun iv wr => ∃ k : Nat, k ≤ n ∧ iv = .int .i64 k ∧ Hid (NfS w n G k (ptN P o) wr)) (fun iv _ => n - (intOf iv).toNat)
      case atStart => exact ⟨0, Nat.zero_le _, rfl, HK0⟩
      case round =>
        obtain ⟨k, hk, rfl, HKf⟩ := hrel
        clear HK0
        by_cases hlt : k < n
        · have hkR : k < R.length := by rw [HW.out.len]; exact hlt
          obtain ⟨g, og, b, c, rfl, hg, c0, hfr⟩ := HR.out.raw hkR
          rw [HW.out.row k hkR] at c0
          have c0' := (HKf.out.2.2.cell (p := ⟨g, _, none⟩) hg).trans c0
          have HFR := hid hfr
          have HK1 := hid (HKf.out.1 hlt)
          clear c0 hfr HKf
          obtain ⟨Mk, hMk⟩ : ∃ x, wr.heap.size = x := ⟨_, rfl⟩
          rw [hMk] at HK1
          clear hMk
          go_wp2_with fail
          clear c0'
          go_loopw [61] (fun jv wr => ∃ j : Nat, j ≤ n ∧ jv = .int .i64 j ∧ ∃ v, Hid (NgS w n G k Mk (ptN P o) v j wr)) (fun jv _ => n - (intOf jv).toNat)
          case atStart => exact ⟨0, Nat.zero_le _, rfl, _, HK1⟩
          case round =>
            obtain ⟨j, hj, rfl, v, HK⟩ := hrel
            clear HK1
            by_cases hlj : j < n
            · have hjR : j < R[k].length := by rw [HW.out.row k hkR]; exact hlj
              obtain ⟨gb, ob, rfl, hgb, b0, b1, b2⟩ := (HFR.out.below HK.out.bel) j hjR
              have hq := HQ.out k j hlt hlj
              have hsz := HW.out.size k j hkR hjR
              have his := HW.out.is k j hkR hjR
              have HCA : Hid (∀ U : World, Calls Tryz.prog 96 #[.agg #[.bool R[k][j].1, .string R[k][j].2.1, .string R[k][j].2.2]] U fun e w' => e = .returned (.agg #[.bool (sgn (P k j)), .string (nu (P k j)), .string (de (P k j))]) ∧ Below U.heap.size U w') := fun U => Canon_q (P k j) his (by omega)
              generalize R[k][j] = f at *
              obtain ⟨rn, rx, ry⟩ := f
              simp only at b0 b1 b2 HCA
              have hds : (de (P k j)).size ≤ 1099511627776 := by
                have h8 : (B (P k j).den).size ≤ qw (P k j) := Nat.le_add_left _ _
                show (B (P k j).den).size ≤ _
                omega
              have hns : (nu (P k j)).size ≤ 1099511627776 := by
                have h8 : (B (P k j).num.natAbs).size ≤ qw (P k j) := Nat.le_add_right _ _
                show (B (P k j).num.natAbs).size ≤ _
                omega
              have HDV : Hid (∀ U : World, Calls Tryz.prog 89 #[.string (B o), .string (de (P k j))] U fun e w' => e = .returned (.tuple #[.string (B (o / (P k j).den)), .string (B (o % (P k j).den)), .bool true]) ∧ Below U.heap.size U w') := fun U => by
                have h9 := Div_yes (B o) (de (P k j)) U hob hds (by rw [de, N_B]; exact Nat.ne_of_gt (P k j).den_pos)
                rw [de, N_B, N_B] at h9
                exact h9
              have HMU : Hid (∀ U : World, Calls Tryz.prog 75 #[.string (nu (P k j)), .string (B (o / (P k j).den))] U fun e w' => e = .returned (.string (B (ptN P o k j))) ∧ Below U.heap.size U w') := fun U => by
                have h9 := Mul_any (nu (P k j)) (B (o / (P k j).den)) U hns (Nat.le_trans (sz_mono (Nat.div_le_self _ _)) hob)
                rw [nu, N_B, N_B] at h9
                exact h9
              generalize sgn (P k j) = fn at *
              generalize nu (P k j) = fx at *
              generalize de (P k j) = fy at *
              generalize B (o / (P k j).den) = sb at *
              generalize B (o % (P k j).den) = sr at *
              clear hq hsz his hds hns
              obtain ⟨dv, cv, rfl, -⟩ := owns_slice HK.out.cur
              rw [lN_length] at HK
              obtain ⟨nv, hnv⟩ : ∃ x, j = x := ⟨_, rfl⟩
              rw [show (Value.slice dv j cv) = .slice dv nv cv by rw [hnv]] at HK
              clear hnv
              have HMUk := hid HK.out.mu
              have HX0 := hid (Box.new wr rn rx ry)
              have HK2 := hid (HK.out.step ((Below.refl wr.heap.size wr).alloc (Nat.le_refl _) (FC rn rx ry)))
              obtain ⟨k0, k1, k2⟩ := HX0.out.tri3
              clear HK
              go_wp2_with fail
              clear k0 k1 k2 b0 b1 b2
              generalize (wr.alloc (FC rn rx ry)) = w3 at *
              obtain ⟨gB, hgB⟩ : ∃ x, wr.heap.size = x := ⟨_, rfl⟩
              rw [hgB] at HX0
              have HGB : Hid (Mk ≤ gB) := by rw [← hgB]; exact HMUk.out
              simp only [hgB]
              clear hgB
              refine (HCA.out _).mono ?_
              rintro e w4 ⟨rfl, hb⟩
              have HX1 := hid (HX0.out.below hb HX0.out.lt)
              have HK3 := hid (HK2.out.step hb)
              clear hb HX0 HK2
              obtain ⟨k0, k1, k2⟩ := HX1.out.tri3
              have f0 := HX1.out.fz 0
              have f1 := HX1.out.fz 1
              have f2 := HX1.out.fz 2
              have HX2 := hid (HX1.out.put fn fx fy)
              have HK4 := hid (HK3.out.away HGB.out fn fx fy HX1.out)
              obtain ⟨j0, j1, j2⟩ := HX2.out.tri3
              go_upto_region 21 with fail
              clear k0 k1 k2 f0 f1 f2
              generalize (((w4.setCell ⟨gB, 0, none⟩ (.bool fn)).setCell ⟨gB, 1, none⟩ (.string fx)).setCell ⟨gB, 2, none⟩ (.string fy)) = w5 at *
              go_wp2_with fail
              clear j0 j1 j2
              refine (HDV.out _).mono ?_
              rintro e w6 ⟨rfl, hb⟩
              have HX := hid (HX2.out.below hb HX2.out.lt)
              have HK := hid (HK4.out.step hb)
              clear hb HX1 HX2 HK3 HK4
              go_upto_region 22 with fail
              replace HK := hid (HK.out.step (Below.refl _ _).drew)
              replace HX := hid HX.out.drew
              refine wp_region_until 13 (fun (b : Bool) (u : World) => b = false → u.cell? ⟨G, k, none⟩ = some (.slice dv nv cv) ∧ u.cell? ⟨gB, 1, none⟩ = some (.string fx)) (by kernel_rfl) (fun _ => ⟨HK.out.cell hlt, HX.out.c1⟩) (fun hSd => ?_)
              generalize w6.drew = u0 at *
              refine wpU_take (i := 0) (oi := _) (v := .slice (some ⟨G, 0, none⟩) n n) (b := false) rfl (by kernel_rfl) (by kernel_rfl) (by kernel_rfl) (by decide) (fun _ _ _ h => h) (Or.inl ⟨by rfl, ?_⟩) (by kernel_rfl) (by assumption) ?_
              · intro u' hSu
                (try simp only [List.getElem_toArray, List.getElem_cons_zero])
                go_simp
              (try simp only [List.getElem_toArray, List.getElem_cons_zero])
              (try simp only [Act.put, List.setIfInBounds_toArray, List.set_cons_zero, List.set_cons_succ])
              refine wpU_take (i := 1) (oi := _) (v := .int .i64 (k : Nat)) (b := false) rfl (by kernel_rfl) (by kernel_rfl) (by kernel_rfl) (by decide) (fun _ _ _ h => h) (Or.inl ⟨by rfl, ?_⟩) (by kernel_rfl) (by assumption) ?_
              · intro u' hSu
                (try simp only [List.getElem_toArray, List.getElem_cons_zero, List.getElem_cons_succ])
                go_simp
              (try simp only [List.getElem_toArray, List.getElem_cons_zero, List.getElem_cons_succ])
              (try simp only [Act.put, List.setIfInBounds_toArray, List.set_cons_zero, List.set_cons_succ])
              refine wpU_take (i := 2) (oi := _) (v := .slice (some ⟨G, 0, none⟩) n n) (b := false) rfl (by kernel_rfl) (by kernel_rfl) (by kernel_rfl) (by decide) (fun _ _ _ h => h) (Or.inl ⟨by rfl, ?_⟩) (by kernel_rfl) (by assumption) ?_
              · intro u' hSu
                (try simp only [List.getElem_toArray, List.getElem_cons_zero, List.getElem_cons_succ])
                go_simp
              (try simp only [List.getElem_toArray, List.getElem_cons_zero, List.getElem_cons_succ])
              (try simp only [Act.put, List.setIfInBounds_toArray, List.set_cons_zero, List.set_cons_succ])
              refine wpU_take (i := 3) (oi := _) (v := .int .i64 (k : Nat)) (b := false) rfl (by kernel_rfl) (by kernel_rfl) (by kernel_rfl) (by decide) (fun _ _ _ h => h) (Or.inl ⟨by rfl, ?_⟩) (by kernel_rfl) (by assumption) ?_
              · intro u' hSu
                (try simp only [List.getElem_toArray, List.getElem_cons_zero, List.getElem_cons_succ])
                go_simp
              (try simp only [List.getElem_toArray, List.getElem_cons_zero, List.getElem_cons_succ])
              (try simp only [Act.put, List.setIfInBounds_toArray, List.set_cons_zero, List.set_cons_succ])
              refine wpU_take (i := 4) (oi := _) (v := .pointer (some ⟨G, k, none⟩)) (b := false) rfl (by kernel_rfl) (by kernel_rfl) (by kernel_rfl) (by decide) (fun _ _ _ h => h) (Or.inl ⟨by rfl, ?_⟩) (by kernel_rfl) (by assumption) ?_
              · intro u' hSu
                (try simp only [List.getElem_toArray, List.getElem_cons_zero, List.getElem_cons_succ])
                go_simp
              (try simp only [List.getElem_toArray, List.getElem_cons_zero, List.getElem_cons_succ])
              (try simp only [Act.put, List.setIfInBounds_toArray, List.set_cons_zero, List.set_cons_succ])
              refine wpU_ahead (i := 5) (oi := _) (v := .slice dv nv cv) rfl (by kernel_rfl) (by kernel_rfl) (by kernel_rfl) (by decide) rfl (by kernel_rfl) (fun _ _ _ h => h) (Or.inl ⟨by rfl, ?_⟩) (by kernel_rfl) (by assumption) ?_
              · intro u' hSu
                (try simp only [List.getElem_toArray, List.getElem_cons_zero, List.getElem_cons_succ])
                obtain ⟨s0, s1⟩ := hSu rfl
                go_simp
              (try simp only [List.getElem_toArray, List.getElem_cons_zero, List.getElem_cons_succ])
              (try simp only [Act.put, List.setIfInBounds_toArray, List.set_cons_zero, List.set_cons_succ])
              refine wpU_take (i := 6) (oi := _) (v := .pointer (some ⟨gB, 1, none⟩)) (b := false) rfl (by kernel_rfl) (by kernel_rfl) (by kernel_rfl) (by decide) (fun _ _ _ h => h) (Or.inl ⟨by rfl, ?_⟩) (by kernel_rfl) (by assumption) ?_
              · intro u' hSu
                (try simp only [List.getElem_toArray, List.getElem_cons_zero, List.getElem_cons_succ])
                go_simp
              (try simp only [List.getElem_toArray, List.getElem_cons_zero, List.getElem_cons_succ])
              (try simp only [Act.put, List.setIfInBounds_toArray, List.set_cons_zero, List.set_cons_succ])
              refine wpU_ahead (i := 7) (oi := _) (v := .string fx) rfl (by kernel_rfl) (by kernel_rfl) (by kernel_rfl) (by decide) rfl (by kernel_rfl) (fun _ _ _ h => h) (Or.inl ⟨by rfl, ?_⟩) (by kernel_rfl) (by assumption) ?_
              · intro u' hSu
                (try simp only [List.getElem_toArray, List.getElem_cons_zero, List.getElem_cons_succ])
                obtain ⟨s0, s1⟩ := hSu rfl
                go_simp
              (try simp only [List.getElem_toArray, List.getElem_cons_zero, List.getElem_cons_succ])
              (try simp only [Act.put, List.setIfInBounds_toArray, List.set_cons_zero, List.set_cons_succ])
              refine wpU_take (i := 8) (oi := _) (v := .string sb) (b := false) rfl (by kernel_rfl) (by kernel_rfl) (by kernel_rfl) (by decide) (fun _ _ _ h => h) (Or.inl ⟨by rfl, ?_⟩) (by kernel_rfl) (by assumption) ?_
              · intro u' hSu
                (try simp only [List.getElem_toArray, List.getElem_cons_zero, List.getElem_cons_succ])
                go_simp
              (try simp only [List.getElem_toArray, List.getElem_cons_zero, List.getElem_cons_succ])
              (try simp only [Act.put, List.setIfInBounds_toArray, List.set_cons_zero, List.set_cons_succ])
              refine wpU_ready (rs := [9]) (by kernel_rfl) (by simp) (AllU.cons (b := false) rfl (by kernel_rfl) ?_ (AllU.nil))
              · intro K' hK'
                (try simp only [List.getElem_toArray, List.getElem_cons_zero, List.getElem_cons_succ])
                go_simp
                refine (HMU.out _).mono ?_
                rintro e u1 ⟨rfl, hb⟩
                replace HX := hid (HX.out.below hb HX.out.lt)
                replace HK := hid (HK.out.step hb)
                refine hK'.out _ _ (fun _ => ⟨HK.out.cell hlt, HX.out.c1⟩) (fun hSe => ?_)
                clear hK' K' hSd
                have hSd := hSe
                clear hSe
                clear hb
                (try simp only [List.getElem_toArray, List.getElem_cons_zero, List.getElem_cons_succ])
                (try simp only [Act.put, List.setIfInBounds_toArray, List.set_cons_zero, List.set_cons_succ])
                refine wpU_ready (rs := [10]) (by kernel_rfl) (by simp) (AllU.cons (b := false) rfl (by kernel_rfl) ?_ (AllU.nil))
                · intro K' hK'
                  (try simp only [List.getElem_toArray, List.getElem_cons_zero, List.getElem_cons_succ])
                  go_simp
                  have hbA := (Below.refl u1.heap.size u1).alloc (Nat.le_refl _) (.cells #[.string (B (ptN P o k j))] 31)
                  have HY : Hid ((u1.alloc (.cells #[.string (B (ptN P o k j))] 31)).cell? ⟨u1.heap.size, 0, none⟩ = some (.string (B (ptN P o k j)))) := by
                    show _ = _
                    rw [cell_of_row _ _ _ _ _ (0, 0) (heap_alloc_new u1 _)]
                    rfl
                  replace HX := hid (HX.out.below hbA HX.out.lt)
                  replace HK := hid (HK.out.step hbA)
                  clear hbA
                  refine hK'.out _ _ (fun _ => ⟨HK.out.cell hlt, HX.out.c1⟩) (fun hSe => ?_)
                  clear hK' K' hSd
                  have hSd := hSe
                  clear hSe
                  obtain ⟨gy, hgy⟩ : ∃ x, u1.heap.size = x := ⟨_, rfl⟩
                  obtain ⟨Vy, hV⟩ : ∃ x, u1.alloc (.cells #[.string (B (ptN P o k j))] 31) = x := ⟨_, rfl⟩
                  rw [hV] at HY HK HX hSd
                  rw [hgy] at HY
                  simp only [hV]
                  simp only [hgy]
                  clear hgy hV
                  (try simp only [List.getElem_toArray, List.getElem_cons_zero, List.getElem_cons_succ])
                  (try simp only [Act.put, List.setIfInBounds_toArray, List.set_cons_zero, List.set_cons_succ])
                  refine wpU_ready (rs := [11]) (by kernel_rfl) (by simp) (AllU.cons (b := false) rfl (by kernel_rfl) ?_ (AllU.nil))
                  · intro K' hK'
                    rw [if_pos (by rfl)]
                    refine wp_append_st _ _ rfl Mk (.slice dv nv cv) (lN j (ptN P o k)) (ptN P o k j) rfl HK.out.cur gy rfl HY.out (by rw [lN_length]; omega) HK.out.mu ?_
                    intro v2 V8 hr8 hg8
                    obtain ⟨d8, c8, rfl, -⟩ := owns_slice hr8
                    have HX8 : Hid (Box V8 gB fn fx fy) := KeepT.grown hg8 (owns_typed HK.out.cur) (by decide) gB _ _ HX.out
                    have HS8 : Hid (V8.cell? ⟨G, k, none⟩ = some (.slice dv nv cv) ∧ V8.frozen? ⟨G, k, none⟩ = false) := by
                      obtain ⟨X, h1, h2, h3, h4, h5⟩ := HK.out.pre hg8
                      have hk' : k < X.length := by omega
                      refine ⟨?_, h2.fz k⟩
                      rw [h2.cell k hk']
                      rw [List.getElem?_eq_getElem hk'] at h3
                      exact h3
                    have HKN := hid (HK.out.push hlt hg8 hr8)
                    obtain ⟨n8, hn8⟩ : ∃ x, (lN j (ptN P o k) ++ [ptN P o k j]).length = x := ⟨_, rfl⟩
                    simp only [hn8] at HKN ⊢
                    clear hn8
                    refine hK'.out _ _ (fun _ => ⟨HS8.out.1, HX8.out.c1⟩) (fun hSe => ?_)
                    clear hK' K' hSd hr8 hg8 HK HY HX
                    have hSd := hSe
                    clear hSe
                    (try simp only [List.getElem_toArray, List.getElem_cons_zero, List.getElem_cons_succ])
                    (try simp only [Act.put, List.setIfInBounds_toArray, List.set_cons_zero, List.set_cons_succ])
                    refine wpU_take (i := 12) (oi := _) (v := .pointer (some ⟨G, k, none⟩)) (b := false) rfl (by kernel_rfl) (by kernel_rfl) (by kernel_rfl) (by decide) (fun _ _ _ h => h) (Or.inl ⟨by rfl, ?_⟩) (by kernel_rfl) (by assumption) ?_
                    · intro u' hSu
                      (try simp only [List.getElem_toArray, List.getElem_cons_zero, List.getElem_cons_succ])
                      go_simp
                    (try simp only [List.getElem_toArray, List.getElem_cons_zero, List.getElem_cons_succ])
                    (try simp only [Act.put, List.setIfInBounds_toArray, List.set_cons_zero, List.set_cons_succ])
                    have q0 := HS8.out.1
                    have q1 := HS8.out.2
                    refine wpU_ready (rs := [13]) (by kernel_rfl) (by simp) (AllU.cons (b := true) rfl (by kernel_rfl) ?_ (AllU.nil))
                    · intro K' hK'
                      (try simp only [List.getElem_toArray, List.getElem_cons_zero, List.getElem_cons_succ])
                      go_simp
                      refine hK'.out _ _ (fun e => by cases e) (fun _ => wpU_done (by kernel_rfl) ?_ _)
                      clear hK' K' hSd q0 q1 HS8 HX8
                      go_wp2
                      go_roundw
                      case rel => exact ⟨j + 1, by omega, by go_num, .slice d8 n8 c8, HKN⟩
                      case measure => simp [intOf]; omega
            · obtain rfl : n = j := by omega
              have HKE := hid (HK.out.end h1)
              go_wp2
              go_roundw
              case rel => exact ⟨k + 1, by omega, by go_num, HKE⟩
              case measure => simp [intOf]; omega
        · obtain rfl : n = k := by omega
          have HRT := hid (HKf.out.2.1 rfl)
          have HBF := hid HKf.out.2.2
          clear HKf
          go_wp2
          go_ret2
          exact ⟨G, o, ptN P o, rfl, HRT.out, hop, HOS.out, fun x y hx hy => ⟨ptN_is (HPS.out x y hx hy) (HDVD.out x y hx hy), ptN_size (HQ.out x y hx hy)⟩, HBF.out⟩
end Go.Proofs.YtbejijgelljeaaaGreatDoor
