/- Package table: Product. -/
import Derived.Test.YtncccbdledcibaaGreatDoorStandBToProdA
import Derived.Laws.EntriesVeiled
namespace Go.Proofs.YtncccbdledcibaaGreatDoor
open Go.RowKit Go.Shelf

/-- The four fields of two tables in a row. -/
def Row4 (w : World) (g : Nat) (x y z t : Value) : Prop := w.heap[g]? = some (.cells #[x, y, z, t] 31 (0, 0))
theorem Row4.lt {w : World} {g : Nat} {x y z t : Value} (h : Row4 w g x y z t) : g < w.heap.size := (Array.getElem?_eq_some_iff.1 h).1
/-- What Product holds. -/
def PH (w V : World) (x y z t : Value) : Prop := TBox V w.heap.size x y ∧ TBox V (w.heap.size + 1) z t ∧ TBox V (w.heap.size + 1 + 1) (.slice none 0 0) (.slice none 0 0) ∧ Row4 V (w.heap.size + 1 + 1 + 1) x y z t ∧ Below w.heap.size w V
theorem PH.step {w V V' : World} {x y z t : Value} (h : PH w V x y z t) (hb : Below V.heap.size V V') : PH w V' x y z t := ⟨h.1.below hb h.1.lt, h.2.1.below hb h.2.1.lt, h.2.2.1.below hb h.2.2.1.lt, (hb.block _ h.2.2.2.1.lt).trans h.2.2.2.1, h.2.2.2.2.trans (hb.mono h.2.2.2.2.size)⟩
theorem PH.drew {w V : World} {x y z t : Value} (h : PH w V x y z t) : PH w V.drew x y z t := ⟨h.1, h.2.1, h.2.2.1, h.2.2.2.1, h.2.2.2.2.drew⟩
theorem PH.new (w : World) (x y z t : Value) : PH w ((((w.alloc (TC x y)).alloc (TC z t)).alloc (TC (.slice none 0 0) (.slice none 0 0))).alloc (.cells #[x, y, z, t] 31)) x y z t := by
  refine ⟨((TBox.at rfl _ _).alloc _ |>.alloc _).alloc _, ((TBox.at (by simp) _ _).alloc _).alloc _, (TBox.at (by simp) _ _).alloc _, ?_, ((((Below.refl _ w).alloc (Nat.le_refl _) _).alloc (by simp) _).alloc (by simp; omega) _).alloc (by simp; omega) _⟩
  have h := heap_alloc_new (((w.alloc (TC x y)).alloc (TC z t)).alloc (TC (.slice none 0 0) (.slice none 0 0))) (.cells #[x, y, z, t] 31)
  rw [World.size_alloc, World.size_alloc, World.size_alloc] at h
  exact h
/-- The i-th table's fields. -/
theorem PH.row {w V : World} {x y z t : Value} (h : PH w V x y z t) : (V.cell? ⟨w.heap.size + 1 + 1 + 1, 0, none⟩ = some x ∧ V.cell? ⟨w.heap.size + 1 + 1 + 1, 1, none⟩ = some y) ∧ V.cell? ⟨w.heap.size + 1 + 1 + 1, 2, none⟩ = some z ∧ V.cell? ⟨w.heap.size + 1 + 1 + 1, 3, none⟩ = some t := by
  refine ⟨⟨?_, ?_⟩, ?_, ?_⟩ <;> (rw [cell_of_row _ _ _ _ _ (0, 0) h.2.2.2.1]; rfl)
/-- What is no nil function lies elsewhere. -/
theorem nil_far {V : World} {B b j : Nat} {t : TypeId} {x : Value} (h : Boxed V B t .nilFunc) (hx : V.cell? ⟨b, j, none⟩ = some x) (hn : x ≠ .nilFunc) : b ≠ B := fun e => by
  subst e
  rw [cell_of_row V b j _ _ (0, 0) h] at hx
  match j with
  | 0 => simp at hx; exact hn hx.symm
  | j + 1 => simp at hx
theorem intS_nil {V : World} {B : Nat} {t : TypeId} {c : Option Addr} {l : List Int} (h : Boxed V B t .nilFunc) (hi : IntS V c l) (y : Value) : IntS (V.setCell ⟨B, 0, none⟩ y) c l := fun k hk => by
  obtain ⟨g, o, rfl, hlt, hc⟩ := hi k hk
  have hne := nil_far h hc (by simp)
  exact ⟨g, o, rfl, Nat.lt_of_lt_of_le hlt (KeepsOthers.setCell V _ _).size, (World.cell?_setCell_other _ _ _ _ (fun e => hne (congrArg Addr.block e).symm)).trans hc⟩
theorem PH.nil {w V : World} {x y z t : Value} {B : Nat} {ty : TypeId} (h : PH w V x y z t) (hx : SlV x) (hz : SlV z) (hb : Boxed V B ty .nilFunc) (hB : w.heap.size ≤ B) (u : Value) : PH w (V.setCell ⟨B, 0, none⟩ u) x y z t := by
  obtain ⟨a1, n1, c1, rfl⟩ := hx
  obtain ⟨a2, n2, c2, rfl⟩ := hz
  have h4 := h.row.1.1
  exact ⟨h.1.off B 0 u (nil_far hb h.1.c0 (by simp)), h.2.1.off B 0 u (nil_far hb h.2.1.c0 (by simp)), h.2.2.1.off B 0 u (nil_far hb h.2.2.1.c0 (by simp)), (Below.heap_setCell V ⟨B, 0, none⟩ u _ (nil_far hb h4 (by simp))).trans h.2.2.2.1, h.2.2.2.2.setCell (p := ⟨B, 0, none⟩) hB u⟩
theorem prodL_length (S va vb U : List Nat) (la lb : List Fr) : (prodL S va vb U la lb).length = cnt S U := by simp [prodL]
theorem prodL_get (S va vb U : List Nat) (la lb : List Fr) {k : Nat} (h : k < (prodL S va vb U la lb).length) : (prodL S va vb U la lb)[k] = qF (frQ (celF la (pos S (asg S U k) va)) * frQ (celF lb (pos S (asg S U k) vb))) := by simp [prodL]
theorem stand_lt {sizes vars U : List Int} {K m : Nat} (hk : checkA sizes vars m = 0) (hK : K < cnt (toN sizes) (toN U)) : pos (toN sizes) (asg (toN sizes) (toN U) K) (toN vars) < m := by
  obtain ⟨h1, h2, h3⟩ := checkA_parts hk
  rw [h3]
  exact pos_lt _ (fun u => asg_lt h1.pos _ _ u hK) _

end Go.Proofs.YtncccbdledcibaaGreatDoor


/- Plain facts for the sums' order: taking two variables out in either order leaves the same numbers; what has nothing of a variable may be taken out of the sum. -/
namespace Go.Proofs.YtncccbdledcibaaGreatDoor
open Go.RowKit Go.Shelf

theorem pos_congr (S : List Nat) {f g : Nat → Nat} : ∀ {vs : List Nat}, (∀ u ∈ vs, f u = g u) → pos S f vs = pos S g vs := by
  intro vs h
  have key : ∀ (vs : List Nat) (k : Nat), (∀ u ∈ vs, f u = g u) → vs.foldl (fun k v => k * sz S v + f v) k = vs.foldl (fun k v => k * sz S v + g v) k := by
    intro vs
    induction vs with
    | nil => intro k _; rfl
    | cons v vs ih =>
      intro k h
      rw [List.foldl_cons, List.foldl_cons, h v List.mem_cons_self, ih _ fun u hu => h u (List.mem_cons_of_mem _ hu)]
  exact key vs 0 h
theorem pos_cons (S : List Nat) (f : Nat → Nat) (v : Nat) (vs : List Nat) : pos S f (v :: vs) = f v * cnt S vs + pos S f vs := by
  show vs.foldl (fun k v => k * sz S v + f v) (0 * sz S v + f v) = _
  rw [foldl_pos S f vs, Nat.zero_mul, Nat.zero_add]
theorem asg_pos {S : List Nat} (hp : Pos S) {f : Nat → Nat} (hf : ∀ u, f u < sz S u) : ∀ {vs : List Nat}, vs.Nodup → ∀ u ∈ vs, asg S vs (pos S f vs) u = f u
  | [], _, u, hu => by cases hu
  | v :: vs, hn, u, hu => by
    rw [List.nodup_cons] at hn
    have hlt := pos_lt f hf vs
    have hc := cnt_pos hp vs
    rw [pos_cons, asg]
    by_cases e : u = v
    · rw [if_pos e, e, Nat.mul_comm, Nat.mul_add_div hc, Nat.div_eq_of_lt hlt, Nat.add_zero]
    · rw [if_neg e, Nat.mul_comm, Nat.mul_add_mod, Nat.mod_eq_of_lt hlt]
      exact asg_pos hp hf hn.2 u ((List.mem_cons.1 hu).resolve_left e)
theorem celF_map {n k : Nat} (g : Nat → Fr) (h : k < n) : celF ((List.range n).map g) k = g k := by
  rw [celF_eq (by simpa using h)]; simp

/-- What two make. -/
def opQ (most : Bool) (p q : Rat) : Rat := if most then (if p < q then q else p) else p + q
/-- What is left of so many numbers. -/
def outQ (most : Bool) (g : Nat → Rat) : Nat → Rat
  | 0 => g 0
  | k + 1 => opQ most (outQ most g k) (g (k + 1))
theorem cmpQ_neg {p q : Rat} : cmpQ p q < 0 ↔ p < q := by
  rw [cmpQ]
  by_cases h : p < q
  · rw [if_pos h]; exact ⟨fun _ => h, fun _ => by decide⟩
  · rw [if_neg h]
    by_cases e : p = q
    · rw [if_pos e]; exact ⟨fun h => absurd h (by decide), fun h' => absurd h' h⟩
    · rw [if_neg e]; exact ⟨fun h => absurd h (by decide), fun h' => absurd h' h⟩
theorem frQ_outN (most : Bool) (T : Nat → Fr) : ∀ k, frQ (outN most T k) = outQ most (fun x => frQ (T x)) k
  | 0 => rfl
  | k + 1 => by
    rw [outN, outQ, ← frQ_outN most T k]
    cases most with
    | false => simp only [opQ, Bool.false_eq_true, if_false]; exact frQ_qF _
    | true =>
      simp only [opQ, if_true, great]
      by_cases h : cmpQ (frQ (outN true T k)) (frQ (T (k + 1))) < 0
      · rw [if_pos h, if_pos (cmpQ_neg.1 h)]
      · rw [if_neg h, if_neg fun e => h (cmpQ_neg.2 e)]
theorem outQ_congr (most : Bool) {g h : Nat → Rat} : ∀ {k : Nat}, (∀ x, x ≤ k → g x = h x) → outQ most g k = outQ most h k
  | 0, e => e 0 (Nat.le_refl _)
  | k + 1, e => by rw [outQ, outQ, outQ_congr most fun x hx => e x (by omega), e (k + 1) (Nat.le_refl _)]
theorem opQ_comm (most : Bool) (p q : Rat) : opQ most p q = opQ most q p := by
  cases most with
  | false => exact Rat.add_comm p q
  | true =>
    simp only [opQ, if_true]
    rcases Rat.le_total (a := p) (b := q) with h | h
    · by_cases e : p = q
      · subst e; rfl
      · have h1 : p < q := Rat.lt_of_le_of_ne h e
        rw [if_pos h1, if_neg (Rat.not_lt.2 h)]
    · by_cases e : q = p
      · subst e; rfl
      · have h1 : q < p := Rat.lt_of_le_of_ne h e
        rw [if_neg (Rat.not_lt.2 h), if_pos h1]
theorem rlt {p q r : Rat} (h1 : p < q) (h2 : q < r) : p < r := Rat.not_le.1 fun h => Rat.not_le.2 h1 (Rat.le_trans (Rat.le_of_lt h2) h)
theorem opQ_assoc (most : Bool) (p q r : Rat) : opQ most (opQ most p q) r = opQ most p (opQ most q r) := by
  cases most with
  | false => exact Rat.add_assoc p q r
  | true =>
    simp only [opQ, if_true]
    by_cases h1 : p < q
    · by_cases h2 : q < r
      · rw [if_pos h1, if_pos h2, if_pos (rlt h1 h2)]
      · rw [if_pos h1, if_neg h2, if_pos h1]
    · by_cases h2 : q < r
      · rw [if_neg h1, if_pos h2]
      · rw [if_neg h1, if_neg h2, if_neg h1, if_neg]
        exact Rat.not_lt.2 (Rat.le_trans (Rat.not_lt.1 h2) (Rat.not_lt.1 h1))
theorem opQ_four (most : Bool) (p q r s : Rat) : opQ most (opQ most p q) (opQ most r s) = opQ most (opQ most p r) (opQ most q s) := by
  rw [opQ_assoc, opQ_assoc, ← opQ_assoc most q r s, opQ_comm most q r, opQ_assoc most r q s]
theorem outQ_op (most : Bool) (g h : Nat → Rat) : ∀ k, outQ most (fun x => opQ most (g x) (h x)) k = opQ most (outQ most g k) (outQ most h k)
  | 0 => rfl
  | k + 1 => by rw [outQ, outQ, outQ, outQ_op most g h k, opQ_four]
theorem outQ_swap (most : Bool) (g : Nat → Nat → Rat) (m : Nat) : ∀ n, outQ most (fun x => outQ most (fun y => g x y) m) n = outQ most (fun y => outQ most (fun x => g x y) n) m
  | 0 => rfl
  | n + 1 => by
    rw [outQ, outQ_swap most g m n, ← outQ_op]
    rfl
theorem outQ_mul (A : Rat) (g : Nat → Rat) : ∀ k, outQ false (fun x => A * g x) k = A * outQ false g k
  | 0 => rfl
  | k + 1 => by
    rw [outQ, outQ, outQ_mul A g k]
    simp only [opQ, Bool.false_eq_true, if_false]
    rw [Rat.mul_add]

theorem withV_comm (f : Nat → Nat) {u v : Nat} (x y : Nat) (h : u ≠ v) : withV (withV f v x) u y = withV (withV f u y) v x := by
  funext z
  simp only [withV]
  by_cases e : z = u
  · rw [if_pos e, if_neg (by omega), if_pos e]
  · rw [if_neg e, if_neg e]
/-- A number of what is left. -/
theorem out_cell {S vars rest : List Nat} (hp : Pos S) (hr : rest.Nodup) {v : Nat} (hv : ∀ u ∈ vars, u = v ∨ u ∈ rest) (most : Bool) (l : List Fr) {f : Nat → Nat} (hf : ∀ u, f u < sz S u) :
    frQ (celF (outL S vars rest v most l) (pos S f rest)) = outQ most (fun x => frQ (celF l (pos S (withV f v x) vars))) (sz S v - 1) := by
  rw [outL, celF_map _ (pos_lt f hf rest), frQ_qF, frQ_outN]
  refine outQ_congr most fun x _ => ?_
  rw [pos_congr S (f := withV (asg S rest (pos S f rest)) v x) (g := withV f v x)]
  intro u hu
  simp only [withV]
  by_cases e : u = v
  · rw [if_pos e, if_pos e]
  · rw [if_neg e, if_neg e]; exact asg_pos hp hf hr u ((hv u hu).resolve_left e)
theorem prod_cell {S va vb U : List Nat} (hp : Pos S) (hr : U.Nodup) (hva : ∀ u ∈ va, u ∈ U) (hvb : ∀ u ∈ vb, u ∈ U) (la lb : List Fr) {f : Nat → Nat} (hf : ∀ u, f u < sz S u) :
    frQ (celF (prodL S va vb U la lb) (pos S f U)) = frQ (celF la (pos S f va)) * frQ (celF lb (pos S f vb)) := by
  rw [prodL, celF_map _ (pos_lt f hf U), frQ_qF, pos_congr S (f := asg S U (pos S f U)) (g := f) fun u hu => asg_pos hp hf hr u (hva u hu), pos_congr S (f := asg S U (pos S f U)) (g := f) fun u hu => asg_pos hp hf hr u (hvb u hu)]
theorem map_range_congr {n : Nat} {g h : Nat → Fr} (e : ∀ k, k < n → g k = h k) : (List.range n).map g = (List.range n).map h := List.map_congr_left fun k hk => e k (List.mem_range.1 hk)
/-- Two variables may be taken out in either order. -/
theorem out_swap {S vars ru rv R : List Nat} (hp : Pos S) {u v : Nat} (huv : u ≠ v) (hru : ru.Nodup) (hrv : rv.Nodup) (h1 : ∀ x ∈ vars, x = u ∨ x ∈ ru) (h2 : ∀ x ∈ vars, x = v ∨ x ∈ rv) (most : Bool) (l : List Fr) :
    outL S ru R v most (outL S vars ru u most l) = outL S rv R u most (outL S vars rv v most l) := by
  show (List.range (cnt S R)).map _ = (List.range (cnt S R)).map _
  refine map_range_congr fun K hK => ?_
  rw [frQ_outN, frQ_outN]
  have hf := fun z => asg_lt hp R K z hK
  have su := sz_pos hp u
  have sv := sz_pos hp v
  congr 1
  rw [outQ_congr most (h := fun x => outQ most (fun y => frQ (celF l (pos S (withV (withV (asg S R K) v x) u y) vars))) (sz S u - 1)) fun x hx => out_cell hp hru h1 most l (withV_lt hf (by omega)),
    outQ_congr most (k := sz S u - 1) (h := fun y => outQ most (fun x => frQ (celF l (pos S (withV (withV (asg S R K) u y) v x) vars))) (sz S v - 1)) fun y hy => out_cell hp hrv h2 most l (withV_lt hf (by omega)),
    outQ_swap]
  refine outQ_congr most fun y _ => outQ_congr most fun x _ => ?_
  rw [withV_comm _ _ _ huv]
/-- What has nothing of a variable may be taken out of the sum. -/
theorem out_prod {S va vb rb U R : List Nat} (hp : Pos S) {v : Nat} (hU : U.Nodup) (hrb : rb.Nodup) (h1 : ∀ x ∈ va, x ∈ U) (h2 : ∀ x ∈ vb, x ∈ U) (h3 : ∀ x ∈ vb, x = v ∨ x ∈ rb) (hv : ¬ v ∈ va) (la lb : List Fr) :
    outL S U R v false (prodL S va vb U la lb) = prodL S va rb R la (outL S vb rb v false lb) := by
  show (List.range (cnt S R)).map _ = (List.range (cnt S R)).map _
  refine map_range_congr fun K hK => ?_
  rw [frQ_outN]
  have hf := fun z => asg_lt hp R K z hK
  have sv := sz_pos hp v
  congr 1
  rw [outQ_congr false (h := fun x => frQ (celF la (pos S (asg S R K) va)) * frQ (celF lb (pos S (withV (asg S R K) v x) vb))) fun x hx => ?_, outQ_mul, out_cell hp hrb h3 false lb hf]
  rw [prod_cell hp hU h1 h2 la lb (withV_lt hf (by omega)), pos_congr S (f := withV (asg S R K) v x) (g := asg S R K) (vs := va)]
  intro u hu
  rw [withV, if_neg fun e => hv (by rw [← e]; exact hu)]
theorem prod_comm (S va vb U : List Nat) (la lb : List Fr) : prodL S va vb U la lb = prodL S vb va U lb la := by
  rw [prodL, prodL]
  exact map_range_congr fun K _ => by rw [Rat.mul_comm]

/-- Numbers in lowest terms, of so many bytes at most. -/
def Sml (s : Nat) (l : List Fr) : Prop := ∀ f ∈ l, ∃ q, f = qF q ∧ qw q ≤ s
theorem Sml.fw {s : Nat} : ∀ {l : List Fr}, Sml s l → fw l ≤ (s + 2) * l.length
  | [], _ => by simp [Go.Proofs.YtncccbdledcibaaGreatDoor.fw]
  | f :: l, h => by
    obtain ⟨q, rfl, hq⟩ := h f List.mem_cons_self
    have ih := Sml.fw (s := s) (l := l) fun g hg => h g (List.mem_cons_of_mem _ hg)
    have e : (nu q).size + (de q).size = qw q := rfl
    show (nu q).size + (de q).size + 2 + Go.Proofs.YtncccbdledcibaaGreatDoor.fw l ≤ _
    rw [List.length_cons, Nat.mul_add, Nat.mul_one]
    omega
theorem Sml.cel {s : Nat} {l : List Fr} (h : Sml s l) {k : Nat} (hk : k < l.length) : qw (frQ (celF l k)) ≤ s := by
  obtain ⟨q, hq, hs⟩ := h (celF l k) (by rw [celF_eq hk]; exact List.getElem_mem hk)
  rw [hq, frQ_qF]; exact hs
theorem opQ_most {s : Nat} {p q : Rat} (hp : qw p ≤ s) (hq : qw q ≤ s) : qw (opQ true p q) ≤ s := by
  simp only [opQ, if_true]
  by_cases h : p < q
  · rw [if_pos h]; exact hq
  · rw [if_neg h]; exact hp
theorem outQ_size {s : Nat} (most : Bool) {g : Nat → Rat} : ∀ {k : Nat}, k ≤ 2 → (∀ x, x ≤ k → qw (g x) ≤ s) → qw (outQ most g k) ≤ 10 * s + 3
  | 0, _, h => by have := h 0 (Nat.le_refl _); rw [outQ]; omega
  | 1, _, h => by
    have h0 := h 0 (by omega)
    have h1 := h 1 (by omega)
    cases most with
    | false =>
      have := qw_add (g 0) (g 1)
      show qw (g 0 + g 1) ≤ _
      omega
    | true => exact Nat.le_trans (opQ_most h0 h1) (by omega)
  | 2, _, h => by
    have h0 := h 0 (by omega)
    have h1 := h 1 (by omega)
    have h2 := h 2 (by omega)
    cases most with
    | false =>
      have := qw_add (g 0) (g 1)
      have := qw_add (g 0 + g 1) (g 2)
      show qw (g 0 + g 1 + g 2) ≤ _
      omega
    | true => exact Nat.le_trans (opQ_most (opQ_most h0 h1) h2) (by omega)
  | k + 3, hk, _ => by omega
theorem Sml.out {S vars rest : List Nat} {v s : Nat} {l : List Fr} (h : Sml s l) (hp : Pos S) (hl : l.length = cnt S vars) (hs : sz S v ≤ 3) (most : Bool) : Sml (10 * s + 3) (outL S vars rest v most l) := by
  intro f hf
  obtain ⟨K, hK, rfl⟩ := List.mem_map.1 hf
  have hf' := fun z => asg_lt hp rest K z (List.mem_range.1 hK)
  have sv := sz_pos hp v
  refine ⟨_, rfl, ?_⟩
  rw [frQ_outN]
  exact outQ_size most (by omega) fun x hx => h.cel (by rw [hl]; exact pos_lt _ (withV_lt hf' (by omega)) _)
theorem Sml.prod {S va vb U : List Nat} {s t : Nat} {la lb : List Fr} (ha : Sml s la) (hb : Sml t lb) (hp : Pos S) (hla : la.length = cnt S va) (hlb : lb.length = cnt S vb) : Sml (s + t) (prodL S va vb U la lb) := by
  intro f hf
  obtain ⟨K, hK, rfl⟩ := List.mem_map.1 hf
  have hf' := fun z => asg_lt hp U K z (List.mem_range.1 hK)
  refine ⟨_, rfl, ?_⟩
  have h1 := ha.cel (k := pos S (asg S U K) va) (by rw [hla]; exact pos_lt _ hf' _)
  have h2 := hb.cel (k := pos S (asg S U K) vb) (by rw [hlb]; exact pos_lt _ hf' _)
  have := qw_mul (frQ (celF la (pos S (asg S U K) va))) (frQ (celF lb (pos S (asg S U K) vb)))
  omega
theorem cnt_three {S : List Nat} (h : ∀ v, sz S v ≤ 3) : ∀ vs : List Nat, cnt S vs ≤ 3 ^ vs.length
  | [] => Nat.le_refl _
  | v :: vs => by rw [cnt, List.length_cons, Nat.pow_succ, Nat.mul_comm]; exact Nat.mul_le_mul (cnt_three h vs) (h v)
theorem int_size {z : Int} (h : z.natAbs ≤ 255) : qw (z : Rat) ≤ 2 := by
  show (B z.natAbs).size + (B 1).size ≤ 2
  have h1 := B_one_size
  have h2 : (B z.natAbs).size ≤ 1 := by rw [B_size]; exact bn_fits 1 _ (by show _ < 256; omega)
  omega
end Go.Proofs.YtncccbdledcibaaGreatDoor

/- The document's answer: what a table has for an assignment of all variables. -/
namespace Go.Proofs.YtncccbdledcibaaGreatDoor
open Go.RowKit Go.Shelf

/-- What cell holds. -/
def CH (w V : World) (u v : Value) : Prop := TBox V w.heap.size u v ∧ Box V (w.heap.size + 1) false ⟨#[]⟩ ⟨#[]⟩ ∧ Below w.heap.size w V
theorem CH.dn {w V : World} {u v : Value} (h : CH w V u v) (k : Nat) : CH w (V.drewN k) u v := ⟨h.1, h.2.1, below_dn h.2.2 k⟩
theorem RowI_get {l : List Nat} {i : Nat} (h : i < (iL l).length) : (iL l)[i] = ((l[i]'(by rw [iL_length] at h; exact h) : Nat) : Int) := by simp [iL]

set_option maxRecDepth 100000 in
set_option maxHeartbeats 1000000 in
theorem rCell_any (a b c d : Option Addr) (ca cb cc cd : Nat) (sizes vars : List Int) (l : List Fr) (f : Nat → Nat) (w : World) (hs : IntS w a sizes) (hv : IntS w b vars) (hl : FrS w c l) (hd : IntS w d (iL (spr sizes.length f))) (hfi : Fine sizes) (hup : Up vars sizes.length) (hf : ∀ u, f u < sz (toN sizes) u) (hP : pos (toN sizes) f (toN vars) < l.length) :
    Calls Tryz.prog 62 #[.slice a sizes.length ca, .agg #[.slice b vars.length cb, .slice c l.length cc], .slice d sizes.length cd] w fun e w' => e = .returned (frV (celF l (pos (toN sizes) f (toN vars)))) ∧ Below w.heap.size w w' := by
  have HS := hid hs
  have HV := hid hv
  have HL := hid hl
  have HD := hid hd
  have HFI := hid hfi
  have HUP := hid hup
  have HF := hid hf
  have hl8 := hfi.eight
  have hvl := hup.length
  obtain ⟨fr, hfr⟩ : ∃ fr, fr = celF l (pos (toN sizes) f (toN vars)) := ⟨_, rfl⟩
  rw [← hfr]
  have HFR := hid hfr
  clear hfr
  have HFIN : Hid ((toN vars).take vars.length = toN vars) := by show _ = _; rw [← toN_length vars, List.take_length]
  clear hs hv hl hd hfi hup hf
  have hH : CH w ((w.alloc (TC (.slice b vars.length cb) (.slice c l.length cc))).alloc (FC false ⟨#[]⟩ ⟨#[]⟩)) (.slice b vars.length cb) (.slice c l.length cc) := ⟨(TBox.at (w := w) rfl _ _).alloc _, Box.at (w := w.alloc (TC (.slice b vars.length cb) (.slice c l.length cc))) (by simp) _ _ _, ((Below.refl _ w).alloc (Nat.le_refl _) _).alloc (by simp) _⟩
  go_enter Tryz.func62, Tryz.ntmps62
  go_wp2_with fail
  generalize ((w.alloc (TC (.slice b vars.length cb) (.slice c l.length cc))).alloc (FC false ⟨#[]⟩ ⟨#[]⟩)) = W at *
  have HH := hid hH
  clear hH
  go_loopw [7, 8] (fun kv iv wr => ∃ i : Nat, i ≤ vars.length ∧ iv = .int .i64 i ∧ kv = .int .i64 (pos (toN sizes) f ((toN vars).take i) : Nat) ∧ Hid (CH w wr (.slice b vars.length cb) (.slice c l.length cc))) (fun _ iv _ => vars.length - (intOf iv).toNat)
  case atStart => exact ⟨0, Nat.zero_le _, rfl, rfl, HH⟩
  case round =>
    obtain ⟨i, hi, rfl, rfl, HC⟩ := hrel
    clear HH
    have t0 := HC.out.1.c0
    by_cases hlt : i < vars.length
    · have hB := HC.out.2.2
      obtain ⟨g, o, rfl, hg, c0⟩ := (HV.out.below hB) i hlt
      obtain ⟨hvi, hvn⟩ := HUP.out.nat hlt
      have hst : pos (toN sizes) f ((toN vars).take (i + 1)) = pos (toN sizes) f ((toN vars).take i) * sz (toN sizes) vars[i].toNat + f vars[i].toNat := by
        rw [pos_take _ _ (show i < (toN vars).length by rw [toN_length]; exact hlt), toN_get hlt]
      have hbd : pos (toN sizes) f ((toN vars).take (i + 1)) < 65537 := by
        have h1 := pos_lt f HF.out ((toN vars).take (i + 1))
        have h2 : cnt (toN sizes) ((toN vars).take (i + 1)) ≤ 65536 := cnt_small HFI.out.sz_le (by rw [List.length_take, toN_length]; omega)
        omega
      generalize hV : vars[i].toNat = v at *
      rw [← hvi] at c0
      obtain ⟨g', o', rfl, hg', c1⟩ := (HS.out.below hB) v hvn
      rw [← HFI.out.sz_eq hvn] at c1
      obtain ⟨g2, o2, rfl, hg2, c2⟩ := (HD.out.below hB) v (by rw [iL_length, spr_length]; exact hvn)
      rw [RowI_get, spr_get hvn] at c2
      have HST := hid hst
      rw [hst] at hbd
      clear hst hvi hV
      generalize pos (toN sizes) f ((toN vars).take i) = X at *
      generalize sz (toN sizes) v = Y at *
      generalize f v = x at *
      have hpi : ((X : Nat) : Int) * ((Y : Nat) : Int) = ((X * Y : Nat) : Int) := (Int.natCast_mul _ _).symm
      have hp0 : 0 ≤ (X : Int) * (Y : Int) := by rw [hpi]; omega
      have hp1 : (X : Int) * (Y : Int) + (x : Int) ≤ 65536 := by rw [hpi]; omega
      have HFN : Hid ((X : Int) * (Y : Int) + (x : Int) = ((X * Y + x : Nat) : Int)) := by show _ = _; rw [hpi]; omega
      clear hpi hbd
      go_wp2_with fail
      go_quiet (fail)
      go_wp2
      go_roundw
      case rel => exact ⟨i + 1, by omega, by go_num, by rw [HST.out, ← HFN.out], HC.out.dn _⟩
      case measure => simp [intOf]; omega
    · obtain rfl : i = vars.length := by omega
      rw [HFIN.out]
      have t1 := HC.out.1.c1
      obtain ⟨g, o, rfl, hg, a0, a1, a2⟩ := (HL.out.below HC.out.2.2) _ hP
      rw [← celF_eq hP, ← HFR.out] at a0 a1 a2
      clear HFR
      obtain ⟨k0, k1, k2, f0, f1, f2⟩ := HC.out.2.1.facts
      obtain ⟨fn, fx, fy⟩ := fr
      simp only at a0 a1 a2
      generalize pos (toN sizes) f (toN vars) = P at *
      go_wp2
      refine bodyPost_ret ((HC.out.2.1.put _ _ _).result rfl _ rfl) rfl ?_
      exact ⟨rfl, below_put HC.out.2.2 (by omega) _ _ _⟩
end Go.Proofs.YtncccbdledcibaaGreatDoor

/- The document's answer: an assignment as one of all variables; a list without one. -/
namespace Go.Proofs.YtncccbdledcibaaGreatDoor
open Go.RowKit Go.Shelf

set_option maxRecDepth 100000 in
set_option maxHeartbeats 1000000 in
theorem rSpread_any (a b d : Option Addr) (ca cb cd K : Nat) (sizes vars : List Int) (w : World) (hv : IntS w b vars) (hd : IntS w d (iL (digs (toN sizes) (toN vars) K))) (hfi : Fine sizes) (hup : Up vars sizes.length) :
    Calls Tryz.prog 31 #[.slice a sizes.length ca, .slice b vars.length cb, .slice d vars.length cd] w fun e w' => ∃ G, e = .returned (.slice (some ⟨G, 0, none⟩) sizes.length sizes.length) ∧ w.heap.size ≤ G ∧ RowI w' G (spr sizes.length (asg (toN sizes) (toN vars) K)) ∧ Below w.heap.size w w' := by
  obtain ⟨i0, hi0, hz0, hz1, hz2⟩ := info_parts Tryz.infoInt
  have HV := hid hv
  have HD := hid hd
  have hl8 := hfi.eight
  have hvl := hup.length
  have HUP := hid hup
  have HZ := hid (sprF_zero (toN sizes) (toN vars) K sizes.length)
  have HST := hid (fun (i : Nat) (h : i < (toN vars).length) => sprF_succ (toN sizes) (vs := toN vars) K sizes.length h)
  have HAL := hid (sprF_all (toN sizes) (toN vars) K sizes.length)
  have HDG := hid (fun (i : Nat) (h : i < (toN vars).length) => asg_digs (S := toN sizes) (k := K) hup.nodup h)
  have HTL := hid (toN_length vars)
  rw [HTL.out] at HAL
  clear hv hd hfi hup
  go_enter Tryz.func31, Tryz.ntmps31
  go_wp2_with (first
    | (at_make; refine wpList_make_full _ rfl _ _ 27 rfl w.heap.size 3 i0 (.int .i64 0) 1 Tryz.underlying27 hi0 hz0 hz1 .i64 .i64 _ _ sizes.length rfl rfl (by go_num) (by go_num) (by rw [hz2]; omega) (by unfold maxLen; omega) (Nat.le_refl _) ?_; intro w2 hown2 hgrow2))
  have hb2 := block_of_own hown2
  rw [made_ints] at hb2
  have HB2 := hid ((Below.refl w.heap.size w).grown hgrow2 (Nat.le_refl _) (fun k e => by cases e))
  have HI : Hid (RowI w2 w.heap.size (List.replicate sizes.length 0)) := hb2
  clear hown2 hgrow2 hb2
  go_wp2_with fail
  go_loopw [8] (fun iv wr => ∃ i : Nat, i ≤ vars.length ∧ iv = .int .i64 i ∧ Hid (RowI wr w.heap.size (spr sizes.length (sprF (toN sizes) (toN vars) K i))) ∧ Hid (Below w.heap.size w wr)) (fun iv _ => vars.length - (intOf iv).toNat)
  case atStart => exact ⟨0, Nat.zero_le _, rfl, by rw [HZ.out]; exact HI, HB2⟩
  case round =>
    obtain ⟨i, hi, rfl, HR, HB⟩ := hrel
    clear HI HB2
    by_cases hlt : i < vars.length
    · obtain ⟨g, o, rfl, hg, c0⟩ := HV.out i hlt
      obtain ⟨hvi, hvn⟩ := HUP.out.nat hlt
      have hil : i < (toN vars).length := by rw [HTL.out]; exact hlt
      have hdl : i < (iL (digs (toN sizes) (toN vars) K)).length := by rw [iL_length, digs_length]; exact hil
      obtain ⟨g2, o2, rfl, hg2, c2⟩ := HD.out i hdl
      have hdg := HDG.out i hil
      have hds := HST.out i hil
      rw [toN_get hlt] at hdg hds
      have hx : (iL (digs (toN sizes) (toN vars) K))[i] = ((asg (toN sizes) (toN vars) K vars[i].toNat : Nat) : Int) := by
        rw [RowI_get]
        have h := hdg
        rw [List.getElem?_eq_getElem (by rw [digs_length]; exact hil), Option.some.injEq] at h
        rw [h]
      rw [hx] at c2
      generalize hV : vars[i].toNat = v at *
      rw [← hvi] at c0
      generalize asg (toN sizes) (toN vars) K v = x at *
      have HDS := hid hds
      have hsl := spr_length sizes.length (sprF (toN sizes) (toN vars) K i)
      have hv0 : (0 : Int) ≤ (v : Int) := by omega
      have hv1 : (v : Int) < (sizes.length : Int) := by omega
      have hzc := HR.out.cell v (by rw [hsl]; exact hvn)
      have hzf := HR.out.fz v
      have hset := HR.out.set v x
      rw [HDS.out] at hset
      generalize (spr sizes.length (sprF (toN sizes) (toN vars) K i))[v] = z at *
      have hB := HB.out
      clear hdg hds hx hvi hV HDS hsl HR
      go_upto_region 5 with fail
      have held : ∀ u, Below w.heap.size w u → u.cell? ⟨g, o + i, none⟩ = some (.int .i64 (v : Nat)) ∧ u.cell? ⟨g2, o2 + i, none⟩ = some (.int .i64 (x : Nat)) := fun u e => ⟨(e.cell (p := ⟨g, _, none⟩) hg).trans c0, (e.cell (p := ⟨g2, _, none⟩) hg2).trans c2⟩
      have HELD := hid held
      clear held c0 c2
      refine wp_region_held_drew (S := fun u => u.cell? ⟨g, o + i, none⟩ = some (.int .i64 (v : Nat)) ∧ u.cell? ⟨g2, o2 + i, none⟩ = some (.int .i64 (x : Nat))) (by kernel_rfl) (HELD.out _ hB.drew) (fun hSd => ?_)
      refine wpAnyH_take (i := 0) (oi := _) (v := .slice (some ⟨w.heap.size, 0, none⟩) sizes.length sizes.length) rfl (by kernel_rfl) (by kernel_rfl) (by kernel_rfl) (fun _ _ _ h => h) (Or.inl ⟨by rfl, ?_⟩) (by assumption) ?_
      · intro u' hSu
        (try simp only [List.getElem_toArray, List.getElem_cons_zero])
        go_simp
      (try simp only [List.getElem_toArray, List.getElem_cons_zero])
      (try simp only [Act.put, List.setIfInBounds_toArray, List.set_cons_zero, List.set_cons_succ])
      refine wpAnyH_take (i := 1) (oi := _) (v := .slice (some ⟨g, o, none⟩) vars.length cb) rfl (by kernel_rfl) (by kernel_rfl) (by kernel_rfl) (fun _ _ _ h => h) (Or.inl ⟨by rfl, ?_⟩) (by assumption) ?_
      · intro u' hSu
        (try simp only [List.getElem_toArray, List.getElem_cons_zero, List.getElem_cons_succ])
        go_simp
      (try simp only [List.getElem_toArray, List.getElem_cons_zero, List.getElem_cons_succ])
      (try simp only [Act.put, List.setIfInBounds_toArray, List.set_cons_zero, List.set_cons_succ])
      refine wpAnyH_take (i := 2) (oi := _) (v := .int .i64 (i : Nat)) rfl (by kernel_rfl) (by kernel_rfl) (by kernel_rfl) (fun _ _ _ h => h) (Or.inl ⟨by rfl, ?_⟩) (by assumption) ?_
      · intro u' hSu
        (try simp only [List.getElem_toArray, List.getElem_cons_zero, List.getElem_cons_succ])
        go_simp
      (try simp only [List.getElem_toArray, List.getElem_cons_zero, List.getElem_cons_succ])
      (try simp only [Act.put, List.setIfInBounds_toArray, List.set_cons_zero, List.set_cons_succ])
      refine wpAnyH_take (i := 3) (oi := _) (v := .pointer (some ⟨g, o + i, none⟩)) rfl (by kernel_rfl) (by kernel_rfl) (by kernel_rfl) (fun _ _ _ h => h) (Or.inl ⟨by rfl, ?_⟩) (by assumption) ?_
      · intro u' hSu
        (try simp only [List.getElem_toArray, List.getElem_cons_zero, List.getElem_cons_succ])
        go_simp
      (try simp only [List.getElem_toArray, List.getElem_cons_zero, List.getElem_cons_succ])
      (try simp only [Act.put, List.setIfInBounds_toArray, List.set_cons_zero, List.set_cons_succ])
      refine wpAnyH_take (i := 4) (oi := _) (v := .int .i64 (v : Nat)) rfl (by kernel_rfl) (by kernel_rfl) (by kernel_rfl) (fun _ _ _ h => h) (Or.inl ⟨by rfl, ?_⟩) (by assumption) ?_
      · intro u' hSu
        (try simp only [List.getElem_toArray, List.getElem_cons_zero, List.getElem_cons_succ])
        obtain ⟨s1, s2⟩ := hSu
        go_simp
      (try simp only [List.getElem_toArray, List.getElem_cons_zero, List.getElem_cons_succ])
      (try simp only [Act.put, List.setIfInBounds_toArray, List.set_cons_zero, List.set_cons_succ])
      refine wpAnyH_take (i := 5) (oi := _) (v := .slice (some ⟨g2, o2, none⟩) vars.length cd) rfl (by kernel_rfl) (by kernel_rfl) (by kernel_rfl) (fun _ _ _ h => h) (Or.inl ⟨by rfl, ?_⟩) (by assumption) ?_
      · intro u' hSu
        (try simp only [List.getElem_toArray, List.getElem_cons_zero, List.getElem_cons_succ])
        go_simp
      (try simp only [List.getElem_toArray, List.getElem_cons_zero, List.getElem_cons_succ])
      (try simp only [Act.put, List.setIfInBounds_toArray, List.set_cons_zero, List.set_cons_succ])
      refine wpAnyH_take (i := 6) (oi := _) (v := .int .i64 (i : Nat)) rfl (by kernel_rfl) (by kernel_rfl) (by kernel_rfl) (fun _ _ _ h => h) (Or.inl ⟨by rfl, ?_⟩) (by assumption) ?_
      · intro u' hSu
        (try simp only [List.getElem_toArray, List.getElem_cons_zero, List.getElem_cons_succ])
        go_simp
      (try simp only [List.getElem_toArray, List.getElem_cons_zero, List.getElem_cons_succ])
      (try simp only [Act.put, List.setIfInBounds_toArray, List.set_cons_zero, List.set_cons_succ])
      refine wpAnyH_take (i := 7) (oi := _) (v := .pointer (some ⟨g2, o2 + i, none⟩)) rfl (by kernel_rfl) (by kernel_rfl) (by kernel_rfl) (fun _ _ _ h => h) (Or.inl ⟨by rfl, ?_⟩) (by assumption) ?_
      · intro u' hSu
        (try simp only [List.getElem_toArray, List.getElem_cons_zero, List.getElem_cons_succ])
        go_simp
      (try simp only [List.getElem_toArray, List.getElem_cons_zero, List.getElem_cons_succ])
      (try simp only [Act.put, List.setIfInBounds_toArray, List.set_cons_zero, List.set_cons_succ])
      refine wpAnyH_take (i := 8) (oi := _) (v := .int .i64 (x : Nat)) rfl (by kernel_rfl) (by kernel_rfl) (by kernel_rfl) (fun _ _ _ h => h) (Or.inl ⟨by rfl, ?_⟩) (by assumption) ?_
      · intro u' hSu
        (try simp only [List.getElem_toArray, List.getElem_cons_zero, List.getElem_cons_succ])
        obtain ⟨s1, s2⟩ := hSu
        go_simp
      (try simp only [List.getElem_toArray, List.getElem_cons_zero, List.getElem_cons_succ])
      (try simp only [Act.put, List.setIfInBounds_toArray, List.set_cons_zero, List.set_cons_succ])
      refine wpAnyH_take (i := 9) (oi := _) (v := .pointer (some ⟨w.heap.size, v, none⟩)) rfl (by kernel_rfl) (by kernel_rfl) (by kernel_rfl) (fun _ _ _ h => h) (Or.inl ⟨by rfl, ?_⟩) (by assumption) ?_
      · intro u' hSu
        (try simp only [List.getElem_toArray, List.getElem_cons_zero, List.getElem_cons_succ])
        go_simp
      (try simp only [List.getElem_toArray, List.getElem_cons_zero, List.getElem_cons_succ])
      (try simp only [Act.put, List.setIfInBounds_toArray, List.set_cons_zero, List.set_cons_succ])
      have hzc' : wr.drew.cell? ⟨w.heap.size, v, none⟩ = some (.int .i64 (z : Nat)) := hzc
      have hzf' : wr.drew.frozen? ⟨w.heap.size, v, none⟩ = false := hzf
      refine wpAnyH_ready (rs := [10]) (by kernel_rfl) (by simp) (AllReadyH.cons rfl ?_ (AllReadyH.nil))
      · intro K' hK'
        (try simp only [List.getElem_toArray, List.getElem_cons_zero, List.getElem_cons_succ])
        go_simp
        have hBp := (hB.setCell (p := ⟨w.heap.size, v, none⟩) (Nat.le_refl _) (.int .i64 (x : Nat))).drew
        have hset' : RowI (wr.setCell ⟨w.heap.size, v, none⟩ (.int .i64 (x : Nat))).drew w.heap.size (spr sizes.length (sprF (toN sizes) (toN vars) K (i + 1))) := hset
        clear hset hzc hzf hzc' hzf'
        generalize (wr.setCell ⟨w.heap.size, v, none⟩ (.int .i64 (x : Nat))).drew = v9 at *
        refine hK'.out _ _ (HELD.out _ hBp) (fun _ => wpAnyH_done (by kernel_rfl) ?_ _)
        clear hK' K' hSd
        have HRN := hid hset'
        have HBN := hid hBp
        clear hset' hBp
        go_wp2
        go_roundw
        case rel => exact ⟨i + 1, by omega, by go_num, HRN, HBN⟩
        case measure => simp [intOf]; omega
    · obtain rfl : i = vars.length := by omega
      have hfin := HR.out
      rw [HAL.out] at hfin
      go_wp2
      go_ret
      exact ⟨w.heap.size, rfl, Nat.le_refl _, hfin, HB.out⟩

theorem lessN_take {vars : List Int} {v : Int} {i : Nat} (h : i < vars.length) : lessN (vars.take (i + 1)) v = lessN (vars.take i) v ++ if vars[i] = v then [] else [vars[i]] := by
  rw [List.take_succ_eq_append_getElem h, lessN, lessN, List.filter_append]
  congr 1
  by_cases e : vars[i] = v
  · simp [e]
  · simp [e]

set_option maxRecDepth 100000 in
set_option maxHeartbeats 1000000 in
theorem rWithout_any (b : Option Addr) (cb : Nat) (vars : List Int) (v : Int) (w : World) (hv : IntS w b vars) (hn : vars.length ≤ 1000) :
    Calls Tryz.prog 61 #[.slice b vars.length cb, .int .i64 v] w fun e w' => ∃ x, e = .returned x ∧ RwI w' w.heap.size x (lessN vars v) ∧ Below w.heap.size w w' := by
  obtain ⟨i0, hi0, hz0, hz1, hz2⟩ := info_parts Tryz.infoInt
  have HV := hid hv
  have HT := hid (fun (i : Nat) (h : i < vars.length) => lessN_take (v := v) h)
  have HLE := hid (fun i => show (lessN (vars.take i) v).length ≤ vars.length from Nat.le_trans (List.length_filter_le _ _) (by rw [List.length_take]; omega))
  have hall : lessN (vars.take vars.length) v = lessN vars v := by rw [List.take_length]
  have hnil : lessN (vars.take 0) v = [] := by rw [List.take_zero]; rfl
  rw [← hall]
  clear hv hall
  generalize hg : (fun i => lessN (vars.take i) v) = F at *
  have hF : ∀ i, lessN (vars.take i) v = F i := fun i => by rw [← hg]
  simp only [hF] at HT HLE hnil ⊢
  clear hg hF
  go_enter Tryz.func61, Tryz.ntmps61
  go_wp2_with fail
  go_loopw [5, 6] (fun xv iv wr => ∃ i : Nat, i ≤ vars.length ∧ iv = .int .i64 i ∧ Hid (RwI wr w.heap.size xv (F i)) ∧ Hid (Below w.heap.size w wr)) (fun _ iv _ => vars.length - (intOf iv).toNat)
  case atStart => exact ⟨0, Nat.zero_le _, rfl, by rw [hnil]; exact ⟨rfl, .inl ⟨rfl, rfl⟩⟩, Below.refl _ _⟩
  case round =>
    obtain ⟨i, hi, rfl, HR, HB⟩ := hrel
    by_cases hlt : i < vars.length
    · obtain ⟨g, o, rfl, hg, c0⟩ := (HV.out.below HB.out) i hlt
      have hT := HT.out i hlt
      have hle := HLE.out i
      generalize vars[i] = u at *
      by_cases e : u = v
      · subst e
        rw [if_pos rfl, List.append_nil] at hT
        have HTT := hid hT
        clear hT
        go_wp2
        go_roundw
        case rel => exact ⟨i + 1, by omega, by go_num, by rw [HTT.out]; exact HR, HB⟩
        case measure => simp [intOf]; omega
      · rw [if_neg e] at hT
        have HTT := hid hT
        have hne : (u == v) = false := by simp [e]
        have HOWN := hid HR.out.own
        have HRA : Hid (RwI (wr.alloc (.cells #[.int .i64 u] 3)) w.heap.size _ (F i)) := World.ownsRow.alloc HR.out _
        have hBA := HB.out.alloc HB.out.size (.cells #[.int .i64 u] 3)
        have hI : IntS (wr.alloc (.cells #[.int .i64 u] 3)) (some ⟨wr.heap.size, 0, none⟩) [u] := fun k hk => by
          obtain rfl : k = 0 := by simp at hk; omega
          exact ⟨wr.heap.size, 0, rfl, by simp, (Boxed.new wr _ _).cell⟩
        have HIA := hid hI
        have HBA := hid hBA
        clear hT hI hBA
        go_wp2_with (at_builtin; refine wpList_append_ints rfl _ _ rfl w.heap.size _ (F i) [u] rfl HRA.out (some ⟨wr.heap.size, 0, none⟩) 1 rfl HIA.out (fun e => by cases e) (by simp; omega) HBA.out.size ?_; intro v' w2 hr2 hg2)
        have HR2 := hid hr2
        have HB2 := hid (HBA.out.grown hg2 HBA.out.size HOWN.out)
        clear hr2 hg2
        go_roundw
        case rel => exact ⟨i + 1, by omega, by go_num, by rw [HTT.out]; exact HR2, HB2⟩
        case measure => simp [intOf]; omega
    · obtain rfl : i = vars.length := by omega
      go_wp2
      go_ret
      exact ⟨_, rfl, HR.out, HB.out⟩
end Go.Proofs.YtncccbdledcibaaGreatDoor

/- The document's answer: tables that grow cell by cell. -/
namespace Go.Proofs.YtncccbdledcibaaGreatDoor
open Go.RowKit Go.Shelf

/-- A list of fractions in memory of its own. -/
def RwF (w : World) (B : Nat) (v : Value) (l : List Fr) : Prop := w.ownsRow B 37 3 v l.length (frC l)
theorem RwF.empty (w : World) (B : Nat) : RwF w B (.slice none 0 0) [] := ⟨rfl, .inl ⟨rfl, rfl⟩⟩
theorem RwF.below {w w' : World} {B : Nat} {v : Value} {l : List Fr} (h : RwF w B v l) (hb : Below w.heap.size w w') : RwF w' B v l := by
  refine ⟨h.1, h.2.imp id ?_⟩
  rintro ⟨g, cap, cur, h1, h2, h3, h4⟩
  exact ⟨g, cap, cur, h1, h2, (hb.block g (Array.getElem?_eq_some_iff.1 h3).1).trans h3, h4⟩
theorem RwF.off {w : World} {B : Nat} {v : Value} {l : List Fr} (h : RwF w B v l) (b j : Nat) (y : Value) (hb : b < B) : RwF (w.setCell ⟨b, j, none⟩ y) B v l := by
  refine ⟨h.1, h.2.imp id ?_⟩
  rintro ⟨g, cap, cur, h1, h2, h3, h4⟩
  exact ⟨g, cap, cur, h1, h2, (Below.heap_setCell w ⟨b, j, none⟩ y g (by show g ≠ b; omega)).trans h3, h4⟩
theorem RwF.own {w : World} {B : Nat} {v : Value} {l : List Fr} (h : RwF w B v l) : ∀ k, v.ownBlock = some k → B ≤ k := by
  intro k hk
  rcases h.2 with ⟨rfl, _⟩ | ⟨g, cap, cur, rfl, h2, _⟩
  · cases hk
  · cases hk
    exact h2
theorem RwF.fr {w : World} {B : Nat} {v : Value} {l : List Fr} (h : RwF w B v l) : ∃ d cd, v = .slice d l.length cd ∧ FrS w d l := by
  rcases h.2 with ⟨h1, h2⟩ | ⟨g, cap, cur, h1, h2, h3, h4, h5, h6, h7⟩
  · have : l = [] := List.length_eq_zero_iff.1 h2
    subst this
    exact ⟨none, 0, h1, fun k hk => absurd hk (by simp)⟩
  · refine ⟨_, _, h1, fun k hk => ?_⟩
    obtain ⟨e1, e2, e3⟩ := frC_get l k hk
    have at_ : ∀ j, j < l.length * 3 → cur[j]? = (frC l)[j]? := fun j hj => by
      rw [← h7, List.getElem?_take, if_pos hj, Array.getElem?_toList]
    refine ⟨g, 0, rfl, (Array.getElem?_eq_some_iff.1 h3).1, ?_, ?_, ?_⟩
    · rw [cell_of_row w g _ _ _ (0, 0) h3, Nat.zero_add, at_ _ (by omega)]; exact e1
    · rw [cell_of_row w g _ _ _ (0, 0) h3, Nat.zero_add, at_ _ (by omega)]; exact e2
    · rw [cell_of_row w g _ _ _ (0, 0) h3, Nat.zero_add, at_ _ (by omega)]; exact e3
theorem RwF.slv {w : World} {B : Nat} {v : Value} {l : List Fr} (h : RwF w B v l) : SlV v := by
  obtain ⟨d, cd, e, _⟩ := h.fr
  exact ⟨d, _, cd, e⟩
theorem frC_snoc (l : List Fr) (f : Fr) : frC (l ++ [f]) = frC l ++ [.bool f.1, .string f.2.1, .string f.2.2] := by
  induction l with
  | nil => rfl
  | cons x l ih => simp only [List.cons_append, frC, ih]
theorem wpList_append_fr {w : World} {ops : Array Oper} {rest : List Oper} {o : Oper} {a : Act} {Q : Exit → Act → World → Prop} (hgd : o.guard = none) (s x : Operand)
    (ho : o.op = .call { callee := .builtin .append, args := #[s, x], argTypes := #[29, 29] }) (base : Nat) (v : Value) (l : List Fr) (f : Fr) (hs : a.eval s = v) (hown : RwF w base v l) (g : Nat) (hx : a.eval x = .slice (some ⟨g, 0, none⟩) 1 1) (hg : Box w g f.1 f.2.1 f.2.2) (hlen : l.length + 1 ≤ 100000) (hbase : base ≤ w.heap.size)
    (h : ∀ v' w', RwF w' base v' (l ++ [f]) → w.grownBy w' v.ownBlock → wpList Tryz.prog ops Q rest (a.put o.dst v') w') : wpList Tryz.prog ops Q (o :: rest) a w := by
  obtain ⟨i0, hi0, hz0, hz1, hz2⟩ := info_parts Tryz.infoFrac
  refine wpList_append_own _ hgd s x 29 ho base 37 i0 (.agg #[.bool false, .string ⟨#[]⟩, .string ⟨#[]⟩]) 3 40 Tryz.underlying29 hi0 hz0 hz1 hz2 rfl (by decide) v l.length _ hs hown ⟨g, 0, none⟩ 1 1 [.bool f.1, .string f.2.1, .string f.2.2] hx rfl ?_ ?_ (by unfold maxLen; omega) (by omega) hbase ?_
  · intro j u hj
    match j, hj with
    | 0, hj => cases hj; exact hg.c0
    | 1, hj => cases hj; exact hg.c1
    | 2, hj => cases hj; exact hg.c2
    | j + 3, hj => simp at hj
  · intro u hu
    simp only [List.mem_cons, List.not_mem_nil, or_false] at hu
    rcases hu with rfl | rfl | rfl <;> rfl
  · intro v' w' h1 h2 _
    refine h v' w' ?_ h2
    rw [RwF, List.length_append, frC_snoc]
    exact h1

/-- A table that grows: its block is the one behind w0's memory, its cells lie behind it. -/
def FX (w0 V : World) (x y : Value) (L : List Fr) : Prop := Below w0.heap.size w0 V ∧ TBox V w0.heap.size x y ∧ RwF V (w0.heap.size + 1) y L
theorem FX.step {w0 V V' : World} {x y : Value} {L : List Fr} (h : FX w0 V x y L) (hb : Below V.heap.size V V') : FX w0 V' x y L := ⟨h.1.trans (hb.mono h.1.size), h.2.1.below hb h.2.1.lt, h.2.2.below hb⟩
theorem FX.new (w0 : World) (x : Value) : FX w0 (w0.alloc (TC x (.slice none 0 0))) x (.slice none 0 0) [] := ⟨(Below.refl _ w0).alloc (Nat.le_refl _) _, TBox.at rfl _ _, RwF.empty _ _⟩
/-- One more cell. -/
theorem FX.push {w0 V V' : World} {x y y' : Value} {L L' : List Fr} (h : FX w0 V x y L) (hr : RwF V' (w0.heap.size + 1) y' L') (hg : V.grownBy V' y.ownBlock) : FX w0 (V'.setCell ⟨w0.heap.size, 1, none⟩ y') x y' L' := by
  have hs : w0.heap.size + 1 ≤ V.heap.size := h.2.1.lt
  have hb : Below (w0.heap.size + 1) V V' := (Below.refl _ V).grown hg hs h.2.2.own
  have ht := h.2.1.below hb (by omega)
  refine ⟨(h.1.trans (hb.mono (by omega))).setCell (p := ⟨w0.heap.size, 1, none⟩) (Nat.le_refl _) _, heap_setCell_same _ _ 1 _ _ _ ht, hr.off _ 1 _ (by omega)⟩
/-- What is there behind an append, ahead of its store. -/
theorem FX.mid {w0 V V' : World} {x y : Value} {L : List Fr} (h : FX w0 V x y L) (hg : V.grownBy V' y.ownBlock) : TBox V' w0.heap.size x y := by
  have hs : w0.heap.size + 1 ≤ V.heap.size := h.2.1.lt
  exact h.2.1.below ((Below.refl _ V).grown hg hs h.2.2.own) (by omega)
/-- The end: the table is the result. -/
theorem NR.finW {w w0 V : World} {T R : Nat} {u v : Value} (h : NR w w0 T R u v) (hR : w.heap.size ≤ R) {vars : List Int} {b : Option Addr} {cb : Nat} {l : List Fr} (hi : IntS w0 b vars) {x y : Value} (hx : FX w0 V x y l) (hxe : x = .slice b vars.length cb) :
    TBox V R (.slice none 0 0) (.slice none 0 0) ∧ TBox ((V.setCell ⟨R, 0, none⟩ x).setCell ⟨R, 1, none⟩ y) R x y ∧ TabA vars l 0 (.returned (.tuple #[.agg #[x, y], .int .i64 0])) ((V.setCell ⟨R, 0, none⟩ x).setCell ⟨R, 1, none⟩ y) ∧ Below w.heap.size w ((V.setCell ⟨R, 0, none⟩ x).setCell ⟨R, 1, none⟩ y) := by
  have hl := h.2.1.lt
  have h' := h.step hx.1
  have hi' := hi.below hx.1
  subst hxe
  obtain ⟨d, cd, e, hf⟩ := ((hx.2.2.off R 0 (.slice b vars.length cb) (by omega)).off R 1 y (by omega)).fr
  refine ⟨h'.2.1, h'.2.1.put _ _, ⟨b, d, cb, cd, by rw [← e], hi'.putT h'.2.1 (Go.Proofs.YtncccbdledcibaaGreatDoor.slv _ _ _) (Go.Proofs.YtncccbdledcibaaGreatDoor.slv _ _ _) (Go.Proofs.YtncccbdledcibaaGreatDoor.slv _ _ _) _, hf⟩, below_put2 h'.2.2 hR _ _⟩
end Go.Proofs.YtncccbdledcibaaGreatDoor

/- The document's answer: Fix. -/
namespace Go.Proofs.YtncccbdledcibaaGreatDoor
open Go.RowKit Go.Shelf

theorem countB_of {sizes vars : List Int} (h1 : Fine sizes) (h2 : Up vars sizes.length) : countB sizes vars = true := by
  rw [countB, Bool.and_eq_true]
  constructor
  · rw [fitB, Bool.and_eq_true, decide_eq_true_iff]
    refine ⟨⟨h1.one, h1.eight⟩, List.all_eq_true.2 fun x hx => ?_⟩
    obtain ⟨i, hi, rfl⟩ := List.getElem_of_mem hx
    rw [okSize, decide_eq_true_iff]
    exact h1.each i hi
  · rw [risB, List.all_eq_true]
    intro i hi
    have hi' := List.mem_range.1 hi
    rw [okAt, decide_eq_true_iff, getD_eq hi']
    refine ⟨(h2.each i hi').1, (h2.each i hi').2, fun h0 => ?_⟩
    rw [getD_eq (show i - 1 < vars.length by omega)]
    exact h2.lt (i - 1) i hi' (by omega)
theorem rCount_in (a b : Option Addr) (ca cb : Nat) (sizes vars : List Int) (w : World) (hs : IntS w a sizes) (hv : IntS w b vars) (hfi : Fine sizes) (hup : Up vars sizes.length) :
    Calls Tryz.prog 18 #[.slice a sizes.length ca, .slice b vars.length cb] w fun e w' => e = .returned (.tuple #[.int .i64 (cnt (toN sizes) (toN vars) : Nat), .int .i64 0]) ∧ Below w.heap.size w w' := by
  have h8 := hfi.eight
  have h9 := hup.length
  have h := rCount_any a b ca cb sizes vars w hs hv (by omega) (by omega)
  rw [countA_yes (countB_of hfi hup)] at h
  exact h
theorem rWhere_in (a b : Option Addr) (ca cb K : Nat) (sizes vars : List Int) (w : World) (hs : IntS w a sizes) (hv : IntS w b vars) (hfi : Fine sizes) (hup : Up vars sizes.length) (hK : K < cnt (toN sizes) (toN vars)) :
    Calls Tryz.prog 21 #[.slice a sizes.length ca, .slice b vars.length cb, .int .i64 (K : Nat)] w fun e w' => ∃ (c : Option Addr) (cc : Nat), e = .returned (.tuple #[.slice c vars.length cc, .int .i64 0]) ∧ IntS w' c (iL (digs (toN sizes) (toN vars) K)) ∧ Below w.heap.size w w' := by
  have h8 := hfi.eight
  have h9 := hup.length
  have hcb := countB_of hfi hup
  have h := rWhere_any a b ca cb sizes vars (K : Int) w hs hv (by omega) (by omega)
  have e1 : whereL sizes vars (K : Int) = digs (toN sizes) (toN vars) K := by rw [whereL, if_pos ⟨hcb, by omega, by omega⟩, Int.toNat_natCast]
  have e2 : whereE sizes vars (K : Int) = 0 := by rw [whereE, if_pos hcb, if_pos ⟨by omega, by omega⟩]
  rw [e1, e2, digs_length, toN_length] at h
  exact h
theorem Canon_r {n : Bool} {x y : ByteArray} {w : World} (s1 : x.size + y.size ≤ 100000) :
    Calls Tryz.prog 33 #[.agg #[.bool n, .string x, .string y]] w fun e w' => e = .returned (frV (qF (val n x y))) ∧ Below w.heap.size w w' := rCanon_any n x y w (by omega) (by omega)

end Go.Proofs.YtncccbdledcibaaGreatDoor

/- The law's tables: what Out and Product answer there, and that the orders agree. -/
namespace Go.Proofs.YtncccbdledcibaaGreatDoor
open Go.RowKit Go.Shelf

/-- Sizes of the law. -/
structure Sz3 (sizes : List Int) : Prop where
  fine : Fine sizes
  three : ∀ i (h : i < sizes.length), sizes[i] ≤ 3
  many : 3 ≤ sizes.length
  few : sizes.length ≤ 5
theorem Sz3.sz {sizes : List Int} (h : Sz3 sizes) (v : Nat) : sz (toN sizes) v ≤ 3 := by
  by_cases hv : v < sizes.length
  · have := h.fine.sz_eq hv
    have := h.three v hv
    omega
  · rw [Go.Proofs.YtncccbdledcibaaGreatDoor.sz, List.getElem?_eq_none (by rw [toN_length]; omega)]; simp
/-- A table of the law. -/
structure TL (sizes vars : List Int) (l : List Fr) (s : Nat) : Prop where
  up : Up vars sizes.length
  len : l.length = cnt (toN sizes) (toN vars)
  sml : Sml s l
theorem TL.check {sizes vars : List Int} {l : List Fr} {s : Nat} (h : TL sizes vars l s) (hs : Sz3 sizes) : checkA sizes vars l.length = 0 := checkA_yes (countB_of hs.fine h.up) h.len
theorem cnt_few {sizes vars : List Int} (hs : Sz3 sizes) (h : Up vars sizes.length) : cnt (toN sizes) (toN vars) ≤ 243 := by
  have h1 := cnt_three hs.sz (toN vars)
  have h2 := h.length
  have h3 := hs.few
  rw [toN_length] at h1
  exact Nat.le_trans h1 (Nat.pow_le_pow_right (by decide) (show vars.length ≤ 5 by omega))
theorem TL.few {sizes vars : List Int} {l : List Fr} {s : Nat} (h : TL sizes vars l s) (hs : Sz3 sizes) : l.length ≤ 243 := by rw [h.len]; exact cnt_few hs h.up
theorem TL.fw {sizes vars : List Int} {l : List Fr} {s : Nat} (h : TL sizes vars l s) (hs : Sz3 sizes) (hS : s ≤ 30) : fw l ≤ 8192 := by
  have h1 := h.sml.fw
  have h2 := Nat.mul_le_mul (show s + 2 ≤ 32 by omega) (h.few hs)
  omega
theorem TL.out {sizes vars : List Int} {l : List Fr} {s : Nat} (h : TL sizes vars l s) (hs : Sz3 sizes) (v : Nat) (most : Bool) : TL sizes (lessN vars v) (outL (toN sizes) (toN vars) (toN (lessN vars (v : Int))) v most l) (10 * s + 3) :=
  ⟨lessN_up h.up _, outL_length _ _ _ _ _ _, h.sml.out hs.fine.pos h.len (hs.sz v) most⟩
theorem TL.prod {sizes va vb : List Int} {la lb : List Fr} {s t : Nat} (ha : TL sizes va la s) (hb : TL sizes vb lb t) (hs : Sz3 sizes) : TL sizes (togL va vb) (prodL (toN sizes) (toN va) (toN vb) (toN (togL va vb)) la lb) (s + t) :=
  ⟨togL_up ha.up hb.up, prodL_length _ _ _ _ _ _, ha.sml.prod hb.sml hs.fine.pos ha.len hb.len⟩
theorem up_len {vars sizes : List Int} (h : Up vars sizes.length) (hs : Sz3 sizes) : vars.length ≤ 140737488355328 := by have := h.length; have := hs.few; omega
theorem sz_len {sizes : List Int} (hs : Sz3 sizes) : sizes.length ≤ 140737488355328 := by have := hs.few; omega
theorem lessN_comm (l : List Int) (u v : Int) : lessN (lessN l u) v = lessN (lessN l v) u := by
  rw [lessN, lessN, lessN, lessN, List.filter_filter, List.filter_filter]
  exact List.filter_congr fun x _ => Bool.and_comm _ _
theorem mem_less {l : List Int} {x v : Int} : x ∈ lessN l v ↔ x ∈ l ∧ x ≠ v := by simp [lessN]
theorem less_in {vars : List Int} {n : Nat} (h : Up vars n) (u : Nat) : ∀ x ∈ toN vars, x = u ∨ x ∈ toN (lessN vars (u : Int)) := by
  intro x hx
  obtain ⟨y, hy, rfl⟩ := List.mem_map.1 hx
  have h1 := (up_iff.1 h).1 y hy
  by_cases e : y = (u : Int)
  · left; omega
  · exact .inr (List.mem_map.2 ⟨y, mem_less.2 ⟨hy, e⟩, rfl⟩)
theorem toN_sub {va vb : List Int} (h : ∀ x ∈ va, x ∈ vb) : ∀ x ∈ toN va, x ∈ toN vb := by
  intro x hx
  obtain ⟨y, hy, rfl⟩ := List.mem_map.1 hx
  exact List.mem_map.2 ⟨y, h y hy, rfl⟩
theorem togL_sub {va vb : List Int} {n : Nat} (hb : Up vb n) (h : ∀ x ∈ va, x ∈ vb) : togL va vb = vb :=
  rise_extI (togL_rise va vb).1 (up_iff.1 hb).2 fun x => by rw [(togL_rise va vb).2]; exact ⟨fun e => e.elim (h x) id, .inr⟩
theorem togL_sub' {va vb : List Int} {n : Nat} (hb : Up vb n) (h : ∀ x ∈ va, x ∈ vb) : togL vb va = vb :=
  rise_extI (togL_rise vb va).1 (up_iff.1 hb).2 fun x => by rw [(togL_rise vb va).2]; exact ⟨fun e => e.elim id (h x), .inl⟩
theorem out_len {S vars rest : List Nat} {v : Nat} {most : Bool} {l : List Fr} (h : cnt S rest ≤ 243) : (outL S vars rest v most l).length ≤ 100000 := by rw [outL_length]; omega

theorem up_short {sizes V : List Int} (hs : Sz3 sizes) (h : Up V sizes.length) : V.length ≤ 100000 := by have := h.length; have := hs.few; omega
end Go.Proofs.YtncccbdledcibaaGreatDoor

