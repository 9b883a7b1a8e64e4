/- Plain facts for the sums' order: taking two variables out in either order leaves the same numbers; what has nothing of a variable may be taken out of the sum. -/
import Derived.Test.YtnnfmfdjgdgdhaaGreatDoorHidCToProdB
import Derived.Test.YtnnfmfdjgdgdhaaGreatDoorConFToRtD
import Derived.Laws.EntriesVeiled
import Derived.Test.YtnnfmfdjgdgdhaaGreatDoorRefRToTabR3
import Derived.Test.YtnnfmfdjgdgdhaaGreatDoorTabR4ToRowA
import Derived.Test.YtnnfmfdjgdgdhaaGreatDoorCore1ToNumD
import Derived.Lib.ItoaNum
import Derived.Test.YtnnfmfdjgdgdhaaGreatDoorRefEToNumR
import Derived.Test.YtnnfmfdjgdgdhaaGreatDoorNetDToHidQ
import Derived.Test.YtnnfmfdjgdgdhaaGreatDoorDivBToRefC
namespace Go.Proofs.YtnnfmfdjgdgdhaaGreatDoor
open Go.RowKit Go.Shelf

theorem pos_congr (S : List Nat) {f g : Nat → Nat} : ∀ {vs : List Nat}, (∀ u ∈ vs, f u = g u) → pos S f vs = pos S g vs := by
  intro vs h
  have key : ∀ (vs : List Nat) (k : Nat), (∀ u ∈ vs, f u = g u) → vs.foldl (fun k v => k * sz S v + f v) k = vs.foldl (fun k v => k * sz S v + g v) k := by
    intro vs
    induction vs with
    | nil => intro k _; rfl
    | cons v vs ih =>
      intro k h
      rw [List.foldl_cons, List.foldl_cons, h v List.mem_cons_self, ih _ fun u hu => h u (List.mem_cons_of_mem _ hu)]
  exact key vs 0 h
theorem pos_cons (S : List Nat) (f : Nat → Nat) (v : Nat) (vs : List Nat) : pos S f (v :: vs) = f v * cnt S vs + pos S f vs := by
  show vs.foldl (fun k v => k * sz S v + f v) (0 * sz S v + f v) = _
  rw [foldl_pos S f vs, Nat.zero_mul, Nat.zero_add]
theorem asg_pos {S : List Nat} (hp : Pos S) {f : Nat → Nat} (hf : ∀ u, f u < sz S u) : ∀ {vs : List Nat}, vs.Nodup → ∀ u ∈ vs, asg S vs (pos S f vs) u = f u
  | [], _, u, hu => by cases hu
  | v :: vs, hn, u, hu => by
    rw [List.nodup_cons] at hn
    have hlt := pos_lt f hf vs
    have hc := cnt_pos hp vs
    rw [pos_cons, asg]
    by_cases e : u = v
    · rw [if_pos e, e, Nat.mul_comm, Nat.mul_add_div hc, Nat.div_eq_of_lt hlt, Nat.add_zero]
    · rw [if_neg e, Nat.mul_comm, Nat.mul_add_mod, Nat.mod_eq_of_lt hlt]
      exact asg_pos hp hf hn.2 u ((List.mem_cons.1 hu).resolve_left e)
theorem celF_map {n k : Nat} (g : Nat → Fr) (h : k < n) : celF ((List.range n).map g) k = g k := by
  rw [celF_eq (by simpa using h)]; simp

/-- What two make. -/
def opQ (most : Bool) (p q : Rat) : Rat := if most then (if p < q then q else p) else p + q
/-- What is left of so many numbers. -/
def outQ (most : Bool) (g : Nat → Rat) : Nat → Rat
  | 0 => g 0
  | k + 1 => opQ most (outQ most g k) (g (k + 1))
theorem cmpQ_neg {p q : Rat} : cmpQ p q < 0 ↔ p < q := by
  rw [cmpQ]
  by_cases h : p < q
  · rw [if_pos h]; exact ⟨fun _ => h, fun _ => by decide⟩
  · rw [if_neg h]
    by_cases e : p = q
    · rw [if_pos e]; exact ⟨fun h => absurd h (by decide), fun h' => absurd h' h⟩
    · rw [if_neg e]; exact ⟨fun h => absurd h (by decide), fun h' => absurd h' h⟩
theorem frQ_outN (most : Bool) (T : Nat → Fr) : ∀ k, frQ (outN most T k) = outQ most (fun x => frQ (T x)) k
  | 0 => rfl
  | k + 1 => by
    rw [outN, outQ, ← frQ_outN most T k]
    cases most with
    | false => simp only [opQ, Bool.false_eq_true, if_false]; exact frQ_qF _
    | true =>
      simp only [opQ, if_true, great]
      by_cases h : cmpQ (frQ (outN true T k)) (frQ (T (k + 1))) < 0
      · rw [if_pos h, if_pos (cmpQ_neg.1 h)]
      · rw [if_neg h, if_neg fun e => h (cmpQ_neg.2 e)]
theorem outQ_congr (most : Bool) {g h : Nat → Rat} : ∀ {k : Nat}, (∀ x, x ≤ k → g x = h x) → outQ most g k = outQ most h k
  | 0, e => e 0 (Nat.le_refl _)
  | k + 1, e => by rw [outQ, outQ, outQ_congr most fun x hx => e x (by omega), e (k + 1) (Nat.le_refl _)]
theorem opQ_comm (most : Bool) (p q : Rat) : opQ most p q = opQ most q p := by
  cases most with
  | false => exact Rat.add_comm p q
  | true =>
    simp only [opQ, if_true]
    rcases Rat.le_total (a := p) (b := q) with h | h
    · by_cases e : p = q
      · subst e; rfl
      · have h1 : p < q := Rat.lt_of_le_of_ne h e
        rw [if_pos h1, if_neg (Rat.not_lt.2 h)]
    · by_cases e : q = p
      · subst e; rfl
      · have h1 : q < p := Rat.lt_of_le_of_ne h e
        rw [if_neg (Rat.not_lt.2 h), if_pos h1]
theorem rlt {p q r : Rat} (h1 : p < q) (h2 : q < r) : p < r := Rat.not_le.1 fun h => Rat.not_le.2 h1 (Rat.le_trans (Rat.le_of_lt h2) h)
theorem opQ_assoc (most : Bool) (p q r : Rat) : opQ most (opQ most p q) r = opQ most p (opQ most q r) := by
  cases most with
  | false => exact Rat.add_assoc p q r
  | true =>
    simp only [opQ, if_true]
    by_cases h1 : p < q
    · by_cases h2 : q < r
      · rw [if_pos h1, if_pos h2, if_pos (rlt h1 h2)]
      · rw [if_pos h1, if_neg h2, if_pos h1]
    · by_cases h2 : q < r
      · rw [if_neg h1, if_pos h2]
      · rw [if_neg h1, if_neg h2, if_neg h1, if_neg]
        exact Rat.not_lt.2 (Rat.le_trans (Rat.not_lt.1 h2) (Rat.not_lt.1 h1))
theorem opQ_four (most : Bool) (p q r s : Rat) : opQ most (opQ most p q) (opQ most r s) = opQ most (opQ most p r) (opQ most q s) := by
  rw [opQ_assoc, opQ_assoc, ← opQ_assoc most q r s, opQ_comm most q r, opQ_assoc most r q s]
theorem outQ_op (most : Bool) (g h : Nat → Rat) : ∀ k, outQ most (fun x => opQ most (g x) (h x)) k = opQ most (outQ most g k) (outQ most h k)
  | 0 => rfl
  | k + 1 => by rw [outQ, outQ, outQ, outQ_op most g h k, opQ_four]
theorem outQ_swap (most : Bool) (g : Nat → Nat → Rat) (m : Nat) : ∀ n, outQ most (fun x => outQ most (fun y => g x y) m) n = outQ most (fun y => outQ most (fun x => g x y) n) m
  | 0 => rfl
  | n + 1 => by
    rw [outQ, outQ_swap most g m n, ← outQ_op]
    rfl
theorem outQ_mul (A : Rat) (g : Nat → Rat) : ∀ k, outQ false (fun x => A * g x) k = A * outQ false g k
  | 0 => rfl
  | k + 1 => by
    rw [outQ, outQ, outQ_mul A g k]
    simp only [opQ, Bool.false_eq_true, if_false]
    rw [Rat.mul_add]

theorem withV_comm (f : Nat → Nat) {u v : Nat} (x y : Nat) (h : u ≠ v) : withV (withV f v x) u y = withV (withV f u y) v x := by
  funext z
  simp only [withV]
  by_cases e : z = u
  · rw [if_pos e, if_neg (by omega), if_pos e]
  · rw [if_neg e, if_neg e]
/-- A number of what is left. -/
theorem out_cell {S vars rest : List Nat} (hp : Pos S) (hr : rest.Nodup) {v : Nat} (hv : ∀ u ∈ vars, u = v ∨ u ∈ rest) (most : Bool) (l : List Fr) {f : Nat → Nat} (hf : ∀ u, f u < sz S u) :
    frQ (celF (outL S vars rest v most l) (pos S f rest)) = outQ most (fun x => frQ (celF l (pos S (withV f v x) vars))) (sz S v - 1) := by
  rw [outL, celF_map _ (pos_lt f hf rest), frQ_qF, frQ_outN]
  refine outQ_congr most fun x _ => ?_
  rw [pos_congr S (f := withV (asg S rest (pos S f rest)) v x) (g := withV f v x)]
  intro u hu
  simp only [withV]
  by_cases e : u = v
  · rw [if_pos e, if_pos e]
  · rw [if_neg e, if_neg e]; exact asg_pos hp hf hr u ((hv u hu).resolve_left e)
theorem prod_cell {S va vb U : List Nat} (hp : Pos S) (hr : U.Nodup) (hva : ∀ u ∈ va, u ∈ U) (hvb : ∀ u ∈ vb, u ∈ U) (la lb : List Fr) {f : Nat → Nat} (hf : ∀ u, f u < sz S u) :
    frQ (celF (prodL S va vb U la lb) (pos S f U)) = frQ (celF la (pos S f va)) * frQ (celF lb (pos S f vb)) := by
  rw [prodL, celF_map _ (pos_lt f hf U), frQ_qF, pos_congr S (f := asg S U (pos S f U)) (g := f) fun u hu => asg_pos hp hf hr u (hva u hu), pos_congr S (f := asg S U (pos S f U)) (g := f) fun u hu => asg_pos hp hf hr u (hvb u hu)]
theorem map_range_congr {n : Nat} {g h : Nat → Fr} (e : ∀ k, k < n → g k = h k) : (List.range n).map g = (List.range n).map h := List.map_congr_left fun k hk => e k (List.mem_range.1 hk)
/-- Two variables may be taken out in either order. -/
theorem out_swap {S vars ru rv R : List Nat} (hp : Pos S) {u v : Nat} (huv : u ≠ v) (hru : ru.Nodup) (hrv : rv.Nodup) (h1 : ∀ x ∈ vars, x = u ∨ x ∈ ru) (h2 : ∀ x ∈ vars, x = v ∨ x ∈ rv) (most : Bool) (l : List Fr) :
    outL S ru R v most (outL S vars ru u most l) = outL S rv R u most (outL S vars rv v most l) := by
  show (List.range (cnt S R)).map _ = (List.range (cnt S R)).map _
  refine map_range_congr fun K hK => ?_
  rw [frQ_outN, frQ_outN]
  have hf := fun z => asg_lt hp R K z hK
  have su := sz_pos hp u
  have sv := sz_pos hp v
  congr 1
  rw [outQ_congr most (h := fun x => outQ most (fun y => frQ (celF l (pos S (withV (withV (asg S R K) v x) u y) vars))) (sz S u - 1)) fun x hx => out_cell hp hru h1 most l (withV_lt hf (by omega)),
    outQ_congr most (k := sz S u - 1) (h := fun y => outQ most (fun x => frQ (celF l (pos S (withV (withV (asg S R K) u y) v x) vars))) (sz S v - 1)) fun y hy => out_cell hp hrv h2 most l (withV_lt hf (by omega)),
    outQ_swap]
  refine outQ_congr most fun y _ => outQ_congr most fun x _ => ?_
  rw [withV_comm _ _ _ huv]
/-- What has nothing of a variable may be taken out of the sum. -/
theorem out_prod {S va vb rb U R : List Nat} (hp : Pos S) {v : Nat} (hU : U.Nodup) (hrb : rb.Nodup) (h1 : ∀ x ∈ va, x ∈ U) (h2 : ∀ x ∈ vb, x ∈ U) (h3 : ∀ x ∈ vb, x = v ∨ x ∈ rb) (hv : ¬ v ∈ va) (la lb : List Fr) :
    outL S U R v false (prodL S va vb U la lb) = prodL S va rb R la (outL S vb rb v false lb) := by
  show (List.range (cnt S R)).map _ = (List.range (cnt S R)).map _
  refine map_range_congr fun K hK => ?_
  rw [frQ_outN]
  have hf := fun z => asg_lt hp R K z hK
  have sv := sz_pos hp v
  congr 1
  rw [outQ_congr false (h := fun x => frQ (celF la (pos S (asg S R K) va)) * frQ (celF lb (pos S (withV (asg S R K) v x) vb))) fun x hx => ?_, outQ_mul, out_cell hp hrb h3 false lb hf]
  rw [prod_cell hp hU h1 h2 la lb (withV_lt hf (by omega)), pos_congr S (f := withV (asg S R K) v x) (g := asg S R K) (vs := va)]
  intro u hu
  rw [withV, if_neg fun e => hv (by rw [← e]; exact hu)]
theorem prod_comm (S va vb U : List Nat) (la lb : List Fr) : prodL S va vb U la lb = prodL S vb va U lb la := by
  rw [prodL, prodL]
  exact map_range_congr fun K _ => by rw [Rat.mul_comm]

/-- Numbers in lowest terms, of so many bytes at most. -/
def Sml (s : Nat) (l : List Fr) : Prop := ∀ f ∈ l, ∃ q, f = qF q ∧ qw q ≤ s
theorem Sml.fw {s : Nat} : ∀ {l : List Fr}, Sml s l → fw l ≤ (s + 2) * l.length
  | [], _ => by simp [Go.Proofs.YtnnfmfdjgdgdhaaGreatDoor.fw]
  | f :: l, h => by
    obtain ⟨q, rfl, hq⟩ := h f List.mem_cons_self
    have ih := Sml.fw (s := s) (l := l) fun g hg => h g (List.mem_cons_of_mem _ hg)
    have e : (nu q).size + (de q).size = qw q := rfl
    show (nu q).size + (de q).size + 2 + Go.Proofs.YtnnfmfdjgdgdhaaGreatDoor.fw l ≤ _
    rw [List.length_cons, Nat.mul_add, Nat.mul_one]
    omega
theorem Sml.cel {s : Nat} {l : List Fr} (h : Sml s l) {k : Nat} (hk : k < l.length) : qw (frQ (celF l k)) ≤ s := by
  obtain ⟨q, hq, hs⟩ := h (celF l k) (by rw [celF_eq hk]; exact List.getElem_mem hk)
  rw [hq, frQ_qF]; exact hs
theorem opQ_most {s : Nat} {p q : Rat} (hp : qw p ≤ s) (hq : qw q ≤ s) : qw (opQ true p q) ≤ s := by
  simp only [opQ, if_true]
  by_cases h : p < q
  · rw [if_pos h]; exact hq
  · rw [if_neg h]; exact hp
theorem outQ_size {s : Nat} (most : Bool) {g : Nat → Rat} : ∀ {k : Nat}, k ≤ 2 → (∀ x, x ≤ k → qw (g x) ≤ s) → qw (outQ most g k) ≤ 10 * s + 3
  | 0, _, h => by have := h 0 (Nat.le_refl _); rw [outQ]; omega
  | 1, _, h => by
    have h0 := h 0 (by omega)
    have h1 := h 1 (by omega)
    cases most with
    | false =>
      have := qw_add (g 0) (g 1)
      show qw (g 0 + g 1) ≤ _
      omega
    | true => exact Nat.le_trans (opQ_most h0 h1) (by omega)
  | 2, _, h => by
    have h0 := h 0 (by omega)
    have h1 := h 1 (by omega)
    have h2 := h 2 (by omega)
    cases most with
    | false =>
      have := qw_add (g 0) (g 1)
      have := qw_add (g 0 + g 1) (g 2)
      show qw (g 0 + g 1 + g 2) ≤ _
      omega
    | true => exact Nat.le_trans (opQ_most (opQ_most h0 h1) h2) (by omega)
  | k + 3, hk, _ => by omega
theorem Sml.out {S vars rest : List Nat} {v s : Nat} {l : List Fr} (h : Sml s l) (hp : Pos S) (hl : l.length = cnt S vars) (hs : sz S v ≤ 3) (most : Bool) : Sml (10 * s + 3) (outL S vars rest v most l) := by
  intro f hf
  obtain ⟨K, hK, rfl⟩ := List.mem_map.1 hf
  have hf' := fun z => asg_lt hp rest K z (List.mem_range.1 hK)
  have sv := sz_pos hp v
  refine ⟨_, rfl, ?_⟩
  rw [frQ_outN]
  exact outQ_size most (by omega) fun x hx => h.cel (by rw [hl]; exact pos_lt _ (withV_lt hf' (by omega)) _)
theorem Sml.prod {S va vb U : List Nat} {s t : Nat} {la lb : List Fr} (ha : Sml s la) (hb : Sml t lb) (hp : Pos S) (hla : la.length = cnt S va) (hlb : lb.length = cnt S vb) : Sml (s + t) (prodL S va vb U la lb) := by
  intro f hf
  obtain ⟨K, hK, rfl⟩ := List.mem_map.1 hf
  have hf' := fun z => asg_lt hp U K z (List.mem_range.1 hK)
  refine ⟨_, rfl, ?_⟩
  have h1 := ha.cel (k := pos S (asg S U K) va) (by rw [hla]; exact pos_lt _ hf' _)
  have h2 := hb.cel (k := pos S (asg S U K) vb) (by rw [hlb]; exact pos_lt _ hf' _)
  have := qw_mul (frQ (celF la (pos S (asg S U K) va))) (frQ (celF lb (pos S (asg S U K) vb)))
  omega
theorem cnt_three {S : List Nat} (h : ∀ v, sz S v ≤ 3) : ∀ vs : List Nat, cnt S vs ≤ 3 ^ vs.length
  | [] => Nat.le_refl _
  | v :: vs => by rw [cnt, List.length_cons, Nat.pow_succ, Nat.mul_comm]; exact Nat.mul_le_mul (cnt_three h vs) (h v)
theorem int_size {z : Int} (h : z.natAbs ≤ 255) : qw (z : Rat) ≤ 2 := by
  show (B z.natAbs).size + (B 1).size ≤ 2
  have h1 := B_one_size
  have h2 : (B z.natAbs).size ≤ 1 := by rw [B_size]; exact bn_fits 1 _ (by show _ < 256; omega)
  omega
end Go.Proofs.YtnnfmfdjgdgdhaaGreatDoor


/- The law's tables: what Out and Product answer there, and that the orders agree. -/
namespace Go.Proofs.YtnnfmfdjgdgdhaaGreatDoor
open Go.RowKit Go.Shelf

/-- Sizes of the law. -/
structure Sz3 (sizes : List Int) : Prop where
  fine : Fine sizes
  three : ∀ i (h : i < sizes.length), sizes[i] ≤ 3
  many : 3 ≤ sizes.length
  few : sizes.length ≤ 5
theorem Sz3.sz {sizes : List Int} (h : Sz3 sizes) (v : Nat) : sz (toN sizes) v ≤ 3 := by
  by_cases hv : v < sizes.length
  · have := h.fine.sz_eq hv
    have := h.three v hv
    omega
  · rw [Go.Proofs.YtnnfmfdjgdgdhaaGreatDoor.sz, List.getElem?_eq_none (by rw [toN_length]; omega)]; simp
/-- A table of the law. -/
structure TL (sizes vars : List Int) (l : List Fr) (s : Nat) : Prop where
  up : Up vars sizes.length
  len : l.length = cnt (toN sizes) (toN vars)
  sml : Sml s l
theorem TL.check {sizes vars : List Int} {l : List Fr} {s : Nat} (h : TL sizes vars l s) (hs : Sz3 sizes) : checkA sizes vars l.length = 0 := checkA_yes (countB_of hs.fine h.up) h.len
theorem cnt_few {sizes vars : List Int} (hs : Sz3 sizes) (h : Up vars sizes.length) : cnt (toN sizes) (toN vars) ≤ 243 := by
  have h1 := cnt_three hs.sz (toN vars)
  have h2 := h.length
  have h3 := hs.few
  rw [toN_length] at h1
  exact Nat.le_trans h1 (Nat.pow_le_pow_right (by decide) (show vars.length ≤ 5 by omega))
theorem TL.few {sizes vars : List Int} {l : List Fr} {s : Nat} (h : TL sizes vars l s) (hs : Sz3 sizes) : l.length ≤ 243 := by rw [h.len]; exact cnt_few hs h.up
theorem TL.fw {sizes vars : List Int} {l : List Fr} {s : Nat} (h : TL sizes vars l s) (hs : Sz3 sizes) (hS : s ≤ 30) : fw l ≤ 8192 := by
  have h1 := h.sml.fw
  have h2 := Nat.mul_le_mul (show s + 2 ≤ 32 by omega) (h.few hs)
  omega
theorem TL.out {sizes vars : List Int} {l : List Fr} {s : Nat} (h : TL sizes vars l s) (hs : Sz3 sizes) (v : Nat) (most : Bool) : TL sizes (lessN vars v) (outL (toN sizes) (toN vars) (toN (lessN vars (v : Int))) v most l) (10 * s + 3) :=
  ⟨lessN_up h.up _, outL_length _ _ _ _ _ _, h.sml.out hs.fine.pos h.len (hs.sz v) most⟩
theorem TL.prod {sizes va vb : List Int} {la lb : List Fr} {s t : Nat} (ha : TL sizes va la s) (hb : TL sizes vb lb t) (hs : Sz3 sizes) : TL sizes (togL va vb) (prodL (toN sizes) (toN va) (toN vb) (toN (togL va vb)) la lb) (s + t) :=
  ⟨togL_up ha.up hb.up, prodL_length _ _ _ _ _ _, ha.sml.prod hb.sml hs.fine.pos ha.len hb.len⟩
theorem up_len {vars sizes : List Int} (h : Up vars sizes.length) (hs : Sz3 sizes) : vars.length ≤ 140737488355328 := by have := h.length; have := hs.few; omega
theorem sz_len {sizes : List Int} (hs : Sz3 sizes) : sizes.length ≤ 140737488355328 := by have := hs.few; omega
theorem lessN_comm (l : List Int) (u v : Int) : lessN (lessN l u) v = lessN (lessN l v) u := by
  rw [lessN, lessN, lessN, lessN, List.filter_filter, List.filter_filter]
  exact List.filter_congr fun x _ => Bool.and_comm _ _
theorem mem_less {l : List Int} {x v : Int} : x ∈ lessN l v ↔ x ∈ l ∧ x ≠ v := by simp [lessN]
theorem less_in {vars : List Int} {n : Nat} (h : Up vars n) (u : Nat) : ∀ x ∈ toN vars, x = u ∨ x ∈ toN (lessN vars (u : Int)) := by
  intro x hx
  obtain ⟨y, hy, rfl⟩ := List.mem_map.1 hx
  have h1 := (up_iff.1 h).1 y hy
  by_cases e : y = (u : Int)
  · left; omega
  · exact .inr (List.mem_map.2 ⟨y, mem_less.2 ⟨hy, e⟩, rfl⟩)
theorem toN_sub {va vb : List Int} (h : ∀ x ∈ va, x ∈ vb) : ∀ x ∈ toN va, x ∈ toN vb := by
  intro x hx
  obtain ⟨y, hy, rfl⟩ := List.mem_map.1 hx
  exact List.mem_map.2 ⟨y, h y hy, rfl⟩
theorem togL_sub {va vb : List Int} {n : Nat} (hb : Up vb n) (h : ∀ x ∈ va, x ∈ vb) : togL va vb = vb :=
  rise_extI (togL_rise va vb).1 (up_iff.1 hb).2 fun x => by rw [(togL_rise va vb).2]; exact ⟨fun e => e.elim (h x) id, .inr⟩
theorem togL_sub' {va vb : List Int} {n : Nat} (hb : Up vb n) (h : ∀ x ∈ va, x ∈ vb) : togL vb va = vb :=
  rise_extI (togL_rise vb va).1 (up_iff.1 hb).2 fun x => by rw [(togL_rise vb va).2]; exact ⟨fun e => e.elim id (h x), .inl⟩
theorem out_len {S vars rest : List Nat} {v : Nat} {most : Bool} {l : List Fr} (h : cnt S rest ≤ 243) : (outL S vars rest v most l).length ≤ 100000 := by rw [outL_length]; omega

theorem up_short {sizes V : List Int} (hs : Sz3 sizes) (h : Up V sizes.length) : V.length ≤ 100000 := by have := h.length; have := hs.few; omega
end Go.Proofs.YtnnfmfdjgdgdhaaGreatDoor


/- The document's answer: Out. -/
namespace Go.Proofs.YtnnfmfdjgdgdhaaGreatDoor
open Go.RowKit Go.Shelf

theorem cmp_turn (p q : Rat) : 0 < cmpQ p q ↔ cmpQ q p < 0 := by
  rw [cmpQ, cmpQ]
  by_cases h1 : p < q
  · have h2 : ¬ q < p := Rat.not_lt.2 (Rat.le_of_lt h1)
    have h3 : ¬ q = p := fun h => by rw [h] at h1; exact Rat.lt_irrefl h1
    rw [if_pos h1, if_neg h2, if_neg h3]; decide
  · rw [if_neg h1]
    by_cases h2 : p = q
    · subst h2
      rw [if_neg h1, if_pos rfl]
    · have h3 : q < p := Rat.not_le.1 fun h4 => h1 (Rat.lt_of_le_of_ne h4 h2)
      rw [if_neg h2, if_pos h3]; decide
/-- What is left of the first so many; ahead of the first nothing. -/
def leftN (most : Bool) (T : Nat → Fr) (x : Nat) : Fr := if x = 0 then frZ else outN most T (x - 1)
theorem leftN_zero (most : Bool) (T : Nat → Fr) : leftN most T 0 = frZ := rfl
theorem leftN_one (most : Bool) (T : Nat → Fr) : leftN most T 1 = T 0 := rfl
theorem leftN_sum (T : Nat → Fr) {x : Nat} (h : x ≠ 0) : leftN false T (x + 1) = qF (frQ (leftN false T x) + frQ (T x)) := by
  obtain ⟨y, rfl⟩ : ∃ y, x = y + 1 := ⟨x - 1, by omega⟩
  rfl
theorem leftN_up (T : Nat → Fr) {x : Nat} (h : x ≠ 0) (hc : 0 < cmpQ (frQ (T x)) (frQ (leftN true T x))) : leftN true T (x + 1) = T x := by
  obtain ⟨y, rfl⟩ : ∃ y, x = y + 1 := ⟨x - 1, by omega⟩
  change 0 < cmpQ (frQ (T (y + 1))) (frQ (outN true T y)) at hc
  show great (outN true T y) (T (y + 1)) = _
  rw [great, if_pos ((cmp_turn _ _).1 hc)]
theorem leftN_keep (T : Nat → Fr) {x : Nat} (h : x ≠ 0) (hc : ¬ 0 < cmpQ (frQ (T x)) (frQ (leftN true T x))) : leftN true T (x + 1) = leftN true T x := by
  obtain ⟨y, rfl⟩ : ∃ y, x = y + 1 := ⟨x - 1, by omega⟩
  change ¬ 0 < cmpQ (frQ (T (y + 1))) (frQ (outN true T y)) at hc
  show great (outN true T y) (T (y + 1)) = outN true T y
  rw [great, if_neg (fun h => hc ((cmp_turn _ _).2 h))]
theorem left_ar {x : Nat} (hx : x ≤ 3) : 2 * ((x - 1 + 1) * 8192) ≤ 50000 := by omega
theorem leftN_size (most : Bool) (T : Nat → Fr) (x : Nat) (hx : x ≤ 3) (h : ∀ y, y < x → (T y).2.1.size + (T y).2.2.size + 2 ≤ 8192) : (leftN most T x).2.1.size + (leftN most T x).2.2.size ≤ 50000 := by
  by_cases h0 : x = 0
  · subst h0; rw [leftN_zero]; decide
  · have e : leftN most T x = outN most T (x - 1) := if_neg h0
    rw [e]
    exact Nat.le_trans (outN_size most T (x - 1) fun y hy => h y (by omega)) (left_ar hx)
theorem spr_with (n : Nat) (f : Nat → Nat) (v z x : Nat) : (spr n (withV f v z)).set v x = spr n (withV f v x) := by
  rw [spr_set]
  exact spr_congr fun u _ => by
    rw [withV, withV, withV]
    by_cases e : u = v
    · rw [if_pos e, if_pos e]
    · rw [if_neg e, if_neg e, if_neg e]
theorem spr_self (n : Nat) (f : Nat → Nat) (v : Nat) : spr n f = spr n (withV f v (f v)) := spr_congr fun u _ => by
  rw [withV]
  by_cases e : u = v
  · rw [if_pos e, e]
  · rw [if_neg e]
theorem left_ar2 {x : Nat} (hx : x ≤ 4) : 2 * ((x - 1 + 1) * 8192) ≤ 65536 := by omega
theorem leftN_lt (most : Bool) (T : Nat → Fr) (x : Nat) (h1 : 1 ≤ x) (hx : x ≤ 4) (h : ∀ y, y < x → (T y).2.1.size + (T y).2.2.size + 2 ≤ 8192) : (leftN most T x).2.1.size + (leftN most T x).2.2.size ≤ 65536 := by
  have e : leftN most T x = outN most T (x - 1) := if_neg (by omega)
  rw [e]
  exact Nat.le_trans (outN_size most T (x - 1) fun y hy => h y (by omega)) (left_ar2 hx)

/-- What the inner loop of Out holds. -/
def OI (V0 V : World) (G B : Nat) (n v z : Nat) (F : Nat → Nat) (f : Fr) : Prop := RowI V G (spr n (withV F v z)) ∧ Box V B f.1 f.2.1 f.2.2 ∧ Below V0.heap.size V0 V
theorem OI.step {V0 V V' : World} {G B n v z : Nat} {F : Nat → Nat} {f : Fr} (h : OI V0 V G B n v z F f) (hb : Below V.heap.size V V') : OI V0 V' G B n v z F f := ⟨h.1.below hb h.1.lt, h.2.1.below hb h.2.1.lt, h.2.2.trans (hb.mono h.2.2.size)⟩
theorem rows_apart {V : World} {G B : Nat} {l : List Nat} {n : Bool} {x y : ByteArray} (h1 : RowI V G l) (h2 : Box V B n x y) : G ≠ B := fun e => by
  subst e
  rw [RowI] at h1
  rw [Box, h1] at h2
  simp at h2

end Go.Proofs.YtnnfmfdjgdgdhaaGreatDoor


/- The document's answer: TableBest. -/
namespace Go.Proofs.YtnnfmfdjgdgdhaaGreatDoor
open Go.RowKit Go.Shelf

theorem bestN_up {l : List Fr} {i : Nat} (h : 1 ≤ i) (hc : 0 < cmpQ (frQ (celF l i)) (frQ (celF l (bestN l (i - 1))))) : bestN l i = i := by
  obtain ⟨k, rfl⟩ : ∃ k, i = k + 1 := ⟨i - 1, by omega⟩
  rw [Nat.add_sub_cancel] at hc
  rw [bestN, if_pos ((cmp_turn _ _).1 hc)]
theorem bestN_keep {l : List Fr} {i : Nat} (h : 1 ≤ i) (hc : ¬ 0 < cmpQ (frQ (celF l i)) (frQ (celF l (bestN l (i - 1))))) : bestN l i = bestN l (i - 1) := by
  obtain ⟨k, rfl⟩ : ∃ k, i = k + 1 := ⟨i - 1, by omega⟩
  rw [Nat.add_sub_cancel] at hc ⊢
  rw [bestN, if_neg (fun h => hc ((cmp_turn _ _).2 h))]

end Go.Proofs.YtnnfmfdjgdgdhaaGreatDoor


/- Package table: Norm's closure. -/
namespace Go.Proofs.YtnnfmfdjgdgdhaaGreatDoor
open Go.RowKit Go.Shelf

end Go.Proofs.YtnnfmfdjgdgdhaaGreatDoor


/- Package table: Norm. -/
namespace Go.Proofs.YtnnfmfdjgdgdhaaGreatDoor
open Go.RowKit Go.Shelf

theorem normL_length (l : List Fr) : (normL l).length = l.length := by simp [normL]
theorem normL_get (l : List Fr) {k : Nat} (h : k < (normL l).length) : (normL l)[k] = qF (frQ (l[k]'(by rw [normL_length] at h; exact h)) * (1 / fsum l)) := by simp [normL]
theorem qw_inv {q : Rat} (h : q ≠ 0) : qw (1 / q) ≤ qw q + 1 := by
  have e : val (sgn q) (nu q) (de q) ≠ 0 := by rw [val_own]; exact h
  have h0 := fun h => e (val_zero_iff.2 h)
  have e1 : 1 / q = val (sgn q) (de q) (nu q) := by rw [val_inv _ _ _ (fun h => h0 (.inl h)) (fun h => h0 (.inr h)), val_own, Rat.div_def, Rat.one_mul]
  rw [e1]
  refine Nat.le_trans (qw_val _ _ _) ?_
  show (B q.den).size + (B q.num.natAbs).size + 1 ≤ qw q + 1
  rw [qw]
  omega
theorem qw_sum {l : List Fr} (h : fw l ≤ 10000) : qw (fsum l) ≤ 20002 := by have := fits_qw (fits_sum l); omega

end Go.Proofs.YtnnfmfdjgdgdhaaGreatDoor


/- The document's answer: Norm. -/
namespace Go.Proofs.YtnnfmfdjgdgdhaaGreatDoor
open Go.RowKit Go.Shelf

end Go.Proofs.YtnnfmfdjgdgdhaaGreatDoor


/- The document's answer: Product. -/
namespace Go.Proofs.YtnnfmfdjgdgdhaaGreatDoor
open Go.RowKit Go.Shelf

/-- The variables so far. -/
def bothI (a b : List Int) (i : Nat) : List Int := iL (bothN i a b)
theorem bothI_succ (a b : List Int) (i : Nat) : bothI a b (i + 1) = bothI a b i ++ if (inB (i : Int) a || inB (i : Int) b) = true then [(i : Int)] else [] := by
  rw [bothI, bothI, bothN, bothN, List.range_succ, List.filter_append, iL, iL, List.map_append]
  congr 1
  by_cases h : (inB (i : Int) a || inB (i : Int) b) = true
  · simp only [List.filter_cons, h, List.filter_nil, if_true, List.map_cons, List.map_nil]
  · simp only [List.filter_cons, h, List.filter_nil]
    rfl
theorem bothI_len (a b : List Int) (i : Nat) : (bothI a b i).length ≤ i := by
  rw [bothI, iL_length]
  exact Nat.le_trans (List.length_filter_le _ _) (by rw [List.length_range]; exact Nat.le_refl _)
theorem RwI.off {w : World} {B : Nat} {v : Value} {l : List Int} (h : RwI w B v l) (b j : Nat) (y : Value) (hb : b < B) : RwI (w.setCell ⟨b, j, none⟩ y) B v l := by
  refine ⟨h.1, h.2.imp id ?_⟩
  rintro ⟨g, cap, cur, h1, h2, h3, h4⟩
  exact ⟨g, cap, cur, h1, h2, (Below.heap_setCell w ⟨b, j, none⟩ y g (by show g ≠ b; omega)).trans h3, h4⟩
theorem RwI.below {w w' : World} {B : Nat} {v : Value} {l : List Int} (h : RwI w B v l) (hb : Below w.heap.size w w') : RwI w' B v l := by
  refine ⟨h.1, h.2.imp id ?_⟩
  rintro ⟨g, cap, cur, h1, h2, h3, h4⟩
  exact ⟨g, cap, cur, h1, h2, (hb.block g (Array.getElem?_eq_some_iff.1 h3).1).trans h3, h4⟩
theorem RwI.slv {w : World} {B : Nat} {v : Value} {l : List Int} (h : RwI w B v l) : SlV v := by
  obtain ⟨d, cd, e, _⟩ := h.ints
  exact ⟨d, _, cd, e⟩
theorem RwI.intS {w : World} {B : Nat} {d : Option Addr} {cd : Nat} {U : List Int} (h : RwI w B (.slice d U.length cd) U) : IntS w d U := by
  obtain ⟨d', cd', e, hi⟩ := h.ints
  cases e
  exact hi

end Go.Proofs.YtnnfmfdjgdgdhaaGreatDoor


/- The law's raw numbers: Pick, sizesOf, All, Some, Less. -/
namespace Go.Proofs.YtnnfmfdjgdgdhaaGreatDoor
open Go.RowKit Go.Shelf

/-- A number below n, of any number. -/
def pickN (c : Int) (n : Nat) : Nat := (if c < 0 then (-(c + 1)).toNat else c.toNat) % n
theorem pickN_lt (c : Int) {n : Nat} (h : 1 ≤ n) : pickN c n < n := Nat.mod_lt _ h

set_option maxRecDepth 100000 in
set_option maxHeartbeats 1000000 in
theorem rPick_same (c : Int) (n : Nat) (w : World) (h1 : -9223372036854775808 ≤ c) (h2 : c ≤ 9223372036854775807) (hn : 1 ≤ n) (hn' : n ≤ 1000) :
    Calls Tryz.prog 4 #[.int .i64 c, .int .i64 (n : Nat)] w fun e w' => e = .returned (.int .i64 (pickN c n : Nat)) ∧ w' = w := by
  have HP : Hid (pickN c n = (if c < 0 then (-(c + 1)).toNat else c.toNat) % n) := rfl
  have hlt := pickN_lt c hn
  generalize pickN c n = P at *
  by_cases hc : c < 0
  · rw [if_pos hc] at HP
    obtain ⟨d, hd⟩ : ∃ d : Nat, c = -((d : Int) + 1) := ⟨(-(c + 1)).toNat, by omega⟩
    subst hd
    have HE : Hid ((d : Int) % (n : Int) = (P : Int)) := by
      show _ = _
      rw [HP.out, show (-(-((d : Int) + 1) + 1)).toNat = d by omega, Int.natCast_emod]
    have hw : IntKind.i64.wrap (-((d : Int) + 1) + 1) = -(d : Int) := by rw [IntKind.wrap_i64]; omega
    have hw2 : IntKind.i64.wrap (- -(d : Int)) = (d : Int) := by rw [IntKind.wrap_i64]; omega
    go_enter Tryz.func4, Tryz.ntmps4
    go_wp2
    go_ret
    exact ⟨by rw [HE.out]; rfl, rfl⟩
  · rw [if_neg hc] at HP
    obtain ⟨d, rfl⟩ : ∃ d : Nat, c = d := ⟨c.toNat, by omega⟩
    have HE : Hid ((d : Int) % (n : Int) = (P : Int)) := by
      show _ = _
      rw [HP.out, Int.toNat_natCast, Int.natCast_emod]
    go_enter Tryz.func4, Tryz.ntmps4
    go_wp2
    go_ret
    exact ⟨by rw [HE.out]; rfl, rfl⟩
theorem rPick_any (c : Int) (n : Nat) (w : World) (h1 : -9223372036854775808 ≤ c) (h2 : c ≤ 9223372036854775807) (hn : 1 ≤ n) (hn' : n ≤ 1000) :
    Calls Tryz.prog 4 #[.int .i64 c, .int .i64 (n : Nat)] w fun e w' => e = .returned (.int .i64 (pickN c n : Nat)) ∧ Below w.heap.size w w' := by
  refine (rPick_same c n w h1 h2 hn hn').mono ?_
  rintro e w' ⟨h, rfl⟩
  exact ⟨h, Below.refl _ _⟩

/-- Sizes so far. -/
def Each3 (L : List Int) : Prop := ∀ i (h : i < L.length), 1 ≤ L[i] ∧ L[i] ≤ 3
theorem Each3.snoc {L : List Int} {x : Int} (h : Each3 L) (h1 : 1 ≤ x) (h2 : x ≤ 3) : Each3 (L ++ [x]) := by
  intro i hi
  rw [List.getElem_append]
  by_cases e : i < L.length
  · rw [dif_pos e]; exact h i e
  · rw [dif_neg e, List.getElem_singleton]; exact ⟨h1, h2⟩
theorem Each3.sz {L : List Int} (h : Each3 L) (h1 : 3 ≤ L.length) (h2 : L.length ≤ 5) : Sz3 L := ⟨⟨by omega, by omega, fun i hi => ⟨(h i hi).1, by have := (h i hi).2; omega⟩⟩, fun i hi => (h i hi).2, h1, h2⟩
theorem new_int (w : World) (u : Int) : IntS (w.alloc (.cells #[.int .i64 u] 3)) (some ⟨w.heap.size, 0, none⟩) [u] := fun k hk => by
  obtain rfl : k = 0 := by simp at hk; omega
  exact ⟨w.heap.size, 0, rfl, by simp, (Boxed.new w _ _).cell⟩

end Go.Proofs.YtnnfmfdjgdgdhaaGreatDoor


/- Package table: Best. -/
namespace Go.Proofs.YtnnfmfdjgdgdhaaGreatDoor
open Go.RowKit Go.Shelf

end Go.Proofs.YtnnfmfdjgdgdhaaGreatDoor


/- The law's comparison of two answers beside errors. -/
namespace Go.Proofs.YtnnfmfdjgdgdhaaGreatDoor
open Go.RowKit

end Go.Proofs.YtnnfmfdjgdgdhaaGreatDoor


/- The law's small functions on tables. -/
namespace Go.Proofs.YtnnfmfdjgdgdhaaGreatDoor
open Go.RowKit Go.Shelf

end Go.Proofs.YtnnfmfdjgdgdhaaGreatDoor


/- Both answer alike: each call on tables, in package table and in the document's answer. -/
namespace Go.Proofs.YtnnfmfdjgdgdhaaGreatDoor
open Go.RowKit Go.Shelf

/-- Both answer the same table and error. -/
def TwoT (w : World) (f g : FuncId) (args : Array Value) : Prop := ∃ (V : List Int) (L : List Fr) (k : Int), V.length ≤ 100000 ∧ L.length ≤ 100000 ∧
  (∀ W, Below w.heap.size w W → Calls Tryz.prog f args W fun e w' => TabA V L k e w' ∧ Below W.heap.size W w') ∧ ∀ W, Below w.heap.size w W → Calls Tryz.prog g args W fun e w' => TabA V L k e w' ∧ Below W.heap.size W w'
/-- A table that came in. -/
structure TIn (w : World) (b c : Option Addr) (cb : Nat) (vars : List Int) (l : List Fr) : Prop where
  ints : IntS w b vars
  cells : FrS w c l
  nil : b = none → cb = 0
  len : vars.length ≤ 4096
  small : fw l ≤ 8192
theorem TIn.below {w w' : World} {b c : Option Addr} {cb : Nat} {vars : List Int} {l : List Fr} (h : TIn w b c cb vars l) (hb : Below w.heap.size w w') : TIn w' b c cb vars l := ⟨h.ints.below hb, h.cells.below hb, h.nil, h.len, h.small⟩
theorem cnt_all {sizes vars : List Int} (h1 : Fine sizes) (h2 : Up vars sizes.length) : cnt (toN sizes) (toN vars) ≤ 65536 := cnt_small h1.sz_le (by rw [toN_length]; have := h1.eight; have := h2.length; omega)
end Go.Proofs.YtnnfmfdjgdgdhaaGreatDoor


/- The law's raw numbers: tableOf. -/
namespace Go.Proofs.YtnnfmfdjgdgdhaaGreatDoor
open Go.RowKit Go.Shelf

theorem wp_append_fr {w : World} {o : Oper} {a : Act} {K : Act → World → Prop} {Q : Exit → Act → World → Prop} (s x : Operand)
    (ho : o.op = .call { callee := .builtin .append, args := #[s, x], argTypes := #[24, 24] }) (base : Nat) (v : Value) (l : List Fr) (f : Fr) (hs : a.eval s = v) (hown : RwF w base v l) (g : Nat) (hx : a.eval x = .slice (some ⟨g, 0, none⟩) 1 1) (hg : Box w g f.1 f.2.1 f.2.2) (hlen : l.length + 1 ≤ 100000) (hbase : base ≤ w.heap.size)
    (h : ∀ v' w', RwF w' base v' (l ++ [f]) → w.grownBy w' v.ownBlock → K (a.put o.dst v') w') : o.wp Tryz.prog a w K Q := by
  obtain ⟨i0, hi0, hz0, hz1, hz2⟩ := info_parts Tryz.infoFrac
  refine wp_append_own _ s x 24 ho base 32 i0 (.agg #[.bool false, .string ⟨#[]⟩, .string ⟨#[]⟩]) 3 40 Tryz.underlying24 hi0 hz0 hz1 hz2 rfl (by decide) v l.length _ hs hown ⟨g, 0, none⟩ 1 1 [.bool f.1, .string f.2.1, .string f.2.2] hx rfl ?_ ?_ (by unfold maxLen; omega) (by omega) hbase ?_
  · intro j u hj
    match j, hj with
    | 0, hj => cases hj; exact hg.c0
    | 1, hj => cases hj; exact hg.c1
    | 2, hj => cases hj; exact hg.c2
    | j + 3, hj => simp at hj
  · intro u hu
    simp only [List.mem_cons, List.not_mem_nil, or_false] at hu
    rcases hu with rfl | rfl | rfl <;> rfl
  · intro v' w' h1 h2 _
    refine h v' w' ?_ h2
    rw [RwF, List.length_append, frC_snoc]
    exact h1
theorem mkRat_int (k : Int) : mkRat k 1 = (k : Rat) := by
  rw [Rat.mkRat_one]
theorem rOf_q (k : Int) (w : World) (hk : k.natAbs ≤ 255) : Calls Tryz.prog 10 #[.int .i64 k] w fun e w' => ∃ f : Fr, e = .returned (frV f) ∧ (∃ q, f = qF q ∧ qw q ≤ 2) ∧ Below w.heap.size w w' := by
  refine (rOfF_any k w (by omega) (by omega)).mono ?_
  rintro e w' ⟨rfl, hb⟩
  rw [mkRat_int]
  exact ⟨qF (k : Rat), rfl, ⟨_, rfl, int_size hk⟩, hb⟩
theorem Sml.snoc {s : Nat} {l : List Fr} {f : Fr} (h : Sml s l) (hf : ∃ q, f = qF q ∧ qw q ≤ s) : Sml s (l ++ [f]) := fun g hg => (List.mem_append.1 hg).elim (h g) fun e => by rw [List.mem_singleton.1 e]; exact hf


end Go.Proofs.YtnnfmfdjgdgdhaaGreatDoor


/- Plain facts on decimal numerals in groups of nine digits. -/
namespace Go.Proofs.YtnnfmfdjgdgdhaaGreatDoor
open Go

/-- So many digits of a number, noughts ahead and all. -/
def decs : Nat → Nat → List UInt8
  | 0, _ => []
  | j + 1, r => decs j (r / 10) ++ [UInt8.ofNat (48 + r % 10)]
theorem dec_small {u : Nat} (h : u < 10) : Lib.decDigits u = [UInt8.ofNat (48 + u)] := by rw [Lib.decDigits, dif_pos h]
theorem dec_big {u : Nat} (h : ¬ u < 10) : Lib.decDigits u = Lib.decDigits (u / 10) ++ [UInt8.ofNat (48 + u % 10)] := by rw [Lib.decDigits, dif_neg h]
theorem dec_step (q d : Nat) (hq : q ≠ 0) (hd : d < 10) : Lib.decDigits (q * 10 + d) = Lib.decDigits q ++ [UInt8.ofNat (48 + d)] := by
  rw [dec_big (by omega), show (q * 10 + d) / 10 = q by omega, show (q * 10 + d) % 10 = d by omega]
theorem dec_join (j : Nat) : ∀ (q r : Nat), q ≠ 0 → r < 10 ^ j → Lib.decDigits (q * 10 ^ j + r) = Lib.decDigits q ++ decs j r := by
  induction j with
  | zero => intro q r _ hr; rw [Nat.pow_zero] at hr; have : r = 0 := by omega
            subst this; simp [decs]
  | succ j ih =>
    intro q r hq hr
    have hr' : r / 10 < 10 ^ j := Nat.div_lt_of_lt_mul (by rw [Nat.pow_succ] at hr; omega)
    have hne : q * 10 ^ j + r / 10 ≠ 0 := by
      have : 0 < q * 10 ^ j := Nat.mul_pos (Nat.pos_of_ne_zero hq) (Nat.pow_pos (by decide))
      omega
    have e : q * 10 ^ (j + 1) + r = (q * 10 ^ j + r / 10) * 10 + r % 10 := by
      rw [Nat.pow_succ, Nat.add_mul, Nat.mul_assoc]; omega
    rw [e, dec_step _ _ hne (Nat.mod_lt _ (by decide)), ih q (r / 10) hq hr', decs, List.append_assoc]
theorem decs_zero (j : Nat) : decs j 0 = List.replicate j 48 := by
  induction j with
  | zero => rfl
  | succ j ih => rw [decs, Nat.zero_div, ih, List.replicate_succ']; rfl
theorem decs_pad (j : Nat) : ∀ r, r < 10 ^ (j + 1) → decs (j + 1) r = List.replicate (j + 1 - (Lib.decDigits r).length) 48 ++ Lib.decDigits r := by
  induction j with
  | zero => intro r hr; rw [dec_small (by simpa using hr)]; simp [decs, Nat.mod_eq_of_lt (show r < 10 by simpa using hr)]
  | succ j ih =>
    intro r hr
    by_cases h : r < 10
    · rw [dec_small h, decs, Nat.div_eq_of_lt h, decs_zero, Nat.mod_eq_of_lt h]; simp
    · rw [dec_big h, decs, ih (r / 10) (Nat.div_lt_of_lt_mul (by rw [Nat.pow_succ] at hr; omega)), List.append_assoc, List.length_append, List.length_singleton]
      congr 2
      omega

/-- The i-th group. -/
theorem grp_get (i : Nat) : ∀ n, i < (grp n).length → (grp n)[i]? = some (n / G ^ i % G) := by
  induction i with
  | zero =>
    intro n h
    have hn : n ≠ 0 := by rintro rfl; rw [grp_zero] at h; simp at h
    rw [grp_pos n hn, Nat.pow_zero, Nat.div_one]; rfl
  | succ i ih =>
    intro n h
    have hn : n ≠ 0 := by rintro rfl; rw [grp_zero] at h; simp at h
    rw [grp_pos n hn, List.length_cons] at h
    rw [grp_pos n hn, List.getElem?_cons_succ, ih _ (Nat.lt_of_succ_lt_succ h), Nat.div_div_eq_div_mul, Nat.pow_succ, Nat.mul_comm G]
theorem grp_lt_pow (n : Nat) : n < G ^ (grp n).length := by
  induction n using Nat.strongRecOn with
  | ind n ih =>
    by_cases h : n = 0
    · subst h; rw [grp_zero]; simp
    · rw [grp_pos n h, List.length_cons, Nat.pow_succ]
      have := ih _ (div_G_lt h)
      exact (Nat.div_lt_iff_lt_mul G_pos).1 this
theorem grp_top (n : Nat) (h : n ≠ 0) : n / G ^ ((grp n).length - 1) ≠ 0 := by
  induction n using Nat.strongRecOn with
  | ind n ih =>
    rw [grp_pos n h, List.length_cons, Nat.add_sub_cancel]
    by_cases h2 : n / G = 0
    · rw [h2, grp_zero]; simpa using h
    · have hp : 0 < (grp (n / G)).length := List.length_pos_iff.2 (fun e => h2 ((grp_nil_iff _).1 e))
      have := ih _ (div_G_lt h) h2
      rwa [Nat.div_div_eq_div_mul, Nat.mul_comm, ← Nat.pow_succ, Nat.succ_eq_add_one, Nat.sub_add_cancel hp] at this

/-- What Text has written when it has gone through k groups from the highest down. -/
def txt (n k : Nat) : List UInt8 := if k = 0 then [] else Lib.decDigits (n / G ^ ((grp n).length - k))
theorem txt_zero (n : Nat) : txt n 0 = [] := rfl
theorem txt_all (n : Nat) (h : n ≠ 0) : txt n (grp n).length = Lib.decDigits n := by
  have hp : 0 < (grp n).length := List.length_pos_iff.2 (fun e => h ((grp_nil_iff _).1 e))
  rw [txt, if_neg (by omega), Nat.sub_self, Nat.pow_zero, Nat.div_one]
theorem G_pow9 : G = 10 ^ 9 := rfl
theorem txt_succ (n k : Nat) (hk : k < (grp n).length) : txt n (k + 1) = txt n k ++ (if k = 0 then Lib.decDigits ((grp n)[(grp n).length - 1 - k]?.getD 0) else List.replicate (9 - (Lib.decDigits ((grp n)[(grp n).length - 1 - k]?.getD 0)).length) 48 ++ Lib.decDigits ((grp n)[(grp n).length - 1 - k]?.getD 0)) := by
  have hn : n ≠ 0 := by rintro rfl; rw [grp_zero] at hk; simp at hk
  rw [grp_get _ n (by omega), Option.getD_some]
  by_cases h0 : k = 0
  · subst h0
    rw [txt, if_neg (by omega), txt_zero, if_pos rfl, List.nil_append, Nat.sub_zero]
    congr 1
    have hlt := grp_lt_pow n
    rw [Nat.zero_add]
    refine (Nat.mod_eq_of_lt (Nat.div_lt_of_lt_mul ?_)).symm
    rw [← Nat.pow_succ, Nat.succ_eq_add_one, Nat.sub_add_cancel (by omega)]
    exact hlt
  · rw [txt, if_neg (by omega), txt, if_neg h0, if_neg h0]
    obtain ⟨e, he⟩ : ∃ e, e + 1 = (grp n).length - k := ⟨(grp n).length - k - 1, by omega⟩
    have e1 : (grp n).length - (k + 1) = e := by omega
    have e2 : (grp n).length - 1 - k = e := by omega
    rw [e1, e2, ← he]
    have hq : n / G ^ (e + 1) ≠ 0 := by
      intro hz
      have ht := grp_top n hn
      apply ht
      have hle : e + 1 ≤ (grp n).length - 1 := by omega
      obtain ⟨d, hd⟩ : ∃ d, (grp n).length - 1 = (e + 1) + d := ⟨(grp n).length - 1 - (e + 1), by omega⟩
      rw [hd, Nat.pow_add, ← Nat.div_div_eq_div_mul, hz, Nat.zero_div]
    have hs : n / G ^ e = n / G ^ (e + 1) * 10 ^ 9 + n / G ^ e % G := by
      rw [Nat.pow_succ, ← Nat.div_div_eq_div_mul, ← G_pow9]
      exact (Nat.div_add_mod' _ _).symm
    have hr : n / G ^ e % G < 10 ^ (8 + 1) := Nat.mod_lt _ G_pos
    rw [← decs_pad 8 _ hr]
    generalize n / G ^ e % G = r at *
    rw [hs]
    exact dec_join 9 _ r hq hr
theorem txt_len (n k : Nat) (hk : k ≤ (grp n).length) : (txt n k).length ≤ 9 * k := by
  induction k with
  | zero => simp [txt_zero]
  | succ k ih =>
    have hk' : k < (grp n).length := hk
    have ihk := ih (by omega)
    have hx : (grp n)[(grp n).length - 1 - k]?.getD 0 < 10 ^ 9 := by
      rw [grp_get _ n (by omega)]; exact Nat.mod_lt _ G_pos
    generalize hy : (grp n)[(grp n).length - 1 - k]?.getD 0 = y at *
    have hyl : (Lib.decDigits y).length ≤ 9 := by
      have h1 := decs_pad 8 y hx
      have h2 : (decs 9 y).length = 9 := rfl
      rw [h1, List.length_append] at h2
      omega
    rw [txt_succ n k hk', hy, List.length_append]
    split
    · omega
    · rw [List.length_append, List.length_replicate]; omega

end Go.Proofs.YtnnfmfdjgdgdhaaGreatDoor


/- The document's answer: NatText. -/
namespace Go.Proofs.YtnnfmfdjgdgdhaaGreatDoor
open Go.RowKit Go.Lib

theorem dec_len (k : Nat) : ∀ n, n < 10 ^ (k + 1) → (decDigits n).length ≤ k + 1 := by
  induction k with
  | zero => intro n h; rw [dec_small (by simpa using h)]; simp
  | succ k ih =>
    intro n h
    by_cases h9 : n < 10
    · rw [dec_small h9]; simp
    · rw [dec_big h9, List.length_append]
      have := ih (n / 10) (by rw [Nat.pow_succ] at h; omega)
      simp
      omega
theorem dec_fits {n k : Nat} (h : n < 256 ^ k) : (decDigits n).length ≤ 3 * k + 1 := by
  apply dec_len
  have h1 : (256 : Nat) ^ k ≤ (10 ^ 3) ^ k := Nat.pow_le_pow_left (by decide) k
  rw [← Nat.pow_mul] at h1
  have h2 : 10 ^ (3 * k) ≤ 10 ^ (3 * k + 1) := Nat.pow_le_pow_right (by decide) (by omega)
  omega
/-- The digits, none of 0. -/
def dg0 (n : Nat) : List UInt8 := if n = 0 then [] else decDigits n
theorem dg0_step {n : Nat} (h : n ≠ 0) : dg0 n = dg0 (n / 10) ++ [UInt8.ofNat (48 + n % 10)] := by
  rw [dg0, if_neg h]
  by_cases h9 : n < 10
  · rw [dec_small h9, dg0, if_pos (by omega), List.nil_append, Nat.mod_eq_of_lt h9]
  · rw [dec_big h9, dg0, if_neg (by omega)]

end Go.Proofs.YtnnfmfdjgdgdhaaGreatDoor


/- The document's answer: names of values, and rows of raw weights. -/
namespace Go.Proofs.YtnnfmfdjgdgdhaaGreatDoor
open Go.RowKit Go.Shelf Go.Lib

/-- A number's text. -/
def dgB (i : Nat) : ByteArray := ⟨(decDigits i).toArray⟩
theorem dgB_size {i : Nat} (h : i < 10) : (dgB i).size = 1 := by
  rw [dgB, dec_small h]
  rfl
/-- A letter, and a number's text. -/
abbrev nmB (c : UInt8) (i : Nat) : ByteArray := ⟨#[c]⟩ ++ dgB i
/-- What values are called. -/
def valsN (k : Nat) : List ByteArray := (List.range k).map (nmB 118)
theorem valsN_succ (k : Nat) : valsN (k + 1) = valsN k ++ [nmB 118 k] := by simp [valsN, List.range_succ]
theorem valsN_length (k : Nat) : (valsN k).length = k := by simp [valsN]
theorem rNumText (i : Nat) (w : World) (hi : i ≤ 1000) : Calls Tryz.prog 22 #[.int .i64 (i : Nat)] w fun e w' => e = .returned (.string (B i)) ∧ Below w.heap.size w w' := by
  have := rOf_any (i : Int) w (by omega) (by omega)
  rwa [Int.toNat_natCast] at this
/-- A row of raw weights. -/
def rawF (Ls : List Nat) : List Fr := Ls.map fun a : Nat => qF ((a : Rat) / (Ls.sum : Rat))
theorem rawF_length (Ls : List Nat) : (rawF Ls).length = Ls.length := by simp [rawF]
theorem qw_nat {n : Nat} (h : n < 256) : qw (n : Rat) ≤ 2 := by
  have h1 : (n : Rat).num.natAbs = n := by simp
  have h2 : (n : Rat).den = 1 := rfl
  rw [qw, h1, h2, B_size, B_size]
  have h3 := bn_fits 1 n (by omega)
  have h4 := bn_fits 1 1 (by omega)
  omega
theorem sum_le6 : ∀ {Ls : List Nat}, (∀ a ∈ Ls, a ≤ 6) → Ls.sum ≤ 6 * Ls.length
  | [], _ => Nat.le_refl _
  | a :: l, h => by
    have h1 := h a List.mem_cons_self
    have h2 := sum_le6 fun b hb => h b (List.mem_cons_of_mem _ hb)
    simp only [List.sum_cons, List.length_cons]
    omega
theorem rawF_small {Ls : List Nat} (h : ∀ a ∈ Ls, a ≤ 6) (hl : Ls.length ≤ 3) (hs : 1 ≤ Ls.sum) : ∀ f ∈ rawF Ls, f.2.1.size + f.2.2.size ≤ 2 := by
  intro f hf
  obtain ⟨a, ha, rfl⟩ := List.mem_map.1 hf
  have h6 := sum_le6 h
  have h1 := h a ha
  show (nu ((a : Rat) / (Ls.sum : Rat))).size + (de ((a : Rat) / (Ls.sum : Rat))).size ≤ 2
  rw [own_size]
  have hfit : Fits 1 ((a : Rat) / (Ls.sum : Rat)) := ⟨(a : Int), Ls.sum, by omega, by rw [Rat.mkRat_eq_div]; rfl, by omega, by simp; omega⟩
  exact fits_qw hfit
theorem rawF_row {Ls : List Nat} (hs : 1 ≤ Ls.sum) : rowB (rawF Ls) = true := by
  have hne : (Ls.sum : Rat) ≠ 0 := fun e => by
    have e' : Ls.sum = 0 := by exact_mod_cast e
    omega
  have hpos : (0 : Rat) < (Ls.sum : Rat) := Rat.lt_of_le_of_ne Rat.natCast_nonneg (Ne.symm hne)
  rw [rowB, Bool.and_eq_true]
  constructor
  · rw [List.all_eq_true]
    intro f hf
    obtain ⟨a, ha, rfl⟩ := List.mem_map.1 hf
    refine decide_eq_true ?_
    rw [frQ_qF, Rat.not_lt]
    have ha0 : (0 : Rat) ≤ (a : Rat) := Rat.natCast_nonneg
    rw [Rat.div_def]
    exact Rat.mul_nonneg ha0 (Rat.le_of_lt (Rat.inv_pos.2 hpos))
  · refine decide_eq_true ?_
    have key : ∀ (l : List Nat) (s c : Rat), (l.map fun a : Nat => qF ((a : Rat) / c)).foldl (fun s f => s + frv f) s = s + (l.sum : Rat) / c := by
      intro l
      induction l with
      | nil => intro s c; show s = s + ((0 : Nat) : Rat) / c; rw [Rat.div_def]; grind
      | cons a l ih =>
        intro s c
        rw [List.map_cons, List.foldl_cons, ih, show frv (qF ((a : Rat) / c)) = (a : Rat) / c from frQ_qF _, List.sum_cons, Rat.div_def, Rat.div_def, Rat.div_def, Rat.natCast_add, Rat.add_mul, Rat.add_assoc]
    rw [fsum, rawF, key, Rat.zero_add, Rat.div_def, Rat.mul_inv_cancel _ hne]
end Go.Proofs.YtnnfmfdjgdgdhaaGreatDoor

