/- Plain: what Tree does and what the document says of it come to the same: bags that are kept, what two have in common, links. -/
import Derived.Test.YtockhhleapbpiaaFilPOwn
import Derived.Test.YtockhhleapbpiaaTreGToOrdD
namespace Go.Proofs.Ytockhhleapbpiaa
open Go.RowKit Go.Shelf

theorem sorted_ext : ∀ {a b : List Nat}, a.Pairwise (· < ·) → b.Pairwise (· < ·) → (∀ x, x ∈ a ↔ x ∈ b) → a = b
  | [], [], _, _, _ => rfl
  | [], y :: b, _, _, h => absurd ((h y).2 List.mem_cons_self) List.not_mem_nil
  | x :: a, [], _, _, h => absurd ((h x).1 List.mem_cons_self) List.not_mem_nil
  | x :: a, y :: b, ha, hb, h => by
    obtain ⟨a1, a2⟩ := List.pairwise_cons.1 ha
    obtain ⟨b1, b2⟩ := List.pairwise_cons.1 hb
    obtain rfl : x = y := by
      rcases List.mem_cons.1 ((h x).1 List.mem_cons_self) with e | h1
      · exact e
      · rcases List.mem_cons.1 ((h y).2 List.mem_cons_self) with e | h2
        · exact e.symm
        · have := b1 x h1; have := a1 y h2; omega
    congr 1
    refine sorted_ext a2 b2 fun z => ⟨fun hz => ?_, fun hz => ?_⟩
    · rcases List.mem_cons.1 ((h z).1 (List.mem_cons_of_mem _ hz)) with e | h1
      · have := a1 z hz; omega
      · exact h1
    · rcases List.mem_cons.1 ((h z).2 (List.mem_cons_of_mem _ hz)) with e | h1
      · have := b1 z hz; omega
      · exact h1
theorem Up.toNat {l : List Int} {n : Nat} (h : Up l n) : (toN l).Pairwise (· < ·) := List.pairwise_iff_getElem.2 fun i j hi hj hij => by
  rw [toN_length] at hi hj
  rw [toN_get hi, toN_get hj]
  have := h.lt i j hj hij
  have := (h.each i hi).1
  omega
theorem iL_toN {l : List Int} (h : ∀ x ∈ l, 0 ≤ x) : iL (toN l) = l := by
  rw [iL, toN, List.map_map]
  refine (List.map_congr_left fun x hx => ?_).trans (List.map_id l)
  have := h x hx
  show ((x.toNat : Nat) : Int) = x
  omega
theorem Up.low {l : List Int} {n : Nat} (h : Up l n) : ∀ x ∈ l, 0 ≤ x ∧ x < n := fun x hx => by
  obtain ⟨i, hi, rfl⟩ := List.getElem_of_mem hx
  exact h.each i hi
/-- A list that rises is what its set lists. -/
theorem memL_ris {l : List Int} (h : risB l 8 = true) : memL (toN l) = l := by
  have hu := ris_up (n := 8) h
  have e : memU (toN l) 8 = toN l := sorted_ext (List.Pairwise.filter _ List.pairwise_lt_range) hu.toNat fun x => by
    rw [memU_mem]
    refine ⟨fun h => h.2, fun h => ⟨?_, h⟩⟩
    obtain ⟨y, hy, rfl⟩ := List.mem_map.1 h
    have := hu.low y hy
    omega
  rw [memL, e, iL_toN fun x hx => (hu.low x hx).1]
/-- All of a list are in another. -/
def insI (a b : List Int) (k : Nat) : Bool := (a.take k).all fun x => inB x b
theorem insI_all (a b : List Int) : insI a b a.length = a.all fun x => inB x b := by rw [insI, List.take_length]
theorem insI_step {a b : List Int} {k : Nat} (h : k < a.length) : insI a b (k + 1) = (insI a b k && inB a[k] b) := by
  rw [insI, insI, List.take_succ_eq_append_getElem h, List.all_append]; simp
/-- A bag stands in another one, as far as k. -/
def covR (L : List (List Int)) (i : Nat) : Nat → Bool
  | 0 => false
  | k + 1 => covR L i k || (decide (k ≠ i) && ((L.getD i []).all (fun x => inB x (L.getD k [])) && (decide ((L.getD i []).length < (L.getD k []).length) || decide (k < i))))
theorem getD_ris {L : List (List Int)} {n i : Nat} (h : allRis L n = true) : risB (L.getD i []) n = true := by
  by_cases hi : i < L.length
  · rw [List.getD_eq_getElem?_getD, List.getElem?_eq_getElem hi]; exact allRis_at h hi
  · rw [List.getD_eq_getElem?_getD, List.getElem?_eq_none (by omega)]; rfl
theorem par_getD (L : List (List Int)) (i : Nat) : (parN L).getD i [] = toN (L.getD i []) := by
  rw [List.getD_eq_getElem?_getD, List.getD_eq_getElem?_getD, parN, List.getElem?_map]
  cases L[i]? <;> rfl
theorem nodup_up {l : List Nat} (h : l.Pairwise (· < ·)) : l.Nodup := h.imp fun h => Nat.ne_of_lt h
theorem sub_nat {a b : List Int} (ha : ∀ x ∈ a, 0 ≤ x) (hb : ∀ x ∈ b, 0 ≤ x) : (a.all fun x => inB x b) = true ↔ ∀ x ∈ toN a, x ∈ toN b := by
  rw [List.all_eq_true]
  constructor
  · intro h x hx
    obtain ⟨y, hy, rfl⟩ := List.mem_map.1 hx
    exact List.mem_map.2 ⟨y, inB_mem.1 (h y hy), rfl⟩
  · intro h x hx
    obtain ⟨y, hy, e⟩ := List.mem_map.1 (h x.toNat (List.mem_map.2 ⟨x, hx, rfl⟩))
    have h1 := ha x hx
    have h2 := hb y hy
    exact inB_mem.2 (by rw [show x = y by omega]; exact hy)
/-- Of two, one in the other: longer means more. -/
theorem len_more {a b : List Nat} (ha : a.Pairwise (· < ·)) (hb : b.Pairwise (· < ·)) (hs : ∀ x ∈ a, x ∈ b) : a.length < b.length ↔ mskN b ≠ mskN a := by
  constructor
  · intro hl e
    have : ∀ x ∈ b, x ∈ a := fun x hx => by
      have h1 := msk_bit a x
      have h2 := msk_bit b x
      rw [e, h1] at h2
      exact (decide_eq_decide.1 h2).2 hx
    have := nd_len (nodup_up hb) this
    omega
  · intro hne
    have hx : ∃ x, x ∈ b ∧ ¬ x ∈ a := by
      refine Classical.byContradiction fun hno => hne (msk_ext fun x => ⟨fun hx => Classical.byContradiction fun hn => hno ⟨x, hx, hn⟩, hs x⟩)
    obtain ⟨x, h1, h2⟩ := hx
    have := nd_len (l := x :: a) (m := b) (List.nodup_cons.2 ⟨h2, nodup_up ha⟩) fun y hy => by
      rcases List.mem_cons.1 hy with rfl | hy
      · exact h1
      · exact hs y hy
    rw [List.length_cons] at this
    omega
theorem covR_any {L : List (List Int)} (h : allRis L 8 = true) (i : Nat) : ∀ k, covR L i k = (List.range k).any fun j => covB (parN L) i j
  | 0 => rfl
  | k + 1 => by
    rw [covR, covR_any h i k, List.range_succ, List.any_append, List.any_cons, List.any_nil, Bool.or_false]
    congr 1
    have ui := ris_up (n := 8) (getD_ris (i := i) h)
    have uk := ris_up (n := 8) (getD_ris (i := k) h)
    rw [covB, par_getD, par_getD]
    refine Bool.eq_iff_iff.2 ?_
    rw [Bool.and_eq_true, Bool.and_eq_true, Bool.or_eq_true, decide_eq_true_iff, decide_eq_true_iff, decide_eq_true_iff, decide_eq_true_iff, sub_nat (fun x hx => (ui.low x hx).1) fun x hx => (uk.low x hx).1]
    refine and_congr_right fun _ => and_congr_right fun hs => or_congr_left ?_
    rw [← len_more ui.toNat uk.toNat hs, toN_length, toN_length]
theorem covR_kept {L : List (List Int)} (h : allRis L 8 = true) (i : Nat) : covR L i L.length = !keptB (parN L) i := by
  rw [covR_any h, keptB, parN_length, List.not_all_eq_any_not]
  simp
/-- The bags that are kept, as far as i. -/
def kpL (L : List (List Int)) (i : Nat) : List (List Int) := ((List.range i).filter fun j => !covR L j L.length).map fun j => L.getD j []
theorem kpL_yes {L : List (List Int)} {i : Nat} (h : covR L i L.length = false) : kpL L (i + 1) = kpL L i ++ [L.getD i []] := by rw [kpL, List.range_succ, List.filter_append, List.map_append, kpL]; simp [h]
theorem kpL_no {L : List (List Int)} {i : Nat} (h : covR L i L.length = true) : kpL L (i + 1) = kpL L i := by rw [kpL, List.range_succ, List.filter_append, List.map_append, kpL]; simp [h]
theorem kpL_ous {L : List (List Int)} (h : allRis L 8 = true) (i : Nat) : kpL L i = (ousL (parN L) i).map memL := by
  rw [kpL, ousL, List.map_map]
  have e : (fun j => !covR L j L.length) = keptB (parN L) := funext fun j => by rw [covR_kept h, Bool.not_not]
  rw [e]
  refine List.map_congr_left fun j _ => ?_
  show _ = memL ((parN L).getD j [])
  rw [par_getD, memL_ris (getD_ris h)]
/-- What two have in common, as far as k. -/
def comI (a b : List Int) (k : Nat) : List Int := (a.take k).filter fun x => inB x b
theorem comI_yes {a b : List Int} {k : Nat} (h : k < a.length) (hi : inB a[k] b = true) : comI a b (k + 1) = comI a b k ++ [a[k]] := by
  rw [comI, comI, List.take_succ_eq_append_getElem h, List.filter_append]; simp [hi]
theorem comI_no {a b : List Int} {k : Nat} (h : k < a.length) (hi : inB a[k] b = false) : comI a b (k + 1) = comI a b k := by
  rw [comI, comI, List.take_succ_eq_append_getElem h, List.filter_append]; simp [hi]
theorem inB_memL (x : Nat) (s : List Nat) : inB (x : Int) (memL s) = decide (x < 8 ∧ x ∈ s) := by
  refine Bool.eq_iff_iff.2 ?_
  rw [inB_mem, decide_eq_true_iff, memL, iL, List.mem_map]
  constructor
  · rintro ⟨y, hy, e⟩
    obtain rfl : y = x := by omega
    exact memU_mem.1 hy
  · exact fun h => ⟨x, memU_mem.2 h, rfl⟩
theorem comI_sep (C : List (List Nat)) (i j : Nat) : comI (memL (C.getD i [])) (memL (C.getD j [])) (memL (C.getD i [])).length = memL (sepN C i j) := by
  rw [comI, List.take_length]
  show ((memU (C.getD i []) 8).map fun x : Nat => (x : Int)).filter (fun x => inB x (memL (C.getD j []))) = (memU (sepN C i j) 8).map fun x : Nat => (x : Int)
  rw [List.filter_map]
  congr 1
  rw [memU, memU, sepN, List.filter_filter]
  refine List.filter_congr fun x hx => Bool.eq_iff_iff.2 ?_
  have := List.mem_range.1 hx
  show (inB (x : Int) (memL (C.getD j [])) && _) = true ↔ _
  rw [inB_memL, Bool.and_eq_true, decide_eq_true_iff, decide_eq_true_iff, decide_eq_true_iff, List.mem_filter, decide_eq_true_iff]
  exact ⟨fun ⟨⟨_, a⟩, b⟩ => ⟨b, a⟩, fun ⟨a, b⟩ => ⟨⟨this, b⟩, a⟩⟩
theorem sep_len (C : List (List Nat)) (i j : Nat) : (memL (sepN C i j)).length = comN C i j := by rw [memL, iL_length, comN, sepN]
theorem nrI_wide {C : List (List Nat)} {s : List Nat} {n : Nat} (hs : ∀ u ∈ s, u < n) : ∀ d, nrI C s (n + d) = nrI C s n
  | 0 => rfl
  | d + 1 => by
    rw [show n + (d + 1) = (n + d) + 1 by omega, nrI, if_neg fun h => by have := hs _ h; omega, nrI_wide hs d]
theorem nrJ_spec {C : List (List Nat)} {s : List Nat} {i : Nat} {st : NSt} : ∀ j, (nrJ C s i st j = st ∨ (nrJ C s i st j).a = i ∧ ¬ (nrJ C s i st j).b ∈ s ∧ (nrJ C s i st j).b < j ∧ (nrJ C s i st j).m = (comN C i (nrJ C s i st j).b : Int)) ∧ st.m ≤ (nrJ C s i st j).m ∧ ∀ j', j' < j → ¬ j' ∈ s → (comN C i j' : Int) ≤ (nrJ C s i st j).m
  | 0 => ⟨.inl rfl, Int.le_refl _, fun j' h => absurd h (Nat.not_lt_zero _)⟩
  | j + 1 => by
    obtain ⟨h1, h2, h3⟩ := nrJ_spec (C := C) (s := s) (i := i) (st := st) j
    rw [nrJ]
    by_cases hc : ¬ j ∈ s ∧ (nrJ C s i st j).m < (comN C i j : Int)
    · rw [if_pos hc]
      refine ⟨.inr ⟨rfl, hc.1, by show j < j + 1; omega, rfl⟩, ?_, fun j' h4 h5 => ?_⟩
      · show st.m ≤ (comN C i j : Int)
        omega
      · show (comN C i j' : Int) ≤ (comN C i j : Int)
        rcases Nat.lt_or_ge j' j with h6 | h6
        · have := h3 j' h6 h5; omega
        · rw [show j' = j by omega]; exact Int.le_refl _
    · rw [if_neg hc]
      refine ⟨h1.imp id fun ⟨a, b, c, d⟩ => ⟨a, b, by omega, d⟩, h2, fun j' h4 h5 => ?_⟩
      rcases Nat.lt_or_ge j' j with h6 | h6
      · exact h3 j' h6 h5
      · obtain rfl : j' = j := by omega
        have : ¬ (nrJ C s i st j').m < (comN C i j' : Int) := fun h => hc ⟨h5, h⟩
        omega
/-- Of one that is there and one that is not: the most in common. -/
theorem nrI_spec {C : List (List Nat)} {s : List Nat} : ∀ k, ((nrI C s k).m = -1 ∨ (nrI C s k).a ∈ s ∧ ¬ (nrI C s k).b ∈ s ∧ (nrI C s k).b < C.length ∧ (nrI C s k).m = (comN C (nrI C s k).a (nrI C s k).b : Int)) ∧ -1 ≤ (nrI C s k).m ∧ ∀ i, i < k → i ∈ s → ∀ j, j < C.length → ¬ j ∈ s → (comN C i j : Int) ≤ (nrI C s k).m
  | 0 => ⟨.inl rfl, Int.le_refl _, fun i h => absurd h (Nat.not_lt_zero _)⟩
  | k + 1 => by
    obtain ⟨h1, h2, h3⟩ := nrI_spec (C := C) (s := s) k
    rw [nrI]
    by_cases hk : k ∈ s
    · rw [if_pos hk]
      obtain ⟨g1, g2, g3⟩ := nrJ_spec (C := C) (s := s) (i := k) (st := nrI C s k) C.length
      refine ⟨?_, by omega, fun i h4 h5 j h6 h7 => ?_⟩
      · rcases g1 with e | ⟨a, b, c, d⟩
        · rw [e]; exact h1
        · exact .inr ⟨by rw [a]; exact hk, b, c, by rw [d, a]⟩
      · rcases Nat.lt_or_ge i k with h8 | h8
        · have := h3 i h8 h5 j h6 h7; omega
        · rw [show i = k by omega]; exact g3 j h6 h7
    · rw [if_neg hk]
      refine ⟨h1, h2, fun i h4 h5 j h6 h7 => ?_⟩
      rcases Nat.lt_or_ge i k with h8 | h8
      · exact h3 i h8 h5 j h6 h7
      · exact absurd (by rw [show k = i by omega]; exact h5) hk
theorem nrI_best {C : List (List Nat)} {s : List Nat} (h8 : C.length ≤ 8) (hs : ∀ u ∈ s, u < C.length) {i j : Nat} (hi : i ∈ s) (hj : j < C.length) (hjs : ¬ j ∈ s) : (nrI C s 8).a ∈ s ∧ ¬ (nrI C s 8).b ∈ s ∧ (nrI C s 8).b < C.length ∧ ∀ i, i ∈ s → ∀ j, j < C.length → ¬ j ∈ s → comN C i j ≤ comN C (nrI C s 8).a (nrI C s 8).b := by
  obtain ⟨h1, _, h3⟩ := nrI_spec (C := C) (s := s) 8
  have h4 := h3 i (by have := hs i hi; omega) hi j hj hjs
  rcases h1 with e | ⟨a, b, c, d⟩
  · omega
  · refine ⟨a, b, c, fun i hi j hj hjs => ?_⟩
    have := h3 i (by have := hs i hi; omega) hi j hj hjs
    omega
/-- Those that stand there: one more each time. -/
theorem thR_facts {C : List (List Nat)} (h8 : C.length ≤ 8) : ∀ t, t + 1 ≤ C.length → (thR C t).Nodup ∧ (thR C t).length = t + 1 ∧ 0 ∈ thR C t
  | 0, _ => ⟨by simp [thR], rfl, List.mem_cons_self⟩
  | t + 1, ht => by
    obtain ⟨h1, h2, h3⟩ := thR_facts h8 t (by omega)
    have hthl := thR_lt (C := C) (by omega) t
    obtain ⟨j, hj, hjs⟩ : ∃ j, j < C.length ∧ ¬ j ∈ thR C t := by
      refine Classical.byContradiction fun hno => ?_
      have := nd_len (l := List.range C.length) (m := thR C t) List.nodup_range fun x hx => Classical.byContradiction fun hx' => hno ⟨x, List.mem_range.1 hx, hx'⟩
      rw [List.length_range] at this
      omega
    obtain ⟨_, b2, _⟩ := nrI_best h8 hthl h3 hj hjs
    exact ⟨List.nodup_cons.2 ⟨b2, h1⟩, by rw [thR, List.length_cons, h2], List.mem_cons_of_mem _ h3⟩
/-- The two that are linked next. -/
theorem nrI_next {C : List (List Nat)} (h8 : C.length ≤ 8) {t : Nat} (ht : t + 1 < C.length) : (nrI C (thR C t) 8).m = (comN C (nrI C (thR C t) 8).a (nrI C (thR C t) 8).b : Int) ∧ nrI C (thR C t) 8 = nrI C (thR C t) C.length := by
  obtain ⟨h1, h2, h3⟩ := thR_facts h8 t (by omega)
  have hthl := thR_lt (C := C) (by omega) t
  obtain ⟨j, hj, hjs⟩ : ∃ j, j < C.length ∧ ¬ j ∈ thR C t := by
    refine Classical.byContradiction fun hno => ?_
    have := nd_len (l := List.range C.length) (m := thR C t) List.nodup_range fun x hx => Classical.byContradiction fun hx' => hno ⟨x, List.mem_range.1 hx, hx'⟩
    rw [List.length_range] at this
    omega
  have hw := nrI_wide (C := C) hthl (8 - C.length)
  rw [show C.length + (8 - C.length) = 8 by omega] at hw
  refine ⟨?_, hw⟩
  obtain ⟨g1, _, g3⟩ := nrI_spec (C := C) (s := thR C t) 8
  rcases g1 with g1 | g1
  · have := g3 0 (by omega) h3 j hj hjs
    omega
  · exact g1.2.2.2
/-- One clique held against those as far as b. -/
def nrB (C : List (List Nat)) (s : List Nat) (a b : Nat) : NSt := if a ∈ s then nrJ C s a (nrI C s a) b else nrI C s a
theorem nrB_zero (C : List (List Nat)) (s : List Nat) (a : Nat) : nrB C s a 0 = nrI C s a := by
  rw [nrB]; split <;> rfl
theorem nrB_all (C : List (List Nat)) (s : List Nat) (a : Nat) : nrB C s a C.length = nrI C s (a + 1) := rfl
theorem nrB_out {C : List (List Nat)} {s : List Nat} {a : Nat} (h : ¬ a ∈ s) (b : Nat) : nrB C s a (b + 1) = nrB C s a b := by rw [nrB, nrB, if_neg h, if_neg h]
theorem nrB_in {C : List (List Nat)} {s : List Nat} {a : Nat} (b : Nat) (h2 : b ∈ s) : nrB C s a (b + 1) = nrB C s a b := by
  by_cases h : a ∈ s
  · rw [nrB, nrB, if_pos h, if_pos h, nrJ, if_neg fun h' => h'.1 h2]
  · exact nrB_out h b
theorem nrB_yes {C : List (List Nat)} {s : List Nat} {a : Nat} {b : Nat} (h : a ∈ s) (h2 : ¬ b ∈ s) (hm : (nrB C s a b).m < (comN C a b : Int)) : nrB C s a (b + 1) = ⟨a, b, (comN C a b : Int)⟩ := by
  rw [nrB, if_pos h] at hm
  rw [nrB, if_pos h, nrJ, if_pos ⟨h2, hm⟩]
theorem nrB_no {C : List (List Nat)} {s : List Nat} {a : Nat} {b : Nat} (h : a ∈ s) (hm : ¬ (nrB C s a b).m < (comN C a b : Int)) : nrB C s a (b + 1) = nrB C s a b := by
  rw [nrB, if_pos h] at hm
  rw [nrB, nrB, if_pos h, if_pos h, nrJ, if_neg fun h' => hm h'.2]
theorem bags_ris {L : List (List Int)} {i : Nat} (h : i < L.length) (e : risB L[i] 8 = false) : bagsB L = false := by
  rw [bagsB, allRis_bad h e]; simp
theorem bags_nil {L : List (List Int)} {i : Nat} (h : i < L.length) (e : L[i] = []) : bagsB L = false := by
  have : 0 ∈ masks L := List.mem_map.2 ⟨L[i], List.getElem_mem h, by rw [e]; rfl⟩
  rw [bagsB, decide_eq_true this]; simp
theorem bags_len {L : List (List Int)} (h : ¬ (1 ≤ L.length ∧ L.length ≤ 8)) : bagsB L = false := by
  rw [bagsB, decide_eq_false h]; rfl
theorem bags_good {L : List (List Int)} (h : 1 ≤ L.length ∧ L.length ≤ 8) (hi : ∀ i (hi : i < L.length), risB L[i] 8 = true ∧ L[i] ≠ []) : bagsB L = true ∧ allRis L 8 = true := by
  have hr : allRis L 8 = true := List.all_eq_true.2 fun l hl => by
    obtain ⟨i, h1, rfl⟩ := List.getElem_of_mem hl
    exact (hi i h1).1
  have hz : ¬ 0 ∈ masks L := fun hm => by
    obtain ⟨l, hl, e⟩ := List.mem_map.1 hm
    obtain ⟨i, h1, rfl⟩ := List.getElem_of_mem hl
    obtain ⟨g1, g2⟩ := hi i h1
    obtain ⟨x, hx⟩ := List.exists_mem_of_ne_nil _ g2
    have hb := msk_bit (toN L[i]) x.toNat
    rw [e, decide_eq_true (p := x.toNat ∈ toN L[i]) (List.mem_map.2 ⟨x, hx, rfl⟩), Nat.zero_testBit] at hb
    cases hb
  exact ⟨by rw [bagsB, decide_eq_true h, hr, decide_eq_false hz]; rfl, hr⟩
end Go.Proofs.Ytockhhleapbpiaa

