/- Plain: what Tree does and what the document says of it come to the same: bags that are kept, what two have in common, links. -/
import Derived.Test.YthcfgoknphpkdaaRcDToFilP
import Derived.Test.YthcfgoknphpkdaaTreFToFilA
import Derived.Test.YthcfgoknphpkdaaAbvPToAnsA
import Derived.Test.YthcfgoknphpkdaaSliAToUniA
import Derived.Laws.EntriesVeiled
import Derived.Test.YthcfgoknphpkdaaIterBToBestA
namespace Go.Proofs.Ythcfgoknphpkdaa
open Go.RowKit Go.Shelf

theorem sorted_ext : ∀ {a b : List Nat}, a.Pairwise (· < ·) → b.Pairwise (· < ·) → (∀ x, x ∈ a ↔ x ∈ b) → a = b
  | [], [], _, _, _ => rfl
  | [], y :: b, _, _, h => absurd ((h y).2 List.mem_cons_self) List.not_mem_nil
  | x :: a, [], _, _, h => absurd ((h x).1 List.mem_cons_self) List.not_mem_nil
  | x :: a, y :: b, ha, hb, h => by
    obtain ⟨a1, a2⟩ := List.pairwise_cons.1 ha
    obtain ⟨b1, b2⟩ := List.pairwise_cons.1 hb
    obtain rfl : x = y := by
      rcases List.mem_cons.1 ((h x).1 List.mem_cons_self) with e | h1
      · exact e
      · rcases List.mem_cons.1 ((h y).2 List.mem_cons_self) with e | h2
        · exact e.symm
        · have := b1 x h1; have := a1 y h2; omega
    congr 1
    refine sorted_ext a2 b2 fun z => ⟨fun hz => ?_, fun hz => ?_⟩
    · rcases List.mem_cons.1 ((h z).1 (List.mem_cons_of_mem _ hz)) with e | h1
      · have := a1 z hz; omega
      · exact h1
    · rcases List.mem_cons.1 ((h z).2 (List.mem_cons_of_mem _ hz)) with e | h1
      · have := b1 z hz; omega
      · exact h1
theorem Up.toNat {l : List Int} {n : Nat} (h : Up l n) : (toN l).Pairwise (· < ·) := List.pairwise_iff_getElem.2 fun i j hi hj hij => by
  rw [toN_length] at hi hj
  rw [toN_get hi, toN_get hj]
  have := h.lt i j hj hij
  have := (h.each i hi).1
  omega
theorem iL_toN {l : List Int} (h : ∀ x ∈ l, 0 ≤ x) : iL (toN l) = l := by
  rw [iL, toN, List.map_map]
  refine (List.map_congr_left fun x hx => ?_).trans (List.map_id l)
  have := h x hx
  show ((x.toNat : Nat) : Int) = x
  omega
theorem Up.low {l : List Int} {n : Nat} (h : Up l n) : ∀ x ∈ l, 0 ≤ x ∧ x < n := fun x hx => by
  obtain ⟨i, hi, rfl⟩ := List.getElem_of_mem hx
  exact h.each i hi
/-- A list that rises is what its set lists. -/
theorem memL_ris {l : List Int} (h : risB l 8 = true) : memL (toN l) = l := by
  have hu := ris_up (n := 8) h
  have e : memU (toN l) 8 = toN l := sorted_ext (List.Pairwise.filter _ List.pairwise_lt_range) hu.toNat fun x => by
    rw [memU_mem]
    refine ⟨fun h => h.2, fun h => ⟨?_, h⟩⟩
    obtain ⟨y, hy, rfl⟩ := List.mem_map.1 h
    have := hu.low y hy
    omega
  rw [memL, e, iL_toN fun x hx => (hu.low x hx).1]
/-- All of a list are in another. -/
def insI (a b : List Int) (k : Nat) : Bool := (a.take k).all fun x => inB x b
theorem insI_all (a b : List Int) : insI a b a.length = a.all fun x => inB x b := by rw [insI, List.take_length]
theorem insI_step {a b : List Int} {k : Nat} (h : k < a.length) : insI a b (k + 1) = (insI a b k && inB a[k] b) := by
  rw [insI, insI, List.take_succ_eq_append_getElem h, List.all_append]; simp
/-- A bag stands in another one, as far as k. -/
def covR (L : List (List Int)) (i : Nat) : Nat → Bool
  | 0 => false
  | k + 1 => covR L i k || (decide (k ≠ i) && ((L.getD i []).all (fun x => inB x (L.getD k [])) && (decide ((L.getD i []).length < (L.getD k []).length) || decide (k < i))))
theorem getD_ris {L : List (List Int)} {n i : Nat} (h : allRis L n = true) : risB (L.getD i []) n = true := by
  by_cases hi : i < L.length
  · rw [List.getD_eq_getElem?_getD, List.getElem?_eq_getElem hi]; exact allRis_at h hi
  · rw [List.getD_eq_getElem?_getD, List.getElem?_eq_none (by omega)]; rfl
theorem par_getD (L : List (List Int)) (i : Nat) : (parN L).getD i [] = toN (L.getD i []) := by
  rw [List.getD_eq_getElem?_getD, List.getD_eq_getElem?_getD, parN, List.getElem?_map]
  cases L[i]? <;> rfl
theorem nodup_up {l : List Nat} (h : l.Pairwise (· < ·)) : l.Nodup := h.imp fun h => Nat.ne_of_lt h
theorem sub_nat {a b : List Int} (ha : ∀ x ∈ a, 0 ≤ x) (hb : ∀ x ∈ b, 0 ≤ x) : (a.all fun x => inB x b) = true ↔ ∀ x ∈ toN a, x ∈ toN b := by
  rw [List.all_eq_true]
  constructor
  · intro h x hx
    obtain ⟨y, hy, rfl⟩ := List.mem_map.1 hx
    exact List.mem_map.2 ⟨y, inB_mem.1 (h y hy), rfl⟩
  · intro h x hx
    obtain ⟨y, hy, e⟩ := List.mem_map.1 (h x.toNat (List.mem_map.2 ⟨x, hx, rfl⟩))
    have h1 := ha x hx
    have h2 := hb y hy
    exact inB_mem.2 (by rw [show x = y by omega]; exact hy)
/-- Of two, one in the other: longer means more. -/
theorem len_more {a b : List Nat} (ha : a.Pairwise (· < ·)) (hb : b.Pairwise (· < ·)) (hs : ∀ x ∈ a, x ∈ b) : a.length < b.length ↔ mskN b ≠ mskN a := by
  constructor
  · intro hl e
    have : ∀ x ∈ b, x ∈ a := fun x hx => by
      have h1 := msk_bit a x
      have h2 := msk_bit b x
      rw [e, h1] at h2
      exact (decide_eq_decide.1 h2).2 hx
    have := nd_len (nodup_up hb) this
    omega
  · intro hne
    have hx : ∃ x, x ∈ b ∧ ¬ x ∈ a := by
      refine Classical.byContradiction fun hno => hne (msk_ext fun x => ⟨fun hx => Classical.byContradiction fun hn => hno ⟨x, hx, hn⟩, hs x⟩)
    obtain ⟨x, h1, h2⟩ := hx
    have := nd_len (l := x :: a) (m := b) (List.nodup_cons.2 ⟨h2, nodup_up ha⟩) fun y hy => by
      rcases List.mem_cons.1 hy with rfl | hy
      · exact h1
      · exact hs y hy
    rw [List.length_cons] at this
    omega
theorem covR_any {L : List (List Int)} (h : allRis L 8 = true) (i : Nat) : ∀ k, covR L i k = (List.range k).any fun j => covB (parN L) i j
  | 0 => rfl
  | k + 1 => by
    rw [covR, covR_any h i k, List.range_succ, List.any_append, List.any_cons, List.any_nil, Bool.or_false]
    congr 1
    have ui := ris_up (n := 8) (getD_ris (i := i) h)
    have uk := ris_up (n := 8) (getD_ris (i := k) h)
    rw [covB, par_getD, par_getD]
    refine Bool.eq_iff_iff.2 ?_
    rw [Bool.and_eq_true, Bool.and_eq_true, Bool.or_eq_true, decide_eq_true_iff, decide_eq_true_iff, decide_eq_true_iff, decide_eq_true_iff, sub_nat (fun x hx => (ui.low x hx).1) fun x hx => (uk.low x hx).1]
    refine and_congr_right fun _ => and_congr_right fun hs => or_congr_left ?_
    rw [← len_more ui.toNat uk.toNat hs, toN_length, toN_length]
theorem covR_kept {L : List (List Int)} (h : allRis L 8 = true) (i : Nat) : covR L i L.length = !keptB (parN L) i := by
  rw [covR_any h, keptB, parN_length, List.not_all_eq_any_not]
  simp
/-- The bags that are kept, as far as i. -/
def kpL (L : List (List Int)) (i : Nat) : List (List Int) := ((List.range i).filter fun j => !covR L j L.length).map fun j => L.getD j []
theorem kpL_yes {L : List (List Int)} {i : Nat} (h : covR L i L.length = false) : kpL L (i + 1) = kpL L i ++ [L.getD i []] := by rw [kpL, List.range_succ, List.filter_append, List.map_append, kpL]; simp [h]
theorem kpL_no {L : List (List Int)} {i : Nat} (h : covR L i L.length = true) : kpL L (i + 1) = kpL L i := by rw [kpL, List.range_succ, List.filter_append, List.map_append, kpL]; simp [h]
theorem kpL_ous {L : List (List Int)} (h : allRis L 8 = true) (i : Nat) : kpL L i = (ousL (parN L) i).map memL := by
  rw [kpL, ousL, List.map_map]
  have e : (fun j => !covR L j L.length) = keptB (parN L) := funext fun j => by rw [covR_kept h, Bool.not_not]
  rw [e]
  refine List.map_congr_left fun j _ => ?_
  show _ = memL ((parN L).getD j [])
  rw [par_getD, memL_ris (getD_ris h)]
/-- What two have in common, as far as k. -/
def comI (a b : List Int) (k : Nat) : List Int := (a.take k).filter fun x => inB x b
theorem comI_yes {a b : List Int} {k : Nat} (h : k < a.length) (hi : inB a[k] b = true) : comI a b (k + 1) = comI a b k ++ [a[k]] := by
  rw [comI, comI, List.take_succ_eq_append_getElem h, List.filter_append]; simp [hi]
theorem comI_no {a b : List Int} {k : Nat} (h : k < a.length) (hi : inB a[k] b = false) : comI a b (k + 1) = comI a b k := by
  rw [comI, comI, List.take_succ_eq_append_getElem h, List.filter_append]; simp [hi]
theorem inB_memL (x : Nat) (s : List Nat) : inB (x : Int) (memL s) = decide (x < 8 ∧ x ∈ s) := by
  refine Bool.eq_iff_iff.2 ?_
  rw [inB_mem, decide_eq_true_iff, memL, iL, List.mem_map]
  constructor
  · rintro ⟨y, hy, e⟩
    obtain rfl : y = x := by omega
    exact memU_mem.1 hy
  · exact fun h => ⟨x, memU_mem.2 h, rfl⟩
theorem comI_sep (C : List (List Nat)) (i j : Nat) : comI (memL (C.getD i [])) (memL (C.getD j [])) (memL (C.getD i [])).length = memL (sepN C i j) := by
  rw [comI, List.take_length]
  show ((memU (C.getD i []) 8).map fun x : Nat => (x : Int)).filter (fun x => inB x (memL (C.getD j []))) = (memU (sepN C i j) 8).map fun x : Nat => (x : Int)
  rw [List.filter_map]
  congr 1
  rw [memU, memU, sepN, List.filter_filter]
  refine List.filter_congr fun x hx => Bool.eq_iff_iff.2 ?_
  have := List.mem_range.1 hx
  show (inB (x : Int) (memL (C.getD j [])) && _) = true ↔ _
  rw [inB_memL, Bool.and_eq_true, decide_eq_true_iff, decide_eq_true_iff, decide_eq_true_iff, List.mem_filter, decide_eq_true_iff]
  exact ⟨fun ⟨⟨_, a⟩, b⟩ => ⟨b, a⟩, fun ⟨a, b⟩ => ⟨⟨this, b⟩, a⟩⟩
theorem sep_len (C : List (List Nat)) (i j : Nat) : (memL (sepN C i j)).length = comN C i j := by rw [memL, iL_length, comN, sepN]
theorem nrI_wide {C : List (List Nat)} {s : List Nat} {n : Nat} (hs : ∀ u ∈ s, u < n) : ∀ d, nrI C s (n + d) = nrI C s n
  | 0 => rfl
  | d + 1 => by
    rw [show n + (d + 1) = (n + d) + 1 by omega, nrI, if_neg fun h => by have := hs _ h; omega, nrI_wide hs d]
theorem nrJ_spec {C : List (List Nat)} {s : List Nat} {i : Nat} {st : NSt} : ∀ j, (nrJ C s i st j = st ∨ (nrJ C s i st j).a = i ∧ ¬ (nrJ C s i st j).b ∈ s ∧ (nrJ C s i st j).b < j ∧ (nrJ C s i st j).m = (comN C i (nrJ C s i st j).b : Int)) ∧ st.m ≤ (nrJ C s i st j).m ∧ ∀ j', j' < j → ¬ j' ∈ s → (comN C i j' : Int) ≤ (nrJ C s i st j).m
  | 0 => ⟨.inl rfl, Int.le_refl _, fun j' h => absurd h (Nat.not_lt_zero _)⟩
  | j + 1 => by
    obtain ⟨h1, h2, h3⟩ := nrJ_spec (C := C) (s := s) (i := i) (st := st) j
    rw [nrJ]
    by_cases hc : ¬ j ∈ s ∧ (nrJ C s i st j).m < (comN C i j : Int)
    · rw [if_pos hc]
      refine ⟨.inr ⟨rfl, hc.1, by show j < j + 1; omega, rfl⟩, ?_, fun j' h4 h5 => ?_⟩
      · show st.m ≤ (comN C i j : Int)
        omega
      · show (comN C i j' : Int) ≤ (comN C i j : Int)
        rcases Nat.lt_or_ge j' j with h6 | h6
        · have := h3 j' h6 h5; omega
        · rw [show j' = j by omega]; exact Int.le_refl _
    · rw [if_neg hc]
      refine ⟨h1.imp id fun ⟨a, b, c, d⟩ => ⟨a, b, by omega, d⟩, h2, fun j' h4 h5 => ?_⟩
      rcases Nat.lt_or_ge j' j with h6 | h6
      · exact h3 j' h6 h5
      · obtain rfl : j' = j := by omega
        have : ¬ (nrJ C s i st j').m < (comN C i j' : Int) := fun h => hc ⟨h5, h⟩
        omega
/-- Of one that is there and one that is not: the most in common. -/
theorem nrI_spec {C : List (List Nat)} {s : List Nat} : ∀ k, ((nrI C s k).m = -1 ∨ (nrI C s k).a ∈ s ∧ ¬ (nrI C s k).b ∈ s ∧ (nrI C s k).b < C.length ∧ (nrI C s k).m = (comN C (nrI C s k).a (nrI C s k).b : Int)) ∧ -1 ≤ (nrI C s k).m ∧ ∀ i, i < k → i ∈ s → ∀ j, j < C.length → ¬ j ∈ s → (comN C i j : Int) ≤ (nrI C s k).m
  | 0 => ⟨.inl rfl, Int.le_refl _, fun i h => absurd h (Nat.not_lt_zero _)⟩
  | k + 1 => by
    obtain ⟨h1, h2, h3⟩ := nrI_spec (C := C) (s := s) k
    rw [nrI]
    by_cases hk : k ∈ s
    · rw [if_pos hk]
      obtain ⟨g1, g2, g3⟩ := nrJ_spec (C := C) (s := s) (i := k) (st := nrI C s k) C.length
      refine ⟨?_, by omega, fun i h4 h5 j h6 h7 => ?_⟩
      · rcases g1 with e | ⟨a, b, c, d⟩
        · rw [e]; exact h1
        · exact .inr ⟨by rw [a]; exact hk, b, c, by rw [d, a]⟩
      · rcases Nat.lt_or_ge i k with h8 | h8
        · have := h3 i h8 h5 j h6 h7; omega
        · rw [show i = k by omega]; exact g3 j h6 h7
    · rw [if_neg hk]
      refine ⟨h1, h2, fun i h4 h5 j h6 h7 => ?_⟩
      rcases Nat.lt_or_ge i k with h8 | h8
      · exact h3 i h8 h5 j h6 h7
      · exact absurd (by rw [show k = i by omega]; exact h5) hk
theorem nrI_best {C : List (List Nat)} {s : List Nat} (h8 : C.length ≤ 8) (hs : ∀ u ∈ s, u < C.length) {i j : Nat} (hi : i ∈ s) (hj : j < C.length) (hjs : ¬ j ∈ s) : (nrI C s 8).a ∈ s ∧ ¬ (nrI C s 8).b ∈ s ∧ (nrI C s 8).b < C.length ∧ ∀ i, i ∈ s → ∀ j, j < C.length → ¬ j ∈ s → comN C i j ≤ comN C (nrI C s 8).a (nrI C s 8).b := by
  obtain ⟨h1, _, h3⟩ := nrI_spec (C := C) (s := s) 8
  have h4 := h3 i (by have := hs i hi; omega) hi j hj hjs
  rcases h1 with e | ⟨a, b, c, d⟩
  · omega
  · refine ⟨a, b, c, fun i hi j hj hjs => ?_⟩
    have := h3 i (by have := hs i hi; omega) hi j hj hjs
    omega
/-- Those that stand there: one more each time. -/
theorem thR_facts {C : List (List Nat)} (h8 : C.length ≤ 8) : ∀ t, t + 1 ≤ C.length → (thR C t).Nodup ∧ (thR C t).length = t + 1 ∧ 0 ∈ thR C t
  | 0, _ => ⟨by simp [thR], rfl, List.mem_cons_self⟩
  | t + 1, ht => by
    obtain ⟨h1, h2, h3⟩ := thR_facts h8 t (by omega)
    have hthl := thR_lt (C := C) (by omega) t
    obtain ⟨j, hj, hjs⟩ : ∃ j, j < C.length ∧ ¬ j ∈ thR C t := by
      refine Classical.byContradiction fun hno => ?_
      have := nd_len (l := List.range C.length) (m := thR C t) List.nodup_range fun x hx => Classical.byContradiction fun hx' => hno ⟨x, List.mem_range.1 hx, hx'⟩
      rw [List.length_range] at this
      omega
    obtain ⟨_, b2, _⟩ := nrI_best h8 hthl h3 hj hjs
    exact ⟨List.nodup_cons.2 ⟨b2, h1⟩, by rw [thR, List.length_cons, h2], List.mem_cons_of_mem _ h3⟩
/-- The two that are linked next. -/
theorem nrI_next {C : List (List Nat)} (h8 : C.length ≤ 8) {t : Nat} (ht : t + 1 < C.length) : (nrI C (thR C t) 8).m = (comN C (nrI C (thR C t) 8).a (nrI C (thR C t) 8).b : Int) ∧ nrI C (thR C t) 8 = nrI C (thR C t) C.length := by
  obtain ⟨h1, h2, h3⟩ := thR_facts h8 t (by omega)
  have hthl := thR_lt (C := C) (by omega) t
  obtain ⟨j, hj, hjs⟩ : ∃ j, j < C.length ∧ ¬ j ∈ thR C t := by
    refine Classical.byContradiction fun hno => ?_
    have := nd_len (l := List.range C.length) (m := thR C t) List.nodup_range fun x hx => Classical.byContradiction fun hx' => hno ⟨x, List.mem_range.1 hx, hx'⟩
    rw [List.length_range] at this
    omega
  have hw := nrI_wide (C := C) hthl (8 - C.length)
  rw [show C.length + (8 - C.length) = 8 by omega] at hw
  refine ⟨?_, hw⟩
  obtain ⟨g1, _, g3⟩ := nrI_spec (C := C) (s := thR C t) 8
  rcases g1 with g1 | g1
  · have := g3 0 (by omega) h3 j hj hjs
    omega
  · exact g1.2.2.2
/-- One clique held against those as far as b. -/
def nrB (C : List (List Nat)) (s : List Nat) (a b : Nat) : NSt := if a ∈ s then nrJ C s a (nrI C s a) b else nrI C s a
theorem nrB_zero (C : List (List Nat)) (s : List Nat) (a : Nat) : nrB C s a 0 = nrI C s a := by
  rw [nrB]; split <;> rfl
theorem nrB_all (C : List (List Nat)) (s : List Nat) (a : Nat) : nrB C s a C.length = nrI C s (a + 1) := rfl
theorem nrB_out {C : List (List Nat)} {s : List Nat} {a : Nat} (h : ¬ a ∈ s) (b : Nat) : nrB C s a (b + 1) = nrB C s a b := by rw [nrB, nrB, if_neg h, if_neg h]
theorem nrB_in {C : List (List Nat)} {s : List Nat} {a : Nat} (b : Nat) (h2 : b ∈ s) : nrB C s a (b + 1) = nrB C s a b := by
  by_cases h : a ∈ s
  · rw [nrB, nrB, if_pos h, if_pos h, nrJ, if_neg fun h' => h'.1 h2]
  · exact nrB_out h b
theorem nrB_yes {C : List (List Nat)} {s : List Nat} {a : Nat} {b : Nat} (h : a ∈ s) (h2 : ¬ b ∈ s) (hm : (nrB C s a b).m < (comN C a b : Int)) : nrB C s a (b + 1) = ⟨a, b, (comN C a b : Int)⟩ := by
  rw [nrB, if_pos h] at hm
  rw [nrB, if_pos h, nrJ, if_pos ⟨h2, hm⟩]
theorem nrB_no {C : List (List Nat)} {s : List Nat} {a : Nat} {b : Nat} (h : a ∈ s) (hm : ¬ (nrB C s a b).m < (comN C a b : Int)) : nrB C s a (b + 1) = nrB C s a b := by
  rw [nrB, if_pos h] at hm
  rw [nrB, nrB, if_pos h, if_pos h, nrJ, if_neg fun h' => hm h'.2]
theorem bags_ris {L : List (List Int)} {i : Nat} (h : i < L.length) (e : risB L[i] 8 = false) : bagsB L = false := by
  rw [bagsB, allRis_bad h e]; simp
theorem bags_nil {L : List (List Int)} {i : Nat} (h : i < L.length) (e : L[i] = []) : bagsB L = false := by
  have : 0 ∈ masks L := List.mem_map.2 ⟨L[i], List.getElem_mem h, by rw [e]; rfl⟩
  rw [bagsB, decide_eq_true this]; simp
theorem bags_len {L : List (List Int)} (h : ¬ (1 ≤ L.length ∧ L.length ≤ 8)) : bagsB L = false := by
  rw [bagsB, decide_eq_false h]; rfl
theorem bags_good {L : List (List Int)} (h : 1 ≤ L.length ∧ L.length ≤ 8) (hi : ∀ i (hi : i < L.length), risB L[i] 8 = true ∧ L[i] ≠ []) : bagsB L = true ∧ allRis L 8 = true := by
  have hr : allRis L 8 = true := List.all_eq_true.2 fun l hl => by
    obtain ⟨i, h1, rfl⟩ := List.getElem_of_mem hl
    exact (hi i h1).1
  have hz : ¬ 0 ∈ masks L := fun hm => by
    obtain ⟨l, hl, e⟩ := List.mem_map.1 hm
    obtain ⟨i, h1, rfl⟩ := List.getElem_of_mem hl
    obtain ⟨g1, g2⟩ := hi i h1
    obtain ⟨x, hx⟩ := List.exists_mem_of_ne_nil _ g2
    have hb := msk_bit (toN L[i]) x.toNat
    rw [e, decide_eq_true (p := x.toNat ∈ toN L[i]) (List.mem_map.2 ⟨x, hx, rfl⟩), Nat.zero_testBit] at hb
    cases hb
  exact ⟨by rw [bagsB, decide_eq_true h, hr, decide_eq_false hz]; rfl, hr⟩
end Go.Proofs.Ythcfgoknphpkdaa


/- The document's answers: inside, common, lacks. -/
namespace Go.Proofs.Ythcfgoknphpkdaa
open Go.RowKit Go.Shelf

end Go.Proofs.Ythcfgoknphpkdaa


/- The document's answer: lacks. -/
namespace Go.Proofs.Ythcfgoknphpkdaa
open Go.RowKit Go.Shelf

theorem prsB_succ (f : Nat → Nat → Bool) (m : Nat) : prsB f (m + 1) = prsB f m + cntB (f m) m := rfl
theorem cntB_yes {f : Nat → Bool} {m : Nat} (h : f m = true) : cntB f (m + 1) = cntB f m + 1 := by rw [cntB, if_pos h]
theorem cntB_no {f : Nat → Bool} {m : Nat} (h : f m = false) : cntB f (m + 1) = cntB f m := by rw [cntB, if_neg (by rw [h]; decide), Nat.add_zero]
theorem cntB_le (f : Nat → Bool) : ∀ m, cntB f m ≤ m
  | 0 => Nat.le_refl _
  | m + 1 => by
    have := cntB_le f m
    cases h : f m
    · rw [cntB_no h]; omega
    · rw [cntB_yes h]; omega
theorem prsB_le (f : Nat → Nat → Bool) : ∀ m, prsB f m ≤ m * m
  | 0 => Nat.le_refl _
  | m + 1 => by
    have h1 := prsB_le f m
    have h2 := cntB_le (f m) m
    rw [prsB_succ, Nat.add_mul, Nat.mul_add]
    omega

end Go.Proofs.Ythcfgoknphpkdaa


/- The document's answer Fill: what its memory holds, step by step. -/
namespace Go.Proofs.Ythcfgoknphpkdaa
open Go.RowKit Go.Shelf

/-- Edges under way: all pairs of the bag with one of the first i, and of the next one with the first j. -/
def exB (e : Nat → Nat → Bool) (b : List Nat) (i j v u : Nat) : Bool := e v u || (decide (v ≠ u) && ((decide (v ∈ b.take i) && decide (u ∈ b)) || (decide (b[i]? = some v) && decide (u ∈ b.take j))))
theorem exB_start (e : Nat → Nat → Bool) (b : List Nat) (v u : Nat) : exB e b 0 0 v u = e v u := by simp [exB]
theorem exB_next (e : Nat → Nat → Bool) {b : List Nat} {i : Nat} (hi : i < b.length) (v u : Nat) : exB e b i b.length v u = exB e b (i + 1) 0 v u := by
  rw [exB, exB, List.take_succ_eq_append_getElem hi, List.getElem?_eq_getElem hi, List.take_length]
  congr 2
  refine Bool.eq_iff_iff.2 ?_
  simp only [Bool.or_eq_true, Bool.and_eq_true, decide_eq_true_eq, List.mem_append, List.mem_singleton, List.take_zero, List.not_mem_nil, Option.some.injEq]
  constructor
  · rintro (⟨a, c⟩ | ⟨a, c⟩)
    · exact .inl ⟨.inl a, c⟩
    · exact .inl ⟨.inr a.symm, c⟩
  · rintro (⟨a | a, c⟩ | ⟨_, c⟩)
    · exact .inl ⟨a, c⟩
    · exact .inr ⟨a.symm, c⟩
    · exact absurd c (by simp)
theorem exB_end (e : Nat → Nat → Bool) (b : List Nat) (v u : Nat) : exB e b b.length 0 v u = (e v u || (decide (v ≠ u) && (decide (v ∈ b) && decide (u ∈ b)))) := by
  rw [exB, List.take_length]; simp
theorem exB_same (e : Nat → Nat → Bool) {b : List Nat} {i j : Nat} (hi : i < b.length) (hj : j < b.length) (h : b[i] = b[j]) (v u : Nat) : exB e b i (j + 1) v u = exB e b i j v u := by
  rw [exB, exB, List.take_succ_eq_append_getElem hj, List.getElem?_eq_getElem hi]
  congr 1
  refine Bool.eq_iff_iff.2 ?_
  simp only [Bool.or_eq_true, Bool.and_eq_true, decide_eq_true_eq, List.mem_append, List.mem_singleton, Option.some.injEq]
  refine and_congr_right fun hne => or_congr_right (and_congr_right fun hv => ⟨fun hu => hu.resolve_right fun hu => hne (by rw [← hv, hu, h]), .inl⟩)
theorem exB_put (e : Nat → Nat → Bool) {b : List Nat} {i j : Nat} (hi : i < b.length) (hj : j < b.length) (h : b[i] ≠ b[j]) (v u : Nat) : exB e b i (j + 1) v u = if v = b[i] ∧ u = b[j] then true else exB e b i j v u := by
  by_cases hc : v = b[i] ∧ u = b[j]
  · rw [if_pos hc, hc.1, hc.2, exB, decide_eq_true h, decide_eq_true (p := b[i]? = some b[i]) (List.getElem?_eq_getElem hi), decide_eq_true (p := b[j] ∈ b.take (j + 1)) (by rw [List.take_succ_eq_append_getElem hj]; exact List.mem_append_right _ List.mem_cons_self)]
    simp
  · rw [if_neg hc, exB, exB, List.take_succ_eq_append_getElem hj, List.getElem?_eq_getElem hi]
    congr 1
    refine Bool.eq_iff_iff.2 ?_
    simp only [Bool.or_eq_true, Bool.and_eq_true, decide_eq_true_eq, List.mem_append, List.mem_singleton, Option.some.injEq]
    refine and_congr_right fun _ => or_congr_right (and_congr_right fun hv => ⟨fun hu => hu.resolve_right fun hu => hc ⟨hv.symm, hu⟩, .inl⟩)
theorem OwI.below {w w' : World} {B : Nat} {y : Value} {P : List PI2} (h : OwI w B y P) (hb : Below w.heap.size w w') : OwI w' B y P := ⟨own_kp h.1 (KpT.below hb), fun p hp => own_kp (h.2 p hp) (KpT.below hb)⟩
/-- What is found so far, as the answer holds it. -/
def bsI : Option (Nat × Nat) → Int
  | none => -1
  | some (b, _) => (b : Int)
def lsI : Option (Nat × Nat) → Nat
  | none => 0
  | some (_, m) => m
theorem dn_out {P : List (List Nat)} {n k : Nat} (hF : FI P n k) (hk : k < n) (h8 : n ≤ 8) : bsI (dnN (lackN (flS P n k).nei) (flS P n k).lft n n) = ((outV P n k : Nat) : Int) := by
  have hs : ∀ u ∈ (flS P n k).lft, u < n := fun u hu => ((hF.left u).1 hu).1
  have h1 := dn_few (P := (flS P n k).nei) (s := (flS P n k).lft) h8 hs
  have h2 := dnN_spec (f := lackN (flS P n k).nei) (s := (flS P n k).lft) (n := n) n (Nat.le_refl _)
  have hv := hF.here hk h8
  rw [outV, ← h1]
  revert h2
  cases dnN (lackN (flS P n k).nei) (flS P n k).lft n n with
  | none => exact fun h => (h _ hv (by omega) (hs _ hv)).elim
  | some p =>
    obtain ⟨b, m⟩ := p
    exact fun _ => rfl
theorem bagN_lt {P : List (List Nat)} {n k : Nat} (hF : FI P n k) (hk : k < n) (h8 : n ≤ 8) : ∀ x ∈ bagN P n k, x < n := fun x hx => by
  have hv := hF.here hk h8
  rcases (hF.bag hk h8).1 hx with rfl | hx
  · exact ((hF.left _).1 hv).1
  · exact ((hF.left _).1 (hF.sym _ hv x hx).1).1
theorem bagN_len (P : List (List Nat)) (n k : Nat) : (bagN P n k).length ≤ 8 := memU_len _ _
theorem bgL_yes {P : List (List Nat)} {n k u : Nat} (h1 : ¬ u ∈ (List.range k).map (outV P n)) (h2 : u = outV P n k ∨ emB P n k (outV P n k) u = true) : bgL P n k (u + 1) = bgL P n k u ++ [u] := by
  rw [bgL, List.range_succ, List.filter_append, bgL]
  congr 1
  have e1 : decide (u ∈ (List.range k).map (outV P n)) = false := decide_eq_false h1
  have e2 : (decide (u = outV P n k) || emB P n k (outV P n k) u) = true := by
    rcases h2 with h2 | h2
    · rw [decide_eq_true h2]; rfl
    · rw [h2, Bool.or_true]
  rw [List.filter_cons_of_pos (by rw [e1, e2]; rfl)]; rfl
theorem bgL_no {P : List (List Nat)} {n k u : Nat} (h : (!decide (u ∈ (List.range k).map (outV P n)) && (decide (u = outV P n k) || emB P n k (outV P n k) u)) = false) : bgL P n k (u + 1) = bgL P n k u := by
  rw [bgL, List.range_succ, List.filter_append, bgL, List.filter_cons_of_neg (by rw [h]; decide)]
  exact List.append_nil _
theorem bgL_len (P : List (List Nat)) (n k u : Nat) : (bgL P n k u).length ≤ u := by
  have := List.length_filter_le (fun u => !decide (u ∈ (List.range k).map (outV P n)) && (decide (u = outV P n k) || emB P n k (outV P n k) u)) (List.range u)
  rwa [List.length_range] at this
end Go.Proofs.Ythcfgoknphpkdaa


/- The document's answer Tree: what its memory holds, step by step. -/
namespace Go.Proofs.Ythcfgoknphpkdaa
open Go.RowKit Go.Shelf

theorem cell_in {w : World} {g j : Nat} {v : Value} (h : w.cell? ⟨g, j, none⟩ = some v) : g < w.heap.size := by
  rcases Nat.lt_or_ge g w.heap.size with h1 | h1
  · exact h1
  · have e : w.heap[g]? = none := Array.getElem?_eq_none h1
    rw [World.cell?, e] at h
    cases h
theorem one_cell (w : World) (v : Value) (t : TypeId) : (w.alloc (.cells #[v] t)).cell? ⟨w.heap.size, 0, none⟩ = some v := by
  rw [cell_of_row (w.alloc (.cells #[v] t)) w.heap.size 0 _ _ (0, 0) (heap_alloc_new w _)]; rfl
/-- What lies below a place stays. -/
theorem own_above {w w' : World} {B b : Nat} {e : TypeId} {s : Nat} {v : Value} {n : Nat} {xs : List Value} (h : w.ownsRow B e s v n xs) (hl : ∀ g, v.ownBlock = some g → g < b) (hb : Below b w w') : w'.ownsRow B e s v n xs := by
  refine ⟨h.1, ?_⟩
  rcases h.2 with h1 | ⟨g, cap, cur, h1, h2, h3, h4⟩
  · exact .inl h1
  · exact .inr ⟨g, cap, cur, h1, h2, (hb.block g (hl g (by rw [h1]; rfl))).trans h3, h4⟩
theorem OwI.push {w w' : World} {B : Nat} {y y' : Value} {P : List PI2} {x : Value} {l : List Int} (h : OwI w B y P) (hx : RwI w B x l) (hr : w'.ownsRow B 23 1 y' (P.length + 1) (P.map (·.1) ++ [x])) (hg : w.grownBy w' y.ownBlock) : OwI w' B y' (P ++ [(x, l)]) := by
  have kt : KpT 3 w w' := KpT.grown hg (own_typed h.1) (by decide)
  refine ⟨by rw [List.length_append, List.map_append]; exact hr, fun p hp => ?_⟩
  rcases List.mem_append.1 hp with hp | hp
  · exact own_kp (h.2 p hp) kt
  · rw [List.mem_singleton.1 hp]; exact own_kp hx kt
theorem OwI.lists {w : World} {B : Nat} {y : Value} {Ks : List PI2} {Ls : List (List Int)} (h : OwI w B y Ks) (hs : Ks.map (·.2) = Ls) (hp : 0 < Ls.length) : ∃ g c, y = .slice (some ⟨g, 0, none⟩) Ls.length c ∧ g < w.heap.size ∧ ∀ i, i < Ls.length → ∃ b cb, w.cell? ⟨g, i, none⟩ = some (.slice b (Ls.getD i []).length cb) ∧ IntS w b (Ls.getD i []) := by
  have hl : Ks.length = Ls.length := by rw [← hs, List.length_map]
  obtain ⟨g, c, h1, _, h3, h4⟩ := own_at h.1 (by omega)
  refine ⟨g, c, by rw [h1, hl], h3, fun i hi => ?_⟩
  have hik : i < Ks.length := by omega
  have e2 : Ls.getD i [] = Ks[i].2 := by
    rw [List.getD_eq_getElem?_getD, List.getElem?_eq_getElem hi]
    subst hs
    simp
  obtain ⟨d, cd, f1, f2⟩ := (h.2 _ (List.getElem_mem hik)).ints
  have := h4 i (by rw [List.length_map]; exact hik)
  rw [List.getElem_map, f1] at this
  rw [e2]
  exact ⟨d, cd, this, f2⟩
theorem lkL_cnt (C : List (List Nat)) : ∀ t, (lkL C t).length = t
  | 0 => rfl
  | t + 1 => by rw [lkL, List.length_append, lkL_cnt C t]; rfl
theorem own_same2 {w w' : World} {B : Nat} {e : TypeId} {s : Nat} {v : Value} {n : Nat} {xs : List Value} (h : w.ownsRow B e s v n xs) (hk : ∀ g, v.ownBlock = some g → w'.heap[g]? = w.heap[g]?) : w'.ownsRow B e s v n xs := by
  refine ⟨h.1, ?_⟩
  rcases h.2 with h1 | ⟨g, cap, cur, h1, h2, h3, h4⟩
  · exact .inl h1
  · exact .inr ⟨g, cap, cur, h1, h2, (hk g (by rw [h1]; rfl)).trans h3, h4⟩
theorem set3_off (W : World) (bb k : Nat) (A B S : Value) (hk : k ≠ bb) : (((W.setCell ⟨bb, 0, none⟩ A).setCell ⟨bb, 1, none⟩ B).setCell ⟨bb, 2, none⟩ S).heap[k]? = W.heap[k]? :=
  (Below.heap_setCell _ ⟨bb, 2, none⟩ S k hk).trans ((Below.heap_setCell _ ⟨bb, 1, none⟩ B k hk).trans (Below.heap_setCell _ ⟨bb, 0, none⟩ A k hk))
theorem three_cells (w : World) (A B S : Value) (t : TypeId) : (w.alloc (.cells #[A, B, S] t)).cell? ⟨w.heap.size, 0, none⟩ = some A ∧ (w.alloc (.cells #[A, B, S] t)).cell? ⟨w.heap.size, 1, none⟩ = some B ∧ (w.alloc (.cells #[A, B, S] t)).cell? ⟨w.heap.size, 2, none⟩ = some S := by
  have h := heap_alloc_new w (.cells #[A, B, S] t)
  exact ⟨by rw [cell_of_row _ w.heap.size 0 _ _ (0, 0) h]; rfl, by rw [cell_of_row _ w.heap.size 1 _ _ (0, 0) h]; rfl, by rw [cell_of_row _ w.heap.size 2 _ _ (0, 0) h]; rfl⟩
end Go.Proofs.Ythcfgoknphpkdaa


/- The document's answer: what a table has for an assignment of all variables. -/
namespace Go.Proofs.Ythcfgoknphpkdaa
open Go.RowKit Go.Shelf

theorem RowI_get {l : List Nat} {i : Nat} (h : i < (iL l).length) : (iL l)[i] = ((l[i]'(by rw [iL_length] at h; exact h) : Nat) : Int) := by simp [iL]

end Go.Proofs.Ythcfgoknphpkdaa


/- The document's answer: an assignment as one of all variables; a list without one. -/
namespace Go.Proofs.Ythcfgoknphpkdaa
open Go.RowKit Go.Shelf

theorem lessN_take {vars : List Int} {v : Int} {i : Nat} (h : i < vars.length) : lessN (vars.take (i + 1)) v = lessN (vars.take i) v ++ if vars[i] = v then [] else [vars[i]] := by
  rw [List.take_succ_eq_append_getElem h, lessN, lessN, List.filter_append]
  congr 1
  by_cases e : vars[i] = v
  · simp [e]
  · simp [e]

end Go.Proofs.Ythcfgoknphpkdaa


/- The document's answer: tables that grow cell by cell. -/
namespace Go.Proofs.Ythcfgoknphpkdaa
open Go.RowKit Go.Shelf

theorem frC_snoc (l : List Fr) (f : Fr) : frC (l ++ [f]) = frC l ++ [.bool f.1, .string f.2.1, .string f.2.2] := by
  induction l with
  | nil => rfl
  | cons x l ih => simp only [List.cons_append, frC, ih]
end Go.Proofs.Ythcfgoknphpkdaa


/- The document's answer: Fix. -/
namespace Go.Proofs.Ythcfgoknphpkdaa
open Go.RowKit Go.Shelf

theorem countB_of {sizes vars : List Int} (h1 : Fine sizes) (h2 : Up vars sizes.length) : countB sizes vars = true := by
  rw [countB, Bool.and_eq_true]
  constructor
  · rw [fitB, Bool.and_eq_true, decide_eq_true_iff]
    refine ⟨⟨h1.one, h1.eight⟩, List.all_eq_true.2 fun x hx => ?_⟩
    obtain ⟨i, hi, rfl⟩ := List.getElem_of_mem hx
    rw [okSize, decide_eq_true_iff]
    exact h1.each i hi
  · rw [risB, List.all_eq_true]
    intro i hi
    have hi' := List.mem_range.1 hi
    rw [okAt, decide_eq_true_iff, getD_eq hi']
    refine ⟨(h2.each i hi').1, (h2.each i hi').2, fun h0 => ?_⟩
    rw [getD_eq (show i - 1 < vars.length by omega)]
    exact h2.lt (i - 1) i hi' (by omega)
end Go.Proofs.Ythcfgoknphpkdaa


/- Package table: the closure of Out. -/
namespace Go.Proofs.Ythcfgoknphpkdaa
open Go.RowKit Go.Shelf

theorem fits_mono {m n : Nat} {q : Rat} (h : Fits m q) (hm : m ≤ n) : Fits n q := by
  obtain ⟨A, D, h1, h2, h3, h4⟩ := h
  exact ⟨A, D, h1, h2, Nat.lt_of_lt_of_le h3 (pow_mono hm), Nat.lt_of_lt_of_le h4 (pow_mono hm)⟩
theorem great_one (f g : Fr) : great f g = f ∨ great f g = g := by
  rw [great]
  by_cases h : cmpQ (frQ f) (frQ g) < 0
  · rw [if_pos h]; exact .inr rfl
  · rw [if_neg h]; exact .inl rfl
theorem qF_size (q : Rat) : (qF q).2.1.size + (qF q).2.2.size = qw q := rfl
theorem outN_fits (most : Bool) (T : Nat → Fr) : ∀ k, (∀ x, x ≤ k → (T x).2.1.size + (T x).2.2.size + 2 ≤ 8192) → Fits ((k + 1) * 8192) (frQ (outN most T k))
  | 0, h => fits_mono (fits_val _ _ _) (by have := h 0 (Nat.le_refl _); show (T 0).2.1.size + (T 0).2.2.size + 1 ≤ _; omega)
  | k + 1, h => by
    have h1 := outN_fits most T k fun x hx => h x (by omega)
    have h2 : Fits 8191 (frQ (T (k + 1))) := fits_mono (fits_val _ _ _) (by have := h (k + 1) (Nat.le_refl _); omega)
    rw [outN]
    cases most with
    | true =>
      rw [if_pos rfl]
      rcases great_one (outN true T k) (T (k + 1)) with e | e
      · rw [e]; exact fits_mono h1 (by omega)
      · rw [e]; exact fits_mono h2 (by omega)
    | false =>
      rw [if_neg (by decide), frQ_qF]
      exact fits_mono (fits_add h1 h2) (by omega)
theorem out_ar1 (k : Nat) : 2 * ((k + 1) * 8192) ≤ 2 * ((k + 1 + 1) * 8192) := by omega
theorem out_ar2 (k : Nat) : 8192 ≤ 2 * ((k + 1 + 1) * 8192) := by omega
theorem great_size {f g : Fr} {A : Nat} (h1 : f.2.1.size + f.2.2.size ≤ A) (h2 : g.2.1.size + g.2.2.size ≤ A) : (great f g).2.1.size + (great f g).2.2.size ≤ A := by
  rcases great_one f g with e | e
  · rw [e]; exact h1
  · rw [e]; exact h2
theorem outN_size (most : Bool) (T : Nat → Fr) : ∀ k, (∀ x, x ≤ k → (T x).2.1.size + (T x).2.2.size + 2 ≤ 8192) → (outN most T k).2.1.size + (outN most T k).2.2.size ≤ 2 * ((k + 1) * 8192)
  | 0, h => by have := h 0 (Nat.le_refl _); rw [outN]; omega
  | k + 1, h => by
    have h1 := outN_size most T k fun x hx => h x (by omega)
    have h2 := h (k + 1) (Nat.le_refl _)
    have h3 := outN_fits most T (k + 1) h
    rw [outN] at h3 ⊢
    cases most with
    | true =>
      rw [if_pos rfl]
      exact great_size (Nat.le_trans h1 (out_ar1 k)) (Nat.le_trans (Nat.le_trans (Nat.le_add_right _ 2) h2) (out_ar2 k))
    | false =>
      rw [if_neg (by decide)] at h3 ⊢
      rw [frQ_qF] at h3
      have h4 := fits_qw h3
      rw [qF_size]
      exact h4
/-- A way to make two fractions one. -/
def Pairs (most : Bool) (pf : Nat) : Prop := (∀ args w, (callFunc pf args).run Try.prog w = .ok (.enter pf args) w) ∧ ∀ (f g : Fr) (V : World), f.2.1.size + f.2.2.size ≤ 100000 → g.2.1.size + g.2.2.size ≤ 100000 → Calls Try.prog pf #[frV f, frV g] V fun e w' => e = .returned (frV (if most then great f g else qF (frQ f + frQ g))) ∧ Below V.heap.size V w'
end Go.Proofs.Ythcfgoknphpkdaa


/- Package table: Out. -/
namespace Go.Proofs.Ythcfgoknphpkdaa
open Go.RowKit Go.Shelf

theorem outL_length (S vars rest : List Nat) (v : Nat) (most : Bool) (l : List Fr) : (outL S vars rest v most l).length = cnt S rest := by simp [outL]
theorem outL_get (S vars rest : List Nat) (v : Nat) (most : Bool) (l : List Fr) {k : Nat} (h : k < (outL S vars rest v most l).length) : (outL S vars rest v most l)[k] = qF (frQ (outN most (fun x => celF l (pos S (withV (asg S rest k) v x) vars)) (sz S v - 1))) := by simp [outL]

end Go.Proofs.Ythcfgoknphpkdaa


/- The document's answer: Out. -/
namespace Go.Proofs.Ythcfgoknphpkdaa
open Go.RowKit Go.Shelf

theorem cmp_turn (p q : Rat) : 0 < cmpQ p q ↔ cmpQ q p < 0 := by
  rw [cmpQ, cmpQ]
  by_cases h1 : p < q
  · have h2 : ¬ q < p := Rat.not_lt.2 (Rat.le_of_lt h1)
    have h3 : ¬ q = p := fun h => by rw [h] at h1; exact Rat.lt_irrefl h1
    rw [if_pos h1, if_neg h2, if_neg h3]; decide
  · rw [if_neg h1]
    by_cases h2 : p = q
    · subst h2
      rw [if_neg h1, if_pos rfl]
    · have h3 : q < p := Rat.not_le.1 fun h4 => h1 (Rat.lt_of_le_of_ne h4 h2)
      rw [if_neg h2, if_pos h3]; decide
/-- What is left of the first so many; ahead of the first nothing. -/
def leftN (most : Bool) (T : Nat → Fr) (x : Nat) : Fr := if x = 0 then frZ else outN most T (x - 1)
theorem leftN_zero (most : Bool) (T : Nat → Fr) : leftN most T 0 = frZ := rfl
theorem leftN_one (most : Bool) (T : Nat → Fr) : leftN most T 1 = T 0 := rfl
theorem leftN_sum (T : Nat → Fr) {x : Nat} (h : x ≠ 0) : leftN false T (x + 1) = qF (frQ (leftN false T x) + frQ (T x)) := by
  obtain ⟨y, rfl⟩ : ∃ y, x = y + 1 := ⟨x - 1, by omega⟩
  rfl
theorem leftN_up (T : Nat → Fr) {x : Nat} (h : x ≠ 0) (hc : 0 < cmpQ (frQ (T x)) (frQ (leftN true T x))) : leftN true T (x + 1) = T x := by
  obtain ⟨y, rfl⟩ : ∃ y, x = y + 1 := ⟨x - 1, by omega⟩
  change 0 < cmpQ (frQ (T (y + 1))) (frQ (outN true T y)) at hc
  show great (outN true T y) (T (y + 1)) = _
  rw [great, if_pos ((cmp_turn _ _).1 hc)]
theorem leftN_keep (T : Nat → Fr) {x : Nat} (h : x ≠ 0) (hc : ¬ 0 < cmpQ (frQ (T x)) (frQ (leftN true T x))) : leftN true T (x + 1) = leftN true T x := by
  obtain ⟨y, rfl⟩ : ∃ y, x = y + 1 := ⟨x - 1, by omega⟩
  change ¬ 0 < cmpQ (frQ (T (y + 1))) (frQ (outN true T y)) at hc
  show great (outN true T y) (T (y + 1)) = outN true T y
  rw [great, if_neg (fun h => hc ((cmp_turn _ _).2 h))]
theorem left_ar {x : Nat} (hx : x ≤ 3) : 2 * ((x - 1 + 1) * 8192) ≤ 50000 := by omega
theorem leftN_size (most : Bool) (T : Nat → Fr) (x : Nat) (hx : x ≤ 3) (h : ∀ y, y < x → (T y).2.1.size + (T y).2.2.size + 2 ≤ 8192) : (leftN most T x).2.1.size + (leftN most T x).2.2.size ≤ 50000 := by
  by_cases h0 : x = 0
  · subst h0; rw [leftN_zero]; decide
  · have e : leftN most T x = outN most T (x - 1) := if_neg h0
    rw [e]
    exact Nat.le_trans (outN_size most T (x - 1) fun y hy => h y (by omega)) (left_ar hx)
theorem spr_with (n : Nat) (f : Nat → Nat) (v z x : Nat) : (spr n (withV f v z)).set v x = spr n (withV f v x) := by
  rw [spr_set]
  exact spr_congr fun u _ => by
    rw [withV, withV, withV]
    by_cases e : u = v
    · rw [if_pos e, if_pos e]
    · rw [if_neg e, if_neg e, if_neg e]
theorem spr_self (n : Nat) (f : Nat → Nat) (v : Nat) : spr n f = spr n (withV f v (f v)) := spr_congr fun u _ => by
  rw [withV]
  by_cases e : u = v
  · rw [if_pos e, e]
  · rw [if_neg e]
theorem left_ar2 {x : Nat} (hx : x ≤ 4) : 2 * ((x - 1 + 1) * 8192) ≤ 65536 := by omega
theorem leftN_lt (most : Bool) (T : Nat → Fr) (x : Nat) (h1 : 1 ≤ x) (hx : x ≤ 4) (h : ∀ y, y < x → (T y).2.1.size + (T y).2.2.size + 2 ≤ 8192) : (leftN most T x).2.1.size + (leftN most T x).2.2.size ≤ 65536 := by
  have e : leftN most T x = outN most T (x - 1) := if_neg (by omega)
  rw [e]
  exact Nat.le_trans (outN_size most T (x - 1) fun y hy => h y (by omega)) (left_ar2 hx)

end Go.Proofs.Ythcfgoknphpkdaa


/- The document's answer: TableBest. -/
namespace Go.Proofs.Ythcfgoknphpkdaa
open Go.RowKit Go.Shelf

theorem bestN_up {l : List Fr} {i : Nat} (h : 1 ≤ i) (hc : 0 < cmpQ (frQ (celF l i)) (frQ (celF l (bestN l (i - 1))))) : bestN l i = i := by
  obtain ⟨k, rfl⟩ : ∃ k, i = k + 1 := ⟨i - 1, by omega⟩
  rw [Nat.add_sub_cancel] at hc
  rw [bestN, if_pos ((cmp_turn _ _).1 hc)]
theorem bestN_keep {l : List Fr} {i : Nat} (h : 1 ≤ i) (hc : ¬ 0 < cmpQ (frQ (celF l i)) (frQ (celF l (bestN l (i - 1))))) : bestN l i = bestN l (i - 1) := by
  obtain ⟨k, rfl⟩ : ∃ k, i = k + 1 := ⟨i - 1, by omega⟩
  rw [Nat.add_sub_cancel] at hc ⊢
  rw [bestN, if_neg (fun h => hc ((cmp_turn _ _).2 h))]

end Go.Proofs.Ythcfgoknphpkdaa


/- Package table: Norm's closure. -/
namespace Go.Proofs.Ythcfgoknphpkdaa
open Go.RowKit Go.Shelf

end Go.Proofs.Ythcfgoknphpkdaa

