/- Plain: what Fill and Tree answer of the graph that GraphTrees makes: near lists, bags, cliques, links that keep together what has something in common (GtOK). -/
import Derived.Test.YtockhhleapbpiaaGtrWOwn
import Derived.Test.YtockhhleapbpiaaFilTOwn
import Derived.Test.YtockhhleapbpiaaRefCToRefQ
import Derived.Deep.Strs
import Derived.HandedShaped
import Derived.ProofKit
import Derived.OpenShut
import Derived.ShutString
import Derived.SizedLaws
import Derived.Test.YtockhhleapbpiaaRefRToSetB
import Derived.Carry
import Derived.Test.YtockhhleapbpiaaFillAToTabT
import Derived.Test.YtockhhleapbpiaaIterBToJoinD
import Derived.Laws.EntriesVeiled
namespace Go.Proofs.Ytockhhleapbpiaa
open Go.RowKit Go.Shelf

theorem eB_symm (E : List Int) (v u : Nat) : eB E v u = eB E u v := by
  rw [eB, eB, Nat.min_comm, Nat.max_comm]
  congr 1
  exact decide_eq_decide.2 ⟨fun h e => h e.symm, fun h e => h e.symm⟩
theorem eB_self (E : List Int) (v : Nat) : eB E v v = false := by simp [eB]
theorem nrP_mem {E : List Int} {v n u : Nat} : u ∈ nrP E v n ↔ u < n ∧ eB E v u = true := by simp [nrP]
theorem nrN_length (E : List Int) (n : Nat) : (nrN E n).length = n := by simp [nrN]
theorem par_nr (E : List Int) (n : Nat) : parN (nrN E n) = (List.range n).map fun v => nrP E v n := by simp [parN, nrN, toN_iL, Function.comp_def]
theorem par_at {E : List Int} {n v : Nat} (hv : v < n) : (parN (nrN E n)).getD v [] = nrP E v n := by rw [par_nr]; simp [List.getD_eq_getElem?_getD, hv]
/-- What is left of numbers that rise rises. -/
theorem ris_filter (p : Nat → Bool) (n : Nat) : risB (iL ((List.range n).filter p)) n = true := by
  have hs : ((List.range n).filter p).Pairwise (· < ·) := List.Pairwise.filter _ List.pairwise_lt_range
  refine List.all_eq_true.2 fun i hi => ?_
  have hi' : i < ((List.range n).filter p).length := by rw [List.mem_range, iL_length] at hi; exact hi
  have hg : ∀ j (hj : j < ((List.range n).filter p).length), (iL ((List.range n).filter p)).getD j 0 = (((List.range n).filter p)[j] : Int) := fun j hj => by
    rw [List.getD_eq_getElem?_getD, iL, List.getElem?_map, List.getElem?_eq_getElem hj]; rfl
  refine decide_eq_true ⟨?_, ?_, fun h0 => ?_⟩
  · rw [hg i hi']; omega
  · rw [hg i hi']
    have := List.mem_range.1 (List.mem_filter.1 (List.getElem_mem hi')).1
    omega
  · rw [hg i hi', hg (i - 1) (by omega)]
    have := (List.pairwise_iff_getElem.1 hs) (i - 1) i (by omega) hi' (by omega)
    omega
theorem gt_gB {E : List Int} {n : Nat} (h1 : 1 ≤ n) (h8 : n ≤ 8) : gB (nrN E n) = true := by
  refine gB_yes (by rw [nrN_length]; exact h1) (by rw [nrN_length]; exact h8) fun i hi => ?_
  have e : (nrN E n)[i] = iL (nrP E i n) := by simp [nrN]
  rw [e, nrN_length]
  refine ⟨ris_filter _ n, ?_⟩
  rw [toN_iL, nrP_mem, eB_self]
  exact fun h => by cases h.2
theorem gt_near {E : List Int} {n : Nat} (h1 : 1 ≤ n) (h8 : n ≤ 8) : nearB (nrN E n) = true := by
  rw [nearB, gt_gB h1 h8, Bool.true_and]
  refine decide_eq_true ?_
  rw [masks_par, nrN_length]
  refine List.ext_getElem (by simp [par_nr, chA]) fun v hv _ => ?_
  have hv' : v < n := by simpa [par_nr] using hv
  have e1 : (parN (nrN E n))[v]'(by simpa [par_nr] using hv') = nrP E v n := by simp [par_nr]
  have e2 : (chA (parN (nrN E n)) n n)[v]'(by simpa [chA] using hv') = chL (parN (nrN E n)) v n := by simp [chA]
  rw [List.getElem_map, List.getElem_map, e1, e2]
  refine msk_ext fun x => ?_
  rw [nrP_mem, chL_mem]
  refine ⟨fun ⟨h1, h2⟩ => ⟨h1, ?_⟩, fun ⟨h1, h2⟩ => ⟨h1, ?_⟩⟩
  · rw [par_at h1, nrP_mem, eB_symm]; exact ⟨hv', h2⟩
  · rw [par_at h1, nrP_mem, eB_symm] at h2; exact h2.2
theorem gt_nbr {E : List Int} {n : Nat} : Nbr n (parN (nrN E n)) := by
  refine ⟨by simp [par_nr], fun p hp u hu => ?_, fun u hu => ?_⟩
  · rw [par_nr] at hp
    obtain ⟨v, _, rfl⟩ := List.mem_map.1 hp
    exact (nrP_mem.1 hu).1
  · by_cases h : u < n
    · rw [par_at h, nrP_mem, eB_self] at hu; cases hu.2
    · rw [List.getD_eq_getElem?_getD, List.getElem?_eq_none (by rw [par_nr, List.length_map, List.length_range]; omega)] at hu
      cases hu
/-- The bags as sets. -/
def setsB (P : List (List Nat)) (n : Nat) : List (List Nat) := (List.range n).map fun i => memU (outV P n i :: (flS P n i).nei.getD (outV P n i) []) 8
theorem setsB_length (P : List (List Nat)) (n : Nat) : (setsB P n).length = n := by simp [setsB]
theorem setsB_at {P : List (List Nat)} {n i : Nat} (hi : i < n) : (setsB P n).getD i [] = memU (outV P n i :: (flS P n i).nei.getD (outV P n i) []) 8 := by simp [setsB, List.getD_eq_getElem?_getD, hi]
theorem toN_memL (s : List Nat) : toN (memL s) = memU s 8 := by rw [memL, toN_iL]
theorem memL_mem {s : List Nat} {x : Nat} : ((x : Nat) : Int) ∈ memL s ↔ x < 8 ∧ x ∈ s := by
  rw [memL, iL, List.mem_map]
  constructor
  · rintro ⟨y, hy, e⟩
    obtain rfl : y = x := by omega
    exact memU_mem.1 hy
  · exact fun h => ⟨x, memU_mem.2 h, rfl⟩
theorem bagsL_eq (N : List (List Int)) : bagsL N = (List.range N.length).map fun i => memL (outV (parN N) N.length i :: (flS (parN N) N.length i).nei.getD (outV (parN N) N.length i) []) := by rw [bagsL, flS_ord, List.map_map]; rfl
theorem bagsL_length (N : List (List Int)) : (bagsL N).length = N.length := by rw [bagsL_eq]; simp
theorem par_bags (N : List (List Int)) : parN (bagsL N) = setsB (parN N) N.length := by
  rw [bagsL_eq, parN, List.map_map, setsB]
  refine List.map_congr_left fun i _ => ?_
  exact toN_memL _
theorem setsB_has {P : List (List Nat)} {n : Nat} (hF : ∀ k, k ≤ n → FI P n k) (h8 : n ≤ 8) {i : Nat} (hi : i < n) {x : Nat} : x ∈ (setsB P n).getD i [] ↔ bagB (outV P n) (nrO P n) i x := by
  have hv := (hF i (by omega)).here hi h8
  rw [setsB_at hi, memU_mem, List.mem_cons, bagB, nrO]
  constructor
  · rintro ⟨_, e | h⟩
    · exact .inl e
    · exact .inr ⟨hv, h⟩
  · rintro (e | ⟨_, h⟩)
    · refine ⟨?_, .inl e⟩
      have := (((hF i (by omega)).left _).1 hv).1
      omega
    · refine ⟨?_, .inr h⟩
      have := (((hF i (by omega)).left _).1 ((hF i (by omega)).sym _ hv x h).1).1
      omega
theorem gt_bags {N : List (List Int)} (h1 : 1 ≤ N.length) (h8 : N.length ≤ 8) (hF : ∀ k, k ≤ N.length → FI (parN N) N.length k) : bagsB (bagsL N) = true := by
  have hr : allRis (bagsL N) 8 = true := List.all_eq_true.2 fun l hl => by
    rw [bagsL_eq] at hl
    obtain ⟨i, _, rfl⟩ := List.mem_map.1 hl
    exact ris_filter _ 8
  have hz : ¬ 0 ∈ masks (bagsL N) := fun hm => by
    rw [masks_par, par_bags, setsB, List.map_map] at hm
    obtain ⟨i, hi, e⟩ := List.mem_map.1 hm
    have hi' := List.mem_range.1 hi
    have hv := (hF i (by omega)).here hi' h8
    have hvn := (((hF i (by omega)).left _).1 hv).1
    have hb := msk_bit (memU (outV (parN N) N.length i :: (flS (parN N) N.length i).nei.getD (outV (parN N) N.length i) []) 8) (outV (parN N) N.length i)
    rw [show mskN (memU (outV (parN N) N.length i :: (flS (parN N) N.length i).nei.getD (outV (parN N) N.length i) []) 8) = 0 from e, decide_eq_true (memU_mem.2 ⟨by omega, List.mem_cons_self⟩), Nat.zero_testBit] at hb
    cases hb
  rw [bagsB, hr, decide_eq_true (p := 1 ≤ (bagsL N).length ∧ (bagsL N).length ≤ 8) (by rw [bagsL_length]; exact ⟨h1, h8⟩), decide_eq_false hz]
  rfl
/-- A bag is kept if it is an outermost one. -/
theorem kept_iff {has : Nat → Nat → Prop} {own : Nat → Nat} {B : List (List Nat)} {n : Nat} (hE : Elim has n own) (hB : B.length = n) (hh : ∀ i, i < n → ∀ x, x ∈ B.getD i [] ↔ has i x) {i : Nat} (hi : i < n) : keptB B i = true ↔ OutB has n 0 i := by
  constructor
  · intro hk
    refine ⟨⟨Nat.zero_le _, hi⟩, fun j _ hj hs => ?_⟩
    refine Classical.byContradiction fun hne => ?_
    have hc := List.all_eq_true.1 hk j (List.mem_range.2 (by rw [hB]; exact hj))
    rw [covB, Bool.not_eq_true', decide_eq_false_iff_not] at hc
    refine hc ⟨hne, fun x hx => (hh j hj x).2 (hs x ((hh i hi x).1 hx)), ?_⟩
    rcases Nat.lt_or_ge j i with h | h
    · exact .inr h
    · exact absurd (hs _ (hE.mine i hi)) (hE.out i j (by omega) hj)
  · rintro ⟨_, ho⟩
    refine kept_yes fun j hj => decide_eq_false ?_
    rintro ⟨h1, h2, _⟩
    rw [hB] at hj
    exact h1 (ho j (Nat.zero_le _) hj fun x hx => (hh j hj x).1 (h2 x ((hh i hi x).2 hx)))
theorem lkL_length (C : List (List Nat)) : ∀ t, (lkL C t).length = t
  | 0 => rfl
  | t + 1 => by rw [lkL, List.length_append, lkL_length C t]; rfl
theorem at_inj {K : List Nat} (hd : K.Nodup) {k k' : Nat} (hk : k < K.length) (hk' : k' < K.length) (e : K.getD k 0 = K.getD k' 0) : k = k' := by
  rw [List.getD_eq_getElem?_getD, List.getD_eq_getElem?_getD, List.getElem?_eq_getElem hk, List.getElem?_eq_getElem hk'] at e
  exact (List.getElem?_inj hk hd).1 (by rw [List.getElem?_eq_getElem hk, List.getElem?_eq_getElem hk']; exact congrArg some e)
/-- Links one by one, each with the most in common. -/
theorem lk_prim {has : Nat → Nat → Prop} {B : List (List Nat)} {n : Nat} (hh : ∀ i, i < n → ∀ x, x ∈ B.getD i [] ↔ has i x) (hlt : ∀ i x, x ∈ B.getD i [] → x < 8) {K : List Nat} (hK : ∀ i ∈ K, i < n) (hd : K.Nodup) (h0 : 0 < K.length) (h8 : K.length ≤ 8) : ∀ t, t + 1 ≤ K.length → ∃ W, Prim has (· ∈ K) ((lkL (K.map fun i => B.getD i []) t).map fun p => (K.getD p.1 0, K.getD p.2.1 0)) W ∧ (∀ y, W y ↔ ∃ k, k ∈ thR (K.map fun i => B.getD i []) t ∧ y = K.getD k 0) ∧ (thR (K.map fun i => B.getD i []) t).Nodup ∧ (thR (K.map fun i => B.getD i []) t).length = t + 1 := by
  have hCl : (K.map fun i => B.getD i []).length = K.length := List.length_map ..
  have hCa : ∀ k, k < K.length → (K.map fun i => B.getD i []).getD k [] = B.getD (K.getD k 0) [] := fun k hk => by simp [List.getD_eq_getElem?_getD, hk]
  have hKm : ∀ k, k < K.length → K.getD k 0 ∈ K := fun k hk => by
    rw [List.getD_eq_getElem?_getD, List.getElem?_eq_getElem hk]; exact List.getElem_mem hk
  have hKi : ∀ k k', k < K.length → k' < K.length → K.getD k 0 = K.getD k' 0 → k = k' := fun k k' hk hk' e => by
    exact at_inj hd hk hk' e
  have hKe : ∀ y, y ∈ K → ∃ k, k < K.length ∧ y = K.getD k 0 := fun y hy => by
    obtain ⟨k, hk, e⟩ := List.getElem_of_mem hy
    exact ⟨k, hk, by rw [List.getD_eq_getElem?_getD, List.getElem?_eq_getElem hk, ← e]; rfl⟩
  have hcom : ∀ k k', k < K.length → k' < K.length → comN (K.map fun i => B.getD i []) k k' = (List.range 8).countP fun v => decide (v ∈ B.getD (K.getD k 0) []) && decide (v ∈ B.getD (K.getD k' 0) []) := fun k k' hk hk' => by
    rw [comN, hCa k hk, hCa k' hk', memU, List.countP_eq_length_filter]
    congr 1
    refine List.filter_congr fun v _ => ?_
    refine Bool.eq_iff_iff.2 ?_
    rw [Bool.and_eq_true, decide_eq_true_iff, decide_eq_true_iff, decide_eq_true_iff, List.mem_filter, decide_eq_true_iff]
  generalize hC : (K.map fun i => B.getD i []) = C at *
  intro t
  induction t with
  | zero =>
    intro _
    exact ⟨fun y => y = K.getD 0 0, .start (hKm 0 h0), fun y => ⟨fun h => ⟨0, List.mem_cons_self, h⟩, fun ⟨k, hk, e⟩ => by rw [List.mem_singleton.1 hk] at e; exact e⟩, by simp [thR], rfl⟩
  | succ t ih =>
    intro ht
    obtain ⟨W, hp, hW, hn, hl⟩ := ih (by omega)
    have hthl : ∀ u ∈ thR C t, u < K.length := fun u hu => by
      have := thR_lt (C := C) (by omega) t u hu
      omega
    obtain ⟨j, hj, hjs⟩ : ∃ j, j < C.length ∧ ¬ j ∈ thR C t := by
      refine Classical.byContradiction fun hno => ?_
      have := nodup_len (l := List.range C.length) (m := thR C t) List.nodup_range fun x hx => Classical.byContradiction fun hx' => hno ⟨x, List.mem_range.1 hx, hx'⟩
      rw [List.length_range] at this
      omega
    obtain ⟨i, hi⟩ : ∃ i, i ∈ thR C t := List.exists_mem_of_length_pos (by omega)
    obtain ⟨b1, b2, b3, b4⟩ := nrI_best (by omega) (fun u hu => by have := hthl u hu; omega) hi hj hjs
    rw [lkL, thR, List.map_append, List.map_singleton]
    generalize nrI C (thR C t) 8 = r at *
    have ha := hthl _ b1
    have hb : r.b < K.length := by omega
    have hnW : ¬ W (K.getD r.b 0) := fun h => by
      obtain ⟨k, hk, e⟩ := (hW _).1 h
      exact b2 (by rw [hKi _ _ hb (hthl k hk) e]; exact hk)
    refine ⟨_, .link hp (hKm _ hb) ((hW _).2 ⟨_, b1, rfl⟩) hnW ?_, fun y => ?_, List.nodup_cons.2 ⟨b2, hn⟩, by rw [List.length_cons, hl]⟩
    · intro c d hc hd' hWc hWd
      have hmost := most_common (has := fun c v => decide (v ∈ B.getD c [])) (K := (· ∈ K)) (W := W) (m := 8) (a := K.getD r.a 0) (b := K.getD r.b 0) (fun c v h => hlt c v (of_decide_eq_true h)) (fun c d hc hd' hWc hWd => by
        obtain ⟨k, hk, rfl⟩ := (hW c).1 hWc
        obtain ⟨k', hk', rfl⟩ := hKe d hd'
        have := b4 k hk k' (by omega) fun h => hWd ((hW _).2 ⟨k', h, rfl⟩)
        rw [hcom k k' (hthl k hk) hk', hcom _ _ ha hb] at this
        exact this) c d hc hd' hWc hWd
      simp only [decide_eq_true_eq] at hmost
      have hha := hh _ (hK _ (hKm _ ha))
      have hhb := hh _ (hK _ (hKm _ hb))
      have hhc := hh _ (hK _ hc)
      have hhd := hh _ (hK _ hd')
      intro hin v h1 h2
      have := hmost (fun v h3 h4 => by
        have := hin v ((hha v).1 h3) ((hhb v).1 h4)
        exact ⟨(hhc v).2 this.1, (hhd v).2 this.2⟩) v ((hhc v).2 h1) ((hhd v).2 h2)
      exact ⟨(hha v).1 this.1, (hhb v).1 this.2⟩
    · show W y ∨ y = K.getD r.b 0 ↔ _
      rw [hW]
      constructor
      · rintro (⟨k, hk, e⟩ | e)
        · exact ⟨k, List.mem_cons_of_mem _ hk, e⟩
        · exact ⟨r.b, List.mem_cons_self, e⟩
      · rintro ⟨k, hk, e⟩
        rcases List.mem_cons.1 hk with rfl | hk
        · exact .inr e
        · exact .inl ⟨k, hk, e⟩
/-- All that the law asks of what Fill and Tree answer. -/
theorem gt_ok {E : List Int} {n : Nat} (h1 : 1 ≤ n) (h8 : n ≤ 8) : GtOK (nrN E n) := by
  have hlen := nrN_length E n
  have hN := gt_nbr (E := E) (n := n)
  have hs : ∀ u, u < n → ∀ w, w ∈ (parN (nrN E n)).getD u [] → u ∈ (parN (nrN E n)).getD w [] := fun u hu w hw => by
    rw [par_at hu, nrP_mem] at hw
    rw [par_at hw.1, nrP_mem, eB_symm]
    exact ⟨hu, hw.2⟩
  have hnear := gt_near (E := E) h1 h8
  have hF := FI.all hN hs h8
  have hO := fill_outs hN hs h8
  have hB := gt_bags (N := nrN E n) (by rw [hlen]; exact h1) (by rw [hlen]; exact h8) (by rw [hlen]; exact hF)
  have hBl : (bagsL (nrN E n)).length = n := by rw [bagsL_length, hlen]
  have hpb : parN (bagsL (nrN E n)) = setsB (parN (nrN E n)) n := by rw [par_bags, hlen]
  have hedge : ∀ v, v < n → ∀ x ∈ (nrN E n).getD v [], nrO (parN (nrN E n)) n 0 v x.toNat ∧ x = ((x.toNat : Nat) : Int) := fun v hv x hx => by
    have e : (nrN E n).getD v [] = iL (nrP E v n) := by simp [nrN, List.getD_eq_getElem?_getD, hv]
    rw [e, iL, List.mem_map] at hx
    obtain ⟨y, hy, rfl⟩ := hx
    refine ⟨⟨upL_mem.2 hv, ?_⟩, rfl⟩
    show y ∈ (parN (nrN E n)).getD v []
    rw [par_at hv]
    exact hy
  have hcl : clqL (nrN E n) = ((List.range n).filter (keptB (setsB (parN (nrN E n)) n))).map fun i => (setsB (parN (nrN E n)) n).getD i [] := by rw [clqL, hBl, hpb, ousL]
  clear hpb hN hs
  generalize parN (nrN E n) = P at *
  have hh : ∀ i, i < n → ∀ x, x ∈ (setsB P n).getD i [] ↔ bagB (outV P n) (nrO P n) i x := fun i hi x => setsB_has hF h8 hi
  have hlt : ∀ i x, x ∈ (setsB P n).getD i [] → x < 8 := fun i x hx => by
    by_cases hi : i < n
    · rw [setsB_at hi, memU_mem] at hx; exact hx.1
    · rw [List.getD_eq_getElem?_getD, List.getElem?_eq_none (by rw [setsB_length]; omega)] at hx; cases hx
  have hkept : ∀ i, i < n → (keptB (setsB P n) i = true ↔ OutB (bagB (outV P n) (nrO P n)) n 0 i) := fun i hi => kept_iff hO.elim (setsB_length P n) hh hi
  generalize setsB P n = B at *
  obtain ⟨K, hKdef⟩ : ∃ K, K = (List.range n).filter (keptB B) := ⟨_, rfl⟩
  rw [← hKdef] at hcl
  have hK : ∀ i, i ∈ K ↔ OutB (bagB (outV P n) (nrO P n)) n 0 i := fun i => by
    rw [hKdef, List.mem_filter, List.mem_range]
    exact ⟨fun ⟨a, b⟩ => (hkept i a).1 b, fun h => ⟨h.1.2, (hkept i h.1.2).2 h⟩⟩
  have hKn : ∀ i ∈ K, i < n := fun i hi => ((hK i).1 hi).1.2
  have hd : K.Nodup := by rw [hKdef]; exact List.Pairwise.filter _ List.nodup_range
  have hK8 : K.length ≤ 8 := by
    have := List.length_filter_le (keptB B) (List.range n)
    rw [← hKdef, List.length_range] at this
    omega
  have hK0 : 0 < K.length := by
    obtain ⟨i, hi, _⟩ := hO.node (v := 0) (by omega)
    exact List.length_pos_of_mem ((hK i).2 hi)
  obtain ⟨W, hp, _⟩ := lk_prim hh hlt hKn hd hK0 hK8 (K.length - 1) (by omega)
  rw [← hcl] at hp
  have hcl' : (clqL (nrN E n)).length = K.length := by rw [hcl, List.length_map]
  have hCa : ∀ k, k < K.length → (clqL (nrN E n)).getD k [] = B.getD (K.getD k 0) [] := fun k hk => by rw [hcl]; simp [List.getD_eq_getElem?_getD, hk]
  have hKm : ∀ k, k < K.length → K.getD k 0 ∈ K := fun k hk => by
    rw [List.getD_eq_getElem?_getD, List.getElem?_eq_getElem hk]; exact List.getElem_mem hk
  have hKe : ∀ y, y ∈ K → ∃ k, k < K.length ∧ K.getD k 0 = y := fun y hy => by
    obtain ⟨k, hk, e⟩ := List.getElem_of_mem hy
    exact ⟨k, hk, by rw [List.getD_eq_getElem?_getD, List.getElem?_eq_getElem hk, ← e]; rfl⟩
  have hhas : ∀ k, k < K.length → ∀ x, x ∈ (clqL (nrN E n)).getD k [] ↔ bagB (outV P n) (nrO P n) (K.getD k 0) x := fun k hk x => by
    rw [hCa k hk]; exact hh _ (hKn _ (hKm k hk)) x
  have hxlt : ∀ k, k < K.length → ∀ x, x ∈ (clqL (nrN E n)).getD k [] → x < 8 := fun k hk x hx => by
    rw [hCa k hk] at hx; exact hlt _ _ hx
  have hcn := hO.links (by omega) hK hd hp (by rw [List.length_map, lkL_length]; omega)
  have hll : ∀ p ∈ lkL (clqL (nrN E n)) (K.length - 1), p.1 < K.length ∧ p.2.1 < K.length := fun p hp' => by
    have := lkL_lt (C := clqL (nrN E n)) (by omega) _ p hp'
    omega
  have hwit : ∀ v : Int, v = -1 ∨ (0 ≤ v ∧ v < (n : Int)) → ∀ k, k ∈ witL ((clqL (nrN E n)).map memL) v (clqL (nrN E n)).length ↔ k < K.length ∧ ∀ x, (0 ≤ v ∧ x = v.toNat) → bagB (outV P n) (nrO P n) (K.getD k 0) x := fun v hv k => by
    rw [witL, List.mem_filter, List.mem_range, hcl']
    refine and_congr_right fun hk => ?_
    have e : ((clqL (nrN E n)).map memL).getD k [] = memL ((clqL (nrN E n)).getD k []) := by
      rw [List.getD_eq_getElem?_getD, List.getElem?_map, List.getElem?_eq_getElem (by omega), List.getD_eq_getElem?_getD, List.getElem?_eq_getElem (by omega)]; rfl
    rw [hsV, e, Bool.or_eq_true, decide_eq_true_iff, inB_mem]
    constructor
    · rintro (h | h) x ⟨h0, rfl⟩
      · omega
      · rw [show v = ((v.toNat : Nat) : Int) by omega, memL_mem] at h
        exact (hhas k hk _).1 h.2
    · intro h
      by_cases h0 : v < 0
      · exact .inl h0
      · have := (hhas k hk _).2 (h v.toNat ⟨by omega, rfl⟩)
        refine .inr ?_
        rw [show v = ((v.toNat : Nat) : Int) by omega, memL_mem]
        exact ⟨hxlt k hk _ this, this⟩
  have hfull : ∀ v : Int, v = -1 ∨ (0 ≤ v ∧ v < (n : Int)) → 0 < (witL ((clqL (nrN E n)).map memL) v (clqL (nrN E n)).length).length := fun v hv => by
    obtain ⟨i, hi, hb⟩ := hO.node (v := v.toNat) (by omega)
    obtain ⟨k, hk, e⟩ := hKe i ((hK i).2 hi)
    exact List.length_pos_of_mem ((hwit v hv k).2 ⟨hk, fun x hx => by rw [hx.2, e]; exact hb⟩)
  refine ⟨hnear, by rw [hBl, hlen], hB, fun v hv => ?_, fun v hv x hx => ?_, fun v hv => hfull v (by rw [hlen] at hv; exact hv), fun v hv S hS0 hS x hx => ?_⟩
  · rw [hlen] at hv
    obtain ⟨i, hi, hb⟩ := hO.node hv
    obtain ⟨k, hk, e⟩ := hKe i ((hK i).2 hi)
    have := (hhas k hk v).2 (by rw [e]; exact hb)
    exact ⟨k, by omega, memL_mem.2 ⟨hxlt k hk _ this, this⟩⟩
  · rw [hlen] at hv
    obtain ⟨a1, a2⟩ := hedge v hv x hx
    obtain ⟨i, hi, hb, hc⟩ := hO.edge a1
    obtain ⟨k, hk, e⟩ := hKe i ((hK i).2 hi)
    have h2 := (hhas k hk v).2 (by rw [e]; exact hb)
    have h3 := (hhas k hk x.toNat).2 (by rw [e]; exact hc)
    exact ⟨k, by omega, memL_mem.2 ⟨hxlt k hk _ h2, h2⟩, by rw [a2]; exact memL_mem.2 ⟨hxlt k hk _ h3, h3⟩⟩
  · rw [hlen] at hv
    have hw := hwit v hv
    have hf0 := hfull v hv
    generalize witL ((clqL (nrN E n)).map memL) v (clqL (nrN E n)).length = wit at *
    rw [hcl'] at hS
    have hfw : wit.getD 0 0 ∈ wit := by
      rw [List.getD_eq_getElem?_getD, List.getElem?_eq_getElem hf0]; exact List.getElem_mem hf0
    obtain ⟨f1, f2⟩ := (hw _).1 hfw
    obtain ⟨x1, x2⟩ := (hw _).1 hx
    have hway := hcn (fun x => 0 ≤ v ∧ x = v.toNat) (K.getD (wit.getD 0 0) 0) (K.getD x 0) (hKm _ f1) (hKm _ x1) f2 x2
    have key : ∀ y z, WayE ((lkL (clqL (nrN E n)) (K.length - 1)).map fun p => (K.getD p.1 0, K.getD p.2.1 0)) (fun c => ∀ u, (0 ≤ v ∧ u = v.toNat) → bagB (outV P n) (nrO P n) c u) y z → ∀ k, k < K.length → K.getD k 0 = y → S k → ∀ k', k' < K.length → K.getD k' 0 = z → S k' := fun y z hyz => by
      induction hyz using WayE.ind with
      | here _ =>
        intro k hk e hSk k' hk' e'
        rw [at_inj hd hk' hk (e'.trans e.symm)]; exact hSk
      | @step a b c hpa hab hbc ih =>
        intro k hk e hSk
        have hpb := hbc.fst
        have one : ∃ k1, k1 < K.length ∧ K.getD k1 0 = b ∧ S k1 := by
          rcases hab with h | h
          · obtain ⟨p, hp1, hp2⟩ := List.mem_map.1 h
            obtain ⟨e1, e2⟩ := Prod.mk.inj hp2
            obtain ⟨l1, l2⟩ := hll p hp1
            have ek : p.1 = k := at_inj hd l1 hk (e1.trans e.symm)
            refine ⟨p.2.1, l2, e2, ?_⟩
            by_cases hsame : p.2.1 = k
            · rw [hsame]; exact hSk
            · exact hS k hSk p hp1 p.2.1 (by rw [oth, if_neg hsame, if_pos ek]) ((hw _).2 ⟨l2, by rw [e2]; exact hpb⟩)
          · obtain ⟨p, hp1, hp2⟩ := List.mem_map.1 h
            obtain ⟨e1, e2⟩ := Prod.mk.inj hp2
            obtain ⟨l1, l2⟩ := hll p hp1
            have ek : p.2.1 = k := at_inj hd l2 hk (e2.trans e.symm)
            exact ⟨p.1, l1, e1, hS k hSk p hp1 p.1 (by rw [oth, if_pos ek]) ((hw _).2 ⟨l1, by rw [e1]; exact hpb⟩)⟩
        obtain ⟨k1, g1, g2, g3⟩ := one
        exact ih k1 g1 g2 g3
    exact key _ _ hway _ f1 rfl hS0 x x1 rfl
end Go.Proofs.Ytockhhleapbpiaa


/- A lifting that hands on the world's shape beside what the row lists; fractions opened and shut. -/
namespace Go.Proofs.Ytockhhleapbpiaa
open Go.ChangeShapes Go.WideShapes Go.ChangeAt Go.RowKit

theorem lift_shaped {H : Type} {enc : TypeId × Value → H} {a : Assume} {C : Checked} {os : Os} {f : FuncId} {fn : Func} {s : ChangeSpec} {conds : List PathCond} {apart fresh handsOn again : Bool} {X : World → Array Value → Prop}
    (hX : ∀ (w w' : World) (args : Array Value), w.heap = w'.heap → X w args → X w' args)
    (own : ownKnob C.prog.godebug = none) (started : os.Started) (noInit : C.prog.inits.idxOf? f = none) (hfn : C.prog.funcs[f]? = some fn)
    (witness : ∃ (w : World) (tape : Tape) (i : Input), w.os = os ∧ (w.forCall tape i).Shaped C.prog ∧ i.vars = [] ∧ Input.okWide C.prog (w.forCall tape i) .any w.heap.size f i ∧
      ((s.pre enc C.prog fn conds apart (w.forCall tape i).memory i.args ∧ X (w.forCall tape i).memory i.args) ∧ sizedMet enc C.prog fn (OpenSpec.ofChange s) apart (w.forCall tape i).memory i.args) ∧ a.holds C.prog (lone (Frame.enter C.prog f i.args .normal) [] (w.forCall tape i)))
    (walk : ∀ (W : World) (base : Nat) (args : Array Value) (ds gs : List (DataW H)) (before : List MemPlace),
      (∀ (j : Nat) t v, fn.params[j]? = some t → args[j]? = some v → Value.okWide C.prog W .any base t v) →
      DataW.Whole enc C.prog fn.params.toList s.vars apart W args.toList ds gs before →
      (DataW.weightsEach C.prog (fn.params.toList ++ s.plain.varTypes C.prog) (ds ++ gs)).all (· ≤ reachBytes) = true → X W args → W.ShapedOpen C.prog →
      Calls C.prog f args W fun e W' => ∃ v, e = .returned v ∧ s.post enc C.prog fn apart fresh handsOn again W args v W') :
    ReturnsInHanded a C os f .any (fun w args => (s.pre enc C.prog fn conds apart w args ∧ X w args) ∧ sizedMet enc C.prog fn (OpenSpec.ofChange s) apart w args) (s.post enc C.prog fn apart fresh handsOn again) := by
  refine returnsInHanded_of_calls own started noInit witness ?_
  intro w tape i _ hsh _ hok hpre _
  obtain ⟨_, _, _, fn', hfn', _, _, _, _, hval⟩ := hok
  obtain rfl : fn' = fn := Option.some.inj (hfn'.symm.trans hfn)
  obtain ⟨⟨⟨ds, gs, before, hw, _⟩, hx⟩, hz⟩ := hpre
  refine (walk (w.forCall tape i) w.heap.size i.args ds gs before hval (DataW.Whole.of_heap (w' := w.forCall tape i) (by rfl) hw) (hz.weights hw) (hX _ _ _ (by rfl) hx) hsh).mono fun e W' ⟨v, he, hp⟩ => ?_
  subst he
  exact ChangeSpec.post_blind hp

theorem cellsB : Try.prog.cellsOf 4 = 1 := by kernel_rfl
end Go.Proofs.Ytockhhleapbpiaa


/- A slice of fractions that came in, opened. -/
namespace Go.Proofs.Ytockhhleapbpiaa
open Go.ChangeShapes Go.WideShapes Go.ChangeAt Go.RowKit

theorem cell_lt {w : World} {a : Addr} {v : Value} (h : w.cell? a = some v) : a.block < w.heap.size := by
  rcases Nat.lt_or_ge a.block w.heap.size with h1 | h1
  · exact h1
  · simp [World.cell?, Array.getElem?_eq_none h1] at h
/-- What a fraction reads as. -/
def fd {H : Type} (f : Fr) : DataW H := .agg [.lit (.bool f.1), .lit (.string f.2.1.data.toList), .lit (.string f.2.2.data.toList)]
theorem weights_all {H : Type} {P : Program} {e : TypeId} {n : Nat} : ∀ {l : List (DataW H)} {d : DataW H}, d ∈ l → n ∈ d.weights P e → n ∈ DataW.weightsAll P e l
  | x :: l, d, hd, hn => by
    simp only [DataW.weightsAll, List.mem_append]
    rcases List.mem_cons.1 hd with rfl | hd
    · exact .inl hn
    · exact .inr (weights_all hd hn)
end Go.Proofs.Ytockhhleapbpiaa


/- Package table: Best. -/
namespace Go.Proofs.Ytockhhleapbpiaa
open Go.RowKit Go.Shelf

end Go.Proofs.Ytockhhleapbpiaa

