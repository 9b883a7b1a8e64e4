/- Plain: graph.Apart and the document's Apart come to the same. -/
import Derived.Test.YtockhhleapbpiaaAnsEOwn
import Derived.Test.YtockhhleapbpiaaComAToOpnB
import Derived.Test.YtockhhleapbpiaaSetDOwn
import Derived.Test.YtockhhleapbpiaaSliAToTogA
import Derived.Test.YtockhhleapbpiaaAbvPToOrdD
namespace Go.Proofs.Ytockhhleapbpiaa
open Go.RowKit Go.Shelf

theorem msk_zero {l : List Nat} : mskN l = 0 ↔ ∀ v, ¬ v ∈ l := by
  constructor
  · intro h v hv
    have := msk_bit l v
    rw [h, Nat.zero_testBit, decide_eq_true hv] at this
    cases this
  · intro h
    have : mskN l = mskN [] := msk_ext fun x => ⟨fun hx => absurd hx (h x), fun hx => by cases hx⟩
    rw [this]; rfl
theorem up_nodup {l : List Int} {n : Nat} (h : Up l n) : l.Nodup := List.pairwise_iff_getElem.2 fun i j hi hj hij => by
  have := h.lt i j hj hij
  omega
theorem up_mem {l : List Int} {n : Nat} (h : Up l n) {x : Int} (hx : x ∈ l) : 0 ≤ x ∧ x < n := by
  obtain ⟨j, hj, rfl⟩ := List.getElem_of_mem hx
  exact h.each j hj
theorem up_toN {l : List Int} {n : Nat} (h : Up l n) {x : Int} (hx : 0 ≤ x) : x.toNat ∈ toN l ↔ x ∈ l := by
  constructor
  · intro hm
    obtain ⟨y, hy, e⟩ := List.mem_map.1 hm
    have := up_mem h hy
    rwa [show x = y by omega]
  · exact fun hm => List.mem_map.2 ⟨x, hm, rfl⟩
theorem up_lt {l : List Int} {n : Nat} (h : Up l n) : ∀ u ∈ toN l, u < n := fun u hu => by
  obtain ⟨y, hy, rfl⟩ := List.mem_map.1 hu
  have := up_mem h hy
  omega
/-- Two lists have nothing in common: as sets. -/
theorem apart_sets {a b : List Int} {n : Nat} (ha : Up a n) (hb : Up b n) : (∀ x ∈ a, ∀ y ∈ b, x ≠ y) ↔ mskN ((toN a).filter fun x => decide (x ∈ toN b)) = 0 := by
  rw [msk_zero]
  constructor
  · intro h v hv
    obtain ⟨h1, h2⟩ := List.mem_filter.1 hv
    obtain ⟨x, hx, rfl⟩ := List.mem_map.1 h1
    have h3 := (up_toN hb (up_mem ha hx).1).1 (of_decide_eq_true h2)
    exact h x hx x h3 rfl
  · rintro h x hx y hy rfl
    exact h x.toNat (List.mem_filter.2 ⟨(up_toN ha (up_mem ha hx).1).2 hx, decide_eq_true ((up_toN hb (up_mem ha hx).1).2 hy)⟩)
theorem toN_app (a b : List Int) : toN (a ++ b) = toN a ++ toN b := List.map_append
/-- What graph.Apart asks of three sets. -/
theorem apB_masks {n : Nat} {x y z : List Int} (hr : allRis [x, y, z] n = true) : apB n [x, y, z] = true ↔ mskN ((toN x).filter fun v => decide (v ∈ toN y)) = 0 ∧ mskN ((toN x ++ toN y).filter fun v => decide (v ∈ toN z)) = 0 := by
  have hx : Up x n := ris_up (List.all_eq_true.1 hr x (by simp))
  have hy : Up y n := ris_up (List.all_eq_true.1 hr y (by simp))
  have hz : Up z n := ris_up (List.all_eq_true.1 hr z (by simp))
  have e : mskN ((toN x ++ toN y).filter fun v => decide (v ∈ toN z)) = 0 ↔ mskN ((toN x).filter fun v => decide (v ∈ toN z)) = 0 ∧ mskN ((toN y).filter fun v => decide (v ∈ toN z)) = 0 := by
    simp only [msk_zero, List.filter_append, List.mem_append, not_or]
    exact ⟨fun h => ⟨fun v => (h v).1, fun v => (h v).2⟩, fun h v => ⟨h.1 v, h.2 v⟩⟩
  rw [e, ← apart_sets hx hy, ← apart_sets hx hz, ← apart_sets hy hz, apB, hr, Bool.true_and, decide_eq_true_iff]
  simp only [List.flatten_cons, List.flatten_nil, List.append_nil, List.nodup_append, List.mem_append]
  constructor
  · rintro ⟨_, ⟨_, _, h1⟩, h2⟩
    exact ⟨fun a ha b hb => h2 a ha b (.inl hb), fun a ha b hb => h2 a ha b (.inr hb), h1⟩
  · rintro ⟨h1, h2, h3⟩
    exact ⟨up_nodup hx, ⟨up_nodup hy, up_nodup hz, h3⟩, fun a ha b hb => hb.elim (h1 a ha b) (h2 a ha b)⟩
theorem abO_iff {L : List (List Int)} (h : gcE L = 0) (h8 : L.length ≤ 8) {s : List Nat} (hs : ∀ v ∈ s, v < L.length) (u : Nat) : abO L u s = true ↔ u ∈ abS (parN L) s L.length := by
  rw [abS_iff h h8 hs, abO, List.any_eq_true]
  exact ⟨fun ⟨b, hb, h1⟩ => ⟨b, hb, (abB_iff h (hs b hb)).1 h1⟩, fun ⟨b, hb, h1⟩ => ⟨b, hb, (abB_iff h (hs b hb)).2 h1⟩⟩
theorem rcW_congr {Pa : Nat → Nat → Prop} {X Z Z' An An' : Nat → Prop} (hz : ∀ v, Z v ↔ Z' v) (ha : ∀ v, An v ↔ An' v) {v : Nat} {c : Bool} (h : RcW Pa X Z An v c) : RcW Pa X Z' An' v c := by
  induction h using RcW.ind with
  | start hx => exact .start hx
  | up _ h1 h2 ih => exact .up ih (fun e => h1 ((hz _).2 e)) h2
  | down _ h1 h2 ih => exact .down ih (fun e => h1 ((hz _).2 e)) h2
  | meet _ h1 h2 ih => exact .meet ih ((ha _).1 h1) h2
/-- An open way, as the document's answer looks for it and as isOpen does. -/
theorem opX_iff {L : List (List Int)} (h : gcE L = 0) (h8 : L.length ≤ 8) {x y z : List Int} (hap : apB L.length [x, y, z] = true) : opX L x y z = true ↔ ∃ v c, v ∈ toN y ∧ RcW (fun u v => u ∈ (parN L).getD v []) (· ∈ toN x) (· ∈ toN z) (· ∈ abS (parN L) (toN z) L.length) v c := by
  have hr : allRis [x, y, z] L.length = true := by
    rw [apB, Bool.and_eq_true] at hap
    exact hap.1
  have hx : Up x L.length := ris_up (List.all_eq_true.1 hr x (by simp))
  have hz : Up z L.length := ris_up (List.all_eq_true.1 hr z (by simp))
  have hzl := up_lt hz
  have hgb := (gc_parts h).1
  have hm := ((apB_masks hr).1 hap).2
  rw [msk_zero] at hm
  have hup : ∀ u v, u ∈ (parN L).getD v [] → abO L v (toN z) = true → abO L u (toN z) = true := fun u v hu hv => by
    rw [abO_iff h h8 hzl, abS_iff h h8 hzl] at hv ⊢
    obtain ⟨b, hb, h1⟩ := hv
    rcases h1 with rfl | h1
    · exact ⟨v, hb, .inr (.one hu)⟩
    · refine ⟨b, hb, .inr ?_⟩
      clear hb
      induction h1 using Abv.ind with
      | one hp => exact .more (.one hu) hp
      | more _ hp ih => exact .more ih hp
  have key := opF_iff (P := parN L) (n := L.length) (yb := fun v => decide (v ∈ toN y)) (zb := fun v => decide (v ∈ toN z)) (an := fun v => abO L v (toN z)) (X := (· ∈ toN x))
    (fun v hv => decide_eq_false fun hz' => hm v (List.mem_filter.2 ⟨List.mem_append_left _ hv, decide_eq_true hz'⟩)) (abv_no h) hup (fun v u hu => pa_lt hgb hu) (up_lt hx)
  rw [opX, List.any_eq_true]
  refine Iff.trans key ⟨?_, ?_⟩
  · rintro ⟨v, c, h1, h2⟩
    exact ⟨v, c, of_decide_eq_true h1, rcW_congr (fun v => decide_eq_true_iff) (fun v => abO_iff h h8 hzl v) h2⟩
  · rintro ⟨v, c, h1, h2⟩
    exact ⟨v, c, decide_eq_true h1, rcW_congr (fun v => decide_eq_true_iff.symm) (fun v => (abO_iff h h8 hzl v).symm) h2⟩
end Go.Proofs.Ytockhhleapbpiaa


/- Plain: graphs without some of their ways; sets that may be. -/
namespace Go.Proofs.Ytockhhleapbpiaa
open Go.RowKit Go.Shelf

/-- Where each node has a rank above those of its parents, all come into the order. -/
theorem ord_ranked {P : List (List Nat)} {r : Nat → Nat} (hP : ∀ v, ∀ u ∈ P.getD v [], u < P.length ∧ r u < r v) : (ordN P P.length).length = P.length := by
  have step : ∀ k, k ≤ P.length → (ordN P k).length = k := fun k => by
    induction k with
    | zero => intro _; rfl
    | succ k ih =>
      intro hk
      have hlen := ih (by omega)
      have hex : ∃ v, v < P.length ∧ ¬ v ∈ ordN P k := by
        refine Classical.byContradiction fun hno => ?_
        have hall : ∀ v ∈ List.range P.length, v ∈ ordN P k := fun v hv => Classical.byContradiction fun h => hno ⟨v, List.mem_range.1 hv, h⟩
        have := nd_len List.nodup_range hall
        rw [List.length_range, hlen] at this
        omega
      have hfree : ∀ m v, r v ≤ m → v < P.length → ¬ v ∈ ordN P k → ∃ v', v' < P.length ∧ freeB P (ordN P k) v' = true := fun m => by
        induction m with
        | zero =>
          intro v hr hv hn
          refine ⟨v, hv, ?_⟩
          rw [freeB, decide_eq_false hn, decide_eq_true (fun u hu => by have := (hP v u hu).2; omega)]
          rfl
        | succ m ihm =>
          intro v hr hv hn
          by_cases ha : ∀ u ∈ P.getD v [], u ∈ ordN P k
          · exact ⟨v, hv, by rw [freeB, decide_eq_false hn, decide_eq_true ha]; rfl⟩
          · obtain ⟨u, hu⟩ := Classical.not_forall.1 ha
            obtain ⟨hu1, hu2⟩ := Classical.not_imp.1 hu
            have := hP v u hu1
            exact ihm u (by omega) this.1 hu2
      obtain ⟨v, hv, hn⟩ := hex
      obtain ⟨v', hv', hf⟩ := hfree (r v) v (Nat.le_refl _) hv hn
      rw [ordN]
      cases e : nextV P (ordN P k) with
      | none =>
        rw [nextV, List.find?_eq_none] at e
        exact absurd hf (e v' (List.mem_range.2 hv'))
      | some u =>
        show (ordN P k ++ [u]).length = _
        rw [List.length_append, hlen]; rfl
  exact step _ (Nat.le_refl _)
theorem up_risC {l : List Int} {n : Nat} (h2 : Up l n) : risB l n = true := by
  rw [risB, List.all_eq_true]
  intro i hi
  have hi' := List.mem_range.1 hi
  rw [okAt, decide_eq_true_iff, getD_eq hi']
  refine ⟨(h2.each i hi').1, (h2.each i hi').2, fun h0 => ?_⟩
  rw [getD_eq (show i - 1 < l.length by omega)]
  exact h2.lt (i - 1) i hi' (by omega)
theorem up_sub {l m : List Int} {n : Nat} (h : Up m n) (hs : l.Sublist m) : Up l n := by
  rw [up_iff] at h ⊢
  exact ⟨fun x hx => h.1 x (hs.subset hx), h.2.sublist hs⟩
theorem getD_at {α : Type} {L : List (List α)} {v : Nat} (h : v < L.length) : L.getD v [] = L[v] := by rw [List.getD_eq_getElem?_getD, List.getElem?_eq_getElem h]; rfl
/-- What Check says OK of it says OK of where some ways are missing. -/
theorem gc_sub {L L' : List (List Int)} (h : gcE L = 0) (hl : L'.length = L.length) (hs : ∀ v, v < L.length → (L'.getD v []).Sublist (L.getD v [])) : gcE L' = 0 := by
  have hg := (gc_parts h).1
  obtain ⟨h1, h8, hr, hns⟩ := gB_parts hg
  have hup : ∀ v, v < L.length → Up (L.getD v []) L.length := fun v hv => by rw [getD_at hv]; exact ris_up (allRis_at hr hv)
  have hg' : gB L' = true := gB_yes (by omega) (by omega) fun i hi => by
    have hi' : i < L.length := by omega
    have hsi := hs i hi'
    have hu := up_sub (hup i hi') hsi
    rw [getD_at hi] at hu hsi
    refine ⟨by rw [hl]; exact up_risC hu, fun hm => ?_⟩
    have hself : ¬ i ∈ toN (L.getD i []) := fun hm' => by
      have := List.all_eq_true.1 hns i (List.mem_range.2 hi')
      rw [decide_eq_true hm'] at this
      cases this
    refine hself ?_
    obtain ⟨x, hx, e⟩ := List.mem_map.1 hm
    exact List.mem_map.2 ⟨x, hsi.subset hx, e⟩
  have hrk : ∀ v, ∀ u ∈ (parN L').getD v [], u < (parN L').length ∧ rkN (parN L) u < rkN (parN L) v := fun v u hu => by
    have hlt := pa_lt hg' hu
    have hv : v < L.length := by omega
    have hm : u ∈ (parN L).getD v [] := by
      rw [parN_get hlt.2, ← getD_at hlt.2] at hu
      rw [parN_get hv, ← getD_at hv]
      obtain ⟨x, hx, e⟩ := List.mem_map.1 hu
      exact List.mem_map.2 ⟨x, (hs v hv).subset hx, e⟩
    exact ⟨by rw [parN_length]; exact hlt.1, rk_pa h hm⟩
  have hfull := ord_ranked hrk
  rw [parN_length] at hfull
  rw [gcE, if_pos hg', if_neg (by omega)]
/-- The graph without the ways into some and out of some. -/
def cutR (L : List (List Int)) (I F : List Int) (v : Nat) : List Int := if (v : Int) ∈ I then [] else (L.getD v []).filter fun u => decide (¬ u ∈ F)
def cutG (L : List (List Int)) (I F : List Int) : List (List Int) := (List.range L.length).map (cutR L I F)
theorem cutG_length (L : List (List Int)) (I F : List Int) : (cutG L I F).length = L.length := by simp [cutG]
theorem cutG_get {L : List (List Int)} {I F : List Int} {v : Nat} (h : v < (cutG L I F).length) : (cutG L I F)[v] = cutR L I F v := by simp [cutG]
theorem cutR_sub (L : List (List Int)) (I F : List Int) (v : Nat) : (cutR L I F v).Sublist (L.getD v []) := by
  rw [cutR]
  split
  · exact List.nil_sublist _
  · exact List.filter_sublist
theorem cutG_gc {L : List (List Int)} (h : gcE L = 0) (I F : List Int) : gcE (cutG L I F) = 0 := gc_sub h (cutG_length L I F) fun v hv => by
  have hv' : v < (cutG L I F).length := by rw [cutG_length]; exact hv
  rw [getD_at hv', cutG_get hv']
  exact cutR_sub L I F v
theorem cutG_len {L : List (List Int)} {I F : List Int} {n : Nat} (h : ∀ l ∈ L, l.length ≤ n) : ∀ l ∈ cutG L I F, l.length ≤ n := fun l hl => by
  obtain ⟨v, hv, rfl⟩ := List.mem_map.1 hl
  have hv' := List.mem_range.1 hv
  have h1 := (cutR_sub L I F v).length_le
  have h2 := h _ (List.getElem_mem hv')
  rw [getD_at hv'] at h1
  omega
theorem cutR_in (L : List (List Int)) (I : List Int) (v : Nat) : cutR L I [] v = if (v : Int) ∈ I then [] else L.getD v [] := by
  rw [cutR, List.filter_eq_self.2 (fun _ _ => by simp)]
theorem cutR_out (L : List (List Int)) (F : List Int) (v : Nat) : cutR L [] F v = (L.getD v []).filter fun u => decide (¬ u ∈ F) := by
  rw [cutR]
  simp
/-- What is said of sets. -/
def stE (L Ls : List (List Int)) : Int := if gcE L = 0 then (if apB L.length Ls = true then 0 else 11) else gcE L
theorem apB_iff {n : Nat} {Ls : List (List Int)} : apB n Ls = true ↔ (∀ l ∈ Ls, risB l n = true) ∧ Ls.flatten.Nodup := by
  rw [apB, Bool.and_eq_true, decide_eq_true_iff, allRis, List.all_eq_true]
theorem stE_ok {L Ls : List (List Int)} (h : stE L Ls = 0) : gcE L = 0 ∧ apB L.length Ls = true := by
  rw [stE] at h
  by_cases hg : gcE L = 0
  · rw [if_pos hg] at h
    refine ⟨hg, ?_⟩
    by_cases ha : apB L.length Ls = true
    · exact ha
    · rw [if_neg ha] at h
      exact absurd h (by decide)
  · rw [if_neg hg] at h
    exact absurd h hg
end Go.Proofs.Ytockhhleapbpiaa

