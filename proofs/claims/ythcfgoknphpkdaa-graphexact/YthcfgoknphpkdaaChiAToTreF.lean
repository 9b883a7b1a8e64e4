/- Package graph: children. -/
import Derived.Test.YthcfgoknphpkdaaListBToMarkA
import Derived.Test.YthcfgoknphpkdaaSliBToFewA
import Derived.BigQuiet
namespace Go.Proofs.Ythcfgoknphpkdaa
open Go.RowKit Go.Shelf

attribute [local go_sem] Oper.semAt_some

/-- The nodes below v that have u among their own. -/
def chL (U : List (List Nat)) (u : Nat) : Nat → List Nat
  | 0 => []
  | v + 1 => if u ∈ U.getD v [] then v :: chL U u v else chL U u v
theorem chL_mem {U : List (List Nat)} {u : Nat} : ∀ {v x : Nat}, x ∈ chL U u v ↔ x < v ∧ u ∈ U.getD x []
  | 0, x => by simp [chL]
  | v + 1, x => by
    rw [chL]
    by_cases h : u ∈ U.getD v []
    · rw [if_pos h, List.mem_cons, chL_mem]
      constructor
      · rintro (rfl | ⟨h1, h2⟩)
        · exact ⟨by omega, h⟩
        · exact ⟨by omega, h2⟩
      · rintro ⟨h1, h2⟩
        by_cases e : x = v
        · exact .inl e
        · exact .inr ⟨by omega, h2⟩
    · rw [if_neg h, chL_mem]
      constructor
      · rintro ⟨h1, h2⟩
        exact ⟨by omega, h2⟩
      · rintro ⟨h1, h2⟩
        exact ⟨by rcases Nat.lt_or_ge x v with h3 | h3; exact h3; exact absurd (show x = v by omega) (fun e => h (e ▸ h2)), h2⟩
/-- Children, as far as v, and of v as far as k. -/
def chV (U : List (List Nat)) (n v k : Nat) : List (List Nat) := (List.range n).map fun u => if u < k ∧ u ∈ U.getD v [] then v :: chL U u v else chL U u v
def chA (U : List (List Nat)) (n v : Nat) : List (List Nat) := (List.range n).map fun u => chL U u v
theorem chV_zero (U : List (List Nat)) (n v : Nat) : chV U n v 0 = chA U n v := by simp [chV, chA]
theorem chV_all {U : List (List Nat)} {n v : Nat} (h : n ≤ 8) : chV U n v 8 = chA U n (v + 1) := by
  apply List.map_congr_left
  intro u hu
  have := List.mem_range.1 hu
  rw [chL]
  by_cases h1 : u ∈ U.getD v []
  · rw [if_pos ⟨by omega, h1⟩, if_pos h1]
  · rw [if_neg (fun e => h1 e.2), if_neg h1]
theorem chV_yes {U : List (List Nat)} {n v k : Nat} (hm : k ∈ U.getD v []) : chV U n v (k + 1) = (chV U n v k).set k (v :: chL U k v) := by
  apply List.ext_getElem (by simp [chV])
  intro i h1 h2
  rw [List.getElem_set]
  simp only [chV, List.getElem_map, List.getElem_range]
  by_cases h : k = i
  · subst h
    rw [if_pos ⟨by omega, hm⟩, if_pos rfl]
  · rw [if_neg h]
    have e : (i < k + 1 ∧ i ∈ U.getD v []) ↔ (i < k ∧ i ∈ U.getD v []) := ⟨fun ⟨a, b⟩ => ⟨by omega, b⟩, fun ⟨a, b⟩ => ⟨by omega, b⟩⟩
    simp only [e]
theorem chV_no {U : List (List Nat)} {n v k : Nat} (hm : ¬ k ∈ U.getD v []) : chV U n v (k + 1) = chV U n v k := by
  apply List.map_congr_left
  intro i hi
  have e : (i < k + 1 ∧ i ∈ U.getD v []) ↔ (i < k ∧ i ∈ U.getD v []) := ⟨fun ⟨a, b⟩ => ⟨by rcases Nat.lt_or_ge i k with h | h; exact h; exact absurd (show i = k by omega) (fun e => hm (e ▸ b)), b⟩, fun ⟨a, b⟩ => ⟨by omega, b⟩⟩
  simp only [e]
theorem chV_at {U : List (List Nat)} {n v k u : Nat} (hu : u < n) (h : ¬ u < k) : (chV U n v k)[u]? = some (chL U u v) := by
  simp [chV, hu, h]
theorem chV_length (U : List (List Nat)) (n v k : Nat) : (chV U n v k).length = n := by simp [chV]
theorem chA_length (U : List (List Nat)) (n v : Nat) : (chA U n v).length = n := by simp [chA]
theorem Shut.putAt {lo B : Nat} {ds : List Deferred} {W : World} (h : Shut lo B ds W) {g j : Nat} (hg : g < lo) (v : Value) : Shut lo B ds (W.setCell ⟨g, j, none⟩ v) := by
  induction ds generalizing B with
  | nil => trivial
  | cons d ds ih =>
    obtain ⟨r, h1, h2, h3, h4, h5⟩ := h
    exact ⟨r, h1, h2, h3, (Below.heap_setCell W ⟨g, j, none⟩ v r (by show r ≠ g; omega)).trans h4, ih h5⟩
theorem shut_own {β : Type} {lo B : Nat} {ds : List Deferred} : OwnFrom B (fun (_ : β) W => B ≤ W.heap.size ∧ Shut lo B ds W) := fun _ W W' row hs hg hr =>
  ⟨Nat.le_trans hs.1 hg.size, hs.2.keep fun k hk => hg.block k (by omega) (fun e => by have := (hr k e.symm).1; omega)⟩
/-- What a call of children leaves with. -/
def ChL (w : World) (n c : Nat) (l : List Nat) (W : World) : Prop := RowU W w.heap.size l ∧ Boxed W (w.heap.size + 1) 40 (.slice (some ⟨w.heap.size, 0, none⟩) n c) ∧ Below w.heap.size w W
theorem ChL.shut {w : World} {n c lo : Nat} {l : List Nat} (hlo : w.heap.size + 1 < lo) (W : World) (r : Nat) (h : ChL w n c l W) (hr : lo ≤ r) (hd : W.heap[r]? = some (.deferred (some []))) : ChL w n c l (W.putObj r (.deferred none)) :=
  ⟨(World.putObj_heap_other (by omega)).trans h.1, (World.putObj_heap_other (by omega)).trans h.2.1, h.2.2.trans (belowK_b (w := w) (Nat.le_refl _) W r _ _ (by omega) hd rfl rfl)⟩
theorem ChL.own {β : Type} {w : World} {n c B : Nat} (f : β → List Nat) (hB : w.heap.size ≤ B) : OwnFrom B (fun (s : β) W => ChL w n c (f s) W) :=
  OwnFrom.and (Own.from (rowU_own _ f) _) (OwnFrom.and (Own.from (boxed_own _ _ (fun _ => _)) _) (ownFrom_below (Nat.le_refl _) hB))
theorem ChL.below {w W W' : World} {n c : Nat} {l : List Nat} (h : ChL w n c l W) (hb : Below W.heap.size W W') : ChL w n c l W' := ⟨h.1.below hb h.1.lt, boxed_at h.2.1 hb h.2.1.lt, h.2.2.trans (hb.mono h.2.2.size)⟩

set_option maxRecDepth 100000 in
set_option maxHeartbeats 4000000 in
theorem children_any (G n c : Nat) (U : List (List Nat)) (w : World) (hn : U.length = n) (h8 : n ≤ 8) (hU : RowU w G (U.map mskN)) (hP : ∀ p ∈ U, ∀ u ∈ p, u < n) :
    Calls Try.prog 56 #[.slice (some ⟨G, 0, none⟩) n c] w fun e w' => e = .returned (.slice (some ⟨w.heap.size, 0, none⟩) n n) ∧ RowU w' w.heap.size ((chA U n n).map mskN) ∧ Below w.heap.size w w' := by
  refine (callsIn_wide (n := 6)).1 ?_
  obtain ⟨i0, hi0, hz0, hz1, hz2⟩ := info_parts Try.infoSet
  have hG := hU.lt
  have hP8 : ∀ p ∈ U, ∀ u ∈ p, u < 8 := fun p hp u hu => by have := hP p hp u hu; omega
  have HKU : Hid (∀ (V : World) (v : Nat), Below w.heap.size w V → v < n → V.cell? ⟨G, v, none⟩ = some (.int .u32 (mskN (U.getD v []) : Nat))) := fun V v hB hv => by
    have := (hU.below hB hG).cell v (by rw [List.length_map]; omega)
    rwa [mapU_get (by omega)] at this
  have HGS := hid (fun v => getD_small hP8 v)
  have HMN : Hid (∀ v k, v < n → k ∈ U.getD v [] → k < n) := fun v k hv hk => by
    rw [List.getD_eq_getElem?_getD, List.getElem?_eq_getElem (by omega)] at hk
    exact hP _ (List.getElem_mem _) k hk
  have HWI := hid (fun (u v : Nat) (hv : v < n) (V : World) => sWith_any (chL U u v) v V (fun x hx => by have := (chL_mem.1 hx).1; omega) (by omega))
  have HCELL : Hid (∀ (V : World) (g v k u : Nat), u < n → ¬ u < k → RowU V g ((chV U n v k).map mskN) → V.cell? ⟨g, u, none⟩ = some (.int .u32 (mskN (chL U u v) : Nat)) ∧ V.frozen? ⟨g, u, none⟩ = false) := fun V g v k u hu hne hR => by
    have h1 : u < (chV U n v k).length := by rw [chV_length]; exact hu
    have h2 := hR.cell u (by rw [List.length_map]; exact h1)
    obtain ⟨h3, h4⟩ := List.getElem?_eq_some_iff.1 (chV_at (U := U) (v := v) hu hne)
    rw [List.getElem_map, h4] at h2
    exact ⟨h2, hR.fz u⟩
  have HSET : Hid (∀ (V : World) (g v k : Nat), k ∈ U.getD v [] → RowU V g ((chV U n v k).map mskN) → RowU (V.setCell ⟨g, k, none⟩ (.int .u32 (mskN (v :: chL U k v) : Nat))) g ((chV U n v (k + 1)).map mskN)) := fun V g v k hm hR => by
    have := hR.set k (mskN (v :: chL U k v))
    rwa [chV_yes hm, List.map_set]
  have HNO : Hid (∀ v k, ¬ k ∈ U.getD v [] → chV U n v (k + 1) = chV U n v k) := fun v k h => chV_no h
  have HZ := hid (fun v => chV_zero U n v)
  have HA := hid (fun v => chV_all (U := U) (v := v) h8)
  have hz : (chA U n 0).map mskN = List.replicate n 0 := by
    apply List.ext_getElem (by simp [chA])
    intro i h1 h2
    simp [chA, chL, mskN]
  clear hU hP hP8
  refine callsIn_of_wp_marks Try.func56 rfl trivial ?_ rfl
  simp only [Try.ntmps56, List.size_toArray, List.length_cons, List.length_nil, Nat.reduceAdd, Nat.reduceSub, Array.replicate_succ, Array.replicate_zero, List.push_toArray, List.append_toArray, List.nil_append, List.cons_append]
  have hmk := fun V => run_make_row' (P := Try.prog) 40 46 (.int .u32 0) 4 Try.underlying40 Try.infoSet rfl .i64 .i64 n (by omega) (by omega) V
  gi_wp2
  clear hmk
  obtain ⟨W2, hW2⟩ : ∃ W2, W2 = (w.alloc (.cells (madeCells #[.int .u32 0] n) 46)).alloc (.cells #[.slice (some ⟨w.heap.size, 0, none⟩) n n] 40) := ⟨_, rfl⟩
  have hL2 : ChL w n n ((chA U n 0).map mskN) W2 := by
    rw [hW2, hz]
    refine ⟨?_, ?_, ((Below.refl _ w).alloc (Nat.le_refl _) _).alloc (by simp) _⟩
    · have h := heap_alloc_new w (.cells (madeCells #[.int .u32 0] n) 46)
      have e : (madeCells #[.int .u32 0] n).toList = (List.replicate n (0 : Nat)).map uv := by
        have := made_sets n
        rwa [Nat.mul_one] at this
      have e2 : madeCells #[Value.int .u32 0] n = ((List.replicate n (0 : Nat)).map uv).toArray := by rw [← e]
      rw [RowU, Below.heap_alloc _ _ _ (by simp), h, e2]
    · have h := Boxed.new (w.alloc (.cells (madeCells #[.int .u32 0] n) 46)) 40 (.slice (some ⟨w.heap.size, 0, none⟩) n n)
      rwa [World.size_alloc] at h
  rw [← hW2]
  have hs2 : W2.heap.size = w.heap.size + 2 := by rw [hW2]; simp
  have HL2 := hid hL2
  clear hW2 hL2 hz
  refine wpIn_loop (fun a' w' => ∃ (v : Nat) (ds : List Deferred) (u4 u5 u13 u14 u15 u16 u17 u18 u29 : Value), a' = { tmps := #[.slice (some ⟨G, 0, none⟩) n c, undef, .slice none 0 0, .pointer (some ⟨w.heap.size + 1, 0, none⟩), u4, u5, undef, .slice (some ⟨G, 0, none⟩) n c, .int .i64 (n : Nat), .slice (some ⟨w.heap.size, 0, none⟩) n n, .slice (some ⟨G, 0, none⟩) n c, .int .i64 (n : Nat), .int .i64 (v : Nat), u13, u14, u15, u16, u17, u18, undef, undef, undef, undef, undef, undef, undef, undef, undef, undef, u29, undef], defers := ds } ∧ v ≤ n ∧ Hid (ChL w n n ((chA U n v).map mskN) w') ∧ Hid (Shut (w.heap.size + 2) w'.heap.size ds w')) (fun a' _ => n - (intOf (a'.tmps.getD 12 undef)).toNat) ?_ ?_
  · exact ⟨0, [], _, _, _, _, _, _, _, _, _, rfl, Nat.zero_le _, HL2, trivial⟩
  intro a' wr hinv
  obtain ⟨v, ds, u4, u5, u13, u14, u15, u16, u17, u18, u29, rfl, hv, HLr, HSH⟩ := hinv
  clear HL2
  by_cases hlt : v < n
  · have kv := HKU.out wr v HLr.out.2.2 hlt
    have hs := HGS.out v
    have HMv := hid (fun k hk => HMN.out v k hlt hk)
    have HWv := hid (fun u => HWI.out u v hlt)
    have HCv := hid (fun V g k u => HCELL.out V g v k u)
    have HSv := hid (fun V g k => HSET.out V g v k)
    have HNv := hid (fun k => HNO.out v k)
    have hZv := HZ.out v
    have hAv := HA.out v
    generalize U.getD v [] = bv at *
    have hlr : w.heap.size + 1 < wr.heap.size := HLr.out.2.1.lt
    gi_wp2
    obtain ⟨W3, hW3⟩ : ∃ W3, W3 = wr.alloc (.cells #[.int .i64 (v : Nat)] 3) := ⟨_, rfl⟩
    have b4 : Boxed W3 wr.heap.size 3 (.int .i64 (v : Nat)) := by rw [hW3]; exact Boxed.new wr _ _
    have hb3 : Below wr.heap.size wr W3 := by rw [hW3]; exact (Below.refl _ wr).alloc (Nat.le_refl _) _
    have hs3 : W3.heap.size = wr.heap.size + 1 := by rw [hW3]; simp
    rw [← hW3]
    clear hW3 kv
    have hL3 := HLr.out.below hb3
    have hSH3 := (HSH.out.below hb3).mono (show wr.heap.size ≤ W3.heap.size by omega)
    have HRS := hid (HSH.out)
    clear HLr HSH HRS
    rw [← hZv] at hL3
    refine wp_each (by omega) bv hs rfl rfl
      (fun k V => ChL w n n ((chV U n v k).map mskN) V ∧ Boxed V wr.heap.size 3 (.int .i64 (v : Nat)) ∧ (W3.heap.size ≤ V.heap.size ∧ Shut (w.heap.size + 2) W3.heap.size ds V))
      (OwnFrom.and (ChL.own (fun k : Nat => (chV U n v k).map mskN) (by omega)) (OwnFrom.and (Own.from (boxed_own _ _ (fun _ => _)) _) shut_own))
      ⟨hL3, b4, Nat.le_refl _, hSH3⟩
      (fun k => { tmps := #[.slice (some ⟨G, 0, none⟩) n c, undef, .slice none 0 0, .pointer (some ⟨w.heap.size + 1, 0, none⟩), .pointer (some ⟨wr.heap.size, 0, none⟩), .int .u32 (mskN bv : Nat), .int .i64 (k : Nat), .slice (some ⟨G, 0, none⟩) n c, .int .i64 (n : Nat), .slice (some ⟨w.heap.size, 0, none⟩) n n, .slice (some ⟨G, 0, none⟩) n c, .int .i64 (n : Nat), .int .i64 (v : Nat), .bool true, .int .i64 (v : Nat), .pointer (some ⟨G, v, none⟩), .int .u32 (mskN bv : Nat), .int .u32 (mskN bv : Nat), .func (.func 38) #[.int .u32 (mskN bv : Nat)] #[], .int .i64 (k : Nat), undef, undef, undef, undef, undef, undef, undef, undef, undef, u29, undef], defers := [] }) ?assign ?body ?skip ?done
    case assign =>
      intro l k W K hK
      gi_wp2
      exact hK
    case body =>
      rintro l k V hk hm ⟨h0, h4, hsV, hshV⟩
      have hkn := HMv.out k hm
      have k1 := h0.2.1.cell
      have k4 := h4.cell
      obtain ⟨kU, fU⟩ := HCv.out V w.heap.size k k hkn (by omega) h0.1
      have HWk := hid (HWv.out k)
      have HSK := hid (fun W hW => HSv.out W w.heap.size k hm hW)
      generalize mskN (v :: chL U k v) = m1 at *
      generalize mskN (chL U k v) = m0 at *
      generalize mskN bv = mv at *
      gi_wp2_with fail
      refine region_round (fun u => u.cell? ⟨w.heap.size + 1, 0, none⟩ = some (.slice (some ⟨w.heap.size, 0, none⟩) n n) ∧ u.cell? ⟨wr.heap.size, 0, none⟩ = some (.int .i64 (v : Nat))) (by kernel_rfl) (by kernel_rfl) (fun ⟨_, _, h⟩ => h) ⟨k1, k4⟩ ?_
      intro hSd
      have hD : KeepsOthers V V.drew := KeepsOthers.drew V
      have q0 : ChL w n n ((chV U n v k).map mskN) V.drew := ⟨h0.1, h0.2.1, h0.2.2.drew⟩
      have q4 : Boxed V.drew wr.heap.size 3 (.int .i64 (v : Nat)) := h4
      have qS : Shut (w.heap.size + 2) W3.heap.size ds V.drew := hshV.keep fun _ _ => rfl
      have qz : W3.heap.size ≤ V.drew.heap.size := hsV
      have kU2 : V.drew.cell? ⟨w.heap.size, k, none⟩ = some (.int .u32 (m0 : Nat)) := kU
      have fU2 : V.drew.frozen? ⟨w.heap.size, k, none⟩ = false := fU
      clear k1 k4 kU fU h0 h4 hshV hsV b4 hb3 hL3 hSH3
      generalize V.drew = U0 at *
      (try simp only [List.getElem_toArray, List.getElem_cons_zero, List.getElem_cons_succ])
      (try simp only [Act.put, List.setIfInBounds_toArray, List.set_cons_zero, List.set_cons_succ])
      refine wpAnyH_take (i := 0) (oi := _) (v := .slice (some ⟨w.heap.size, 0, none⟩) n n) rfl (by kernel_rfl) (by kernel_rfl) (by kernel_rfl) (fun _ _ _ h => h) (Or.inl ⟨by rfl, ?_⟩) (by assumption) ?_
      · intro u' hSu
        (try simp only [List.getElem_toArray, List.getElem_cons_zero])
        obtain ⟨s0, s1⟩ := hSu
        go_simp
      (try simp only [List.getElem_toArray, List.getElem_cons_zero])
      (try simp only [Act.put, List.setIfInBounds_toArray, List.set_cons_zero, List.set_cons_succ])
      refine wpAnyH_take (i := 1) (oi := _) (v := .int .i64 (k : Nat)) rfl (by kernel_rfl) (by kernel_rfl) (by kernel_rfl) (fun _ _ _ h => h) (Or.inl ⟨by rfl, ?_⟩) (by assumption) ?_
      · intro u' hSu
        (try simp only [List.getElem_toArray, List.getElem_cons_zero, List.getElem_cons_succ])
        go_simp
      (try simp only [List.getElem_toArray, List.getElem_cons_zero, List.getElem_cons_succ])
      (try simp only [Act.put, List.setIfInBounds_toArray, List.set_cons_zero, List.set_cons_succ])
      refine wpAnyH_take (i := 2) (oi := _) (v := .slice (some ⟨w.heap.size, 0, none⟩) n n) rfl (by kernel_rfl) (by kernel_rfl) (by kernel_rfl) (fun _ _ _ h => h) (Or.inl ⟨by rfl, ?_⟩) (by assumption) ?_
      · intro u' hSu
        (try simp only [List.getElem_toArray, List.getElem_cons_zero, List.getElem_cons_succ])
        obtain ⟨s0, s1⟩ := hSu
        go_simp
      (try simp only [List.getElem_toArray, List.getElem_cons_zero, List.getElem_cons_succ])
      (try simp only [Act.put, List.setIfInBounds_toArray, List.set_cons_zero, List.set_cons_succ])
      refine wpAnyH_take (i := 3) (oi := _) (v := .int .i64 (k : Nat)) rfl (by kernel_rfl) (by kernel_rfl) (by kernel_rfl) (fun _ _ _ h => h) (Or.inl ⟨by rfl, ?_⟩) (by assumption) ?_
      · intro u' hSu
        (try simp only [List.getElem_toArray, List.getElem_cons_zero, List.getElem_cons_succ])
        go_simp
      (try simp only [List.getElem_toArray, List.getElem_cons_zero, List.getElem_cons_succ])
      (try simp only [Act.put, List.setIfInBounds_toArray, List.set_cons_zero, List.set_cons_succ])
      refine wpAnyH_take (i := 4) (oi := _) (v := .pointer (some ⟨w.heap.size, k, none⟩)) rfl (by kernel_rfl) (by kernel_rfl) (by kernel_rfl) (fun _ _ _ h => h) (Or.inl ⟨by rfl, ?_⟩) (by assumption) ?_
      · intro u' hSu
        (try simp only [List.getElem_toArray, List.getElem_cons_zero, List.getElem_cons_succ])
        go_simp
      (try simp only [List.getElem_toArray, List.getElem_cons_zero, List.getElem_cons_succ])
      (try simp only [Act.put, List.setIfInBounds_toArray, List.set_cons_zero, List.set_cons_succ])
      refine wpAnyH_take (i := 6) (oi := _) (v := .int .i64 (v : Nat)) rfl (by kernel_rfl) (by kernel_rfl) (by kernel_rfl) (fun _ _ _ h => h) (Or.inl ⟨by rfl, ?_⟩) (by assumption) ?_
      · intro u' hSu
        (try simp only [List.getElem_toArray, List.getElem_cons_zero, List.getElem_cons_succ])
        obtain ⟨s0, s1⟩ := hSu
        go_simp
      (try simp only [List.getElem_toArray, List.getElem_cons_zero, List.getElem_cons_succ])
      (try simp only [Act.put, List.setIfInBounds_toArray, List.set_cons_zero, List.set_cons_succ])
      refine wpAnyH_ready (rs := [5]) (by kernel_rfl) (by simp) (AllReadyH.cons rfl ?_ (AllReadyH.nil))
      · intro K' hK'
        (try simp only [List.getElem_toArray, List.getElem_cons_zero, List.getElem_cons_succ])
        go_simp
        refine hK'.out _ _ hSd (fun hSe => ?_)
        clear hK' K' hSe
        (try simp only [List.getElem_toArray, List.getElem_cons_zero, List.getElem_cons_succ])
        (try simp only [Act.put, List.setIfInBounds_toArray, List.set_cons_zero, List.set_cons_succ])
        refine wpAnyH_ready (rs := [7]) (by kernel_rfl) (by simp) (AllReadyH.cons rfl ?_ (AllReadyH.nil))
        · intro K' hK'
          (try simp only [List.getElem_toArray, List.getElem_cons_zero, List.getElem_cons_succ])
          go_simp
          refine (HWk.out _).mono ?_
          rintro e U1 ⟨rfl, hU1⟩
          subst hU1
          refine hK'.out _ _ hSd (fun hSe => ?_)
          clear hK' K' hSe
          generalize U1 = U0 at *
          (try simp only [List.getElem_toArray, List.getElem_cons_zero, List.getElem_cons_succ])
          (try simp only [Act.put, List.setIfInBounds_toArray, List.set_cons_zero, List.set_cons_succ])
          refine wpAnyH_take (i := 8) (oi := _) (v := .pointer (some ⟨w.heap.size, k, none⟩)) rfl (by kernel_rfl) (by kernel_rfl) (by kernel_rfl) (fun _ _ _ h => h) (Or.inl ⟨by rfl, ?_⟩) (by assumption) ?_
          · intro u' hSu
            (try simp only [List.getElem_toArray, List.getElem_cons_zero, List.getElem_cons_succ])
            go_simp
          (try simp only [List.getElem_toArray, List.getElem_cons_zero, List.getElem_cons_succ])
          (try simp only [Act.put, List.setIfInBounds_toArray, List.set_cons_zero, List.set_cons_succ])
          refine wpAnyH_ready (rs := [9]) (by kernel_rfl) (by simp) (AllReadyH.cons rfl ?_ (AllReadyH.nil))
          · intro K' hK'
            (try simp only [List.getElem_toArray, List.getElem_cons_zero, List.getElem_cons_succ])
            go_simp
            refine hK'.out _ _ ⟨(boxed_offB q0.2.1 w.heap.size k _ (by omega)).cell, (boxed_offB q4 w.heap.size k _ (by omega)).cell⟩ (fun _ => wpAnyH_done (by kernel_rfl) ?_ _)
            clear hK' K' hSd
            gi_wp2
            exact ⟨(hD.trans (KeepsOthers.setCell U0 _ _)).from _, ⟨HSK.out U0 q0.1, boxed_offB q0.2.1 w.heap.size k _ (by omega), q0.2.2.setCell (p := ⟨w.heap.size, k, none⟩) (Nat.le_refl _) _⟩, boxed_offB q4 w.heap.size k _ (by omega), by simpa using qz, qS.putAt (by omega) _⟩
    case skip =>
      rintro k V hk hm h
      rw [HNv.out k hm]
      exact h
    case done =>
      rintro D V hD ⟨h0, h4, hsV, hshV⟩ hK
      rw [hAv] at h0
      have hDX : D < V.heap.size := (Array.getElem?_eq_some_iff.1 hK).1
      have HSX : Hid (Shut (w.heap.size + 2) V.heap.size ({ target := .collected D, args := #[] } :: ds) V) := ⟨D, by omega, hDX, rfl, hK, hshV.mono hD⟩
      have HLX := hid h0
      clear h0 h4 hshV hK
      gi_wp2
      refine ⟨⟨v + 1, _, _, _, _, _, _, _, _, _, _, rfl, by omega, HLX, HSX⟩, ?_⟩
      simp [intOf]
      omega
  · obtain rfl : v = n := by omega
    have kc := HLr.out.2.1.cell
    gi_wp2
    refine leaves_shut (lo := w.heap.size + 2) (K := ChL w v v ((chA U v v).map mskN)) (ChL.shut (by omega)) (fun Z hZ => ⟨_, results_tmp rfl _ _ _, rfl, hZ.1, hZ.2.2⟩) _ wr.heap.size wr HSH.out HLr.out
end Go.Proofs.Ythcfgoknphpkdaa


/- Package graph: read, Check. -/
namespace Go.Proofs.Ythcfgoknphpkdaa
open Go.RowKit Go.Shelf

theorem gB_parts {L : List (List Int)} (h : gB L = true) : 1 ≤ L.length ∧ L.length ≤ 8 ∧ allRis L L.length = true ∧ noSelf L = true := by
  rw [gB, Bool.and_eq_true, Bool.and_eq_true, decide_eq_true_iff] at h
  exact ⟨h.1.1.1, h.1.1.2, h.1.2, h.2⟩
theorem gB_par {L : List (List Int)} (h : gB L = true) : ∀ p ∈ parN L, ∀ u ∈ p, u < 8 := by
  obtain ⟨h1, h2, h3, h4⟩ := gB_parts h
  intro p hp
  obtain ⟨l, hl, rfl⟩ := List.mem_map.1 hp
  exact ris_all h2 (List.all_eq_true.1 h3 l hl)

set_option maxRecDepth 100000 in
set_option maxHeartbeats 1000000 in
theorem gRead_any (a : Option Addr) (ca : Nat) (L : List (List Int)) (w : World) (h : LsS w a L) (hl : ∀ l ∈ L, l.length ≤ 140737488355328) :
    Calls Try.prog 24 #[.slice a L.length ca] w fun e w' => Below w.heap.size w w' ∧
      ((gcE L = 0 ∧ ∃ G, e = .returned (.tuple #[.slice (some ⟨G, 0, none⟩) L.length L.length, .int .i64 0]) ∧ w.heap.size ≤ G ∧ RowU w' G (masks L)) ∨ (gcE L ≠ 0 ∧ e = .returned (.tuple #[.slice none 0 0, .int .i64 (gcE L)]))) := by
  have HF := hid h
  have HR := hid (fun (V : World) (hV : LsS V a L) => readOthers_any a ca L V hV hl)
  have HG1 : Hid (gB L = false → gcE L = 11) := fun h => if_neg (by rw [h]; decide)
  have HG2 : Hid (gB L = true → (ordN (parN L) L.length).length < L.length → gcE L = 10) := fun h1 h2 => by rw [gcE, if_pos h1, if_pos h2]
  have HG3 : Hid (gB L = true → ¬ (ordN (parN L) L.length).length < L.length → gcE L = 0) := fun h1 h2 => by rw [gcE, if_pos h1, if_neg h2]
  have HO : Hid (gB L = true → ∀ (G c : Nat) (V : World), RowU V G (masks L) → Calls Try.prog 25 #[.slice (some ⟨G, 0, none⟩) L.length c] V fun e w' => ∃ x, e = .returned x ∧ RwI w' V.heap.size x (iL (ordN (parN L) L.length)) ∧ Below V.heap.size V w') := fun hg G c V hV => by
    have h8 := (gB_parts hg).2.1
    have := order_any G c (parN L) V (by rw [← masks_par]; exact hV) (by rw [parN_length]; exact h8) (gB_par hg)
    rwa [parN_length] at this
  generalize gcE L = ge at *
  generalize masks L = ms at *
  clear h hl
  go_enter Try.func24, Try.ntmps24
  go_wp2_with fail
  refine (HR.out _ HF.out).mono ?_
  rintro e w1 ⟨hb, ⟨hg, G, rfl, hG, hU⟩ | ⟨hg, v, rfl⟩⟩
  · have HUU := hid hU
    have HOG := hid (HO.out hg G L.length)
    have HB := hid hb
    have HGG := hid hg
    clear hU hb hg HO HR
    go_wp2_with fail
    refine (HOG.out _ HUU.out).mono ?_
    rintro e w2 ⟨x, rfl, hx, hb2⟩
    obtain ⟨d, cd, rfl, _⟩ := hx.ints
    have HB2 := hid (HB.out.trans (hb2.mono HB.out.size))
    have HU2 := hid (HUU.out.below hb2 HUU.out.lt)
    have HLL : Hid ((iL (ordN (parN L) L.length)).length = (ordN (parN L) L.length).length) := iL_length _
    clear hx hb2
    by_cases hlt : (ordN (parN L) L.length).length < L.length
    · have HE := hid (HG2.out HGG.out hlt)
      have hlt' : (iL (ordN (parN L) L.length)).length < L.length := by rw [HLL.out]; exact hlt
      clear hlt
      generalize (iL (ordN (parN L) L.length)).length = m at *
      go_wp2
      go_ret2
      exact ⟨HB2.out, .inr ⟨by rw [HE.out]; decide, by rw [HE.out]; rfl⟩⟩
    · have HE := hid (HG3.out HGG.out hlt)
      have hlt' : ¬ (iL (ordN (parN L) L.length)).length < L.length := by rw [HLL.out]; exact hlt
      clear hlt
      generalize (iL (ordN (parN L) L.length)).length = m at *
      go_wp2
      go_ret2
      exact ⟨HB2.out, .inl ⟨HE.out, G, rfl, hG, HU2.out⟩⟩
  · have HE := hid (HG1.out hg)
    have HB := hid hb
    clear hg hb
    go_wp2
    go_ret2
    exact ⟨HB.out, .inr ⟨by rw [HE.out]; decide, by rw [HE.out]; rfl⟩⟩
set_option maxRecDepth 100000 in
set_option maxHeartbeats 1000000 in
theorem gCheck_any (a : Option Addr) (ca : Nat) (L : List (List Int)) (w : World) (h : LsS w a L) (hl : ∀ l ∈ L, l.length ≤ 140737488355328) :
    Calls Try.prog 9 #[.slice a L.length ca] w fun e w' => e = .returned (.int .i64 (gcE L)) ∧ Below w.heap.size w w' := by
  have HF := hid h
  have HR := hid (fun (V : World) (hV : LsS V a L) => gRead_any a ca L V hV hl)
  generalize gcE L = ge at *
  clear h hl
  go_enter Try.func9, Try.ntmps9
  go_wp2_with fail
  refine (HR.out _ HF.out).mono ?_
  rintro e w1 ⟨hb, ⟨rfl, G, rfl, hG, hU⟩ | ⟨hg, rfl⟩⟩
  · clear hU
    go_wp2
    go_ret
    exact ⟨rfl, hb⟩
  · clear hg
    go_wp2
    go_ret
    exact ⟨rfl, hb⟩
end Go.Proofs.Ythcfgoknphpkdaa


/- Package graph: readNear, Fill. -/
namespace Go.Proofs.Ythcfgoknphpkdaa
open Go.RowKit Go.Shelf

theorem dec_ne {l1 l2 : List Nat} {i : Nat} (h1 : i < l1.length) (h2 : i < l2.length) (h : l1[i] ≠ l2[i]) : decide (l1 = l2) = false := decide_eq_false fun e => h (by subst e; rfl)
theorem dec_eq {l1 l2 : List Nat} (hl : l1.length = l2.length) (h : ∀ i (h1 : i < l1.length) (h2 : i < l2.length), l1[i] = l2[i]) : decide (l1 = l2) = true := decide_eq_true (List.ext_getElem hl h)
/-- Neighbours of neighbours. -/
def nearB (L : List (List Int)) : Bool := gB L && decide (masks L = (chA (parN L) L.length L.length).map mskN)
theorem par_lt {L : List (List Int)} (h : gB L = true) : ∀ p ∈ parN L, ∀ u ∈ p, u < L.length := by
  obtain ⟨_, _, hr, _⟩ := gB_parts h
  intro p hp u hu
  obtain ⟨l, hl, rfl⟩ := List.mem_map.1 hp
  obtain ⟨x, hx, rfl⟩ := List.mem_map.1 hu
  obtain ⟨i, hi, rfl⟩ := List.getElem_of_mem hl
  have h2 := ris_up (allRis_at hr hi)
  obtain ⟨j, hj, rfl⟩ := List.getElem_of_mem hx
  have := h2.each j hj
  omega
theorem nbr_of {L : List (List Int)} (h : gB L = true) : Nbr L.length (parN L) := by
  refine ⟨parN_length L, par_lt h, fun u hu => ?_⟩
  obtain ⟨_, _, _, hs⟩ := gB_parts h
  by_cases hl : u < L.length
  · rw [parN_get hl] at hu
    rw [noSelf_bad hl hu] at hs
    cases hs
  · rw [List.getD_eq_getElem?_getD, List.getElem?_eq_none (by rw [parN_length]; omega)] at hu
    simp at hu

theorem RwU.cells {w : World} {B : Nat} {v : Value} {l : List Nat} (h : RwU w B v l) : ∃ d cd, v = .slice d l.length cd ∧ ∀ k (hk : k < l.length), ∃ g o, d = some ⟨g, o, none⟩ ∧ g < w.heap.size ∧ w.cell? ⟨g, o + k, none⟩ = some (.int .u32 (l[k] : Nat)) := by
  rcases h.2 with ⟨h1, h2⟩ | ⟨g, cap, cur, h1, h2, h3, h4, h5, h6, h7⟩
  · have : l = [] := List.length_eq_zero_iff.1 h2
    subst this
    exact ⟨none, 0, h1, fun k hk => absurd hk (by simp)⟩
  · refine ⟨_, _, h1, fun j hj => ⟨g, 0, rfl, (Array.getElem?_eq_some_iff.1 h3).1, ?_⟩⟩
    rw [Nat.zero_add, cell_of_row w g j _ _ (0, 0) h3]
    have e : cur[j]? = (cur.toList.take (l.length * 1))[j]? := by
      rw [List.getElem?_take, if_pos (by omega), Array.getElem?_toList]
    rw [e, h7, List.getElem?_map, List.getElem?_eq_getElem hj]
    rfl
/-- What Fill answers. -/
def FlR (L : List (List Int)) (e : Ending) (w' : World) : Prop :=
  (nearB L = true ∧ ∃ d cd G, e = .returned (.tuple #[.slice d L.length cd, .slice (some ⟨G, 0, none⟩) L.length L.length, .int .i64 0]) ∧ IntS w' d (iL (flS (parN L) L.length L.length).ord) ∧ LsS w' (some ⟨G, 0, none⟩) ((flS (parN L) L.length L.length).bag.map memL)) ∨
  (nearB L = false ∧ e = .returned (.tuple #[.slice none 0 0, .slice none 0 0, .int .i64 11]))

end Go.Proofs.Ythcfgoknphpkdaa


/- Package graph: readBags, outermost. -/
namespace Go.Proofs.Ythcfgoknphpkdaa
open Go.RowKit Go.Shelf

/-- Bags that may be. -/
def bagsB (L : List (List Int)) : Bool := decide (1 ≤ L.length ∧ L.length ≤ 8) && (allRis L 8 && !decide (0 ∈ masks L))

/-- One bag stands in another; of like ones the first counts. -/
def covB (B : List (List Nat)) (i j : Nat) : Bool := decide (j ≠ i ∧ (∀ x ∈ B.getD i [], x ∈ B.getD j []) ∧ (mskN (B.getD j []) ≠ mskN (B.getD i []) ∨ j < i))
/-- Is a bag kept? -/
def keptB (B : List (List Nat)) (i : Nat) : Bool := (List.range B.length).all fun j => !covB B i j
/-- The bags that are kept, as far as k. -/
def ousL (B : List (List Nat)) (k : Nat) : List (List Nat) := ((List.range k).filter (keptB B)).map fun i => B.getD i []
theorem ousL_yes {B : List (List Nat)} {k : Nat} (h : keptB B k = true) : ousL B (k + 1) = ousL B k ++ [B.getD k []] := by rw [ousL, List.range_succ, List.filter_append, List.map_append, ousL]; simp [h]
theorem ousL_no {B : List (List Nat)} {k : Nat} (h : keptB B k = false) : ousL B (k + 1) = ousL B k := by rw [ousL, List.range_succ, List.filter_append, List.map_append, ousL]; simp [h]
theorem ousL_len (B : List (List Nat)) (k : Nat) : (ousL B k).length ≤ k := by
  have := List.length_filter_le (keptB B) (List.range k)
  simpa [ousL] using this
theorem kept_no {B : List (List Nat)} {i j : Nat} (hj : j < B.length) (h : covB B i j = true) : keptB B i = false := by
  rw [keptB, List.all_eq_false]
  exact ⟨j, List.mem_range.2 hj, by rw [h]; decide⟩
theorem kept_yes {B : List (List Nat)} {i : Nat} (h : ∀ j, j < B.length → covB B i j = false) : keptB B i = true := by
  rw [keptB, List.all_eq_true]
  intro j hj
  rw [h j (List.mem_range.1 hj)]
  rfl
theorem wpList_append_set {w : World} {ops : Array Oper} {rest : List Oper} {o : Oper} {a : Act} {Q : Exit → Act → World → Prop} (hgd : o.guard = none) (s x : Operand)
    (ho : o.op = .call { callee := .builtin .append, args := #[s, x], argTypes := #[40, 40] }) (base : Nat) (v : Value) (l : List Nat) (f : Nat) (hs : a.eval s = v) (hown : RwU w base v l) (g : Nat) (hx : a.eval x = .slice (some ⟨g, 0, none⟩) 1 1) (hg : w.cell? ⟨g, 0, none⟩ = some (uv f)) (hlen : l.length + 1 ≤ 100000) (hbase : base ≤ w.heap.size)
    (h : ∀ v' w', RwU w' base v' (l ++ [f]) → w.grownBy w' v.ownBlock → wpList Try.prog ops Q rest (a.put o.dst v') w') : wpList Try.prog ops Q (o :: rest) a w := by
  obtain ⟨i0, hi0, hz0, hz1, hz2⟩ := info_parts Try.infoSet2
  refine wpList_append_own _ hgd s x 40 ho base 46 i0 (.int .u32 0) 1 4 Try.underlying40 hi0 hz0 hz1 hz2 rfl (by decide) v l.length _ hs hown ⟨g, 0, none⟩ 1 1 [uv f] hx rfl ?_ ?_ (by unfold maxLen; omega) (by omega) hbase ?_
  · intro j u hj
    match j, hj with
    | 0, hj => cases hj; exact hg
    | j + 1, hj => simp at hj
  · intro u hu
    simp only [List.mem_cons, List.not_mem_nil, or_false] at hu
    subst hu; rfl
  · intro v' w' h1 h2 _
    refine h v' w' ?_ h2
    rw [RwU, List.length_append, List.map_append]
    exact h1

end Go.Proofs.Ythcfgoknphpkdaa

