/- Package graph: takeOut. -/
import Derived.Test.YtockhhleapbpiaaLackAOwn
namespace Go.Proofs.Ytockhhleapbpiaa
open Go.RowKit Go.Shelf

attribute [local go_sem] Oper.semAt_some

/-- What a neighbour's neighbours become. -/
def newN (P : List (List Nat)) (v u : Nat) : List Nat := ((P.getD u [] ++ P.getD v []).filter fun x => decide (x ≠ u)).filter fun x => decide (x ≠ v)
/-- Neighbours, where those of v below k know each other, and v no more. -/
def tkS (P : List (List Nat)) (v k : Nat) : List (List Nat) := (List.range P.length).map fun u => if u < k ∧ u ∈ P.getD v [] then newN P v u else P.getD u []
theorem tkS_length (P : List (List Nat)) (v k : Nat) : (tkS P v k).length = P.length := by simp [tkS]
theorem tkS_zero (P : List (List Nat)) (v : Nat) : tkS P v 0 = P := by
  apply List.ext_getElem (by simp [tkS])
  intro i h1 h2
  simp [tkS, List.getD_eq_getElem?_getD, h2]
theorem tkS_yes {P : List (List Nat)} {v k : Nat} (hm : k ∈ P.getD v []) : tkS P v (k + 1) = (tkS P v k).set k (newN P v k) := by
  apply List.ext_getElem (by simp [tkS])
  intro i h1 h2
  rw [List.getElem_set]
  simp only [tkS, List.getElem_map, List.getElem_range]
  by_cases h : k = i
  · subst h
    rw [if_pos ⟨by omega, hm⟩, if_pos rfl]
  · rw [if_neg h]
    have e : (i < k + 1 ∧ i ∈ P.getD v []) ↔ (i < k ∧ i ∈ P.getD v []) := ⟨fun ⟨a, b⟩ => ⟨by omega, b⟩, fun ⟨a, b⟩ => ⟨by omega, b⟩⟩
    simp only [e]
theorem tkS_no {P : List (List Nat)} {v k : Nat} (hm : ¬ k ∈ P.getD v []) : tkS P v (k + 1) = tkS P v k := by
  apply List.map_congr_left
  intro i hi
  have e : (i < k + 1 ∧ i ∈ P.getD v []) ↔ (i < k ∧ i ∈ P.getD v []) := ⟨fun ⟨a, b⟩ => ⟨by rcases Nat.lt_or_ge i k with h | h; exact h; exact absurd (show i = k by omega) (fun e => hm (e ▸ b)), b⟩, fun ⟨a, b⟩ => ⟨by omega, b⟩⟩
  simp only [e]
theorem tkS_at {P : List (List Nat)} {v k u : Nat} (hu : u < P.length) (h : ¬ (u < k ∧ u ∈ P.getD v [])) : (tkS P v k).getD u [] = P.getD u [] := by
  have h1 : u < (tkS P v k).length := by rw [tkS_length]; exact hu
  have e : (tkS P v k).getD u [] = (tkS P v k)[u] := by rw [List.getD_eq_getElem?_getD, List.getElem?_eq_getElem h1]; rfl
  rw [e]
  simp only [tkS, List.getElem_map, List.getElem_range]
  rw [if_neg h]
/-- Neighbours behind a node's going. -/
def takeL (P : List (List Nat)) (v : Nat) : List (List Nat) := tkS P v 8
theorem rowU_own {β : Type} (g : Nat) (f : β → List Nat) : Own (fun s W => RowU W g (f s)) := fun s X Y row hs hg hrow => by
  refine (hg.block g hs.lt (fun e => ?_)).trans hs
  obtain ⟨o, ho, hc⟩ := hrow g e.symm
  rw [hs] at ho
  cases ho
  cases hc
theorem ownFrom_grown {β : Type} {w : World} {G B : Nat} (hB : w.heap.size ≤ B) : OwnFrom B (fun (_ : β) W => w.grownBy W (some G)) := fun _ W W' row hs hg hr =>
  ⟨hg.os.trans hs.os, hg.tape.trans hs.tape, hg.output.trans hs.output, Nat.le_trans hs.size hg.size, fun k hk hne => (hg.block k (Nat.lt_of_lt_of_le hk hs.size) (fun e => by
    have := (hr k e.symm).1
    omega)).trans (hs.block k hk hne)⟩
theorem grown_of_below {w w' : World} (h : Below w.heap.size w w') (G : Nat) : w.grownBy w' (some G) := ⟨h.os, h.tape, h.output, h.size, fun k hk _ => h.block k hk⟩
theorem grown_trans {a b c : World} {G : Nat} (h : a.grownBy b (some G)) (k : b.grownBy c (some G)) : a.grownBy c (some G) :=
  ⟨k.os.trans h.os, k.tape.trans h.tape, k.output.trans h.output, Nat.le_trans h.size k.size, fun i hi hne => (k.block i (Nat.lt_of_lt_of_le hi h.size) hne).trans (h.block i hi hne)⟩
theorem grown_set (w : World) (G j : Nat) (y : Value) : w.grownBy (w.setCell ⟨G, j, none⟩ y) (some G) := ⟨rfl, rfl, rfl, by simp, fun k _ hne => Below.heap_setCell w ⟨G, j, none⟩ y k (fun e => hne (congrArg some e))⟩
theorem grown_drew1 {a b : World} {G : Nat} (h : a.grownBy b (some G)) : a.grownBy b.drew (some G) := ⟨h.os, h.tape, h.output, h.size, h.block⟩

set_option maxRecDepth 100000 in
set_option maxHeartbeats 2000000 in
theorem takeOut_any (G n c v : Nat) (P : List (List Nat)) (w : World) (hn : P.length = n) (h8 : n ≤ 8) (hU : RowU w G (P.map mskN)) (hP : ∀ p ∈ P, ∀ u ∈ p, u < n) (hv : v < n) (hvv : ¬ v ∈ P.getD v []) :
    Calls Try.prog 77 #[.slice (some ⟨G, 0, none⟩) n c, .int .i64 (v : Nat)] w fun e w' => (∃ r, e = .returned r) ∧ RowU w' G ((takeL P v).map mskN) ∧ w.grownBy w' (some G) := by
  refine (callsIn_wide (n := 6)).1 ?_
  have hP8 : ∀ p ∈ P, ∀ u ∈ p, u < 8 := fun p hp u hu => by have := hP p hp u hu; omega
  have hs := getD_small hP8 v
  have hw0 := hU.lt
  have HMN : Hid (∀ k, k ∈ P.getD v [] → k < n) := fun k hk => by
    rw [List.getD_eq_getElem?_getD, List.getElem?_eq_getElem (by omega)] at hk
    exact hP _ (List.getElem_mem _) k hk
  have HCELL : Hid (∀ (V : World) (k u : Nat), u < n → ¬ (u < k ∧ u ∈ P.getD v []) → RowU V G ((tkS P v k).map mskN) → V.cell? ⟨G, u, none⟩ = some (.int .u32 (mskN (P.getD u []) : Nat)) ∧ V.frozen? ⟨G, u, none⟩ = false) := fun V k u hu hne hR => by
    have h1 : u < (tkS P v k).length := by rw [tkS_length]; omega
    have := hR.cell u (by rw [List.length_map]; exact h1)
    rw [mapU_get h1, tkS_at (by omega) hne] at this
    exact ⟨this, hR.fz u⟩
  have HSET : Hid (∀ (V : World) (k : Nat), k ∈ P.getD v [] → RowU V G ((tkS P v k).map mskN) → RowU (V.setCell ⟨G, k, none⟩ (.int .u32 (mskN (newN P v k) : Nat))) G ((tkS P v (k + 1)).map mskN)) := fun V k hm hR => by
    have := hR.set k (mskN (newN P v k))
    rwa [tkS_yes hm, List.map_set]
  have HNO : Hid (∀ k, ¬ k ∈ P.getD v [] → tkS P v (k + 1) = tkS P v k) := fun k h => tkS_no h
  have HNV : Hid (∀ k, ¬ (v < k ∧ v ∈ P.getD v [])) := fun k h => hvv h.2
  have HOR := hid (fun u => bits_or (P.getD u []) (P.getD v []) (getD_small hP8 u) hs)
  have HW1 := hid (fun (u : Nat) (hu : u < 8) (U : World) => sWithout_any (P.getD u [] ++ P.getD v []) u U (app_small (getD_small hP8 u) hs) hu)
  have HW2 : Hid (∀ (u : Nat) (U : World), Calls Try.prog 48 #[.int .u32 (mskN ((P.getD u [] ++ P.getD v []).filter fun x => decide (x ≠ u)) : Nat), .int .i64 (v : Nat)] U fun e w' => e = .returned (.int .u32 (mskN (newN P v u) : Nat)) ∧ w' = U) := fun u U => sWithout_any _ v U (fil_small (app_small (getD_small hP8 u) hs) _) (by omega)
  have hR0 : RowU w G ((tkS P v 0).map mskN) := by rw [tkS_zero]; exact hU
  have hTL : takeL P v = tkS P v 8 := rfl
  rw [hTL]
  have HKV := hid (HCELL.out w 0 v hv (HNV.out 0) hR0)
  generalize hbv : P.getD v [] = bv at *
  have HBV := hid hbv
  clear hU hP hP8 hTL hvv hbv
  refine callsIn_of_wp_marks Try.func77 rfl trivial ?_ rfl
  simp only [Try.ntmps77, List.size_toArray, List.length_cons, List.length_nil, Nat.reduceAdd, Nat.reduceSub, Array.replicate_succ, Array.replicate_zero, List.push_toArray, List.append_toArray, List.nil_append, List.cons_append]
  obtain ⟨W0, hW0⟩ : ∃ W0, W0 = (w.alloc (.cells #[.slice (some ⟨G, 0, none⟩) n c] 52)).alloc (.cells #[.int .i64 (v : Nat)] 3) := ⟨_, rfl⟩
  have b0 : Boxed W0 w.heap.size 52 (.slice (some ⟨G, 0, none⟩) n c) := by rw [hW0]; exact (Boxed.new w _ _).alloc _
  have b1 : Boxed W0 (w.heap.size + 1) 3 (.int .i64 (v : Nat)) := by
    have h := Boxed.new (w.alloc (.cells #[.slice (some ⟨G, 0, none⟩) n c] 52)) 3 (.int .i64 (v : Nat))
    rw [World.size_alloc] at h
    rw [hW0]; exact h
  have hB0 : Below w.heap.size w W0 := by
    rw [hW0]
    exact ((Below.refl _ w).alloc (Nat.le_refl _) _).alloc (by simp) _
  have k0 := b0.cell
  have k1 := b1.cell
  have kG := (hB0.cell (p := ⟨G, v, none⟩) hw0).trans HKV.out.1
  rw [hW0] at k0 k1 kG
  gi_wp2
  rw [← hW0]
  clear k0 k1 kG hW0
  have hsz0 : w.heap.size + 1 < W0.heap.size := b1.lt
  refine wp_each (by omega) bv hs rfl rfl
    (fun k V => Boxed V w.heap.size 52 (.slice (some ⟨G, 0, none⟩) n c) ∧ Boxed V (w.heap.size + 1) 3 (.int .i64 (v : Nat)) ∧ RowU V G ((tkS P v k).map mskN) ∧ w.grownBy V (some G))
    (OwnFrom.and (Own.from (boxed_own _ _ (fun _ => _)) _) (OwnFrom.and (Own.from (boxed_own _ _ (fun _ => _)) _) (OwnFrom.and (Own.from (rowU_own _ (fun k : Nat => (tkS P v k).map mskN)) _) (ownFrom_grown (by omega)))))
    ⟨b0, b1, hR0.below hB0 hw0, grown_of_below hB0 G⟩
    (fun k => { tmps := #[.slice (some ⟨G, 0, none⟩) n c, .int .i64 (v : Nat), .pointer (some ⟨w.heap.size, 0, none⟩), .pointer (some ⟨w.heap.size + 1, 0, none⟩), .int .i64 (k : Nat), .slice (some ⟨G, 0, none⟩) n c, .int .i64 (v : Nat), .pointer (some ⟨G, v, none⟩), .int .u32 (mskN bv : Nat), .func (.func 47) #[.int .u32 (mskN bv : Nat)] #[], .int .i64 (k : Nat), undef, undef, undef, undef, undef, undef, undef, undef, undef, undef, undef, undef, undef, undef, undef, undef], defers := [] }) ?assign ?body ?skip ?done
  case assign =>
    intro l k W K hK
    gi_wp2
    exact hK
  case body =>
    rintro l k V hk hm ⟨h0, h1, h2, hB⟩
    have hkn := HMN.out k hm
    have hkv : k ≠ v := fun e => HNV.out (k + 1) ⟨by omega, e ▸ hm⟩
    have k0 := h0.cell
    have k1 := h1.cell
    have kG := (HCELL.out V k v hv (HNV.out k) h2).1
    rw [HBV.out] at kG
    have hU2 := HCELL.out V k k hkn (by omega) h2
    have hOR := HOR.out k
    have HW1k := hid (HW1.out k hk)
    have HW2k := hid (HW2.out k)
    have HSK := hid (fun U hU => HSET.out U k hm hU)
    generalize mskN ((P.getD k [] ++ bv).filter fun x => decide (x ≠ k)) = m2 at *
    generalize mskN (P.getD k [] ++ bv) = m1 at *
    generalize mskN (P.getD k []) = mu at *
    generalize mskN (newN P v k) = m3 at *
    generalize mskN bv = mv at *
    gi_wp2_with fail
    refine region_round (fun u => u.cell? ⟨w.heap.size, 0, none⟩ = some (.slice (some ⟨G, 0, none⟩) n c) ∧ u.cell? ⟨w.heap.size + 1, 0, none⟩ = some (.int .i64 (v : Nat)) ∧ u.cell? ⟨G, v, none⟩ = some (.int .u32 (mv : Nat))) (by kernel_rfl) (by kernel_rfl) (fun ⟨_, _, h⟩ => h) ⟨k0, k1, kG⟩ ?_
    intro hSd
    have hD : KeepsOthers V V.drew := KeepsOthers.drew V
    have q0 : Boxed V.drew w.heap.size 52 (.slice (some ⟨G, 0, none⟩) n c) := h0
    have q1 : Boxed V.drew (w.heap.size + 1) 3 (.int .i64 (v : Nat)) := h1
    have q2 : RowU V.drew G ((tkS P v k).map mskN) := h2
    have qB := grown_drew1 hB
    have kU : V.drew.cell? ⟨G, k, none⟩ = some (.int .u32 (mu : Nat)) := hU2.1
    have fU : V.drew.frozen? ⟨G, k, none⟩ = false := hU2.2
    clear k0 k1 kG hU2 h0 h1 h2 hB b0 b1 hB0
    generalize V.drew = U0 at *
    (try simp only [List.getElem_toArray, List.getElem_cons_zero, List.getElem_cons_succ])
    (try simp only [Act.put, List.setIfInBounds_toArray, List.set_cons_zero, List.set_cons_succ])
    refine wpAnyH_take (i := 0) (oi := _) (v := .slice (some ⟨G, 0, none⟩) n c) rfl (by kernel_rfl) (by kernel_rfl) (by kernel_rfl) (fun _ _ _ h => h) (Or.inl ⟨by rfl, ?_⟩) (by assumption) ?_
    · intro u' hSu
      (try simp only [List.getElem_toArray, List.getElem_cons_zero])
      obtain ⟨s0, s1, s2⟩ := hSu
      go_simp
    (try simp only [List.getElem_toArray, List.getElem_cons_zero])
    (try simp only [Act.put, List.setIfInBounds_toArray, List.set_cons_zero, List.set_cons_succ])
    refine wpAnyH_take (i := 1) (oi := _) (v := .int .i64 (k : Nat)) rfl (by kernel_rfl) (by kernel_rfl) (by kernel_rfl) (fun _ _ _ h => h) (Or.inl ⟨by rfl, ?_⟩) (by assumption) ?_
    · intro u' hSu
      (try simp only [List.getElem_toArray, List.getElem_cons_zero, List.getElem_cons_succ])
      go_simp
    (try simp only [List.getElem_toArray, List.getElem_cons_zero, List.getElem_cons_succ])
    (try simp only [Act.put, List.setIfInBounds_toArray, List.set_cons_zero, List.set_cons_succ])
    refine wpAnyH_take (i := 2) (oi := _) (v := .slice (some ⟨G, 0, none⟩) n c) rfl (by kernel_rfl) (by kernel_rfl) (by kernel_rfl) (fun _ _ _ h => h) (Or.inl ⟨by rfl, ?_⟩) (by assumption) ?_
    · intro u' hSu
      (try simp only [List.getElem_toArray, List.getElem_cons_zero, List.getElem_cons_succ])
      obtain ⟨s0, s1, s2⟩ := hSu
      go_simp
    (try simp only [List.getElem_toArray, List.getElem_cons_zero, List.getElem_cons_succ])
    (try simp only [Act.put, List.setIfInBounds_toArray, List.set_cons_zero, List.set_cons_succ])
    refine wpAnyH_take (i := 3) (oi := _) (v := .int .i64 (k : Nat)) rfl (by kernel_rfl) (by kernel_rfl) (by kernel_rfl) (fun _ _ _ h => h) (Or.inl ⟨by rfl, ?_⟩) (by assumption) ?_
    · intro u' hSu
      (try simp only [List.getElem_toArray, List.getElem_cons_zero, List.getElem_cons_succ])
      go_simp
    (try simp only [List.getElem_toArray, List.getElem_cons_zero, List.getElem_cons_succ])
    (try simp only [Act.put, List.setIfInBounds_toArray, List.set_cons_zero, List.set_cons_succ])
    refine wpAnyH_take (i := 4) (oi := _) (v := .pointer (some ⟨G, k, none⟩)) rfl (by kernel_rfl) (by kernel_rfl) (by kernel_rfl) (fun _ _ _ h => h) (Or.inl ⟨by rfl, ?_⟩) (by assumption) ?_
    · intro u' hSu
      (try simp only [List.getElem_toArray, List.getElem_cons_zero, List.getElem_cons_succ])
      go_simp
    (try simp only [List.getElem_toArray, List.getElem_cons_zero, List.getElem_cons_succ])
    (try simp only [Act.put, List.setIfInBounds_toArray, List.set_cons_zero, List.set_cons_succ])
    refine wpAnyH_take (i := 6) (oi := _) (v := .slice (some ⟨G, 0, none⟩) n c) rfl (by kernel_rfl) (by kernel_rfl) (by kernel_rfl) (fun _ _ _ h => h) (Or.inl ⟨by rfl, ?_⟩) (by assumption) ?_
    · intro u' hSu
      (try simp only [List.getElem_toArray, List.getElem_cons_zero, List.getElem_cons_succ])
      obtain ⟨s0, s1, s2⟩ := hSu
      go_simp
    (try simp only [List.getElem_toArray, List.getElem_cons_zero, List.getElem_cons_succ])
    (try simp only [Act.put, List.setIfInBounds_toArray, List.set_cons_zero, List.set_cons_succ])
    refine wpAnyH_take (i := 7) (oi := _) (v := .int .i64 (v : Nat)) rfl (by kernel_rfl) (by kernel_rfl) (by kernel_rfl) (fun _ _ _ h => h) (Or.inl ⟨by rfl, ?_⟩) (by assumption) ?_
    · intro u' hSu
      (try simp only [List.getElem_toArray, List.getElem_cons_zero, List.getElem_cons_succ])
      obtain ⟨s0, s1, s2⟩ := hSu
      go_simp
    (try simp only [List.getElem_toArray, List.getElem_cons_zero, List.getElem_cons_succ])
    (try simp only [Act.put, List.setIfInBounds_toArray, List.set_cons_zero, List.set_cons_succ])
    refine wpAnyH_take (i := 8) (oi := _) (v := .pointer (some ⟨G, v, none⟩)) rfl (by kernel_rfl) (by kernel_rfl) (by kernel_rfl) (fun _ _ _ h => h) (Or.inl ⟨by rfl, ?_⟩) (by assumption) ?_
    · intro u' hSu
      (try simp only [List.getElem_toArray, List.getElem_cons_zero, List.getElem_cons_succ])
      go_simp
    (try simp only [List.getElem_toArray, List.getElem_cons_zero, List.getElem_cons_succ])
    (try simp only [Act.put, List.setIfInBounds_toArray, List.set_cons_zero, List.set_cons_succ])
    refine wpAnyH_take (i := 9) (oi := _) (v := .int .u32 (mv : Nat)) rfl (by kernel_rfl) (by kernel_rfl) (by kernel_rfl) (fun _ _ _ h => h) (Or.inl ⟨by rfl, ?_⟩) (by assumption) ?_
    · intro u' hSu
      (try simp only [List.getElem_toArray, List.getElem_cons_zero, List.getElem_cons_succ])
      obtain ⟨s0, s1, s2⟩ := hSu
      go_simp
    (try simp only [List.getElem_toArray, List.getElem_cons_zero, List.getElem_cons_succ])
    (try simp only [Act.put, List.setIfInBounds_toArray, List.set_cons_zero, List.set_cons_succ])
    refine wpAnyH_take (i := 11) (oi := _) (v := .int .i64 (k : Nat)) rfl (by kernel_rfl) (by kernel_rfl) (by kernel_rfl) (fun _ _ _ h => h) (Or.inl ⟨by rfl, ?_⟩) (by assumption) ?_
    · intro u' hSu
      (try simp only [List.getElem_toArray, List.getElem_cons_zero, List.getElem_cons_succ])
      go_simp
    (try simp only [List.getElem_toArray, List.getElem_cons_zero, List.getElem_cons_succ])
    (try simp only [Act.put, List.setIfInBounds_toArray, List.set_cons_zero, List.set_cons_succ])
    refine wpAnyH_take (i := 13) (oi := _) (v := .int .i64 (v : Nat)) rfl (by kernel_rfl) (by kernel_rfl) (by kernel_rfl) (fun _ _ _ h => h) (Or.inl ⟨by rfl, ?_⟩) (by assumption) ?_
    · intro u' hSu
      (try simp only [List.getElem_toArray, List.getElem_cons_zero, List.getElem_cons_succ])
      obtain ⟨s0, s1, s2⟩ := hSu
      go_simp
    (try simp only [List.getElem_toArray, List.getElem_cons_zero, List.getElem_cons_succ])
    (try simp only [Act.put, List.setIfInBounds_toArray, List.set_cons_zero, List.set_cons_succ])
    refine wpAnyH_ready (rs := [5]) (by kernel_rfl) (by simp) (AllReadyH.cons rfl ?_ (AllReadyH.nil))
    · intro K' hK'
      (try simp only [List.getElem_toArray, List.getElem_cons_zero, List.getElem_cons_succ])
      go_simp
      refine hK'.out _ _ hSd (fun hSe => ?_)
      clear hK' K' hSe
      (try simp only [List.getElem_toArray, List.getElem_cons_zero, List.getElem_cons_succ])
      (try simp only [Act.put, List.setIfInBounds_toArray, List.set_cons_zero, List.set_cons_succ])
      refine wpAnyH_take (i := 10) (oi := _) (v := .int .u32 (m1 : Nat)) rfl (by kernel_rfl) (by kernel_rfl) (by kernel_rfl) (fun _ _ _ h => h) (Or.inl ⟨by rfl, ?_⟩) (by assumption) ?_
      · intro u' hSu
        (try simp only [List.getElem_toArray, List.getElem_cons_zero, List.getElem_cons_succ])
        go_simp
      (try simp only [List.getElem_toArray, List.getElem_cons_zero, List.getElem_cons_succ])
      (try simp only [Act.put, List.setIfInBounds_toArray, List.set_cons_zero, List.set_cons_succ])
      refine wpAnyH_ready (rs := [12]) (by kernel_rfl) (by simp) (AllReadyH.cons rfl ?_ (AllReadyH.nil))
      · intro K' hK'
        (try simp only [List.getElem_toArray, List.getElem_cons_zero, List.getElem_cons_succ])
        go_simp
        refine (HW1k.out _).mono ?_
        rintro e U1 ⟨rfl, hU1⟩
        subst hU1
        refine hK'.out _ _ hSd (fun hSe => ?_)
        clear hK' K' hSe
        generalize U1 = U0 at *
        (try simp only [List.getElem_toArray, List.getElem_cons_zero, List.getElem_cons_succ])
        (try simp only [Act.put, List.setIfInBounds_toArray, List.set_cons_zero, List.set_cons_succ])
        refine wpAnyH_ready (rs := [14]) (by kernel_rfl) (by simp) (AllReadyH.cons rfl ?_ (AllReadyH.nil))
        · intro K' hK'
          (try simp only [List.getElem_toArray, List.getElem_cons_zero, List.getElem_cons_succ])
          go_simp
          refine (HW2k.out _).mono ?_
          rintro e U1 ⟨rfl, hU1⟩
          subst hU1
          refine hK'.out _ _ hSd (fun hSe => ?_)
          clear hK' K' hSe
          generalize U1 = U0 at *
          (try simp only [List.getElem_toArray, List.getElem_cons_zero, List.getElem_cons_succ])
          (try simp only [Act.put, List.setIfInBounds_toArray, List.set_cons_zero, List.set_cons_succ])
          refine wpAnyH_take (i := 15) (oi := _) (v := .pointer (some ⟨G, k, none⟩)) rfl (by kernel_rfl) (by kernel_rfl) (by kernel_rfl) (fun _ _ _ h => h) (Or.inl ⟨by rfl, ?_⟩) (by assumption) ?_
          · intro u' hSu
            (try simp only [List.getElem_toArray, List.getElem_cons_zero, List.getElem_cons_succ])
            go_simp
          (try simp only [List.getElem_toArray, List.getElem_cons_zero, List.getElem_cons_succ])
          (try simp only [Act.put, List.setIfInBounds_toArray, List.set_cons_zero, List.set_cons_succ])
          refine wpAnyH_ready (rs := [16]) (by kernel_rfl) (by simp) (AllReadyH.cons rfl ?_ (AllReadyH.nil))
          · intro K' hK'
            (try simp only [List.getElem_toArray, List.getElem_cons_zero, List.getElem_cons_succ])
            go_simp
            refine hK'.out _ _ ⟨(boxed_offB q0 G k _ (by omega)).cell, (boxed_offB q1 G k _ (by omega)).cell, (World.cell?_setCell_other _ _ _ _ (fun e => hkv (congrArg Addr.off e))).trans hSd.2.2⟩ (fun _ => wpAnyH_done (by kernel_rfl) ?_ _)
            clear hK' K' hSd
            gi_wp2
            exact ⟨(hD.trans (KeepsOthers.setCell U0 _ _)).from _, boxed_offB q0 G k _ (by omega), boxed_offB q1 G k _ (by omega), HSK.out U0 q2, grown_trans qB (grown_set U0 G k _)⟩
  case skip =>
    rintro k V hk hm h
    rw [HNO.out k hm]
    exact h
  case done =>
    rintro D V hD ⟨h0, h1, h2, hB⟩ hK
    gi_wp2
    refine ⟨by simp, .inl ⟨_, _, rfl, run_takeDeferred hK, ?_⟩⟩
    refine ⟨_, results_none rfl _ _ _, ⟨_, rfl⟩, rowU_own G (fun (_ : Unit) => (tkS P v 8).map mskN) () V _ (some D) h2 (grownBy_putObj' V D _) (fun r e => by cases e; exact ⟨_, hK, rfl⟩), ?_⟩
    exact ownFrom_grown (β := Unit) (Nat.le_refl _) () V _ (some D) hB (grownBy_putObj' V D _) (fun r e => by cases e; exact ⟨by omega, _, hK, rfl⟩)
end Go.Proofs.Ytockhhleapbpiaa

