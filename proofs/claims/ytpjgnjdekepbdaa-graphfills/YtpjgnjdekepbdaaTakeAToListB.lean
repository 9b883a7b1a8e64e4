/- Package graph: takeOut. -/
import Derived.Test.YtpjgnjdekepbdaaLackAOwn
import Derived.Test.YtpjgnjdekepbdaaSliBToSetD
namespace Go.Proofs.Ytpjgnjdekepbdaa
open Go.RowKit Go.Shelf

attribute [local go_sem] Oper.semAt_some

/-- What a neighbour's neighbours become. -/
def newN (P : List (List Nat)) (v u : Nat) : List Nat := ((P.getD u [] ++ P.getD v []).filter fun x => decide (x ≠ u)).filter fun x => decide (x ≠ v)
/-- Neighbours, where those of v below k know each other, and v no more. -/
def tkS (P : List (List Nat)) (v k : Nat) : List (List Nat) := (List.range P.length).map fun u => if u < k ∧ u ∈ P.getD v [] then newN P v u else P.getD u []
theorem tkS_length (P : List (List Nat)) (v k : Nat) : (tkS P v k).length = P.length := by simp [tkS]
theorem tkS_zero (P : List (List Nat)) (v : Nat) : tkS P v 0 = P := by
  apply List.ext_getElem (by simp [tkS])
  intro i h1 h2
  simp [tkS, List.getD_eq_getElem?_getD, h2]
theorem tkS_yes {P : List (List Nat)} {v k : Nat} (hm : k ∈ P.getD v []) : tkS P v (k + 1) = (tkS P v k).set k (newN P v k) := by
  apply List.ext_getElem (by simp [tkS])
  intro i h1 h2
  rw [List.getElem_set]
  simp only [tkS, List.getElem_map, List.getElem_range]
  by_cases h : k = i
  · subst h
    rw [if_pos ⟨by omega, hm⟩, if_pos rfl]
  · rw [if_neg h]
    have e : (i < k + 1 ∧ i ∈ P.getD v []) ↔ (i < k ∧ i ∈ P.getD v []) := ⟨fun ⟨a, b⟩ => ⟨by omega, b⟩, fun ⟨a, b⟩ => ⟨by omega, b⟩⟩
    simp only [e]
theorem tkS_no {P : List (List Nat)} {v k : Nat} (hm : ¬ k ∈ P.getD v []) : tkS P v (k + 1) = tkS P v k := by
  apply List.map_congr_left
  intro i hi
  have e : (i < k + 1 ∧ i ∈ P.getD v []) ↔ (i < k ∧ i ∈ P.getD v []) := ⟨fun ⟨a, b⟩ => ⟨by rcases Nat.lt_or_ge i k with h | h; exact h; exact absurd (show i = k by omega) (fun e => hm (e ▸ b)), b⟩, fun ⟨a, b⟩ => ⟨by omega, b⟩⟩
  simp only [e]
theorem tkS_at {P : List (List Nat)} {v k u : Nat} (hu : u < P.length) (h : ¬ (u < k ∧ u ∈ P.getD v [])) : (tkS P v k).getD u [] = P.getD u [] := by
  have h1 : u < (tkS P v k).length := by rw [tkS_length]; exact hu
  have e : (tkS P v k).getD u [] = (tkS P v k)[u] := by rw [List.getD_eq_getElem?_getD, List.getElem?_eq_getElem h1]; rfl
  rw [e]
  simp only [tkS, List.getElem_map, List.getElem_range]
  rw [if_neg h]
/-- Neighbours behind a node's going. -/
def takeL (P : List (List Nat)) (v : Nat) : List (List Nat) := tkS P v 8
theorem rowU_own {β : Type} (g : Nat) (f : β → List Nat) : Own (fun s W => RowU W g (f s)) := fun s X Y row hs hg hrow => by
  refine (hg.block g hs.lt (fun e => ?_)).trans hs
  obtain ⟨o, ho, hc⟩ := hrow g e.symm
  rw [hs] at ho
  cases ho
  cases hc
theorem ownFrom_grown {β : Type} {w : World} {G B : Nat} (hB : w.heap.size ≤ B) : OwnFrom B (fun (_ : β) W => w.grownBy W (some G)) := fun _ W W' row hs hg hr =>
  ⟨hg.os.trans hs.os, hg.tape.trans hs.tape, hg.output.trans hs.output, Nat.le_trans hs.size hg.size, fun k hk hne => (hg.block k (Nat.lt_of_lt_of_le hk hs.size) (fun e => by
    have := (hr k e.symm).1
    omega)).trans (hs.block k hk hne)⟩
theorem grown_of_below {w w' : World} (h : Below w.heap.size w w') (G : Nat) : w.grownBy w' (some G) := ⟨h.os, h.tape, h.output, h.size, fun k hk _ => h.block k hk⟩
theorem grown_trans {a b c : World} {G : Nat} (h : a.grownBy b (some G)) (k : b.grownBy c (some G)) : a.grownBy c (some G) :=
  ⟨k.os.trans h.os, k.tape.trans h.tape, k.output.trans h.output, Nat.le_trans h.size k.size, fun i hi hne => (k.block i (Nat.lt_of_lt_of_le hi h.size) hne).trans (h.block i hi hne)⟩
theorem grown_set (w : World) (G j : Nat) (y : Value) : w.grownBy (w.setCell ⟨G, j, none⟩ y) (some G) := ⟨rfl, rfl, rfl, by simp, fun k _ hne => Below.heap_setCell w ⟨G, j, none⟩ y k (fun e => hne (congrArg some e))⟩
theorem grown_drew1 {a b : World} {G : Nat} (h : a.grownBy b (some G)) : a.grownBy b.drew (some G) := ⟨h.os, h.tape, h.output, h.size, h.block⟩

set_option maxRecDepth 100000 in
set_option maxHeartbeats 2000000 in
theorem takeOut_any (G n c v : Nat) (P : List (List Nat)) (w : World) (hn : P.length = n) (h8 : n ≤ 8) (hU : RowU w G (P.map mskN)) (hP : ∀ p ∈ P, ∀ u ∈ p, u < n) (hv : v < n) (hvv : ¬ v ∈ P.getD v []) :
    Calls Try.prog 60 #[.slice (some ⟨G, 0, none⟩) n c, .int .i64 (v : Nat)] w fun e w' => (∃ r, e = .returned r) ∧ RowU w' G ((takeL P v).map mskN) ∧ w.grownBy w' (some G) := by
  refine (callsIn_wide (n := 6)).1 ?_
  have hP8 : ∀ p ∈ P, ∀ u ∈ p, u < 8 := fun p hp u hu => by have := hP p hp u hu; omega
  have hs := getD_small hP8 v
  have hw0 := hU.lt
  have HMN : Hid (∀ k, k ∈ P.getD v [] → k < n) := fun k hk => by
    rw [List.getD_eq_getElem?_getD, List.getElem?_eq_getElem (by omega)] at hk
    exact hP _ (List.getElem_mem _) k hk
  have HCELL : Hid (∀ (V : World) (k u : Nat), u < n → ¬ (u < k ∧ u ∈ P.getD v []) → RowU V G ((tkS P v k).map mskN) → V.cell? ⟨G, u, none⟩ = some (.int .u32 (mskN (P.getD u []) : Nat)) ∧ V.frozen? ⟨G, u, none⟩ = false) := fun V k u hu hne hR => by
    have h1 : u < (tkS P v k).length := by rw [tkS_length]; omega
    have := hR.cell u (by rw [List.length_map]; exact h1)
    rw [mapU_get h1, tkS_at (by omega) hne] at this
    exact ⟨this, hR.fz u⟩
  have HSET : Hid (∀ (V : World) (k : Nat), k ∈ P.getD v [] → RowU V G ((tkS P v k).map mskN) → RowU (V.setCell ⟨G, k, none⟩ (.int .u32 (mskN (newN P v k) : Nat))) G ((tkS P v (k + 1)).map mskN)) := fun V k hm hR => by
    have := hR.set k (mskN (newN P v k))
    rwa [tkS_yes hm, List.map_set]
  have HNO : Hid (∀ k, ¬ k ∈ P.getD v [] → tkS P v (k + 1) = tkS P v k) := fun k h => tkS_no h
  have HNV : Hid (∀ k, ¬ (v < k ∧ v ∈ P.getD v [])) := fun k h => hvv h.2
  have HOR := hid (fun u => bits_or (P.getD u []) (P.getD v []) (getD_small hP8 u) hs)
  have HW1 := hid (fun (u : Nat) (hu : u < 8) (U : World) => sWithout_any (P.getD u [] ++ P.getD v []) u U (app_small (getD_small hP8 u) hs) hu)
  have HW2 : Hid (∀ (u : Nat) (U : World), Calls Try.prog 41 #[.int .u32 (mskN ((P.getD u [] ++ P.getD v []).filter fun x => decide (x ≠ u)) : Nat), .int .i64 (v : Nat)] U fun e w' => e = .returned (.int .u32 (mskN (newN P v u) : Nat)) ∧ w' = U) := fun u U => sWithout_any _ v U (fil_small (app_small (getD_small hP8 u) hs) _) (by omega)
  have hR0 : RowU w G ((tkS P v 0).map mskN) := by rw [tkS_zero]; exact hU
  have hTL : takeL P v = tkS P v 8 := rfl
  rw [hTL]
  have HKV := hid (HCELL.out w 0 v hv (HNV.out 0) hR0)
  generalize hbv : P.getD v [] = bv at *
  have HBV := hid hbv
  clear hU hP hP8 hTL hvv hbv
  refine callsIn_of_wp_marks Try.func60 rfl trivial ?_ rfl
  simp only [Try.ntmps60, List.size_toArray, List.length_cons, List.length_nil, Nat.reduceAdd, Nat.reduceSub, Array.replicate_succ, Array.replicate_zero, List.push_toArray, List.append_toArray, List.nil_append, List.cons_append]
  obtain ⟨W0, hW0⟩ : ∃ W0, W0 = (w.alloc (.cells #[.slice (some ⟨G, 0, none⟩) n c] 49)).alloc (.cells #[.int .i64 (v : Nat)] 3) := ⟨_, rfl⟩
  have b0 : Boxed W0 w.heap.size 49 (.slice (some ⟨G, 0, none⟩) n c) := by rw [hW0]; exact (Boxed.new w _ _).alloc _
  have b1 : Boxed W0 (w.heap.size + 1) 3 (.int .i64 (v : Nat)) := by
    have h := Boxed.new (w.alloc (.cells #[.slice (some ⟨G, 0, none⟩) n c] 49)) 3 (.int .i64 (v : Nat))
    rw [World.size_alloc] at h
    rw [hW0]; exact h
  have hB0 : Below w.heap.size w W0 := by
    rw [hW0]
    exact ((Below.refl _ w).alloc (Nat.le_refl _) _).alloc (by simp) _
  have k0 := b0.cell
  have k1 := b1.cell
  have kG := (hB0.cell (p := ⟨G, v, none⟩) hw0).trans HKV.out.1
  rw [hW0] at k0 k1 kG
  gi_wp2
  rw [← hW0]
  clear k0 k1 kG hW0
  have hsz0 : w.heap.size + 1 < W0.heap.size := b1.lt
  refine wp_each (by omega) bv hs rfl rfl
    (fun k V => Boxed V w.heap.size 49 (.slice (some ⟨G, 0, none⟩) n c) ∧ Boxed V (w.heap.size + 1) 3 (.int .i64 (v : Nat)) ∧ RowU V G ((tkS P v k).map mskN) ∧ w.grownBy V (some G))
    (OwnFrom.and (Own.from (boxed_own _ _ (fun _ => _)) _) (OwnFrom.and (Own.from (boxed_own _ _ (fun _ => _)) _) (OwnFrom.and (Own.from (rowU_own _ (fun k : Nat => (tkS P v k).map mskN)) _) (ownFrom_grown (by omega)))))
    ⟨b0, b1, hR0.below hB0 hw0, grown_of_below hB0 G⟩
    (fun k => { tmps := #[.slice (some ⟨G, 0, none⟩) n c, .int .i64 (v : Nat), .pointer (some ⟨w.heap.size, 0, none⟩), .pointer (some ⟨w.heap.size + 1, 0, none⟩), .int .i64 (k : Nat), .slice (some ⟨G, 0, none⟩) n c, .int .i64 (v : Nat), .pointer (some ⟨G, v, none⟩), .int .u32 (mskN bv : Nat), .func (.func 40) #[.int .u32 (mskN bv : Nat)] #[], .int .i64 (k : Nat), undef, undef, undef, undef, undef, undef, undef, undef, undef, undef, undef, undef, undef, undef, undef, undef], defers := [] }) ?assign ?body ?skip ?done
  case assign =>
    intro l k W K hK
    gi_wp2
    exact hK
  case body =>
    rintro l k V hk hm ⟨h0, h1, h2, hB⟩
    have hkn := HMN.out k hm
    have hkv : k ≠ v := fun e => HNV.out (k + 1) ⟨by omega, e ▸ hm⟩
    have k0 := h0.cell
    have k1 := h1.cell
    have kG := (HCELL.out V k v hv (HNV.out k) h2).1
    rw [HBV.out] at kG
    have hU2 := HCELL.out V k k hkn (by omega) h2
    have hOR := HOR.out k
    have HW1k := hid (HW1.out k hk)
    have HW2k := hid (HW2.out k)
    have HSK := hid (fun U hU => HSET.out U k hm hU)
    generalize mskN ((P.getD k [] ++ bv).filter fun x => decide (x ≠ k)) = m2 at *
    generalize mskN (P.getD k [] ++ bv) = m1 at *
    generalize mskN (P.getD k []) = mu at *
    generalize mskN (newN P v k) = m3 at *
    generalize mskN bv = mv at *
    gi_wp2_with fail
    refine region_round (fun u => u.cell? ⟨w.heap.size, 0, none⟩ = some (.slice (some ⟨G, 0, none⟩) n c) ∧ u.cell? ⟨w.heap.size + 1, 0, none⟩ = some (.int .i64 (v : Nat)) ∧ u.cell? ⟨G, v, none⟩ = some (.int .u32 (mv : Nat))) (by kernel_rfl) (by kernel_rfl) (fun ⟨_, _, h⟩ => h) ⟨k0, k1, kG⟩ ?_
    intro hSd
    have hD : KeepsOthers V V.drew := KeepsOthers.drew V
    have q0 : Boxed V.drew w.heap.size 49 (.slice (some ⟨G, 0, none⟩) n c) := h0
    have q1 : Boxed V.drew (w.heap.size + 1) 3 (.int .i64 (v : Nat)) := h1
    have q2 : RowU V.drew G ((tkS P v k).map mskN) := h2
    have qB := grown_drew1 hB
    have kU : V.drew.cell? ⟨G, k, none⟩ = some (.int .u32 (mu : Nat)) := hU2.1
    have fU : V.drew.frozen? ⟨G, k, none⟩ = false := hU2.2
    clear k0 k1 kG hU2 h0 h1 h2 hB b0 b1 hB0
    generalize V.drew = U0 at *
    (try simp only [List.getElem_toArray, List.getElem_cons_zero, List.getElem_cons_succ])
    (try simp only [Act.put, List.setIfInBounds_toArray, List.set_cons_zero, List.set_cons_succ])
    refine wpAnyH_take (i := 0) (oi := _) (v := .slice (some ⟨G, 0, none⟩) n c) rfl (by kernel_rfl) (by kernel_rfl) (by kernel_rfl) (fun _ _ _ h => h) (Or.inl ⟨by rfl, ?_⟩) (by assumption) ?_
    · intro u' hSu
      (try simp only [List.getElem_toArray, List.getElem_cons_zero])
      obtain ⟨s0, s1, s2⟩ := hSu
      go_simp
    (try simp only [List.getElem_toArray, List.getElem_cons_zero])
    (try simp only [Act.put, List.setIfInBounds_toArray, List.set_cons_zero, List.set_cons_succ])
    refine wpAnyH_take (i := 1) (oi := _) (v := .int .i64 (k : Nat)) rfl (by kernel_rfl) (by kernel_rfl) (by kernel_rfl) (fun _ _ _ h => h) (Or.inl ⟨by rfl, ?_⟩) (by assumption) ?_
    · intro u' hSu
      (try simp only [List.getElem_toArray, List.getElem_cons_zero, List.getElem_cons_succ])
      go_simp
    (try simp only [List.getElem_toArray, List.getElem_cons_zero, List.getElem_cons_succ])
    (try simp only [Act.put, List.setIfInBounds_toArray, List.set_cons_zero, List.set_cons_succ])
    refine wpAnyH_take (i := 2) (oi := _) (v := .slice (some ⟨G, 0, none⟩) n c) rfl (by kernel_rfl) (by kernel_rfl) (by kernel_rfl) (fun _ _ _ h => h) (Or.inl ⟨by rfl, ?_⟩) (by assumption) ?_
    · intro u' hSu
      (try simp only [List.getElem_toArray, List.getElem_cons_zero, List.getElem_cons_succ])
      obtain ⟨s0, s1, s2⟩ := hSu
      go_simp
    (try simp only [List.getElem_toArray, List.getElem_cons_zero, List.getElem_cons_succ])
    (try simp only [Act.put, List.setIfInBounds_toArray, List.set_cons_zero, List.set_cons_succ])
    refine wpAnyH_take (i := 3) (oi := _) (v := .int .i64 (k : Nat)) rfl (by kernel_rfl) (by kernel_rfl) (by kernel_rfl) (fun _ _ _ h => h) (Or.inl ⟨by rfl, ?_⟩) (by assumption) ?_
    · intro u' hSu
      (try simp only [List.getElem_toArray, List.getElem_cons_zero, List.getElem_cons_succ])
      go_simp
    (try simp only [List.getElem_toArray, List.getElem_cons_zero, List.getElem_cons_succ])
    (try simp only [Act.put, List.setIfInBounds_toArray, List.set_cons_zero, List.set_cons_succ])
    refine wpAnyH_take (i := 4) (oi := _) (v := .pointer (some ⟨G, k, none⟩)) rfl (by kernel_rfl) (by kernel_rfl) (by kernel_rfl) (fun _ _ _ h => h) (Or.inl ⟨by rfl, ?_⟩) (by assumption) ?_
    · intro u' hSu
      (try simp only [List.getElem_toArray, List.getElem_cons_zero, List.getElem_cons_succ])
      go_simp
    (try simp only [List.getElem_toArray, List.getElem_cons_zero, List.getElem_cons_succ])
    (try simp only [Act.put, List.setIfInBounds_toArray, List.set_cons_zero, List.set_cons_succ])
    refine wpAnyH_take (i := 6) (oi := _) (v := .slice (some ⟨G, 0, none⟩) n c) rfl (by kernel_rfl) (by kernel_rfl) (by kernel_rfl) (fun _ _ _ h => h) (Or.inl ⟨by rfl, ?_⟩) (by assumption) ?_
    · intro u' hSu
      (try simp only [List.getElem_toArray, List.getElem_cons_zero, List.getElem_cons_succ])
      obtain ⟨s0, s1, s2⟩ := hSu
      go_simp
    (try simp only [List.getElem_toArray, List.getElem_cons_zero, List.getElem_cons_succ])
    (try simp only [Act.put, List.setIfInBounds_toArray, List.set_cons_zero, List.set_cons_succ])
    refine wpAnyH_take (i := 7) (oi := _) (v := .int .i64 (v : Nat)) rfl (by kernel_rfl) (by kernel_rfl) (by kernel_rfl) (fun _ _ _ h => h) (Or.inl ⟨by rfl, ?_⟩) (by assumption) ?_
    · intro u' hSu
      (try simp only [List.getElem_toArray, List.getElem_cons_zero, List.getElem_cons_succ])
      obtain ⟨s0, s1, s2⟩ := hSu
      go_simp
    (try simp only [List.getElem_toArray, List.getElem_cons_zero, List.getElem_cons_succ])
    (try simp only [Act.put, List.setIfInBounds_toArray, List.set_cons_zero, List.set_cons_succ])
    refine wpAnyH_take (i := 8) (oi := _) (v := .pointer (some ⟨G, v, none⟩)) rfl (by kernel_rfl) (by kernel_rfl) (by kernel_rfl) (fun _ _ _ h => h) (Or.inl ⟨by rfl, ?_⟩) (by assumption) ?_
    · intro u' hSu
      (try simp only [List.getElem_toArray, List.getElem_cons_zero, List.getElem_cons_succ])
      go_simp
    (try simp only [List.getElem_toArray, List.getElem_cons_zero, List.getElem_cons_succ])
    (try simp only [Act.put, List.setIfInBounds_toArray, List.set_cons_zero, List.set_cons_succ])
    refine wpAnyH_take (i := 9) (oi := _) (v := .int .u32 (mv : Nat)) rfl (by kernel_rfl) (by kernel_rfl) (by kernel_rfl) (fun _ _ _ h => h) (Or.inl ⟨by rfl, ?_⟩) (by assumption) ?_
    · intro u' hSu
      (try simp only [List.getElem_toArray, List.getElem_cons_zero, List.getElem_cons_succ])
      obtain ⟨s0, s1, s2⟩ := hSu
      go_simp
    (try simp only [List.getElem_toArray, List.getElem_cons_zero, List.getElem_cons_succ])
    (try simp only [Act.put, List.setIfInBounds_toArray, List.set_cons_zero, List.set_cons_succ])
    refine wpAnyH_take (i := 11) (oi := _) (v := .int .i64 (k : Nat)) rfl (by kernel_rfl) (by kernel_rfl) (by kernel_rfl) (fun _ _ _ h => h) (Or.inl ⟨by rfl, ?_⟩) (by assumption) ?_
    · intro u' hSu
      (try simp only [List.getElem_toArray, List.getElem_cons_zero, List.getElem_cons_succ])
      go_simp
    (try simp only [List.getElem_toArray, List.getElem_cons_zero, List.getElem_cons_succ])
    (try simp only [Act.put, List.setIfInBounds_toArray, List.set_cons_zero, List.set_cons_succ])
    refine wpAnyH_take (i := 13) (oi := _) (v := .int .i64 (v : Nat)) rfl (by kernel_rfl) (by kernel_rfl) (by kernel_rfl) (fun _ _ _ h => h) (Or.inl ⟨by rfl, ?_⟩) (by assumption) ?_
    · intro u' hSu
      (try simp only [List.getElem_toArray, List.getElem_cons_zero, List.getElem_cons_succ])
      obtain ⟨s0, s1, s2⟩ := hSu
      go_simp
    (try simp only [List.getElem_toArray, List.getElem_cons_zero, List.getElem_cons_succ])
    (try simp only [Act.put, List.setIfInBounds_toArray, List.set_cons_zero, List.set_cons_succ])
    refine wpAnyH_ready (rs := [5]) (by kernel_rfl) (by simp) (AllReadyH.cons rfl ?_ (AllReadyH.nil))
    · intro K' hK'
      (try simp only [List.getElem_toArray, List.getElem_cons_zero, List.getElem_cons_succ])
      go_simp
      refine hK'.out _ _ hSd (fun hSe => ?_)
      clear hK' K' hSe
      (try simp only [List.getElem_toArray, List.getElem_cons_zero, List.getElem_cons_succ])
      (try simp only [Act.put, List.setIfInBounds_toArray, List.set_cons_zero, List.set_cons_succ])
      refine wpAnyH_take (i := 10) (oi := _) (v := .int .u32 (m1 : Nat)) rfl (by kernel_rfl) (by kernel_rfl) (by kernel_rfl) (fun _ _ _ h => h) (Or.inl ⟨by rfl, ?_⟩) (by assumption) ?_
      · intro u' hSu
        (try simp only [List.getElem_toArray, List.getElem_cons_zero, List.getElem_cons_succ])
        go_simp
      (try simp only [List.getElem_toArray, List.getElem_cons_zero, List.getElem_cons_succ])
      (try simp only [Act.put, List.setIfInBounds_toArray, List.set_cons_zero, List.set_cons_succ])
      refine wpAnyH_ready (rs := [12]) (by kernel_rfl) (by simp) (AllReadyH.cons rfl ?_ (AllReadyH.nil))
      · intro K' hK'
        (try simp only [List.getElem_toArray, List.getElem_cons_zero, List.getElem_cons_succ])
        go_simp
        refine (HW1k.out _).mono ?_
        rintro e U1 ⟨rfl, hU1⟩
        subst hU1
        refine hK'.out _ _ hSd (fun hSe => ?_)
        clear hK' K' hSe
        generalize U1 = U0 at *
        (try simp only [List.getElem_toArray, List.getElem_cons_zero, List.getElem_cons_succ])
        (try simp only [Act.put, List.setIfInBounds_toArray, List.set_cons_zero, List.set_cons_succ])
        refine wpAnyH_ready (rs := [14]) (by kernel_rfl) (by simp) (AllReadyH.cons rfl ?_ (AllReadyH.nil))
        · intro K' hK'
          (try simp only [List.getElem_toArray, List.getElem_cons_zero, List.getElem_cons_succ])
          go_simp
          refine (HW2k.out _).mono ?_
          rintro e U1 ⟨rfl, hU1⟩
          subst hU1
          refine hK'.out _ _ hSd (fun hSe => ?_)
          clear hK' K' hSe
          generalize U1 = U0 at *
          (try simp only [List.getElem_toArray, List.getElem_cons_zero, List.getElem_cons_succ])
          (try simp only [Act.put, List.setIfInBounds_toArray, List.set_cons_zero, List.set_cons_succ])
          refine wpAnyH_take (i := 15) (oi := _) (v := .pointer (some ⟨G, k, none⟩)) rfl (by kernel_rfl) (by kernel_rfl) (by kernel_rfl) (fun _ _ _ h => h) (Or.inl ⟨by rfl, ?_⟩) (by assumption) ?_
          · intro u' hSu
            (try simp only [List.getElem_toArray, List.getElem_cons_zero, List.getElem_cons_succ])
            go_simp
          (try simp only [List.getElem_toArray, List.getElem_cons_zero, List.getElem_cons_succ])
          (try simp only [Act.put, List.setIfInBounds_toArray, List.set_cons_zero, List.set_cons_succ])
          refine wpAnyH_ready (rs := [16]) (by kernel_rfl) (by simp) (AllReadyH.cons rfl ?_ (AllReadyH.nil))
          · intro K' hK'
            (try simp only [List.getElem_toArray, List.getElem_cons_zero, List.getElem_cons_succ])
            go_simp
            refine hK'.out _ _ ⟨(boxed_offB q0 G k _ (by omega)).cell, (boxed_offB q1 G k _ (by omega)).cell, (World.cell?_setCell_other _ _ _ _ (fun e => hkv (congrArg Addr.off e))).trans hSd.2.2⟩ (fun _ => wpAnyH_done (by kernel_rfl) ?_ _)
            clear hK' K' hSd
            gi_wp2
            exact ⟨(hD.trans (KeepsOthers.setCell U0 _ _)).from _, boxed_offB q0 G k _ (by omega), boxed_offB q1 G k _ (by omega), HSK.out U0 q2, grown_trans qB (grown_set U0 G k _)⟩
  case skip =>
    rintro k V hk hm h
    rw [HNO.out k hm]
    exact h
  case done =>
    rintro D V hD ⟨h0, h1, h2, hB⟩ hK
    gi_wp2
    refine ⟨by simp, .inl ⟨_, _, rfl, run_takeDeferred hK, ?_⟩⟩
    refine ⟨_, results_none rfl _ _ _, ⟨_, rfl⟩, rowU_own G (fun (_ : Unit) => (tkS P v 8).map mskN) () V _ (some D) h2 (grownBy_putObj' V D _) (fun r e => by cases e; exact ⟨_, hK, rfl⟩), ?_⟩
    exact ownFrom_grown (β := Unit) (Nat.le_refl _) () V _ (some D) hB (grownBy_putObj' V D _) (fun r e => by cases e; exact ⟨by omega, _, hK, rfl⟩)
end Go.Proofs.Ytpjgnjdekepbdaa


/- Package graph: fewestLacking. -/
namespace Go.Proofs.Ytpjgnjdekepbdaa
open Go.RowKit Go.Shelf

attribute [local go_sem] Oper.semAt_some

/-- The one of a set, as far as k, that has the least, and that; of several the least one. -/
def fwN (f : Nat → Nat) (s : List Nat) : Nat → Option (Nat × Nat)
  | 0 => none
  | k + 1 => if k ∈ s then (match fwN f s k with | none => some (k, f k) | some (b, m) => if f k < m then some (k, f k) else some (b, m)) else fwN f s k
def fwB : Option (Nat × Nat) → Nat
  | none => 0
  | some (b, _) => b
def fwM : Option (Nat × Nat) → Int
  | none => -1
  | some (_, m) => (m : Int)
theorem fwN_no {f : Nat → Nat} {s : List Nat} {k : Nat} (h : ¬ k ∈ s) : fwN f s (k + 1) = fwN f s k := by rw [fwN, if_neg h]
theorem fwN_first {f : Nat → Nat} {s : List Nat} {k : Nat} (h : k ∈ s) (e : fwN f s k = none) : fwN f s (k + 1) = some (k, f k) := by rw [fwN, if_pos h, e]
theorem fwN_less {f : Nat → Nat} {s : List Nat} {k b m : Nat} (h : k ∈ s) (e : fwN f s k = some (b, m)) (hl : f k < m) : fwN f s (k + 1) = some (k, f k) := by rw [fwN, if_pos h, e]; exact if_pos hl
theorem fwN_more {f : Nat → Nat} {s : List Nat} {k b m : Nat} (h : k ∈ s) (e : fwN f s k = some (b, m)) (hl : ¬ f k < m) : fwN f s (k + 1) = some (b, m) := by rw [fwN, if_pos h, e]; exact if_neg hl
/-- The node that is taken out next. -/
def fewV (P : List (List Nat)) (s : List Nat) : Nat := fwB (fwN (lackN P) s 8)
theorem lackN_le (P : List (List Nat)) (v : Nat) : lackN P v ≤ 32 := by
  have := endsN_le P v 8
  rw [lackN]; omega

set_option maxRecDepth 100000 in
set_option maxHeartbeats 2000000 in
theorem fewest_any (G n c : Nat) (P : List (List Nat)) (s : List Nat) (w : World) (hn : P.length = n) (h8 : n ≤ 8) (hU : RowU w G (P.map mskN)) (hP : ∀ p ∈ P, ∀ u ∈ p, u < n) (hs : ∀ u ∈ s, u < n) :
    Calls Try.prog 59 #[.slice (some ⟨G, 0, none⟩) n c, .int .u32 (mskN s : Nat)] w fun e w' => e = .returned (.int .i64 (fewV P s : Nat)) ∧ Below w.heap.size w w' := by
  refine (callsIn_wide (n := 6)).1 ?_
  have hs8 : ∀ u ∈ s, u < 8 := fun u hu => by have := hs u hu; omega
  have hw0 := hU.lt
  have HL := hid (fun (V : World) (hB : Below w.heap.size w V) (k : Nat) (hk : k < n) => lacking_any G n c k P V hn h8 (hU.below hB hw0) hP hk)
  have HN := hid (fun k (h : ¬ k ∈ s) => fwN_no (f := lackN P) h)
  have HF := hid (fun k (h : k ∈ s) e => fwN_first (f := lackN P) h e)
  have HS := hid (fun k b m (h : k ∈ s) e hl => fwN_less (f := lackN P) (b := b) (m := m) h e hl)
  have HM := hid (fun k b m (h : k ∈ s) e hl => fwN_more (f := lackN P) (b := b) (m := m) h e hl)
  have HSN := hid hs
  have hfe : fewV P s = fwB (fwN (lackN P) s 8) := rfl
  rw [hfe]
  have hf0 : fwN (lackN P) s 0 = none := rfl
  have HLL := hid (fun k => lackN_le P k)
  generalize fwN (lackN P) s = fw at *
  generalize lackN P = lk at *
  clear hU hP hs hfe
  refine callsIn_of_wp_marks Try.func59 rfl trivial ?_ rfl
  simp only [Try.ntmps59, List.size_toArray, List.length_cons, List.length_nil, Nat.reduceAdd, Nat.reduceSub, Array.replicate_succ, Array.replicate_zero, List.push_toArray, List.append_toArray, List.nil_append, List.cons_append]
  obtain ⟨W0, hW0⟩ : ∃ W0, W0 = ((w.alloc (.cells #[.slice (some ⟨G, 0, none⟩) n c] 49)).alloc (.cells #[.int .i64 0] 3)).alloc (.cells #[.int .i64 (-1)] 3) := ⟨_, rfl⟩
  have b0 : Boxed W0 w.heap.size 49 (.slice (some ⟨G, 0, none⟩) n c) := by rw [hW0]; exact ((Boxed.new w _ _).alloc _).alloc _
  have b1 : Boxed W0 (w.heap.size + 1) 3 (.int .i64 (fwB (fw 0) : Nat)) := by
    have h := (Boxed.new (w.alloc (.cells #[.slice (some ⟨G, 0, none⟩) n c] 49)) 3 (.int .i64 0)).alloc (.cells #[.int .i64 (-1)] 3)
    rw [World.size_alloc] at h
    rw [hW0, hf0]; exact h
  have b2 : Boxed W0 (w.heap.size + 1 + 1) 3 (.int .i64 (fwM (fw 0))) := by
    have h := Boxed.new ((w.alloc (.cells #[.slice (some ⟨G, 0, none⟩) n c] 49)).alloc (.cells #[.int .i64 0] 3)) 3 (.int .i64 (-1))
    rw [World.size_alloc, World.size_alloc] at h
    rw [hW0, hf0]; exact h
  have hB0 : Below w.heap.size w W0 := by
    rw [hW0]
    exact (((Below.refl _ w).alloc (Nat.le_refl _) _).alloc (by simp) _).alloc (by simp; omega) _
  gi_wp2
  rw [← hW0]
  clear hW0
  have hsz0 : w.heap.size + 1 + 1 < W0.heap.size := b2.lt
  refine wp_each (by omega) s hs8 rfl rfl
    (fun k V => Boxed V w.heap.size 49 (.slice (some ⟨G, 0, none⟩) n c) ∧ Boxed V (w.heap.size + 1) 3 (.int .i64 (fwB (fw k) : Nat)) ∧ Boxed V (w.heap.size + 1 + 1) 3 (.int .i64 (fwM (fw k))) ∧ Below w.heap.size w V)
    (OwnFrom.and (Own.from (boxed_own _ _ (fun _ => _)) _) (OwnFrom.and (Own.from (boxed_own _ _ (fun k : Nat => .int .i64 (fwB (fw k) : Nat))) _) (OwnFrom.and (Own.from (boxed_own _ _ (fun k : Nat => .int .i64 (fwM (fw k)))) _) (ownFrom_below (Nat.le_refl _) (by omega)))))
    ⟨b0, b1, b2, hB0⟩
    (fun k => { tmps := #[.slice (some ⟨G, 0, none⟩) n c, .int .u32 (mskN s : Nat), .pointer (some ⟨w.heap.size, 0, none⟩), undef, .int .i64 0, .pointer (some ⟨w.heap.size + 1, 0, none⟩), .pointer (some ⟨w.heap.size + 1 + 1, 0, none⟩), .int .i64 (k : Nat), undef, .int .u32 (mskN s : Nat), .func (.func 40) #[.int .u32 (mskN s : Nat)] #[], .int .i64 (k : Nat), undef, undef, undef, undef, undef, undef, undef, undef, undef, undef, undef, undef, undef], defers := [] }) ?assign ?body ?skip ?done
  case assign =>
    intro l k W K hK
    gi_wp2
    exact hK
  case body =>
    rintro l k V hk hm ⟨h0, h1, h2, hB⟩
    have HLk := hid (HL.out V hB k (HSN.out k hm))
    have hl32 := HLL.out k
    have HFk := hid (HF.out k hm)
    have HSk := hid (fun b m => HS.out k b m hm)
    have HMk := hid (fun b m => HM.out k b m hm)
    have k0 := h0.cell
    have HBV := hid hB
    have HQ := hid (And.intro h0 (And.intro h1 h2))
    have hlt2 := h2.lt
    clear h0 h1 h2 hB b0 b1 b2 hB0
    generalize fw k = st at *
    generalize lk k = lv at *
    have hlv : ¬ (lv : Int) < 0 := by omega
    cases st with
    | none =>
      have he := HFk.out rfl
      have HE := hid he
      clear he
      gi_wp2_with (refine ⟨trivial, ?_⟩; gi_at_call 65; refine (CallsIn.inRound l (callsIn_wide.2 HLk.out)).mono ?_; rintro e V2 ⟨rfl, hb⟩; have q0 := boxed_at HQ.out.1 hb (by omega); have q1 := boxed_at HQ.out.2.1 hb (by omega); have q2 := boxed_at HQ.out.2.2 hb hlt2; have j1 := q1.cell; have j2 := q2.cell; have g1 := q1.frozen; have g2 := q2.frozen; have j2' : V2.cell? ⟨w.heap.size + 1 + 1, 0, none⟩ = some (.int .i64 (-1)) := j2; clear j2)
      refine ⟨((keeps_of_below hb).trans ((KeepsOthers.setCell V2 _ _).trans (KeepsOthers.setCell _ _ _))).from _, boxed_offB (boxed_offB q0 _ 0 _ (by omega)) _ 0 _ (by omega), ?_, ?_, ?_⟩
      · rw [HE.out]; exact boxed_offB (q1.set _) _ 0 _ (by omega)
      · rw [HE.out]; exact (boxed_offB q2 _ 0 _ (by omega)).set _
      · exact ((HBV.out.trans (hb.mono HBV.out.size)).setCell (p := ⟨w.heap.size + 1, 0, none⟩) (by simp) _).setCell (p := ⟨w.heap.size + 1 + 1, 0, none⟩) (by show w.heap.size ≤ w.heap.size + 1 + 1; omega) _
    | some bm =>
      obtain ⟨b, m⟩ := bm
      have hm0 : ¬ (m : Int) < 0 := by omega
      by_cases hlm : lv < m
      · have he := HSk.out b m rfl hlm
        have HE := hid he
        have hlm' : (lv : Int) < (m : Int) := by omega
        clear he
        gi_wp2_with (refine ⟨trivial, ?_⟩; gi_at_call 65; refine (CallsIn.inRound l (callsIn_wide.2 HLk.out)).mono ?_; rintro e V2 ⟨rfl, hb⟩; have q0 := boxed_at HQ.out.1 hb (by omega); have q1 := boxed_at HQ.out.2.1 hb (by omega); have q2 := boxed_at HQ.out.2.2 hb hlt2; have j1 := q1.cell; have j2 := q2.cell; have g1 := q1.frozen; have g2 := q2.frozen; have j2' : V2.cell? ⟨w.heap.size + 1 + 1, 0, none⟩ = some (.int .i64 (m : Nat)) := j2; clear j2)
        refine ⟨((keeps_of_below hb).trans ((KeepsOthers.setCell V2 _ _).trans (KeepsOthers.setCell _ _ _))).from _, boxed_offB (boxed_offB q0 _ 0 _ (by omega)) _ 0 _ (by omega), ?_, ?_, ?_⟩
        · rw [HE.out]; exact boxed_offB (q1.set _) _ 0 _ (by omega)
        · rw [HE.out]; exact (boxed_offB q2 _ 0 _ (by omega)).set _
        · exact ((HBV.out.trans (hb.mono HBV.out.size)).setCell (p := ⟨w.heap.size + 1, 0, none⟩) (by simp) _).setCell (p := ⟨w.heap.size + 1 + 1, 0, none⟩) (by show w.heap.size ≤ w.heap.size + 1 + 1; omega) _
      · have he := HMk.out b m rfl hlm
        have HE := hid he
        have hlm' : ¬ (lv : Int) < (m : Int) := by omega
        clear he hlm
        gi_wp2_with (refine ⟨trivial, ?_⟩; gi_at_call 65; refine (CallsIn.inRound l (callsIn_wide.2 HLk.out)).mono ?_; rintro e V2 ⟨rfl, hb⟩; have q0 := boxed_at HQ.out.1 hb (by omega); have q1 := boxed_at HQ.out.2.1 hb (by omega); have q2 := boxed_at HQ.out.2.2 hb hlt2; have j2 := q2.cell; have j2' : V2.cell? ⟨w.heap.size + 1 + 1, 0, none⟩ = some (.int .i64 (m : Nat)) := j2; clear j2)
        exact ⟨(keeps_of_below hb).from _, q0, by rw [HE.out]; exact q1, by rw [HE.out]; exact q2, HBV.out.trans (hb.mono HBV.out.size)⟩
  case skip =>
    rintro k V hk hm h
    rw [HN.out k hm]
    exact h
  case done =>
    rintro D V hD ⟨h0, h1, h2, hB⟩ hK
    have hc := h1.cell
    gi_wp2
    refine ⟨by simp, .inl ⟨_, _, rfl, run_takeDeferred hK, ?_⟩⟩
    exact ⟨_, results_tmp rfl _ _ _, rfl, hB.trans (belowK_b (w := w) (Nat.le_refl _) V D _ _ (by omega) hK rfl rfl)⟩
end Go.Proofs.Ytpjgnjdekepbdaa


/- Sets of package graph: lists. -/
namespace Go.Proofs.Ytpjgnjdekepbdaa
open Go.RowKit Go.Shelf

/-- The block g holds these slices of ints. -/
def RowV (w : World) (g : Nat) (l : List Value) : Prop := w.heap[g]? = some (.cells l.toArray 23 (0, 0))
theorem RowV.cell {w : World} {g : Nat} {l : List Value} (h : RowV w g l) (j : Nat) (hj : j < l.length) : w.cell? ⟨g, j, none⟩ = some l[j] := by
  rw [cell_of_row w g j _ _ (0, 0) h]
  simp [hj]
theorem RowV.fz {w : World} {g : Nat} {l : List Value} (h : RowV w g l) (j : Nat) : w.frozen? ⟨g, j, none⟩ = false := frozen_of_row w g j _ _ h
theorem RowV.lt {w : World} {g : Nat} {l : List Value} (h : RowV w g l) : g < w.heap.size := (Array.getElem?_eq_some_iff.1 h).1
theorem RowV.below {w w' : World} {g b : Nat} {l : List Value} (h : RowV w g l) (hb : Below b w w') (hg : g < b) : RowV w' g l := (hb.block g hg).trans h
theorem RowV.set {w : World} {g : Nat} {l : List Value} (h : RowV w g l) (j : Nat) (y : Value) : RowV (w.setCell ⟨g, j, none⟩ y) g (l.set j y) := by
  have h2 := heap_setCell_same w g j _ _ y h
  rw [RowV, h2]
  simp
theorem Try.infoInts1 : (Try.prog.info? 23).map (fun i => (i.zero, i.size, i.bytes)) = some (some (.slice none 0 0), 1, 24) := by kernel_rfl
theorem made_slices (n : Nat) : (madeCells (Value.slice none 0 0).cells (n * 1)).toList = List.replicate n (Value.slice none 0 0) := by
  rw [show (Value.slice none 0 0).cells = #[Value.slice none 0 0] from rfl, toList_madeCells_one, Nat.mul_one]
/-- What a set's list holds. -/
def memL (s : List Nat) : List Int := iL (memU s 8)
/-- Lists that are written as far as i. -/
def SoFar (w : World) (P : List (List Nat)) (l : List Value) (i : Nat) : Prop := l.length = P.length ∧ ∀ j (hj : j < P.length), j < i → ∃ d cd, l[j]? = some (.slice d (memL P[j]).length cd) ∧ IntS w d (memL P[j])
theorem SoFar.below {w w' : World} {P : List (List Nat)} {l : List Value} {i : Nat} (h : SoFar w P l i) (hb : Below w.heap.size w w') : SoFar w' P l i := ⟨h.1, fun j hj hi => by
  obtain ⟨d, cd, h1, h2⟩ := h.2 j hj hi
  exact ⟨d, cd, h1, h2.below hb⟩⟩
theorem IntS.off {w : World} {d : Option Addr} {l : List Int} (h : IntS w d l) {g j : Nat} {y : Value} (hne : ∀ g' o', d = some ⟨g', o', none⟩ → l ≠ [] → g' ≠ g) : IntS (w.setCell ⟨g, j, none⟩ y) d l := fun k hk => by
  obtain ⟨g', o', h1, h2, h3⟩ := h k hk
  have hn := hne g' o' h1 (fun e => by rw [e] at hk; simp at hk)
  refine ⟨g', o', h1, by simpa using h2, ?_⟩
  rw [← h3]
  have e := Below.heap_setCell w ⟨g, j, none⟩ y g' (by show g' ≠ g; exact hn)
  exact World.cell?_of_block e
theorem ints_ne {w : World} {d : Option Addr} {l : List Int} {g : Nat} {vs : List Value} (h : IntS w d l) (hg : RowV w g vs) (hv : ∀ v ∈ vs, ∃ a n c, v = .slice a n c) : ∀ g' o', d = some ⟨g', o', none⟩ → l ≠ [] → g' ≠ g := fun g' o' hd hl e => by
  subst e
  have hp : 0 < l.length := List.length_pos_iff.2 hl
  obtain ⟨g2, o2, h1, h2, h3⟩ := h 0 hp
  rw [hd] at h1
  cases h1
  rw [cell_of_row w g' _ _ _ (0, 0) hg] at h3
  rw [List.getElem?_toArray] at h3
  obtain ⟨a, n, c, e⟩ := hv _ (List.mem_of_getElem? h3)
  cases e
/-- A block of slices: each is one. -/
def Slv (l : List Value) : Prop := ∀ v ∈ l, ∃ a n c, v = Value.slice a n c

set_option maxRecDepth 100000 in
set_option maxHeartbeats 1000000 in
theorem lists_any (a : Option Addr) (ca : Nat) (P : List (List Nat)) (w : World) (hP : ∀ p ∈ P, ∀ u ∈ p, u < 8) (hn : P.length ≤ 5000) (hS : ∀ k (h : k < P.length), ∃ g o, a = some ⟨g, o, none⟩ ∧ g < w.heap.size ∧ w.cell? ⟨g, o + k, none⟩ = some (.int .u32 (mskN P[k] : Nat))) :
    Calls Try.prog 42 #[.slice a P.length ca] w fun e w' => ∃ G, e = .returned (.slice (some ⟨G, 0, none⟩) P.length P.length) ∧ w.heap.size ≤ G ∧ LsS w' (some ⟨G, 0, none⟩) (P.map memL) ∧ Below w.heap.size w w' := by
  obtain ⟨i0, hi0, hz0, hz1, hz2⟩ := info_parts Try.infoInts1
  have HS := hid hS
  have HP := hid hP
  have HLI := hid (fun (s : List Nat) (hs : ∀ u ∈ s, u < 8) (U : World) => list_any s U hs)
  clear hS hP
  go_enter Try.func42, Try.ntmps42
  go_wp2_with (first
    | (at_make; refine wpList_make_full _ rfl _ _ 22 rfl w.heap.size 23 i0 (.slice none 0 0) 1 Try.underlying22 hi0 hz0 hz1 .i64 .i64 _ _ P.length rfl rfl (by go_num) (by go_num) (by rw [hz2]; omega) (by unfold maxLen; omega) (Nat.le_refl _) ?_; intro w2 hown2 hgrow2))
  have hb2 := block_of_own hown2
  rw [made_slices] at hb2
  have HB2 : Hid (Below w.heap.size w w2) := (Below.refl _ w).grown hgrow2 (Nat.le_refl _) (fun k e => by cases e)
  have HI : Hid (RowV w2 w.heap.size (List.replicate P.length (.slice none 0 0))) := hb2
  clear hown2 hgrow2 hb2
  go_wp2_with fail
  go_loopw [11] (fun iv wr => ∃ (i : Nat) (vs : List Value), i ≤ P.length ∧ iv = .int .i64 i ∧ Hid (RowV wr w.heap.size vs) ∧ Hid (SoFar wr P vs i) ∧ Hid (Slv vs) ∧ Hid (Below w.heap.size w wr)) (fun iv _ => P.length - (intOf iv).toNat)
  case atStart => exact ⟨0, _, Nat.zero_le _, rfl, HI, ⟨by simp, fun j _ h => absurd h (by omega)⟩, fun v hv => ⟨none, 0, 0, (List.mem_replicate.1 hv).2⟩, HB2⟩
  case round =>
    obtain ⟨i, vs, hi, rfl, HR, HSF, HSV, HB⟩ := hrel
    clear HI HB2
    by_cases hlt : i < P.length
    · obtain ⟨g, o, rfl, hg, c0⟩ := HS.out i hlt
      have c1 := (HB.out.cell (p := ⟨g, o + i, none⟩) hg).trans c0
      have HL := hid (HLI.out P[i] (HP.out _ (List.getElem_mem hlt)))
      have hlv := HSF.out.1
      clear c0
      go_wp2_with fail
      refine (HL.out _).mono ?_
      rintro e w3 ⟨v, rfl, hv, hb3⟩
      obtain ⟨d, cd, rfl, hI⟩ := hv.ints
      have hR3 := HR.out.below hb3 HR.out.lt
      have hSF3 := HSF.out.below hb3
      have k3 := hR3.cell i (by omega)
      have f3 := hR3.fz i
      have HBS := hid ((HB.out.trans (hb3.mono HB.out.size)).setCell (p := ⟨w.heap.size, i, none⟩) (Nat.le_refl _) (.slice d (memL P[i]).length cd))
      have HR4 := hid (hR3.set i (.slice d (memL P[i]).length cd))
      have HSV4 : Hid (Slv (vs.set i (.slice d (memL P[i]).length cd))) := fun x hx => by
        rcases List.mem_or_eq_of_mem_set hx with h | h
        · exact HSV.out x h
        · exact ⟨_, _, _, h⟩
      have HSF4 : Hid (SoFar (w3.setCell ⟨w.heap.size, i, none⟩ (.slice d (memL P[i]).length cd)) P (vs.set i (.slice d (memL P[i]).length cd)) (i + 1)) := by
        refine ⟨by rw [List.length_set]; exact hlv, fun j hj hji => ?_⟩
        by_cases e : j = i
        · subst e
          exact ⟨d, cd, by rw [List.getElem?_set_self (by omega)], IntS.off hI (ints_ne hI hR3 HSV.out)⟩
        · obtain ⟨d', cd', h1, h2⟩ := hSF3.2 j hj (by omega)
          exact ⟨d', cd', by rw [List.getElem?_set_ne (fun e' => e e'.symm)]; exact h1, IntS.off h2 (ints_ne h2 hR3 HSV.out)⟩
      rw [show iL (memU P[i] 8) = memL P[i] from rfl]
      generalize (memL P[i]).length = ln at *
      generalize vs[i]'(by omega) = z at *
      clear hR3 hSF3 hb3 hI hv c1
      go_wp2
      go_roundw
      case rel => exact ⟨i + 1, _, by omega, by go_num, HR4, HSF4, HSV4, HBS⟩
      case measure => simp [intOf]; omega
    · obtain rfl : i = P.length := by omega
      have HFI : Hid (LsS wr (some ⟨w.heap.size, 0, none⟩) (P.map memL)) := fun k hk => by
        rw [List.length_map] at hk
        obtain ⟨d, cd, h1, h2⟩ := HSF.out.2 k hk hk
        obtain ⟨h3, h4⟩ := List.getElem?_eq_some_iff.1 h1
        refine ⟨w.heap.size, 0, d, cd, rfl, HR.out.lt, ?_, by rw [List.getElem_map]; exact h2⟩
        rw [Nat.zero_add, HR.out.cell k h3, h4, List.getElem_map]
      go_wp2
      go_ret
      exact ⟨w.heap.size, rfl, Nat.le_refl _, HFI.out, HB.out⟩
end Go.Proofs.Ytpjgnjdekepbdaa

