/- Rows of whole numbers in memory; goOn of package chain. -/
import Derived.Test.YtbejijgelljeaaaGreatDoorElmPPwDicP
import Derived.Test.YtbejijgelljeaaaGreatDoorAnyUPwChnF
namespace Go.Proofs.YtbejijgelljeaaaGreatDoor
open Go.RowKit Go.Shelf
theorem Tryz.infoNat : (Tryz.prog.info? 31).map (fun i => (i.zero, i.size, i.bytes)) = some (some (.string ⟨#[]⟩), 1, 16) := by kernel_rfl
theorem Tryz.infoNats : (Tryz.prog.info? 100).map (fun i => (i.zero, i.size, i.bytes)) = some (some (.slice none 0 0), 1, 24) := by kernel_rfl
/-- Whole numbers as a call has them. -/
def stC (l : List Nat) : List Value := l.map fun x => .string (B x)
theorem stC_snoc (l : List Nat) (x : Nat) : stC (l ++ [x]) = stC l ++ [.string (B x)] := by simp [stC]
def NtS (w : World) (a : Option Addr) (l : List Nat) : Prop := ∀ k (h : k < l.length), ∃ g o, a = some ⟨g, o, none⟩ ∧ g < w.heap.size ∧ w.cell? ⟨g, o + k, none⟩ = some (.string (B l[k]))
theorem NtS.below {w w' : World} {a : Option Addr} {l : List Nat} (h : NtS w a l) (hb : Below w.heap.size w w') : NtS w' a l := fun k hk => by
  obtain ⟨g, o, h1, h2, h3⟩ := h k hk
  exact ⟨g, o, h1, Nat.lt_of_lt_of_le h2 hb.size, (hb.cell (p := ⟨g, _, none⟩) h2).trans h3⟩
/-- The first n of a function. -/
def lN (n : Nat) (f : Nat → Nat) : List Nat := (List.range n).map f
theorem lN_length (n : Nat) (f : Nat → Nat) : (lN n f).length = n := by simp [lN]
theorem lN_get {n : Nat} {f : Nat → Nat} {i : Nat} (h : i < (lN n f).length) : (lN n f)[i] = f i := by simp [lN]
theorem lN_snoc (n : Nat) (f : Nat → Nat) : lN (n + 1) f = lN n f ++ [f n] := by simp [lN, List.range_succ]
theorem lN_congr {n : Nat} {f g : Nat → Nat} (h : ∀ i, i < n → f i = g i) : lN n f = lN n g := List.map_congr_left fun i hi => h i (List.mem_range.1 hi)
theorem lN_set {n : Nat} (f : Nat → Nat) (j v : Nat) : (lN n f).set j v = lN n fun i => if i = j then v else f i := by
  refine List.ext_getElem (by simp [lN]) fun k h1 h2 => ?_
  rw [List.getElem_set]
  simp only [lN, List.getElem_map, List.getElem_range]
  by_cases e : j = k
  · rw [if_pos e, if_pos e.symm]
  · rw [if_neg e, if_neg (Ne.symm e)]
/-- Rows of them. -/
def NtR (w : World) (a : Option Addr) (n : Nat) (M : Nat → Nat → Nat) : Prop := ∀ i, i < n → ∃ g o b c, a = some ⟨g, o, none⟩ ∧ g < w.heap.size ∧ w.cell? ⟨g, o + i, none⟩ = some (.slice b n c) ∧ NtS w b (lN n (M i))
theorem NtR.below {w w' : World} {a : Option Addr} {n : Nat} {M : Nat → Nat → Nat} (h : NtR w a n M) (hb : Below w.heap.size w w') : NtR w' a n M := fun i hi => by
  obtain ⟨g, o, b, c, h1, h2, h3, h4⟩ := h i hi
  exact ⟨g, o, b, c, h1, Nat.lt_of_lt_of_le h2 hb.size, (hb.cell (p := ⟨g, _, none⟩) h2).trans h3, h4.below hb⟩
theorem NtR.at {w : World} {a : Option Addr} {n : Nat} {M : Nat → Nat → Nat} (h : NtR w a n M) {i j : Nat} (hi : i < n) (hj : j < n) : ∃ g o gr or_ cr, a = some ⟨g, o, none⟩ ∧ g < w.heap.size ∧ gr < w.heap.size ∧ w.cell? ⟨g, o + i, none⟩ = some (.slice (some ⟨gr, or_, none⟩) n cr) ∧ w.cell? ⟨gr, or_ + j, none⟩ = some (.string (B (M i j))) := by
  obtain ⟨g, o, b, c, h1, h2, h3, h4⟩ := h i hi
  obtain ⟨gr, or_, rfl, h5, h6⟩ := h4 j (by rw [lN_length]; exact hj)
  rw [lN_get] at h6
  exact ⟨g, o, gr, or_, c, h1, h2, h5, h3, h6⟩
/-- A whole block of them. -/
def RwN (w : World) (g : Nat) (l : List Nat) : Prop := w.heap[g]? = some (.cells (stC l).toArray 31 (0, 0))
theorem RwN.lt {w : World} {g : Nat} {l : List Nat} (h : RwN w g l) : g < w.heap.size := (Array.getElem?_eq_some_iff.1 h).1
theorem RwN.cell {w : World} {g : Nat} {l : List Nat} (h : RwN w g l) (j : Nat) (hj : j < l.length) : w.cell? ⟨g, j, none⟩ = some (.string (B l[j])) := by
  rw [cell_of_row w g j _ _ (0, 0) h]
  simp [stC, hj]
theorem RwN.fz {w : World} {g : Nat} {l : List Nat} (h : RwN w g l) (j : Nat) : w.frozen? ⟨g, j, none⟩ = false := frozen_of_row w g j _ _ h
theorem RwN.below {w w' : World} {g b : Nat} {l : List Nat} (h : RwN w g l) (hb : Below b w w') (hg : g < b) : RwN w' g l := (hb.block g hg).trans h
theorem RwN.set {w : World} {g : Nat} {l : List Nat} (h : RwN w g l) (j v : Nat) : RwN (w.setCell ⟨g, j, none⟩ (.string (B v))) g (l.set j v) := by
  have h1 : (w.setCell ⟨g, j, none⟩ (.string (B v))).heap[g]? = some (.cells ((stC l).toArray.setIfInBounds j (.string (B v))) 31 (0, 0)) := heap_setCell_same w g j _ _ _ h
  rw [RwN, h1]
  simp [stC, List.map_set]
theorem RwN.st {w : World} {g : Nat} {l : List Nat} (h : RwN w g l) : NtS w (some ⟨g, 0, none⟩) l := fun k hk => ⟨g, 0, rfl, h.lt, by rw [Nat.zero_add]; exact h.cell k hk⟩
theorem made_nats (n : Nat) : (madeCells (Value.string ⟨#[]⟩).cells (n * 1)).toList = stC (lN n fun _ => 0) := by
  rw [show (Value.string ⟨#[]⟩).cells = #[Value.string ⟨#[]⟩] from rfl, toList_madeCells_one, Nat.mul_one]
  refine List.ext_getElem (by simp [stC, lN]) fun k h1 h2 => ?_
  simp [stC, lN, B_zero]
/-- A block under way, made in this call. -/
structure MN (w : World) (G : Nat) (l : List Nat) (U : World) : Prop where
  row : RwN U G l
  bel : Below w.heap.size w U
theorem MN.step {w U U' : World} {G : Nat} {l : List Nat} (h : MN w G l U) (hb : Below U.heap.size U U') : MN w G l U' := ⟨h.row.below hb h.row.lt, h.bel.trans (hb.mono h.bel.size)⟩
theorem MN.drew {w U : World} {G : Nat} {l : List Nat} (h : MN w G l U) : MN w G l U.drew := ⟨h.row, h.bel.drew⟩
theorem MN.put {w U : World} {G : Nat} {l : List Nat} (h : MN w G l U) (hg : w.heap.size ≤ G) (i x : Nat) : MN w G (l.set i x) (U.setCell ⟨G, i, none⟩ (.string (B x))) := ⟨h.row.set i x, h.bel.setCell (p := ⟨G, i, none⟩) hg _⟩
/-- One step on, under way: so many states, and of the next one so many. -/
def goP (Cn : Nat → Nat → Nat) (r : Nat → Nat) (i j : Nat) (k : Nat) : Nat := sumN (fun t => r t * Cn t k) (if k < j then i + 1 else i)
theorem goP_set {n : Nat} {Cn : Nat → Nat → Nat} {r : Nat → Nat} {i j : Nat} : (lN n (goP Cn r i j)).set j (sumN (fun t => r t * Cn t j) (i + 1)) = lN n (goP Cn r i (j + 1)) := by
  rw [lN_set]
  refine lN_congr fun k _ => ?_
  by_cases e : k = j
  · subst e
    rw [if_pos rfl, goP, if_pos (by omega)]
  · rw [if_neg e, goP, goP]
    by_cases h : k < j
    · rw [if_pos h, if_pos (by omega)]
    · rw [if_neg h, if_neg (by omega)]
theorem goP_next {n : Nat} {Cn : Nat → Nat → Nat} {r : Nat → Nat} {i : Nat} : lN n (goP Cn r i n) = lN n (goP Cn r (i + 1) 0) := lN_congr fun k hk => by rw [goP, goP, if_pos hk, if_neg (Nat.not_lt_zero k)]
theorem goP_done {n : Nat} {Cn : Nat → Nat → Nat} {r : Nat → Nat} : lN n (goP Cn r n 0) = lN n (goN n Cn r) := lN_congr fun k _ => by rw [goP, goN, if_neg (Nat.not_lt_zero k)]
theorem goP_start {n : Nat} {Cn : Nat → Nat → Nat} {r : Nat → Nat} : lN n (goP Cn r 0 0) = lN n fun _ => 0 := lN_congr fun k _ => by rw [goP, if_neg (Nat.not_lt_zero k)]; rfl
set_option maxRecDepth 100000 in
set_option maxHeartbeats 4000000 in
theorem chGoOn_any (a c : Option Addr) (ca cc n : Nat) (r : Nat → Nat) (Cn : Nat → Nat → Nat) (w : World) (ha : NtS w a (lN n r)) (hc : NtR w c n Cn) (hn : n ≤ 100) (hr : ∀ i, i < n → (B (r i)).size ≤ 1000000) (hC : ∀ i j, i < n → j < n → (B (Cn i j)).size ≤ 1000000) (hs : ∀ i j, i ≤ n → j < n → (B (sumN (fun t => r t * Cn t j) i)).size ≤ 1000000) :
    Calls Tryz.prog 76 #[.slice a n ca, .slice c n cc] w fun e w' => ∃ G, e = .returned (.slice (some ⟨G, 0, none⟩) n n) ∧ w.heap.size ≤ G ∧ RwN w' G (lN n (goN n Cn r)) ∧ Below w.heap.size w w' := by
  obtain ⟨i0, hi0, hz0, hz1, hz2⟩ := info_parts Tryz.infoNat
  have HA := hid ha
  have HC := hid hc
  have HR := hid hr
  have HCS := hid hC
  have HSS := hid hs
  clear ha hc hr hC hs
  go_enter Tryz.func76, Tryz.ntmps76
  go_upto_region 2 with (at_make; refine wpList_make_full _ rfl _ _ 100 rfl w.heap.size 31 i0 (.string ⟨#[]⟩) 1 Tryz.underlying100 hi0 hz0 hz1 .i64 .i64 _ _ n rfl rfl (by go_num) (by go_num) (by rw [hz2]; omega) (by unfold maxLen; omega) (Nat.le_refl _) ?_; intro w2 hown2 hgrow2)
  have hb2 := block_of_own hown2
  rw [made_nats] at hb2
  have hB2 : Below w.heap.size w w2 := (Below.refl _ w).grown hgrow2 (Nat.le_refl _) (fun k e => by cases e)
  have HK0 : Hid (MN w w.heap.size (lN n (goP Cn r 0 0)) w2) := ⟨by rw [goP_start]; exact hb2, hB2⟩
  clear hown2 hgrow2 hb2 hB2
  have hGw : w.heap.size ≤ w.heap.size := Nat.le_refl _
  obtain ⟨G, hG⟩ : ∃ x, w.heap.size = x := ⟨_, rfl⟩
  have HG := hid hG
  have HK0' : Hid (MN w G (lN n (goP Cn r 0 0)) w2) := by rw [← hG]; exact HK0.out
  rw [show w.heap.size = G from hG] at hGw
  clear HK0
  go_wp2_with fail
  simp only [hG]
  have hGw : w.heap.size ≤ G := Nat.le_of_eq hG
  clear hG
  go_loopw [14] (fun iv wr => ∃ i : Nat, i ≤ n ∧ iv = .int .i64 i ∧ Hid (MN w G (lN n (goP Cn r i 0)) wr)) (fun iv _ => n - (intOf iv).toNat)
  case atStart => exact ⟨0, Nat.zero_le _, rfl, HK0'⟩
  case round =>
    obtain ⟨i, hi, rfl, HKi⟩ := hrel
    clear HK0'
    by_cases hlt : i < n
    · obtain ⟨ga, oa, rfl, hga, a0⟩ := (HA.out.below HKi.out.bel) i (by rw [lN_length]; exact hlt)
      rw [lN_get] at a0
      have hri := HR.out i hlt
      obtain ⟨rb, hrb⟩ : ∃ x, B (r i) = x := ⟨_, rfl⟩
      have HRB := hid hrb
      rw [hrb] at a0
      clear hrb
      go_wp2_with fail
      clear a0
      go_loopw [21] (fun jv wr => ∃ j : Nat, j ≤ n ∧ jv = .int .i64 j ∧ Hid (MN w G (lN n (goP Cn r i j)) wr)) (fun jv _ => n - (intOf jv).toNat)
      case atStart => exact ⟨0, Nat.zero_le _, rfl, HKi⟩
      case round =>
        obtain ⟨j, hj, rfl, HK⟩ := hrel
        clear HKi
        by_cases hlj : j < n
        · obtain ⟨g, o, gr, or_, cr, rfl, hg, hgr, c0, c1⟩ := HC.out.at hlt hlj
          have hcj := HCS.out i j hlt hlj
          have hsj := HSS.out i j hi hlj
          have hmj := sz_mul (r i) (Cn i j)
          have HMU : Hid (∀ U : World, Calls Tryz.prog 75 #[.string rb, .string (B (Cn i j))] U fun e w' => e = .returned (.string (B (r i * Cn i j))) ∧ Below U.heap.size U w') := fun U => by
            rw [← HRB.out]
            have h9 := Mul_any (B (r i)) (B (Cn i j)) U (by omega) (by omega)
            rw [N_B, N_B] at h9
            exact h9
          have HAD : Hid (∀ U : World, Calls Tryz.prog 64 #[.string (B (sumN (fun t => r t * Cn t j) i)), .string (B (r i * Cn i j))] U fun e w' => e = .returned (.string (B (sumN (fun t => r t * Cn t j) (i + 1)))) ∧ Below U.heap.size U w') := fun U => by
            have h9 := Add_any (B (sumN (fun t => r t * Cn t j) i)) (B (r i * Cn i j)) U (by omega) (by omega)
            rw [N_B, N_B] at h9
            exact h9
          have HCJ : Hid (∀ u : World, RwN u G (lN n (goP Cn r i j)) → u.cell? ⟨G, j, none⟩ = some (.string (B (sumN (fun t => r t * Cn t j) i)))) := fun u h => by
            rw [h.cell j (by rw [lN_length]; exact hlj), lN_get, goP, if_neg (Nat.lt_irrefl j)]
          generalize hcb : B (Cn i j) = cb at *
          generalize hbb : B (sumN (fun t => r t * Cn t j) i) = bb at *
          generalize hpb : B (r i * Cn i j) = pb at *
          have HELD : Hid (∀ u, Below w.heap.size w u → u.cell? ⟨g, o + i, none⟩ = some (.slice (some ⟨gr, or_, none⟩) n cr) ∧ u.cell? ⟨gr, or_ + j, none⟩ = some (.string cb)) := fun u h => ⟨(h.cell (p := ⟨g, _, none⟩) hg).trans c0, (h.cell (p := ⟨gr, _, none⟩) hgr).trans c1⟩
          clear hcj hsj hmj hcb hbb hpb c0 c1 hg hgr
          go_upto_region 8 with fail
          replace HK := hid HK.out.drew
          refine wp_region_until 17 (fun (b : Bool) (u : World) => (u.cell? ⟨g, o + i, none⟩ = some (.slice (some ⟨gr, or_, none⟩) n cr) ∧ u.cell? ⟨gr, or_ + j, none⟩ = some (.string cb)) ∧ (b = false → u.cell? ⟨G, j, none⟩ = some (.string bb))) (by kernel_rfl) ⟨HELD.out _ HK.out.bel, fun _ => HCJ.out _ HK.out.row⟩ (fun hSd => ?_)
          generalize wr.drew = u0 at *
          refine wpU_take (i := 0) (oi := _) (v := .slice (some ⟨G, 0, none⟩) n n) (b := false) rfl (by kernel_rfl) (by kernel_rfl) (by kernel_rfl) (by decide) (fun _ _ _ h => h) (Or.inl ⟨by rfl, ?_⟩) (by kernel_rfl) (by assumption) ?_
          · intro u' hSu
            (try simp only [List.getElem_toArray, List.getElem_cons_zero])
            go_simp
          (try simp only [List.getElem_toArray, List.getElem_cons_zero])
          (try simp only [Act.put, List.setIfInBounds_toArray, List.set_cons_zero, List.set_cons_succ])
          refine wpU_take (i := 1) (oi := _) (v := .int .i64 (j : Nat)) (b := false) rfl (by kernel_rfl) (by kernel_rfl) (by kernel_rfl) (by decide) (fun _ _ _ h => h) (Or.inl ⟨by rfl, ?_⟩) (by kernel_rfl) (by assumption) ?_
          · intro u' hSu
            (try simp only [List.getElem_toArray, List.getElem_cons_zero, List.getElem_cons_succ])
            go_simp
          (try simp only [List.getElem_toArray, List.getElem_cons_zero, List.getElem_cons_succ])
          (try simp only [Act.put, List.setIfInBounds_toArray, List.set_cons_zero, List.set_cons_succ])
          refine wpU_take (i := 2) (oi := _) (v := .slice (some ⟨G, 0, none⟩) n n) (b := false) rfl (by kernel_rfl) (by kernel_rfl) (by kernel_rfl) (by decide) (fun _ _ _ h => h) (Or.inl ⟨by rfl, ?_⟩) (by kernel_rfl) (by assumption) ?_
          · intro u' hSu
            (try simp only [List.getElem_toArray, List.getElem_cons_zero, List.getElem_cons_succ])
            go_simp
          (try simp only [List.getElem_toArray, List.getElem_cons_zero, List.getElem_cons_succ])
          (try simp only [Act.put, List.setIfInBounds_toArray, List.set_cons_zero, List.set_cons_succ])
          refine wpU_take (i := 3) (oi := _) (v := .int .i64 (j : Nat)) (b := false) rfl (by kernel_rfl) (by kernel_rfl) (by kernel_rfl) (by decide) (fun _ _ _ h => h) (Or.inl ⟨by rfl, ?_⟩) (by kernel_rfl) (by assumption) ?_
          · intro u' hSu
            (try simp only [List.getElem_toArray, List.getElem_cons_zero, List.getElem_cons_succ])
            go_simp
          (try simp only [List.getElem_toArray, List.getElem_cons_zero, List.getElem_cons_succ])
          (try simp only [Act.put, List.setIfInBounds_toArray, List.set_cons_zero, List.set_cons_succ])
          refine wpU_take (i := 4) (oi := _) (v := .pointer (some ⟨G, j, none⟩)) (b := false) rfl (by kernel_rfl) (by kernel_rfl) (by kernel_rfl) (by decide) (fun _ _ _ h => h) (Or.inl ⟨by rfl, ?_⟩) (by kernel_rfl) (by assumption) ?_
          · intro u' hSu
            (try simp only [List.getElem_toArray, List.getElem_cons_zero, List.getElem_cons_succ])
            go_simp
          (try simp only [List.getElem_toArray, List.getElem_cons_zero, List.getElem_cons_succ])
          (try simp only [Act.put, List.setIfInBounds_toArray, List.set_cons_zero, List.set_cons_succ])
          refine wpU_ahead (i := 5) (oi := _) (v := .string bb) rfl (by kernel_rfl) (by kernel_rfl) (by kernel_rfl) (by decide) rfl (by kernel_rfl) (fun _ _ _ h => h) (Or.inl ⟨by rfl, ?_⟩) (by kernel_rfl) (by assumption) ?_
          · intro u' hSu
            (try simp only [List.getElem_toArray, List.getElem_cons_zero, List.getElem_cons_succ])
            obtain ⟨⟨s0, s1⟩, s2⟩ := hSu
            have s3 := s2 rfl
            go_simp
          (try simp only [List.getElem_toArray, List.getElem_cons_zero, List.getElem_cons_succ])
          (try simp only [Act.put, List.setIfInBounds_toArray, List.set_cons_zero, List.set_cons_succ])
          refine wpU_take (i := 6) (oi := _) (v := .string rb) (b := false) rfl (by kernel_rfl) (by kernel_rfl) (by kernel_rfl) (by decide) (fun _ _ _ h => h) (Or.inl ⟨by rfl, ?_⟩) (by kernel_rfl) (by assumption) ?_
          · intro u' hSu
            (try simp only [List.getElem_toArray, List.getElem_cons_zero, List.getElem_cons_succ])
            go_simp
          (try simp only [List.getElem_toArray, List.getElem_cons_zero, List.getElem_cons_succ])
          (try simp only [Act.put, List.setIfInBounds_toArray, List.set_cons_zero, List.set_cons_succ])
          refine wpU_take (i := 7) (oi := _) (v := .slice (some ⟨g, o, none⟩) n cc) (b := false) rfl (by kernel_rfl) (by kernel_rfl) (by kernel_rfl) (by decide) (fun _ _ _ h => h) (Or.inl ⟨by rfl, ?_⟩) (by kernel_rfl) (by assumption) ?_
          · intro u' hSu
            (try simp only [List.getElem_toArray, List.getElem_cons_zero, List.getElem_cons_succ])
            go_simp
          (try simp only [List.getElem_toArray, List.getElem_cons_zero, List.getElem_cons_succ])
          (try simp only [Act.put, List.setIfInBounds_toArray, List.set_cons_zero, List.set_cons_succ])
          refine wpU_take (i := 8) (oi := _) (v := .int .i64 (i : Nat)) (b := false) rfl (by kernel_rfl) (by kernel_rfl) (by kernel_rfl) (by decide) (fun _ _ _ h => h) (Or.inl ⟨by rfl, ?_⟩) (by kernel_rfl) (by assumption) ?_
          · intro u' hSu
            (try simp only [List.getElem_toArray, List.getElem_cons_zero, List.getElem_cons_succ])
            go_simp
          (try simp only [List.getElem_toArray, List.getElem_cons_zero, List.getElem_cons_succ])
          (try simp only [Act.put, List.setIfInBounds_toArray, List.set_cons_zero, List.set_cons_succ])
          refine wpU_take (i := 9) (oi := _) (v := .pointer (some ⟨g, o + i, none⟩)) (b := false) rfl (by kernel_rfl) (by kernel_rfl) (by kernel_rfl) (by decide) (fun _ _ _ h => h) (Or.inl ⟨by rfl, ?_⟩) (by kernel_rfl) (by assumption) ?_
          · intro u' hSu
            (try simp only [List.getElem_toArray, List.getElem_cons_zero, List.getElem_cons_succ])
            go_simp
          (try simp only [List.getElem_toArray, List.getElem_cons_zero, List.getElem_cons_succ])
          (try simp only [Act.put, List.setIfInBounds_toArray, List.set_cons_zero, List.set_cons_succ])
          refine wpU_take (i := 10) (oi := _) (v := .slice (some ⟨gr, or_, none⟩) n cr) (b := false) rfl (by kernel_rfl) (by kernel_rfl) (by kernel_rfl) (by decide) (fun _ _ _ h => h) (Or.inl ⟨by rfl, ?_⟩) (by kernel_rfl) (by assumption) ?_
          · intro u' hSu
            (try simp only [List.getElem_toArray, List.getElem_cons_zero, List.getElem_cons_succ])
            obtain ⟨_, ⟨s0, s1⟩, _⟩ := hSu
            go_simp
          (try simp only [List.getElem_toArray, List.getElem_cons_zero, List.getElem_cons_succ])
          (try simp only [Act.put, List.setIfInBounds_toArray, List.set_cons_zero, List.set_cons_succ])
          refine wpU_take (i := 11) (oi := _) (v := .int .i64 (j : Nat)) (b := false) rfl (by kernel_rfl) (by kernel_rfl) (by kernel_rfl) (by decide) (fun _ _ _ h => h) (Or.inl ⟨by rfl, ?_⟩) (by kernel_rfl) (by assumption) ?_
          · intro u' hSu
            (try simp only [List.getElem_toArray, List.getElem_cons_zero, List.getElem_cons_succ])
            go_simp
          (try simp only [List.getElem_toArray, List.getElem_cons_zero, List.getElem_cons_succ])
          (try simp only [Act.put, List.setIfInBounds_toArray, List.set_cons_zero, List.set_cons_succ])
          refine wpU_take (i := 12) (oi := _) (v := .pointer (some ⟨gr, or_ + j, none⟩)) (b := false) rfl (by kernel_rfl) (by kernel_rfl) (by kernel_rfl) (by decide) (fun _ _ _ h => h) (Or.inl ⟨by rfl, ?_⟩) (by kernel_rfl) (by assumption) ?_
          · intro u' hSu
            (try simp only [List.getElem_toArray, List.getElem_cons_zero, List.getElem_cons_succ])
            go_simp
          (try simp only [List.getElem_toArray, List.getElem_cons_zero, List.getElem_cons_succ])
          (try simp only [Act.put, List.setIfInBounds_toArray, List.set_cons_zero, List.set_cons_succ])
          refine wpU_take (i := 13) (oi := _) (v := .string cb) (b := false) rfl (by kernel_rfl) (by kernel_rfl) (by kernel_rfl) (by decide) (fun _ _ _ h => h) (Or.inl ⟨by rfl, ?_⟩) (by kernel_rfl) (by assumption) ?_
          · intro u' hSu
            (try simp only [List.getElem_toArray, List.getElem_cons_zero, List.getElem_cons_succ])
            obtain ⟨_, ⟨s0, s1⟩, _⟩ := hSu
            go_simp
          (try simp only [List.getElem_toArray, List.getElem_cons_zero, List.getElem_cons_succ])
          (try simp only [Act.put, List.setIfInBounds_toArray, List.set_cons_zero, List.set_cons_succ])
          refine wpU_ready (rs := [14]) (by kernel_rfl) (by simp) (AllU.cons (b := false) rfl (by kernel_rfl) ?_ (AllU.nil))
          · intro K' hK'
            (try simp only [List.getElem_toArray, List.getElem_cons_zero, List.getElem_cons_succ])
            go_simp
            refine (HMU.out _).mono ?_
            rintro e u1 ⟨rfl, hb⟩
            replace HK := hid (HK.out.step hb)
            refine hK'.out _ _ ⟨HELD.out _ HK.out.bel, fun _ => HCJ.out _ HK.out.row⟩ (fun hSe => ?_)
            clear hK' K' hSd
            have hSd := hSe
            clear hSe
            clear hb
            (try simp only [List.getElem_toArray, List.getElem_cons_zero, List.getElem_cons_succ])
            (try simp only [Act.put, List.setIfInBounds_toArray, List.set_cons_zero, List.set_cons_succ])
            refine wpU_ready (rs := [15]) (by kernel_rfl) (by simp) (AllU.cons (b := false) rfl (by kernel_rfl) ?_ (AllU.nil))
            · intro K' hK'
              (try simp only [List.getElem_toArray, List.getElem_cons_zero, List.getElem_cons_succ])
              go_simp
              refine (HAD.out _).mono ?_
              rintro e u2 ⟨rfl, hb⟩
              replace HK := hid (HK.out.step hb)
              refine hK'.out _ _ ⟨HELD.out _ HK.out.bel, fun _ => HCJ.out _ HK.out.row⟩ (fun hSe => ?_)
              clear hK' K' hSd
              have hSd := hSe
              clear hSe
              clear hb
              (try simp only [List.getElem_toArray, List.getElem_cons_zero, List.getElem_cons_succ])
              (try simp only [Act.put, List.setIfInBounds_toArray, List.set_cons_zero, List.set_cons_succ])
              refine wpU_take (i := 16) (oi := _) (v := .pointer (some ⟨G, j, none⟩)) (b := false) rfl (by kernel_rfl) (by kernel_rfl) (by kernel_rfl) (by decide) (fun _ _ _ h => h) (Or.inl ⟨by rfl, ?_⟩) (by kernel_rfl) (by assumption) ?_
              · intro u' hSu
                (try simp only [List.getElem_toArray, List.getElem_cons_zero, List.getElem_cons_succ])
                go_simp
              (try simp only [List.getElem_toArray, List.getElem_cons_zero, List.getElem_cons_succ])
              (try simp only [Act.put, List.setIfInBounds_toArray, List.set_cons_zero, List.set_cons_succ])
              have q0 := HCJ.out _ HK.out.row
              have q1 := HK.out.row.fz j
              refine wpU_ready (rs := [17]) (by kernel_rfl) (by simp) (AllU.cons (b := true) rfl (by kernel_rfl) ?_ (AllU.nil))
              · intro K' hK'
                (try simp only [List.getElem_toArray, List.getElem_cons_zero, List.getElem_cons_succ])
                go_simp
                have HKN := hid (HK.out.put hGw j (sumN (fun t => r t * Cn t j) (i + 1)))
                refine hK'.out _ _ ⟨HELD.out _ HKN.out.bel, fun e => by cases e⟩ (fun _ => wpU_done (by kernel_rfl) ?_ _)
                clear hK' K' hSd q0 q1 HK
                rw [goP_set] at HKN
                go_wp2
                go_roundw
                case rel => exact ⟨j + 1, by omega, by go_num, HKN⟩
                case measure => simp [intOf]; omega
        · obtain rfl : n = j := by omega
          rw [goP_next] at HK
          go_wp2
          go_roundw
          case rel => exact ⟨i + 1, by omega, by go_num, HK⟩
          case measure => simp [intOf]; omega
    · obtain rfl : n = i := by omega
      rw [goP_done] at HKi
      go_wp2
      go_ret
      exact ⟨G, rfl, hGw, HKi.out.row, HKi.out.bel⟩
end Go.Proofs.YtbejijgelljeaaaGreatDoor
