/- divide and takeTimes of package chain: they write into a row. -/
import Derived.Test.YtbejijgelljeaaaGreatDoorMadCPwChnA
namespace Go.Proofs.YtbejijgelljeaaaGreatDoor
open Go.RowKit Go.Shelf
/-- A row under way, a fraction's box beside it. -/
structure DvS (w : World) (B g m c gB : Nat) (f : Nat → Rat) (n : Bool) (x y : ByteArray) (U : World) : Prop where
  row : EqR U B g m c f
  gr : w.grownBy U (some g)
  bx : Box U gB n x y
theorem DvS.step {w U U' : World} {B g m c gB : Nat} {f : Nat → Rat} {n : Bool} {x y : ByteArray} (h : DvS w B g m c gB f n x y U) (hb : Below U.heap.size U U') : DvS w B g m c gB f n x y U' := ⟨h.row.below hb, grown_below h.gr hb, h.bx.below hb h.bx.lt⟩
theorem DvS.drew {w U : World} {B g m c gB : Nat} {f : Nat → Rat} {n : Bool} {x y : ByteArray} (h : DvS w B g m c gB f n x y U) : DvS w B g m c gB f n x y U.drew := h.step (Below.refl _ _).drew
theorem DvS.put {w U : World} {B g m c gB : Nat} {f : Nat → Rat} {n : Bool} {x y : ByteArray} (h : DvS w B g m c gB f n x y U) (hne : gB ≠ g) (k : Nat) (q : Rat) : DvS w B g m c gB (fun j => if j = k then q else f j) n x y (((U.setCell ⟨g, k * 3, none⟩ (.bool (qF q).1)).setCell ⟨g, k * 3 + 1, none⟩ (.string (qF q).2.1)).setCell ⟨g, k * 3 + 2, none⟩ (.string (qF q).2.2)) := by
  obtain ⟨h1, h2⟩ := h.row.put k q
  exact ⟨h1, grown_then h.gr h2, ((h.bx.away g _ _ hne).away g _ _ hne).away g _ _ hne⟩
theorem DvS.congr {w U : World} {B g m c gB : Nat} {f f' : Nat → Rat} {n : Bool} {x y : ByteArray} (h : DvS w B g m c gB f n x y U) (e : ∀ j, j < m → f j = f' j) : DvS w B g m c gB f' n x y U := ⟨h.row.congr e, h.gr, h.bx⟩
theorem part_next {f f' : Nat → Rat} (i : Nat) : ∀ j, (if j = i then f' i else if j < i then f' j else f j) = if j < i + 1 then f' j else f j := fun j => by
  by_cases e : j = i
  · subst e; rw [if_pos rfl, if_pos (Nat.lt_succ_self _)]
  · rw [if_neg e]
    by_cases h : j < i
    · rw [if_pos h, if_pos (by omega)]
    · rw [if_neg h, if_neg (by omega)]
theorem part_here {f f' : Nat → Rat} (i : Nat) : (if i < i then f' i else f i) = f i := if_neg (Nat.lt_irrefl _)
set_option maxRecDepth 100000 in
set_option maxHeartbeats 2000000 in
theorem chDivide_any (B g c m : Nat) (f : Nat → Rat) (q : Rat) (w : World) (h : EqR w B g m c f) (hq : q ≠ 0) (hs : ∀ i, i < m → qw (f i) ≤ 40000) (hqs : qw q ≤ 40000) (hm : m ≤ 100) :
    Calls Tryz.prog 86 #[.slice (some ⟨g, 0, none⟩) m c, .agg #[.bool (sgn q), .string (nu q), .string (de q)]] w fun e w' => e = .returned (.tuple #[]) ∧ EqR w' B g m c (fun i => f i / q) ∧ w.grownBy w' (some g) := by
  have HDIV : Hid (∀ i, i < m → ∀ V : World, Calls Tryz.prog 49 #[.agg #[.bool (qF (f i)).1, .string (qF (f i)).2.1, .string (qF (f i)).2.2], .agg #[.bool (sgn q), .string (nu q), .string (de q)]] V fun e w' => e = .returned (.tuple #[.agg #[.bool (qF (f i / q)).1, .string (qF (f i / q)).2.1, .string (qF (f i / q)).2.2], .int .i64 0]) ∧ Below V.heap.size V w') := fun i hi V => fDiv_q (f i / q) (val_own (f i)) (val_own q) hq rfl (by have h1 := hs i hi; rw [← own_size] at h1; exact Nat.le_trans h1 (by omega)) (by rw [← own_size] at hqs; exact Nat.le_trans hqs (by omega))
  have HF : Hid (∃ f' : Nat → Rat, f' = fun i => f i / q) := ⟨_, rfl⟩
  have HRW := hid h
  have hgl := h.lt
  clear h hs hqs
  have hne : w.heap.size ≠ g := by omega
  obtain ⟨f', hf'⟩ := HF.out
  have HFD : Hid (∀ i, f' i = f i / q) := fun i => by rw [hf']
  rw [← hf']
  clear HF hf' hq
  generalize sgn q = bn at *
  generalize nu q = bx at *
  generalize de q = by_ at *
  have hA := (Below.refl w.heap.size w).alloc (Nat.le_refl _) (FC bn bx by_)
  have HK0 : Hid (DvS w B g m c w.heap.size (fun j => if j < 0 then f' j else f j) bn bx by_ (w.alloc (FC bn bx by_))) := ⟨(HRW.out.below hA).congr fun j _ => (if_neg (by omega)).symm, grown_below (World.grownBy.refl _ _) hA, Box.new w bn bx by_⟩
  clear hA HRW
  go_enter Tryz.func86, Tryz.ntmps86
  go_upto_region 2 with fail
  generalize (w.alloc (FC bn bx by_)) = W1 at *
  obtain ⟨gB, hgB⟩ : ∃ x, x = w.heap.size := ⟨_, rfl⟩
  simp only [← hgB] at HK0 hne ⊢
  clear hgB
  go_loopw [7] (fun iv wr => ∃ i : Nat, i ≤ m ∧ iv = .int .i64 i ∧ Hid (DvS w B g m c gB (fun j => if j < i then f' j else f j) bn bx by_ wr)) (fun iv _ => m - (intOf iv).toNat)
  case atStart => exact ⟨0, Nat.zero_le _, rfl, HK0⟩
  case round =>
    obtain ⟨i, hi, rfl, HK⟩ := hrel
    clear HK0
    by_cases hlt : i < m
    · have HDV := hid (HDIV.out i hlt)
      have hqn : f i / q = f' i := (HFD.out i).symm
      rw [hqn] at HDV
      clear hqn
      have HNX : Hid (∀ j, j < m → (if j = i then f' i else if j < i then f' j else f j) = if j < i + 1 then f' j else f j) := fun j _ => part_next i j
      have HHE : Hid ((if i < i then f' i else f i) = f i) := part_here i
      go_upto_region 4 with fail
      replace HK := hid HK.out.drew
      refine wp_region_held_drew (S := fun u => u.cell? ⟨gB, 0, none⟩ = some (.bool bn) ∧ u.cell? ⟨gB, 1, none⟩ = some (.string bx) ∧ u.cell? ⟨gB, 2, none⟩ = some (.string by_)) (by kernel_rfl) ⟨HK.out.bx.c0, HK.out.bx.c1, HK.out.bx.c2⟩ (fun hSd => ?_)
      generalize wr.drew = u0 at *
      obtain ⟨k0, k1, k2⟩ := HK.out.row.cells hlt
      rw [HHE.out] at k0 k1 k2
      generalize f' i = qn at *
      have HAE : Hid (qF (f i) = (qF (f i))) := rfl
      clear HAE
      generalize hzz : qF (f i) = zz at *
      obtain ⟨an, ax, ay⟩ := zz
      simp only at k0 k1 k2 HDV
      refine wpAnyH_take (i := 0) (oi := _) (v := .slice (some ⟨g, 0, none⟩) m c) rfl (by kernel_rfl) (by kernel_rfl) (by kernel_rfl) (fun _ _ _ h => h) (Or.inl ⟨by rfl, ?_⟩) (by assumption) ?_
      · intro u' hSu
        (try simp only [List.getElem_toArray, List.getElem_cons_zero])
        go_simp
      (try simp only [List.getElem_toArray, List.getElem_cons_zero])
      (try simp only [Act.put, List.setIfInBounds_toArray, List.set_cons_zero, List.set_cons_succ])
      refine wpAnyH_take (i := 1) (oi := _) (v := .int .i64 (i : Nat)) rfl (by kernel_rfl) (by kernel_rfl) (by kernel_rfl) (fun _ _ _ h => h) (Or.inl ⟨by rfl, ?_⟩) (by assumption) ?_
      · intro u' hSu
        (try simp only [List.getElem_toArray, List.getElem_cons_zero, List.getElem_cons_succ])
        go_simp
      (try simp only [List.getElem_toArray, List.getElem_cons_zero, List.getElem_cons_succ])
      (try simp only [Act.put, List.setIfInBounds_toArray, List.set_cons_zero, List.set_cons_succ])
      refine wpAnyH_take (i := 2) (oi := _) (v := .slice (some ⟨g, 0, none⟩) m c) rfl (by kernel_rfl) (by kernel_rfl) (by kernel_rfl) (fun _ _ _ h => h) (Or.inl ⟨by rfl, ?_⟩) (by assumption) ?_
      · intro u' hSu
        (try simp only [List.getElem_toArray, List.getElem_cons_zero, List.getElem_cons_succ])
        go_simp
      (try simp only [List.getElem_toArray, List.getElem_cons_zero, List.getElem_cons_succ])
      (try simp only [Act.put, List.setIfInBounds_toArray, List.set_cons_zero, List.set_cons_succ])
      refine wpAnyH_take (i := 3) (oi := _) (v := .int .i64 (i : Nat)) rfl (by kernel_rfl) (by kernel_rfl) (by kernel_rfl) (fun _ _ _ h => h) (Or.inl ⟨by rfl, ?_⟩) (by assumption) ?_
      · intro u' hSu
        (try simp only [List.getElem_toArray, List.getElem_cons_zero, List.getElem_cons_succ])
        go_simp
      (try simp only [List.getElem_toArray, List.getElem_cons_zero, List.getElem_cons_succ])
      (try simp only [Act.put, List.setIfInBounds_toArray, List.set_cons_zero, List.set_cons_succ])
      refine wpAnyH_take (i := 4) (oi := _) (v := .pointer (some ⟨g, i * 3, none⟩)) rfl (by kernel_rfl) (by kernel_rfl) (by kernel_rfl) (fun _ _ _ h => h) (Or.inl ⟨by rfl, ?_⟩) (by assumption) ?_
      · intro u' hSu
        (try simp only [List.getElem_toArray, List.getElem_cons_zero, List.getElem_cons_succ])
        go_simp
      (try simp only [List.getElem_toArray, List.getElem_cons_zero, List.getElem_cons_succ])
      (try simp only [Act.put, List.setIfInBounds_toArray, List.set_cons_zero, List.set_cons_succ])
      refine wpAnyH_take (i := 6) (oi := _) (v := .agg #[.bool bn, .string bx, .string by_]) rfl (by kernel_rfl) (by kernel_rfl) (by kernel_rfl) (fun _ _ _ h => h) (Or.inl ⟨by rfl, ?_⟩) (by assumption) ?_
      · intro u' hSu
        (try simp only [List.getElem_toArray, List.getElem_cons_zero, List.getElem_cons_succ])
        obtain ⟨s0, s1, s2⟩ := hSu
        go_simp
      (try simp only [List.getElem_toArray, List.getElem_cons_zero, List.getElem_cons_succ])
      (try simp only [Act.put, List.setIfInBounds_toArray, List.set_cons_zero, List.set_cons_succ])
      refine wpAnyH_ready (rs := [5]) (by kernel_rfl) (by simp) (AllReadyH.cons rfl ?_ (AllReadyH.nil))
      · intro K' hK'
        (try simp only [List.getElem_toArray, List.getElem_cons_zero, List.getElem_cons_succ])
        go_simp
        refine hK'.out _ _ ⟨HK.out.bx.c0, HK.out.bx.c1, HK.out.bx.c2⟩ (fun hSe => ?_)
        clear hK' K' hSd
        have hSd := hSe
        clear hSe
        (try simp only [List.getElem_toArray, List.getElem_cons_zero, List.getElem_cons_succ])
        (try simp only [Act.put, List.setIfInBounds_toArray, List.set_cons_zero, List.set_cons_succ])
        refine wpAnyH_ready (rs := [7]) (by kernel_rfl) (by simp) (AllReadyH.cons rfl ?_ (AllReadyH.nil))
        · intro K' hK'
          (try simp only [List.getElem_toArray, List.getElem_cons_zero, List.getElem_cons_succ])
          go_simp
          refine (HDV.out _).mono ?_
          rintro e u1 ⟨rfl, hb⟩
          replace HK := hid (HK.out.step hb)
          obtain ⟨k0, k1, k2⟩ := HK.out.row.cells hlt
          refine hK'.out _ _ ⟨HK.out.bx.c0, HK.out.bx.c1, HK.out.bx.c2⟩ (fun hSe => ?_)
          clear hK' K' hSd
          have hSd := hSe
          clear hSe
          (try simp only [List.getElem_toArray, List.getElem_cons_zero, List.getElem_cons_succ])
          (try simp only [Act.put, List.setIfInBounds_toArray, List.set_cons_zero, List.set_cons_succ])
          clear hb
          refine wpAnyH_take (i := 8) (oi := _) (v := .tuple #[.agg #[.bool (qF qn).1, .string (qF qn).2.1, .string (qF qn).2.2], .int .i64 0]) rfl (by kernel_rfl) (by kernel_rfl) (by kernel_rfl) (fun _ _ _ h => h) (Or.inl ⟨by rfl, ?_⟩) (by assumption) ?_
          · intro u' hSu
            (try simp only [List.getElem_toArray, List.getElem_cons_zero, List.getElem_cons_succ])
            go_simp
          (try simp only [List.getElem_toArray, List.getElem_cons_zero, List.getElem_cons_succ])
          (try simp only [Act.put, List.setIfInBounds_toArray, List.set_cons_zero, List.set_cons_succ])
          refine wpAnyH_take (i := 9) (oi := _) (v := .agg #[.bool (qF qn).1, .string (qF qn).2.1, .string (qF qn).2.2]) rfl (by kernel_rfl) (by kernel_rfl) (by kernel_rfl) (fun _ _ _ h => h) (Or.inl ⟨by rfl, ?_⟩) (by assumption) ?_
          · intro u' hSu
            (try simp only [List.getElem_toArray, List.getElem_cons_zero, List.getElem_cons_succ])
            go_simp
          (try simp only [List.getElem_toArray, List.getElem_cons_zero, List.getElem_cons_succ])
          (try simp only [Act.put, List.setIfInBounds_toArray, List.set_cons_zero, List.set_cons_succ])
          refine wpAnyH_take (i := 10) (oi := _) (v := .int .i64 0) rfl (by kernel_rfl) (by kernel_rfl) (by kernel_rfl) (fun _ _ _ h => h) (Or.inl ⟨by rfl, ?_⟩) (by assumption) ?_
          · intro u' hSu
            (try simp only [List.getElem_toArray, List.getElem_cons_zero, List.getElem_cons_succ])
            go_simp
          (try simp only [List.getElem_toArray, List.getElem_cons_zero, List.getElem_cons_succ])
          (try simp only [Act.put, List.setIfInBounds_toArray, List.set_cons_zero, List.set_cons_succ])
          refine wpAnyH_take (i := 11) (oi := _) (v := .pointer (some ⟨g, i * 3, none⟩)) rfl (by kernel_rfl) (by kernel_rfl) (by kernel_rfl) (fun _ _ _ h => h) (Or.inl ⟨by rfl, ?_⟩) (by assumption) ?_
          · intro u' hSu
            (try simp only [List.getElem_toArray, List.getElem_cons_zero, List.getElem_cons_succ])
            go_simp
          (try simp only [List.getElem_toArray, List.getElem_cons_zero, List.getElem_cons_succ])
          (try simp only [Act.put, List.setIfInBounds_toArray, List.set_cons_zero, List.set_cons_succ])
          have z0 := HK.out.row.fz (i * 3)
          have z1 := HK.out.row.fz (i * 3 + 1)
          have z2 := HK.out.row.fz (i * 3 + 2)
          refine wpAnyH_ready (rs := [12]) (by kernel_rfl) (by simp) (AllReadyH.cons rfl ?_ (AllReadyH.nil))
          · intro K' hK'
            (try simp only [List.getElem_toArray, List.getElem_cons_zero, List.getElem_cons_succ])
            go_simp
            have HK9 := hid (HK.out.put hne i qn)
            refine hK'.out _ _ ⟨HK9.out.bx.c0, HK9.out.bx.c1, HK9.out.bx.c2⟩ (fun _ => wpAnyH_done (by kernel_rfl) ?_ _)
            clear hK' K' hSd k0 k1 k2 z0 z1 z2 HK
            have HKn := hid (HK9.out.congr HNX.out)
            clear HK9
            go_wp2
            go_roundw
            case rel => exact ⟨i + 1, by omega, by go_num, HKn⟩
            case measure => simp [intOf]; omega
    · obtain rfl : i = m := by omega
      go_wp2
      go_end0
      exact ⟨rfl, HK.out.row.congr fun j hj => if_pos hj, HK.out.gr⟩
set_option maxRecDepth 100000 in
set_option maxHeartbeats 4000000 in
theorem chTake_any (B g g2 c c2 m : Nat) (f f2 : Nat → Rat) (q : Rat) (w : World) (h : EqR w B g m c f) (h2 : EqR w B g2 m c2 f2) (hg2 : g2 ≠ g) (hs : ∀ i, i < m → qw (f i) ≤ 40000 ∧ qw (f2 i) ≤ 40000 ∧ qw (f2 i * q) ≤ 40000) (hqs : qw q ≤ 40000) (hm : m ≤ 100) :
    Calls Tryz.prog 87 #[.slice (some ⟨g, 0, none⟩) m c, .slice (some ⟨g2, 0, none⟩) m c2, .agg #[.bool (sgn q), .string (nu q), .string (de q)]] w fun e w' => e = .returned (.tuple #[]) ∧ EqR w' B g m c (fun i => f i - f2 i * q) ∧ w.grownBy w' (some g) := by
  have HMUL : Hid (∀ i, i < m → ∀ V : World, Calls Tryz.prog 54 #[.agg #[.bool (qF (f2 i)).1, .string (qF (f2 i)).2.1, .string (qF (f2 i)).2.2], .agg #[.bool (sgn q), .string (nu q), .string (de q)]] V fun e w' => e = .returned (.agg #[.bool (sgn (f2 i * q)), .string (nu (f2 i * q)), .string (de (f2 i * q))]) ∧ Below V.heap.size V w') := fun i hi V => fMul_q (f2 i * q) (val_own (f2 i)) (val_own q) rfl (by have h1 := (hs i hi).2.1; rw [← own_size] at h1; exact Nat.le_trans h1 (by omega)) (by rw [← own_size] at hqs; exact Nat.le_trans hqs (by omega))
  have HSUB : Hid (∀ i, i < m → ∀ V : World, Calls Tryz.prog 59 #[.agg #[.bool (qF (f i)).1, .string (qF (f i)).2.1, .string (qF (f i)).2.2], .agg #[.bool (sgn (f2 i * q)), .string (nu (f2 i * q)), .string (de (f2 i * q))]] V fun e w' => e = .returned (.agg #[.bool (qF (f i - f2 i * q)).1, .string (qF (f i - f2 i * q)).2.1, .string (qF (f i - f2 i * q)).2.2]) ∧ Below V.heap.size V w') := fun i hi V => fSub_q (f i - f2 i * q) (val_own (f i)) (val_own (f2 i * q)) rfl (by have h1 := (hs i hi).1; rw [← own_size] at h1; exact Nat.le_trans h1 (by omega)) (by have h1 := (hs i hi).2.2; rw [← own_size] at h1; exact Nat.le_trans h1 (by omega))
  have HF : Hid (∃ f' : Nat → Rat, f' = fun i => f i - f2 i * q) := ⟨_, rfl⟩
  have HRW := hid h
  have HRW2 := hid h2
  have hgl := h.lt
  clear h hs hqs h2
  have hne : w.heap.size ≠ g := by omega
  obtain ⟨f', hf'⟩ := HF.out
  have HFD : Hid (∀ i, f' i = f i - f2 i * q) := fun i => by rw [hf']
  rw [← hf']
  clear HF hf'
  generalize sgn q = bn at *
  generalize nu q = bx at *
  generalize de q = by_ at *
  have hA := (Below.refl w.heap.size w).alloc (Nat.le_refl _) (FC bn bx by_)
  have HK0 : Hid (DvS w B g m c w.heap.size (fun j => if j < 0 then f' j else f j) bn bx by_ (w.alloc (FC bn bx by_))) := ⟨(HRW.out.below hA).congr fun j _ => (if_neg (by omega)).symm, grown_below (World.grownBy.refl _ _) hA, Box.new w bn bx by_⟩
  have HF0 := hid (HRW2.out.below hA)
  clear hA HRW HRW2
  go_enter Tryz.func87, Tryz.ntmps87
  go_upto_region 2 with fail
  generalize (w.alloc (FC bn bx by_)) = W1 at *
  obtain ⟨gB, hgB⟩ : ∃ x, x = w.heap.size := ⟨_, rfl⟩
  simp only [← hgB] at HK0 hne ⊢
  clear hgB
  go_loopw [9] (fun iv wr => ∃ i : Nat, i ≤ m ∧ iv = .int .i64 i ∧ Hid (DvS w B g m c gB (fun j => if j < i then f' j else f j) bn bx by_ wr) ∧ Hid (EqR wr B g2 m c2 f2)) (fun iv _ => m - (intOf iv).toNat)
  case atStart => exact ⟨0, Nat.zero_le _, rfl, HK0, HF0⟩
  case round =>
    obtain ⟨i, hi, rfl, HK, HF2⟩ := hrel
    clear HK0 HF0
    by_cases hlt : i < m
    · have HMU := hid (HMUL.out i hlt)
      have HSB := hid (HSUB.out i hlt)
      have hqn : f i - f2 i * q = f' i := (HFD.out i).symm
      rw [hqn] at HSB
      clear hqn HMUL HSUB HFD
      have HNX : Hid (∀ j, j < m → (if j = i then f' i else if j < i then f' j else f j) = if j < i + 1 then f' j else f j) := fun j _ => part_next i j
      have HHE : Hid ((if i < i then f' i else f i) = f i) := part_here i
      have HFC : Hid (∀ u : World, EqR u B g2 m c2 f2 → u.cell? ⟨g2, i * 3, none⟩ = some (.bool (qF (f2 i)).1) ∧ u.cell? ⟨g2, i * 3 + 1, none⟩ = some (.string (qF (f2 i)).2.1) ∧ u.cell? ⟨g2, i * 3 + 2, none⟩ = some (.string (qF (f2 i)).2.2)) := fun u hu => hu.cells hlt
      generalize sgn (f2 i * q) = en at *
      generalize nu (f2 i * q) = ex at *
      generalize de (f2 i * q) = ey at *
      go_upto_region 4 with fail
      replace HK := hid HK.out.drew
      replace HF2 := hid (HF2.out.below (Below.refl _ _).drew)
      generalize hzd : qF (f2 i) = zd at *
      obtain ⟨dn, dx, dy⟩ := zd
      simp only at HFC HMU
      refine wp_region_held_drew (S := fun u => u.cell? ⟨gB, 0, none⟩ = some (.bool bn) ∧ u.cell? ⟨gB, 1, none⟩ = some (.string bx) ∧ u.cell? ⟨gB, 2, none⟩ = some (.string by_) ∧ u.cell? ⟨g2, i * 3, none⟩ = some (.bool dn) ∧ u.cell? ⟨g2, i * 3 + 1, none⟩ = some (.string dx) ∧ u.cell? ⟨g2, i * 3 + 2, none⟩ = some (.string dy)) (by kernel_rfl) ⟨HK.out.bx.c0, HK.out.bx.c1, HK.out.bx.c2, HFC.out _ HF2.out⟩ (fun hSd => ?_)
      generalize wr.drew = u0 at *
      obtain ⟨k0, k1, k2⟩ := HK.out.row.cells hlt
      rw [HHE.out] at k0 k1 k2
      generalize f' i = qn at *
      generalize hzz : qF (f i) = zz at *
      obtain ⟨an, ax, ay⟩ := zz
      simp only at k0 k1 k2 HSB
      refine wpAnyH_take (i := 0) (oi := _) (v := .slice (some ⟨g, 0, none⟩) m c) rfl (by kernel_rfl) (by kernel_rfl) (by kernel_rfl) (fun _ _ _ h => h) (Or.inl ⟨by rfl, ?_⟩) (by assumption) ?_
      · intro u' hSu
        (try simp only [List.getElem_toArray, List.getElem_cons_zero])
        go_simp
      (try simp only [List.getElem_toArray, List.getElem_cons_zero])
      (try simp only [Act.put, List.setIfInBounds_toArray, List.set_cons_zero, List.set_cons_succ])
      refine wpAnyH_take (i := 1) (oi := _) (v := .int .i64 (i : Nat)) rfl (by kernel_rfl) (by kernel_rfl) (by kernel_rfl) (fun _ _ _ h => h) (Or.inl ⟨by rfl, ?_⟩) (by assumption) ?_
      · intro u' hSu
        (try simp only [List.getElem_toArray, List.getElem_cons_zero, List.getElem_cons_succ])
        go_simp
      (try simp only [List.getElem_toArray, List.getElem_cons_zero, List.getElem_cons_succ])
      (try simp only [Act.put, List.setIfInBounds_toArray, List.set_cons_zero, List.set_cons_succ])
      refine wpAnyH_take (i := 2) (oi := _) (v := .slice (some ⟨g, 0, none⟩) m c) rfl (by kernel_rfl) (by kernel_rfl) (by kernel_rfl) (fun _ _ _ h => h) (Or.inl ⟨by rfl, ?_⟩) (by assumption) ?_
      · intro u' hSu
        (try simp only [List.getElem_toArray, List.getElem_cons_zero, List.getElem_cons_succ])
        go_simp
      (try simp only [List.getElem_toArray, List.getElem_cons_zero, List.getElem_cons_succ])
      (try simp only [Act.put, List.setIfInBounds_toArray, List.set_cons_zero, List.set_cons_succ])
      refine wpAnyH_take (i := 3) (oi := _) (v := .int .i64 (i : Nat)) rfl (by kernel_rfl) (by kernel_rfl) (by kernel_rfl) (fun _ _ _ h => h) (Or.inl ⟨by rfl, ?_⟩) (by assumption) ?_
      · intro u' hSu
        (try simp only [List.getElem_toArray, List.getElem_cons_zero, List.getElem_cons_succ])
        go_simp
      (try simp only [List.getElem_toArray, List.getElem_cons_zero, List.getElem_cons_succ])
      (try simp only [Act.put, List.setIfInBounds_toArray, List.set_cons_zero, List.set_cons_succ])
      refine wpAnyH_take (i := 4) (oi := _) (v := .pointer (some ⟨g, i * 3, none⟩)) rfl (by kernel_rfl) (by kernel_rfl) (by kernel_rfl) (fun _ _ _ h => h) (Or.inl ⟨by rfl, ?_⟩) (by assumption) ?_
      · intro u' hSu
        (try simp only [List.getElem_toArray, List.getElem_cons_zero, List.getElem_cons_succ])
        go_simp
      (try simp only [List.getElem_toArray, List.getElem_cons_zero, List.getElem_cons_succ])
      (try simp only [Act.put, List.setIfInBounds_toArray, List.set_cons_zero, List.set_cons_succ])
      refine wpAnyH_take (i := 6) (oi := _) (v := .slice (some ⟨g2, 0, none⟩) m c2) rfl (by kernel_rfl) (by kernel_rfl) (by kernel_rfl) (fun _ _ _ h => h) (Or.inl ⟨by rfl, ?_⟩) (by assumption) ?_
      · intro u' hSu
        (try simp only [List.getElem_toArray, List.getElem_cons_zero, List.getElem_cons_succ])
        go_simp
      (try simp only [List.getElem_toArray, List.getElem_cons_zero, List.getElem_cons_succ])
      (try simp only [Act.put, List.setIfInBounds_toArray, List.set_cons_zero, List.set_cons_succ])
      refine wpAnyH_take (i := 7) (oi := _) (v := .int .i64 (i : Nat)) rfl (by kernel_rfl) (by kernel_rfl) (by kernel_rfl) (fun _ _ _ h => h) (Or.inl ⟨by rfl, ?_⟩) (by assumption) ?_
      · intro u' hSu
        (try simp only [List.getElem_toArray, List.getElem_cons_zero, List.getElem_cons_succ])
        go_simp
      (try simp only [List.getElem_toArray, List.getElem_cons_zero, List.getElem_cons_succ])
      (try simp only [Act.put, List.setIfInBounds_toArray, List.set_cons_zero, List.set_cons_succ])
      refine wpAnyH_take (i := 8) (oi := _) (v := .pointer (some ⟨g2, i * 3, none⟩)) rfl (by kernel_rfl) (by kernel_rfl) (by kernel_rfl) (fun _ _ _ h => h) (Or.inl ⟨by rfl, ?_⟩) (by assumption) ?_
      · intro u' hSu
        (try simp only [List.getElem_toArray, List.getElem_cons_zero, List.getElem_cons_succ])
        go_simp
      (try simp only [List.getElem_toArray, List.getElem_cons_zero, List.getElem_cons_succ])
      (try simp only [Act.put, List.setIfInBounds_toArray, List.set_cons_zero, List.set_cons_succ])
      refine wpAnyH_take (i := 9) (oi := _) (v := .agg #[.bool dn, .string dx, .string dy]) rfl (by kernel_rfl) (by kernel_rfl) (by kernel_rfl) (fun _ _ _ h => h) (Or.inl ⟨by rfl, ?_⟩) (by assumption) ?_
      · intro u' hSu
        (try simp only [List.getElem_toArray, List.getElem_cons_zero, List.getElem_cons_succ])
        obtain ⟨s0, s1, s2, s3, s4, s5⟩ := hSu
        go_simp
      (try simp only [List.getElem_toArray, List.getElem_cons_zero, List.getElem_cons_succ])
      (try simp only [Act.put, List.setIfInBounds_toArray, List.set_cons_zero, List.set_cons_succ])
      refine wpAnyH_take (i := 10) (oi := _) (v := .agg #[.bool bn, .string bx, .string by_]) rfl (by kernel_rfl) (by kernel_rfl) (by kernel_rfl) (fun _ _ _ h => h) (Or.inl ⟨by rfl, ?_⟩) (by assumption) ?_
      · intro u' hSu
        (try simp only [List.getElem_toArray, List.getElem_cons_zero, List.getElem_cons_succ])
        obtain ⟨s0, s1, s2, s3, s4, s5⟩ := hSu
        go_simp
      (try simp only [List.getElem_toArray, List.getElem_cons_zero, List.getElem_cons_succ])
      (try simp only [Act.put, List.setIfInBounds_toArray, List.set_cons_zero, List.set_cons_succ])
      refine wpAnyH_ready (rs := [5, 11]) (by kernel_rfl) (by simp) (AllReadyH.cons rfl ?_ (AllReadyH.cons rfl ?_ (AllReadyH.nil)))
      · intro K' hK'
        (try simp only [List.getElem_toArray, List.getElem_cons_zero, List.getElem_cons_succ])
        go_simp
        refine hK'.out _ _ ⟨HK.out.bx.c0, HK.out.bx.c1, HK.out.bx.c2, HFC.out _ HF2.out⟩ (fun hSe => ?_)
        clear hK' K' hSd
        have hSd := hSe
        clear hSe
        (try simp only [List.getElem_toArray, List.getElem_cons_zero, List.getElem_cons_succ])
        (try simp only [Act.put, List.setIfInBounds_toArray, List.set_cons_zero, List.set_cons_succ])
        refine wpAnyH_ready (rs := [11]) (by kernel_rfl) (by simp) (AllReadyH.cons rfl ?_ (AllReadyH.nil))
        · intro K' hK'
          (try simp only [List.getElem_toArray, List.getElem_cons_zero, List.getElem_cons_succ])
          go_simp
          refine (HMU.out _).mono ?_
          rintro e u1 ⟨rfl, hb⟩
          replace HK := hid (HK.out.step hb)
          replace HF2 := hid (HF2.out.below hb)
          refine hK'.out _ _ ⟨HK.out.bx.c0, HK.out.bx.c1, HK.out.bx.c2, HFC.out _ HF2.out⟩ (fun hSe => ?_)
          clear hK' K' hSd
          have hSd := hSe
          clear hSe
          (try simp only [List.getElem_toArray, List.getElem_cons_zero, List.getElem_cons_succ])
          (try simp only [Act.put, List.setIfInBounds_toArray, List.set_cons_zero, List.set_cons_succ])
          clear hb
          refine wpAnyH_ready (rs := [12]) (by kernel_rfl) (by simp) (AllReadyH.cons rfl ?_ (AllReadyH.nil))
          · intro K' hK'
            (try simp only [List.getElem_toArray, List.getElem_cons_zero, List.getElem_cons_succ])
            go_simp
            refine (HSB.out _).mono ?_
            rintro e u2 ⟨rfl, hb⟩
            replace HK := hid (HK.out.step hb)
            replace HF2 := hid (HF2.out.below hb)
            clear k0 k1 k2
            obtain ⟨k0, k1, k2⟩ := HK.out.row.cells hlt
            refine hK'.out _ _ ⟨HK.out.bx.c0, HK.out.bx.c1, HK.out.bx.c2, HFC.out _ HF2.out⟩ (fun hSe => ?_)
            clear hK' K' hSd
            have hSd := hSe
            clear hSe
            (try simp only [List.getElem_toArray, List.getElem_cons_zero, List.getElem_cons_succ])
            (try simp only [Act.put, List.setIfInBounds_toArray, List.set_cons_zero, List.set_cons_succ])
            clear hb
            refine wpAnyH_take (i := 13) (oi := _) (v := .pointer (some ⟨g, i * 3, none⟩)) rfl (by kernel_rfl) (by kernel_rfl) (by kernel_rfl) (fun _ _ _ h => h) (Or.inl ⟨by rfl, ?_⟩) (by assumption) ?_
            · intro u' hSu
              (try simp only [List.getElem_toArray, List.getElem_cons_zero, List.getElem_cons_succ])
              go_simp
            (try simp only [List.getElem_toArray, List.getElem_cons_zero, List.getElem_cons_succ])
            (try simp only [Act.put, List.setIfInBounds_toArray, List.set_cons_zero, List.set_cons_succ])
            have z0 := HK.out.row.fz (i * 3)
            have z1 := HK.out.row.fz (i * 3 + 1)
            have z2 := HK.out.row.fz (i * 3 + 2)
            refine wpAnyH_ready (rs := [14]) (by kernel_rfl) (by simp) (AllReadyH.cons rfl ?_ (AllReadyH.nil))
            · intro K' hK'
              (try simp only [List.getElem_toArray, List.getElem_cons_zero, List.getElem_cons_succ])
              go_simp
              have HK9 := hid (HK.out.put hne i qn)
              have HF9 := hid (HF2.out.kept (HK.out.row.put i qn).2 hg2)
              refine hK'.out _ _ ⟨HK9.out.bx.c0, HK9.out.bx.c1, HK9.out.bx.c2, HFC.out _ HF9.out⟩ (fun _ => wpAnyH_done (by kernel_rfl) ?_ _)
              clear hK' K' hSd k0 k1 k2 z0 z1 z2 HK
              have HKn := hid (HK9.out.congr HNX.out)
              clear HK9 HF2
              go_wp2
              go_roundw
              case rel => exact ⟨i + 1, by omega, by go_num, HKn, HF9⟩
              case measure => simp [intOf]; omega
      · intro K' hK'
        (try simp only [List.getElem_toArray, List.getElem_cons_zero, List.getElem_cons_succ])
        go_simp
        refine (HMU.out _).mono ?_
        rintro e u1 ⟨rfl, hb⟩
        replace HK := hid (HK.out.step hb)
        replace HF2 := hid (HF2.out.below hb)
        clear k0 k1 k2
        obtain ⟨k0, k1, k2⟩ := HK.out.row.cells hlt
        rw [part_here, hzz] at k0 k1 k2
        simp only at k0 k1 k2
        refine hK'.out _ _ ⟨HK.out.bx.c0, HK.out.bx.c1, HK.out.bx.c2, HFC.out _ HF2.out⟩ (fun hSe => ?_)
        clear hK' K' hSd
        have hSd := hSe
        clear hSe
        (try simp only [List.getElem_toArray, List.getElem_cons_zero, List.getElem_cons_succ])
        (try simp only [Act.put, List.setIfInBounds_toArray, List.set_cons_zero, List.set_cons_succ])
        clear hb
        refine wpAnyH_ready (rs := [5]) (by kernel_rfl) (by simp) (AllReadyH.cons rfl ?_ (AllReadyH.nil))
        · intro K' hK'
          (try simp only [List.getElem_toArray, List.getElem_cons_zero, List.getElem_cons_succ])
          go_simp
          refine hK'.out _ _ ⟨HK.out.bx.c0, HK.out.bx.c1, HK.out.bx.c2, HFC.out _ HF2.out⟩ (fun hSe => ?_)
          clear hK' K' hSd
          have hSd := hSe
          clear hSe
          (try simp only [List.getElem_toArray, List.getElem_cons_zero, List.getElem_cons_succ])
          (try simp only [Act.put, List.setIfInBounds_toArray, List.set_cons_zero, List.set_cons_succ])
          refine wpAnyH_ready (rs := [12]) (by kernel_rfl) (by simp) (AllReadyH.cons rfl ?_ (AllReadyH.nil))
          · intro K' hK'
            (try simp only [List.getElem_toArray, List.getElem_cons_zero, List.getElem_cons_succ])
            go_simp
            refine (HSB.out _).mono ?_
            rintro e u2 ⟨rfl, hb⟩
            replace HK := hid (HK.out.step hb)
            replace HF2 := hid (HF2.out.below hb)
            clear k0 k1 k2
            obtain ⟨k0, k1, k2⟩ := HK.out.row.cells hlt
            refine hK'.out _ _ ⟨HK.out.bx.c0, HK.out.bx.c1, HK.out.bx.c2, HFC.out _ HF2.out⟩ (fun hSe => ?_)
            clear hK' K' hSd
            have hSd := hSe
            clear hSe
            (try simp only [List.getElem_toArray, List.getElem_cons_zero, List.getElem_cons_succ])
            (try simp only [Act.put, List.setIfInBounds_toArray, List.set_cons_zero, List.set_cons_succ])
            clear hb
            refine wpAnyH_take (i := 13) (oi := _) (v := .pointer (some ⟨g, i * 3, none⟩)) rfl (by kernel_rfl) (by kernel_rfl) (by kernel_rfl) (fun _ _ _ h => h) (Or.inl ⟨by rfl, ?_⟩) (by assumption) ?_
            · intro u' hSu
              (try simp only [List.getElem_toArray, List.getElem_cons_zero, List.getElem_cons_succ])
              go_simp
            (try simp only [List.getElem_toArray, List.getElem_cons_zero, List.getElem_cons_succ])
            (try simp only [Act.put, List.setIfInBounds_toArray, List.set_cons_zero, List.set_cons_succ])
            have z0 := HK.out.row.fz (i * 3)
            have z1 := HK.out.row.fz (i * 3 + 1)
            have z2 := HK.out.row.fz (i * 3 + 2)
            refine wpAnyH_ready (rs := [14]) (by kernel_rfl) (by simp) (AllReadyH.cons rfl ?_ (AllReadyH.nil))
            · intro K' hK'
              (try simp only [List.getElem_toArray, List.getElem_cons_zero, List.getElem_cons_succ])
              go_simp
              have HK9 := hid (HK.out.put hne i qn)
              have HF9 := hid (HF2.out.kept (HK.out.row.put i qn).2 hg2)
              refine hK'.out _ _ ⟨HK9.out.bx.c0, HK9.out.bx.c1, HK9.out.bx.c2, HFC.out _ HF9.out⟩ (fun _ => wpAnyH_done (by kernel_rfl) ?_ _)
              clear hK' K' hSd k0 k1 k2 z0 z1 z2 HK
              have HKn := hid (HK9.out.congr HNX.out)
              clear HK9 HF2
              go_wp2
              go_roundw
              case rel => exact ⟨i + 1, by omega, by go_num, HKn, HF9⟩
              case measure => simp [intOf]; omega
    · obtain rfl : i = m := by omega
      go_wp2
      go_end0
      exact ⟨rfl, HK.out.row.congr fun j hj => if_pos hj, HK.out.gr⟩
end Go.Proofs.YtbejijgelljeaaaGreatDoor
