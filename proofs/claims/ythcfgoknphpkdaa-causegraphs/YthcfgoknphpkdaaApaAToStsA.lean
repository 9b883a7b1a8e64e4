/- Package graph: Apart. -/
import Derived.Test.YthcfgoknphpkdaaOpnDOwn
import Derived.Test.YthcfgoknphpkdaaOpnBToCutP
import Derived.Test.YthcfgoknphpkdaaOrdCToAbvB
import Derived.BigQuiet
import Derived.Test.YthcfgoknphpkdaaWinAToOpnC
namespace Go.Proofs.Ythcfgoknphpkdaa
open Go.RowKit Go.Shelf

/-- What Apart answers. -/
def ApR (L : List (List Int)) (x y z : List Int) (e : Ending) : Prop :=
  (gcE L ≠ 0 ∧ e = .returned (.tuple #[.bool false, .int .i64 (gcE L)])) ∨ (gcE L = 0 ∧ apB L.length [x, y, z] = false ∧ e = .returned (.tuple #[.bool false, .int .i64 11])) ∨
  (gcE L = 0 ∧ apB L.length [x, y, z] = true ∧ e = .returned (.tuple #[.bool (!opX L x y z), .int .i64 0]))
theorem ApR.told {L : List (List Int)} {x y z : List Int} {e : Ending} (h : ApR L x y z e) : ∃ pb er, e = .returned (.tuple #[.bool pb, .int .i64 er]) ∧ ∀ e', ApR L x y z e' → e' = .returned (.tuple #[.bool pb, .int .i64 er]) := by
  rcases h with ⟨h1, h2⟩ | ⟨h1, h2, h3⟩ | ⟨h1, h2, h3⟩
  · refine ⟨_, _, h2, ?_⟩
    rintro e' (⟨_, k⟩ | ⟨k, _⟩ | ⟨k, _⟩)
    · exact k
    · exact absurd k h1
    · exact absurd k h1
  · refine ⟨_, _, h3, ?_⟩
    rintro e' (⟨k, _⟩ | ⟨_, _, k⟩ | ⟨_, k, _⟩)
    · exact absurd h1 k
    · exact k
    · rw [h2] at k; cases k
  · refine ⟨_, _, h3, ?_⟩
    rintro e' (⟨k, _⟩ | ⟨_, k, _⟩ | ⟨_, _, k⟩)
    · exact absurd h1 k
    · rw [h2] at k; cases k
    · exact k
theorem three_lists {U : World} {bx by' bz : Option Addr} {cx cy cz : Nat} {x y z : List Int} (hx : IntS U bx x) (hy : IntS U by' y) (hz : IntS U bz z) : LsS (U.alloc (.cells #[.slice bx x.length cx, .slice by' y.length cy, .slice bz z.length cz] 23)) (some ⟨U.heap.size, 0, none⟩) [x, y, z] := fun k hk => by
  have hA := (Below.refl U.heap.size U).alloc (Nat.le_refl _) (.cells #[.slice bx x.length cx, .slice by' y.length cy, .slice bz z.length cz] 23)
  have hnew := heap_alloc_new U (.cells #[.slice bx x.length cx, .slice by' y.length cy, .slice bz z.length cz] 23)
  have hlt := (Array.getElem?_eq_some_iff.1 hnew).1
  match k, hk with
  | 0, _ => exact ⟨_, 0, bx, cx, rfl, hlt, by rw [cell_of_row _ U.heap.size _ _ _ (0, 0) hnew]; rfl, hx.below hA⟩
  | 1, _ => exact ⟨_, 0, by', cy, rfl, hlt, by rw [cell_of_row _ U.heap.size _ _ _ (0, 0) hnew]; rfl, hy.below hA⟩
  | 2, _ => exact ⟨_, 0, bz, cz, rfl, hlt, by rw [cell_of_row _ U.heap.size _ _ _ (0, 0) hnew]; rfl, hz.below hA⟩

set_option maxRecDepth 100000 in
set_option maxHeartbeats 2000000 in
theorem gApart_any (a bx by' bz : Option Addr) (ca cx cy cz : Nat) (L : List (List Int)) (x y z : List Int) (w : World) (h : LsS w a L) (hl : ∀ l ∈ L, l.length ≤ 140737488355328) (hx : IntS w bx x) (hy : IntS w by' y) (hz : IntS w bz z) (hxl : x.length ≤ 140737488355328) (hyl : y.length ≤ 140737488355328) (hzl : z.length ≤ 140737488355328) :
    Calls Try.prog 13 #[.slice a L.length ca, .slice bx x.length cx, .slice by' y.length cy, .slice bz z.length cz] w fun e w' => Below w.heap.size w w' ∧ ApR L x y z e := by
  have HR := hid (gRead_any a ca L w h hl)
  have HLS : Hid (∀ U : World, Below w.heap.size w U → LsS (U.alloc (.cells #[.slice bx x.length cx, .slice by' y.length cy, .slice bz z.length cz] 23)) (some ⟨U.heap.size, 0, none⟩) [x, y, z]) := fun U hU => three_lists (hx.below hU) (hy.below hU) (hz.below hU)
  have HSO : Hid (gcE L = 0 → ∀ (G : Nat) (U : World), LsS U (some ⟨G, 0, none⟩) [x, y, z] → Calls Try.prog 33 #[.slice (some ⟨G, 0, none⟩) 3 3, .int .i64 (L.length : Nat)] U fun e w' => Below U.heap.size U w' ∧
      ((allRis [x, y, z] L.length = true ∧ ∃ G, e = .returned (.tuple #[.slice (some ⟨G, 0, none⟩) 3 3, .bool true]) ∧ U.heap.size ≤ G ∧ RowU w' G (masks [x, y, z])) ∨ (allRis [x, y, z] L.length = false ∧ e = .returned (.tuple #[.slice none 0 0, .bool false])))) := fun hg G U hU => setsOf_any (some ⟨G, 0, none⟩) 3 L.length [x, y, z] U hU (by simp) (gB_parts (gc_parts hg).1).2.1 (fun l hl' => by
    simp only [List.mem_cons, List.not_mem_nil, or_false] at hl'
    rcases hl' with rfl | rfl | rfl <;> assumption)
  have hup : allRis [x, y, z] L.length = true → Up x L.length ∧ Up y L.length ∧ Up z L.length := fun hr => ⟨ris_up (List.all_eq_true.1 hr x (by simp)), ris_up (List.all_eq_true.1 hr y (by simp)), ris_up (List.all_eq_true.1 hr z (by simp))⟩
  have HOP : Hid (gcE L = 0 → allRis [x, y, z] L.length = true → ∀ (G c : Nat) (U : World), RowU U G (masks L) → Calls Try.prog 34 #[.slice (some ⟨G, 0, none⟩) L.length c, .int .u32 (mskN (toN x) : Nat), .int .u32 (mskN (toN y) : Nat), .int .u32 (mskN (toN z) : Nat)] U fun e w' => ∃ q, e = .returned (.bool q) ∧ (apB L.length [x, y, z] = true → q = opX L x y z) ∧ Below U.heap.size U w') := fun hg hr G c U hU => by
    have hgb := (gc_parts hg).1
    have h8 := (gB_parts hgb).2.1
    obtain ⟨h1, h2, h3⟩ := hup hr
    rw [masks_par] at hU
    refine (isOpen_any G L.length c (parN L) (toN x) (toN y) (toN z) U (parN_length L) h8 hU (fun v u hu => pa_lt hgb hu) (par_lt hgb) (up_lt h1) (up_lt h2) (up_lt h3)).mono ?_
    rintro e w' ⟨q, rfl, hq, hb⟩
    exact ⟨q, rfl, fun hap => Bool.eq_iff_iff.2 (hq.trans (opX_iff hg h8 hap).symm), hb⟩
  have HMK : Hid (allRis [x, y, z] L.length = true → (apB L.length [x, y, z] = true ↔ mskN ((toN x).filter fun v => decide (v ∈ toN y)) = 0 ∧ mskN ((toN x ++ toN y).filter fun v => decide (v ∈ toN z)) = 0)) := apB_masks
  have HNR : Hid (allRis [x, y, z] L.length = false → apB L.length [x, y, z] = false) := fun hr => by rw [apB, hr]; rfl
  have HBT : Hid (gcE L = 0 → allRis [x, y, z] L.length = true → bits BinOp.and IntKind.u32 (mskN (toN x) : Nat) (mskN (toN y) : Nat) = ((mskN ((toN x).filter fun v => decide (v ∈ toN y)) : Nat) : Int) ∧ bits BinOp.or IntKind.u32 (mskN (toN x) : Nat) (mskN (toN y) : Nat) = ((mskN (toN x ++ toN y) : Nat) : Int) ∧ bits BinOp.and IntKind.u32 (mskN (toN x ++ toN y) : Nat) (mskN (toN z) : Nat) = ((mskN ((toN x ++ toN y).filter fun v => decide (v ∈ toN z)) : Nat) : Int)) := fun hg hr => by
    have h8 := (gB_parts (gc_parts hg).1).2.1
    obtain ⟨h1, h2, h3⟩ := hup hr
    have k1 : ∀ u ∈ toN x, u < 8 := fun u hu => by have := up_lt h1 u hu; omega
    have k2 : ∀ u ∈ toN y, u < 8 := fun u hu => by have := up_lt h2 u hu; omega
    have k3 : ∀ u ∈ toN z, u < 8 := fun u hu => by have := up_lt h3 u hu; omega
    exact ⟨bits_and _ _ k1 k2, bits_or _ _ k1 k2, bits_and _ _ (app_small k1 k2) k3⟩
  have HMS : Hid (masks [x, y, z] = [mskN (toN x), mskN (toN y), mskN (toN z)]) := rfl
  clear h hl hx hy hz hup
  go_enter Try.func13, Try.ntmps13
  go_wp2_with fail
  refine HR.out.mono ?_
  rintro e w1 ⟨hb1, ⟨hg, G, rfl, hG, hU⟩ | ⟨hg, rfl⟩⟩
  · have HB1 := hid hb1
    have HG0 := hid hg
    have HU := hid hU
    have HS1 := hid (HSO.out hg w1.heap.size _ (HLS.out w1 hb1))
    have hA := (Below.refl w1.heap.size w1).alloc (Nat.le_refl _) (.cells #[.slice bx x.length cx, .slice by' y.length cy, .slice bz z.length cz] 23)
    have HA := hid hA
    clear hb1 hA HR HSO HLS hg hU
    go_wp2_with fail
    refine HS1.out.mono ?_
    rintro e w2 ⟨hb2, ⟨hr, G2, rfl, hG2, hU2⟩ | ⟨hr, rfl⟩⟩
    · have HB2 := hid ((HB1.out.trans (HA.out.mono HB1.out.size)).trans (hb2.mono (Nat.le_trans HB1.out.size HA.out.size)))
      obtain ⟨hand, hor, hand2⟩ := HBT.out HG0.out hr
      have hmk := HMK.out hr
      have hUw2 : RowU w2 G (masks L) := ((HU.out.below HA.out HU.out.lt)).below hb2 (Nat.lt_of_lt_of_le HU.out.lt HA.out.size)
      have HUW := hid hUw2
      rw [HMS.out] at hU2
      have HU2 := hid hU2
      have k0 := hU2.cell 0 (by simp)
      have k1 := hU2.cell 1 (by simp)
      have k2 := hU2.cell 2 (by simp)
      have HOP2 := hid (HOP.out HG0.out hr G L.length)
      simp only [List.getElem_cons_zero, List.getElem_cons_succ] at k0 k1 k2
      clear hr hb2 HS1 HOP HMK HBT HMS HNR hU2 hUw2
      generalize mskN ((toN x).filter fun v => decide (v ∈ toN y)) = mxy at *
      generalize mskN ((toN x ++ toN y).filter fun v => decide (v ∈ toN z)) = mxyz at *
      generalize mskN (toN x ++ toN y) = mu at *
      generalize mskN (toN x) = mx at *
      generalize mskN (toN y) = my at *
      generalize mskN (toN z) = mz at *
      by_cases h1 : mxy = 0
      · by_cases h2 : mxyz = 0
        · have HAP := hid (hmk.2 ⟨h1, h2⟩)
          subst h1
          subst h2
          clear hmk
          go_upto_region 7 with (go_quiet (fail))
          have HU3 : Hid (RowU (w2.drewN nq) G2 [mx, my, mz]) := HU2.out
          have HUW3 : Hid (RowU (w2.drewN nq).drew G (masks L)) := HUW.out
          have HB3 := hid (below_drewN HB2.out nq)
          have k0' : (w2.drewN nq).drew.cell? ⟨G2, 0, none⟩ = some (.int .u32 (mx : Nat)) := k0
          have k1' : (w2.drewN nq).drew.cell? ⟨G2, 1, none⟩ = some (.int .u32 (my : Nat)) := k1
          have k2' : (w2.drewN nq).drew.cell? ⟨G2, 2, none⟩ = some (.int .u32 (mz : Nat)) := k2
          clear k0 k1 k2 hand hor hand2
          generalize w2.drewN nq = W3 at *
          have hG2l := HU3.out.lt
          have HK3 : Hid (∀ U : World, Below W3.drew.heap.size W3.drew U → U.cell? ⟨G2, 0, none⟩ = some (.int .u32 (mx : Nat)) ∧ U.cell? ⟨G2, 1, none⟩ = some (.int .u32 (my : Nat)) ∧ U.cell? ⟨G2, 2, none⟩ = some (.int .u32 (mz : Nat))) := fun U hU => ⟨(hU.cell (p := ⟨G2, 0, none⟩) hG2l).trans k0', (hU.cell (p := ⟨G2, 1, none⟩) hG2l).trans k1', (hU.cell (p := ⟨G2, 2, none⟩) hG2l).trans k2'⟩
          refine wp_region_held_drew (S := fun U => U.cell? ⟨G2, 0, none⟩ = some (.int .u32 (mx : Nat)) ∧ U.cell? ⟨G2, 1, none⟩ = some (.int .u32 (my : Nat)) ∧ U.cell? ⟨G2, 2, none⟩ = some (.int .u32 (mz : Nat))) (by kernel_rfl) ⟨k0', k1', k2'⟩ (fun hSd => ?_)
          refine wpAnyH_take (i := 0) (oi := _) (v := .slice (some ⟨G, 0, none⟩) L.length L.length) rfl (by kernel_rfl) (by kernel_rfl) (by kernel_rfl) (fun _ _ _ h => h) (Or.inl ⟨by rfl, ?_⟩) (by assumption) ?_
          · intro u' hSu
            (try simp only [List.getElem_toArray, List.getElem_cons_zero])
            go_simp
          (try simp only [List.getElem_toArray, List.getElem_cons_zero])
          (try simp only [Act.put, List.setIfInBounds_toArray, List.set_cons_zero, List.set_cons_succ])
          refine wpAnyH_take (i := 1) (oi := _) (v := .slice (some ⟨G2, 0, none⟩) 3 3) rfl (by kernel_rfl) (by kernel_rfl) (by kernel_rfl) (fun _ _ _ h => h) (Or.inl ⟨by rfl, ?_⟩) (by assumption) ?_
          · intro u' hSu
            (try simp only [List.getElem_toArray, List.getElem_cons_zero, List.getElem_cons_succ])
            go_simp
          (try simp only [List.getElem_toArray, List.getElem_cons_zero, List.getElem_cons_succ])
          (try simp only [Act.put, List.setIfInBounds_toArray, List.set_cons_zero, List.set_cons_succ])
          refine wpAnyH_take (i := 2) (oi := _) (v := .pointer (some ⟨G2, 0, none⟩)) rfl (by kernel_rfl) (by kernel_rfl) (by kernel_rfl) (fun _ _ _ h => h) (Or.inl ⟨by rfl, ?_⟩) (by assumption) ?_
          · intro u' hSu
            (try simp only [List.getElem_toArray, List.getElem_cons_zero, List.getElem_cons_succ])
            go_simp
          (try simp only [List.getElem_toArray, List.getElem_cons_zero, List.getElem_cons_succ])
          (try simp only [Act.put, List.setIfInBounds_toArray, List.set_cons_zero, List.set_cons_succ])
          refine wpAnyH_take (i := 3) (oi := _) (v := .int .u32 (mx : Nat)) rfl (by kernel_rfl) (by kernel_rfl) (by kernel_rfl) (fun _ _ _ h => h) (Or.inl ⟨by rfl, ?_⟩) (by assumption) ?_
          · intro u' hSu
            (try simp only [List.getElem_toArray, List.getElem_cons_zero, List.getElem_cons_succ])
            obtain ⟨s0, s1, s2⟩ := hSu
            go_simp
          (try simp only [List.getElem_toArray, List.getElem_cons_zero, List.getElem_cons_succ])
          (try simp only [Act.put, List.setIfInBounds_toArray, List.set_cons_zero, List.set_cons_succ])
          refine wpAnyH_take (i := 4) (oi := _) (v := .slice (some ⟨G2, 0, none⟩) 3 3) rfl (by kernel_rfl) (by kernel_rfl) (by kernel_rfl) (fun _ _ _ h => h) (Or.inl ⟨by rfl, ?_⟩) (by assumption) ?_
          · intro u' hSu
            (try simp only [List.getElem_toArray, List.getElem_cons_zero, List.getElem_cons_succ])
            go_simp
          (try simp only [List.getElem_toArray, List.getElem_cons_zero, List.getElem_cons_succ])
          (try simp only [Act.put, List.setIfInBounds_toArray, List.set_cons_zero, List.set_cons_succ])
          refine wpAnyH_take (i := 5) (oi := _) (v := .pointer (some ⟨G2, 1, none⟩)) rfl (by kernel_rfl) (by kernel_rfl) (by kernel_rfl) (fun _ _ _ h => h) (Or.inl ⟨by rfl, ?_⟩) (by assumption) ?_
          · intro u' hSu
            (try simp only [List.getElem_toArray, List.getElem_cons_zero, List.getElem_cons_succ])
            go_simp
          (try simp only [List.getElem_toArray, List.getElem_cons_zero, List.getElem_cons_succ])
          (try simp only [Act.put, List.setIfInBounds_toArray, List.set_cons_zero, List.set_cons_succ])
          refine wpAnyH_take (i := 6) (oi := _) (v := .int .u32 (my : Nat)) rfl (by kernel_rfl) (by kernel_rfl) (by kernel_rfl) (fun _ _ _ h => h) (Or.inl ⟨by rfl, ?_⟩) (by assumption) ?_
          · intro u' hSu
            (try simp only [List.getElem_toArray, List.getElem_cons_zero, List.getElem_cons_succ])
            obtain ⟨s0, s1, s2⟩ := hSu
            go_simp
          (try simp only [List.getElem_toArray, List.getElem_cons_zero, List.getElem_cons_succ])
          (try simp only [Act.put, List.setIfInBounds_toArray, List.set_cons_zero, List.set_cons_succ])
          refine wpAnyH_take (i := 7) (oi := _) (v := .slice (some ⟨G2, 0, none⟩) 3 3) rfl (by kernel_rfl) (by kernel_rfl) (by kernel_rfl) (fun _ _ _ h => h) (Or.inl ⟨by rfl, ?_⟩) (by assumption) ?_
          · intro u' hSu
            (try simp only [List.getElem_toArray, List.getElem_cons_zero, List.getElem_cons_succ])
            go_simp
          (try simp only [List.getElem_toArray, List.getElem_cons_zero, List.getElem_cons_succ])
          (try simp only [Act.put, List.setIfInBounds_toArray, List.set_cons_zero, List.set_cons_succ])
          refine wpAnyH_take (i := 8) (oi := _) (v := .pointer (some ⟨G2, 2, none⟩)) rfl (by kernel_rfl) (by kernel_rfl) (by kernel_rfl) (fun _ _ _ h => h) (Or.inl ⟨by rfl, ?_⟩) (by assumption) ?_
          · intro u' hSu
            (try simp only [List.getElem_toArray, List.getElem_cons_zero, List.getElem_cons_succ])
            go_simp
          (try simp only [List.getElem_toArray, List.getElem_cons_zero, List.getElem_cons_succ])
          (try simp only [Act.put, List.setIfInBounds_toArray, List.set_cons_zero, List.set_cons_succ])
          refine wpAnyH_take (i := 9) (oi := _) (v := .int .u32 (mz : Nat)) rfl (by kernel_rfl) (by kernel_rfl) (by kernel_rfl) (fun _ _ _ h => h) (Or.inl ⟨by rfl, ?_⟩) (by assumption) ?_
          · intro u' hSu
            (try simp only [List.getElem_toArray, List.getElem_cons_zero, List.getElem_cons_succ])
            obtain ⟨s0, s1, s2⟩ := hSu
            go_simp
          (try simp only [List.getElem_toArray, List.getElem_cons_zero, List.getElem_cons_succ])
          (try simp only [Act.put, List.setIfInBounds_toArray, List.set_cons_zero, List.set_cons_succ])
          refine wpAnyH_ready (rs := [10]) (by kernel_rfl) (by simp) (AllReadyH.cons rfl ?_ (AllReadyH.nil))
          · intro K' hK'
            (try simp only [List.getElem_toArray, List.getElem_cons_zero, List.getElem_cons_succ])
            go_simp
            refine (HOP2.out W3.drew HUW3.out).mono ?_
            rintro r w5 ⟨q, rfl, hq, hb5⟩
            refine hK'.out _ _ (HK3.out w5 hb5) (fun hSe => ?_)
            clear hK' K' hSd
            (try simp only [List.getElem_toArray, List.getElem_cons_zero, List.getElem_cons_succ])
            (try simp only [Act.put, List.setIfInBounds_toArray, List.set_cons_zero, List.set_cons_succ])
            refine wpAnyH_take (i := 11) (oi := _) (v := .bool (!q)) rfl (by kernel_rfl) (by kernel_rfl) (by kernel_rfl) (fun _ _ _ h => h) (Or.inl ⟨by rfl, ?_⟩) (by assumption) ?_
            · intro u' hSu
              (try simp only [List.getElem_toArray, List.getElem_cons_zero, List.getElem_cons_succ])
              go_simp
            (try simp only [List.getElem_toArray, List.getElem_cons_zero, List.getElem_cons_succ])
            (try simp only [Act.put, List.setIfInBounds_toArray, List.set_cons_zero, List.set_cons_succ])
            refine wpAnyH_take (i := 12) (oi := _) (v := .bool (!q)) rfl (by kernel_rfl) (by kernel_rfl) (by kernel_rfl) (fun _ _ _ h => h) (Or.inl ⟨by rfl, ?_⟩) (by assumption) ?_
            · intro u' hSu
              (try simp only [List.getElem_toArray, List.getElem_cons_zero, List.getElem_cons_succ])
              go_simp
            (try simp only [List.getElem_toArray, List.getElem_cons_zero, List.getElem_cons_succ])
            (try simp only [Act.put, List.setIfInBounds_toArray, List.set_cons_zero, List.set_cons_succ])
            refine wpAnyH_take (i := 13) (oi := _) (v := .int .i64 0) rfl (by kernel_rfl) (by kernel_rfl) (by kernel_rfl) (fun _ _ _ h => h) (Or.inl ⟨by rfl, ?_⟩) (by assumption) ?_
            · intro u' hSu
              (try simp only [List.getElem_toArray, List.getElem_cons_zero, List.getElem_cons_succ])
              go_simp
            (try simp only [List.getElem_toArray, List.getElem_cons_zero, List.getElem_cons_succ])
            (try simp only [Act.put, List.setIfInBounds_toArray, List.set_cons_zero, List.set_cons_succ])
            refine wpAnyH_done (by kernel_rfl) ?_ _
            clear hSe
            have HB5 : Hid (Below w.heap.size w w5) := HB3.out.drew.trans (hb5.mono HB3.out.drew.size)
            have HQ := hid (hq HAP.out)
            clear hq hb5
            go_wp2
            go_ret2
            exact ⟨HB5.out, .inr (.inr ⟨HG0.out, HAP.out, by rw [HQ.out]; rfl⟩)⟩
        · have HAP : Hid (apB L.length [x, y, z] = false) := Bool.eq_false_iff.2 fun e => h2 (hmk.1 e).2
          subst h1
          have h2' : ((mxyz : Int) == 0) = false := by simp; omega
          clear hmk
          go_wp2_with (go_quiet (fail))
          go_ret2
          exact ⟨below_drewN HB2.out _, .inr (.inl ⟨HG0.out, HAP.out, rfl⟩)⟩
      · have HAP : Hid (apB L.length [x, y, z] = false) := Bool.eq_false_iff.2 fun e => h1 (hmk.1 e).1
        have h1' : ((mxy : Int) == 0) = false := by simp; omega
        clear hmk
        go_wp2_with (go_quiet (fail))
        go_ret2
        exact ⟨below_drewN HB2.out _, .inr (.inl ⟨HG0.out, HAP.out, rfl⟩)⟩
    · have HAP := hid (HNR.out hr)
      have HB2 := hid ((HB1.out.trans (HA.out.mono HB1.out.size)).trans (hb2.mono (Nat.le_trans HB1.out.size HA.out.size)))
      clear hr hb2 HS1 HOP HMK HBT HMS HNR
      go_wp2_with (go_quiet (fail))
      go_ret2
      exact ⟨below_drewN HB2.out _, .inr (.inl ⟨HG0.out, HAP.out, rfl⟩)⟩
  · have HGN := hid hg
    have HB1 := hid hb1
    have hgb : (gcE L == 0) = false := by simpa using hg
    clear hg hb1 HLS HSO HOP HMK HNR HBT HMS HR
    generalize hge : gcE L = ge at *
    have HGE := hid hge
    clear hge
    go_wp2
    go_ret2
    exact ⟨HB1.out, .inl ⟨by rw [HGE.out]; exact HGN.out, by rw [HGE.out]; rfl⟩⟩
end Go.Proofs.Ythcfgoknphpkdaa


/- Package cause: setsMayBe, apart, isAbove. -/
namespace Go.Proofs.Ythcfgoknphpkdaa
open Go.RowKit Go.Shelf

theorem up_small {l : List Int} {n : Nat} (h : Up l n) : l.length ≤ n := by
  have hnd : (toN l).Nodup := List.pairwise_map.2 (List.pairwise_iff_getElem.2 fun i j hi hj hij => by
    have h1 := h.lt i j hj hij
    have h2 := h.each i hi
    omega)
  have := nd_len hnd (m := List.range n) fun x hx => by
    have := up_lt h x hx
    exact List.mem_range.2 this
  simpa [toN] using this
/-- What setsMayBe has found, as far as the i-th set. -/
structure SmB (L Ls : List (List Int)) (i : Nat) (bn : List Int) : Prop where
  ok : 0 < i → gcE L = 0
  ris : ∀ l ∈ Ls.take i, risB l L.length = true
  nd : (Ls.take i).flatten.Nodup
  up : Up bn L.length
  mem : ∀ x, x ∈ bn ↔ x ∈ (Ls.take i).flatten
theorem SmB.start (L Ls : List (List Int)) : SmB L Ls 0 [] := ⟨fun h => absurd h (by omega), (fun l hl => by cases hl), by simp, ⟨fun i h => absurd h (by simp), fun i j h => absurd h (by simp)⟩, fun x => by simp⟩
theorem take_flat {Ls : List (List Int)} {i : Nat} (hi : i < Ls.length) : (Ls.take (i + 1)).flatten = (Ls.take i).flatten ++ Ls[i] := by
  rw [List.take_succ_eq_append_getElem hi, List.flatten_append]
  simp
theorem SmB.disj {L Ls : List (List Int)} {i : Nat} {bn : List Int} (h : SmB L Ls i bn) (hi : i < Ls.length) (hr : risB Ls[i] L.length = true) (hd : ∀ x ∈ Ls[i], ¬ x ∈ bn) : (bn ++ Ls[i]).Nodup := by
  refine List.nodup_append.2 ⟨up_nodup h.up, up_nodup (ris_up hr), fun a ha b hb e => ?_⟩
  subst e
  exact hd a hb ha
theorem SmB.next {L Ls : List (List Int)} {i : Nat} {bn : List Int} (h : SmB L Ls i bn) (hi : i < Ls.length) (hg : gcE L = 0) (hr : risB Ls[i] L.length = true) (hd : ∀ x ∈ Ls[i], ¬ x ∈ bn) : SmB L Ls (i + 1) (togL bn Ls[i]) := by
  have hu := ris_up hr
  refine ⟨fun _ => hg, fun l hl => ?_, ?_, togL_up h.up hu, fun x => ?_⟩
  · rw [List.take_succ_eq_append_getElem hi] at hl
    rcases List.mem_append.1 hl with hl | hl
    · exact h.ris l hl
    · rw [List.mem_singleton.1 hl]; exact hr
  · rw [take_flat hi]
    refine List.nodup_append.2 ⟨h.nd, up_nodup hu, fun a ha b hb e => ?_⟩
    subst e
    exact hd a hb ((h.mem a).2 ha)
  · rw [(togL_rise _ _).2, take_flat hi, List.mem_append, h.mem]
theorem SmB.twice {L Ls : List (List Int)} {i : Nat} {bn : List Int} (h : SmB L Ls i bn) (hi : i < Ls.length) {x : Int} (hx : x ∈ Ls[i]) (hb : x ∈ bn) : apB L.length Ls = false := by
  refine Bool.eq_false_iff.2 fun e => ?_
  have hn := (apB_iff.1 e).2
  rw [← List.take_append_drop (i + 1) Ls, List.flatten_append, take_flat hi] at hn
  have h1 := (List.nodup_append.1 (List.nodup_append.1 hn).1).2.2
  exact h1 x ((h.mem x).1 hb) x hx rfl
theorem SmB.fin {L Ls : List (List Int)} {bn : List Int} (h : SmB L Ls Ls.length bn) (hp : 0 < Ls.length) : stE L Ls = 0 := by
  have h1 := h.ris
  have h2 := h.nd
  rw [List.take_length] at h1 h2
  rw [stE, if_pos (h.ok hp), if_pos (apB_iff.2 ⟨h1, h2⟩)]
theorem stE_bad {L Ls : List (List Int)} (hg : gcE L = 0) (h : apB L.length Ls = false) : stE L Ls = 11 := by rw [stE, if_pos hg, if_neg (by rw [h]; decide)]
theorem stE_gc {L Ls : List (List Int)} (hg : gcE L ≠ 0) : stE L Ls = gcE L := by rw [stE, if_neg hg]
theorem apB_bad {n : Nat} {Ls : List (List Int)} {i : Nat} (hi : i < Ls.length) (h : risB Ls[i] n = false) : apB n Ls = false := Bool.eq_false_iff.2 fun e => by
  have := (apB_iff.1 e).1 _ (List.getElem_mem hi)
  rw [h] at this
  cases this
theorem oth_less {l m : List Int} : (othN l m).length < l.length ↔ ∃ x ∈ l, x ∈ m := by
  rw [othN]
  constructor
  · intro h
    refine Classical.byContradiction fun hno => ?_
    have e : l.filter (fun u => decide (¬ u ∈ m)) = l := List.filter_eq_self.2 fun x hx => decide_eq_true fun hm => hno ⟨x, hx, hm⟩
    rw [e] at h
    omega
  · rintro ⟨x, hx, hm⟩
    exact List.length_filter_lt_length_iff_exists.2 ⟨x, hx, by simp [hm]⟩

set_option maxRecDepth 100000 in
set_option maxHeartbeats 1000000 in
theorem setsMayBe_any (a s : Option Addr) (ca cs : Nat) (L Ls : List (List Int)) (w : World) (h : LsS w a L) (hl : ∀ l ∈ L, l.length ≤ 140737488355328) (hs : LsS w s Ls) (hsn : LsN w s Ls) (hsl : ∀ l ∈ Ls, l.length ≤ 1000) (hp : 0 < Ls.length) (hp8 : Ls.length ≤ 8) :
    Calls Try.prog 41 #[.slice a L.length ca, .slice s Ls.length cs] w fun e w' => e = .returned (.int .i64 (stE L Ls)) ∧ Below w.heap.size w w' := by
  have HF : Hid (∀ i (hi : i < Ls.length), ∃ g o b c, s = some ⟨g, o, none⟩ ∧ g < w.heap.size ∧ w.cell? ⟨g, o + i, none⟩ = some (.slice b Ls[i].length c) ∧ IntS w b Ls[i] ∧ (b = none → c = 0)) := fun i hi => by
    obtain ⟨g, o, b, c, h1, h2, h3, h4⟩ := hs i hi
    exact ⟨g, o, b, c, h1, h2, h3, h4, hsn i hi g o b _ c h1 h3⟩
  have HSL := hid hsl
  have HAB := hid (fun (b : Option Addr) (cb : Nat) (l : List Int) (U : World) (hU : Below w.heap.size w U) (hb : IntS U b l) (hn : l.length ≤ 1000) => gAbove_any a b ca cb L l U (h.below hU) hl hb (by omega))
  have HN8 : Hid (gcE L = 0 → L.length ≤ 8) := fun hg => (gB_parts (gc_parts hg).1).2.1
  have HS0 := hid (SmB.start L Ls)
  have HSE : Hid (∀ n, stE L Ls = n → (Ending.returned (.int .i64 n)) = .returned (.int .i64 (stE L Ls))) := fun n e => by rw [e]
  clear h hl hs hsn hsl
  go_enter Try.func41, Try.ntmps41
  go_wp2_with fail
  go_loopw [5, 12] (fun bv iv wr => ∃ (i : Nat) (bn : List Int) (d : Option Addr) (c : Nat), i ≤ Ls.length ∧ iv = .int .i64 i ∧ bv = .slice d bn.length c ∧ Hid (SmB L Ls i bn) ∧ Hid (IntS wr d bn) ∧ Hid (d = none → c = 0) ∧ Hid (Below w.heap.size w wr)) (fun _ iv _ => Ls.length - (intOf iv).toNat)
  case atStart => exact ⟨0, [], none, 0, Nat.zero_le _, rfl, rfl, HS0, (fun k hk => absurd hk (by simp)), (fun _ => rfl), Below.refl _ _⟩
  case round =>
    obtain ⟨i, bn, d, c, hi, rfl, rfl, HSM, HI, HD0, HB⟩ := hrel
    clear HS0
    by_cases hlt : i < Ls.length
    · obtain ⟨g, o, b, cb, rfl, hg, hc, hb, hb0⟩ := HF.out i hlt
      have kc : wr.cell? ⟨g, o + i, none⟩ = some (.slice b Ls[i].length cb) := (HB.out.cell (p := ⟨g, _, none⟩) hg).trans hc
      have hli := HSL.out _ (List.getElem_mem hlt)
      have HA := hid (HAB.out b cb Ls[i] wr HB.out (hb.below HB.out) hli)
      have HBI := hid (hb.below HB.out)
      have HB0 := hid hb0
      have HBAD : Hid (risB Ls[i] L.length = false → apB L.length Ls = false) := apB_bad hlt
      have HTW : Hid (∀ x ∈ Ls[i], x ∈ bn → apB L.length Ls = false) := fun x hx hb => HSM.out.twice hlt hx hb
      have HDJ : Hid (risB Ls[i] L.length = true → (∀ x ∈ Ls[i], ¬ x ∈ bn) → (bn ++ Ls[i]).Nodup) := HSM.out.disj hlt
      have HNX : Hid (gcE L = 0 → risB Ls[i] L.length = true → (∀ x ∈ Ls[i], ¬ x ∈ bn) → SmB L Ls (i + 1) (togL bn Ls[i])) := HSM.out.next hlt
      have HBL := hid (up_small HSM.out.up)
      clear hc hb hb0 HSM
      generalize Ls[i] = si at *
      go_wp2_with fail
      refine HA.out.mono ?_
      rintro e w1 ⟨hab, hb1⟩
      have HB1 := hid (HB.out.trans (hb1.mono HB.out.size))
      have HI1 := hid (HI.out.below hb1)
      have HBI1 := hid (HBI.out.below hb1)
      clear hb1 HA HI HBI kc
      rcases hab with ⟨hgc, rfl⟩ | ⟨hgc, hr, rfl⟩ | ⟨hgc, hr, d2, cd2, rfl, hi2⟩
      · have hgb : (gcE L == 0) = false := by simpa using hgc
        have HR := hid (HSE.out _ (stE_gc hgc))
        clear hgc
        generalize gcE L = ge at *
        go_wp2
        go_ret
        exact ⟨HR.out, HB1.out⟩
      · have HR := hid (HSE.out _ (stE_bad hgc (HBAD.out hr)))
        clear hgc hr
        go_wp2
        go_ret
        exact ⟨HR.out, HB1.out⟩
      · have hbl : bn.length ≤ 8 := Nat.le_trans HBL.out (HN8.out hgc)
        have HO := hid (others_any b d cb c si bn w1 HBI1.out HI1.out (by omega) (by omega))
        have HOL : Hid ((othN si bn).length < si.length ↔ ∃ x ∈ si, x ∈ bn) := oth_less
        have HG0 := hid hgc
        have HRI := hid hr
        generalize (memL (abS (parN L) (toN si) L.length)).length = ml at *
        generalize (othN si bn).length = ol at *
        clear hi2 hgc hr
        go_wp2_with fail
        refine HO.out.mono ?_
        rintro e w2 ⟨d3, c3, rfl, _, _, hb2⟩
        have HB2 := hid (HB1.out.trans (hb2.mono HB1.out.size))
        have HI2 := hid (HI1.out.below hb2)
        have HBI2 := hid (HBI1.out.below hb2)
        clear hb2 HO HI1 HBI1
        by_cases hless : ol < si.length
        · have HR := hid (HSE.out _ (stE_bad HG0.out (by obtain ⟨x, hx, hm⟩ := HOL.out.1 hless; exact HTW.out x hx hm)))
          go_wp2
          go_ret
          exact ⟨HR.out, HB2.out⟩
        · have hdj : ∀ x ∈ si, ¬ x ∈ bn := fun x hx hm => hless (HOL.out.2 ⟨x, hx, hm⟩)
          have HU := hid (union_any d b c cb bn si w2 HI2.out HBI2.out HD0.out HB0.out (by omega) (by omega) (HDJ.out HRI.out hdj))
          have HN := hid (HNX.out HG0.out HRI.out hdj)
          clear hdj
          go_wp2_with fail
          refine HU.out.mono ?_
          rintro e w3 ⟨d4, c4, rfl, hi4, h04, hb3⟩
          have HB3 := hid (HB2.out.trans (hb3.mono HB2.out.size))
          have HI4 := hid hi4
          have H04 := hid h04
          clear hi4 h04 hb3 HU
          go_wp2
          go_roundw
          case rel => exact ⟨i + 1, _, d4, c4, by omega, by go_num, rfl, HN, HI4, H04, HB3⟩
          case measure => simp [intOf]; omega
    · obtain rfl : i = Ls.length := by omega
      have HR := hid (HSE.out _ (HSM.out.fin hp))
      go_wp2
      go_ret
      exact ⟨HR.out, HB.out⟩

set_option maxRecDepth 100000 in
set_option maxHeartbeats 400000 in
theorem cApart_any (a bx by' bz : Option Addr) (ca cx cy cz : Nat) (L : List (List Int)) (x y z : List Int) (w : World) (h : LsS w a L) (hl : ∀ l ∈ L, l.length ≤ 140737488355328) (hx : IntS w bx x) (hy : IntS w by' y) (hz : IntS w bz z) (hxl : x.length ≤ 140737488355328) (hyl : y.length ≤ 140737488355328) (hzl : z.length ≤ 140737488355328) (hg : gcE L = 0) (hap : apB L.length [x, y, z] = true) :
    Calls Try.prog 45 #[.slice a L.length ca, .slice bx x.length cx, .slice by' y.length cy, .slice bz z.length cz] w fun e w' => e = .returned (.bool (!opX L x y z)) ∧ Below w.heap.size w w' := by
  have HA : Hid (Calls Try.prog 13 #[.slice a L.length ca, .slice bx x.length cx, .slice by' y.length cy, .slice bz z.length cz] w fun e w' => e = .returned (.tuple #[.bool (!opX L x y z), .int .i64 0]) ∧ Below w.heap.size w w') := (gApart_any a bx by' bz ca cx cy cz L x y z w h hl hx hy hz hxl hyl hzl).mono fun e w' h => by
    rcases h.2 with ⟨k, _⟩ | ⟨_, k, _⟩ | ⟨_, _, k⟩
    · exact absurd hg k
    · rw [hap] at k; cases k
    · exact ⟨k, h.1⟩
  clear h hl hx hy hz hg hap
  generalize (!opX L x y z) = q at *
  go_enter Try.func45, Try.ntmps45
  go_wp2_with fail
  refine HA.out.mono ?_
  rintro e w1 ⟨rfl, hb1⟩
  have HB := hid hb1
  clear hb1
  go_wp2
  go_ret
  exact ⟨rfl, HB.out⟩
theorem memL_has {s : List Nat} {u : Nat} (hu : u < 8) : (memL s).contains (u : Int) = decide (u ∈ s) := by
  refine Bool.eq_iff_iff.2 ?_
  rw [List.contains_iff_mem, decide_eq_true_iff, memL, iL, List.mem_map]
  constructor
  · rintro ⟨v, hv, e⟩
    obtain rfl : v = u := by omega
    exact (memU_mem.1 hv).2
  · exact fun h => ⟨u, memU_mem.2 ⟨hu, h⟩, rfl⟩

set_option maxRecDepth 100000 in
set_option maxHeartbeats 400000 in
theorem cIsAbove_any (a b : Option Addr) (ca cb u : Nat) (L : List (List Int)) (l : List Int) (w : World) (h : LsS w a L) (hl : ∀ l ∈ L, l.length ≤ 140737488355328) (hb : IntS w b l) (hll : l.length ≤ 140737488355328) (hg : gcE L = 0) (hr : risB l L.length = true) (hu : u < L.length) :
    Calls Try.prog 50 #[.slice a L.length ca, .int .i64 (u : Nat), .slice b l.length cb] w fun e w' => e = .returned (.bool (abO L u (toN l))) ∧ Below w.heap.size w w' := by
  have h8 := (gB_parts (gc_parts hg).1).2.1
  have HA : Hid (Calls Try.prog 11 #[.slice a L.length ca, .slice b l.length cb] w fun e w' => ∃ d cd, e = .returned (.tuple #[.slice d (memL (abS (parN L) (toN l) L.length)).length cd, .int .i64 0]) ∧ IntS w' d (memL (abS (parN L) (toN l) L.length)) ∧ Below w.heap.size w w') := (gAbove_any a b ca cb L l w h hl hb hll).mono fun e w' h => by
    rcases h.1 with ⟨k, _⟩ | ⟨_, k, _⟩ | ⟨_, _, d, cd, k, k2⟩
    · exact absurd hg k
    · rw [hr] at k; cases k
    · exact ⟨d, cd, k, k2, h.2⟩
  have HQ : Hid ((memL (abS (parN L) (toN l) L.length)).contains (u : Int) = abO L u (toN l)) := by
    show _ = _
    rw [memL_has (by omega)]
    refine Bool.eq_iff_iff.2 ?_
    rw [decide_eq_true_iff, abO_iff hg h8 (up_lt (ris_up hr))]
  have HML : Hid ((memL (abS (parN L) (toN l) L.length)).length ≤ 8) := by
    show _ ≤ _
    have := memU_len (abS (parN L) (toN l) L.length) 8
    rw [memL, iL_length]
    exact this
  have HCN := hid (fun (d : Option Addr) (cd : Nat) (U : World) (hU : IntS U d (memL (abS (parN L) (toN l) L.length))) => slContains_any d cd (memL (abS (parN L) (toN l) L.length)) (u : Nat) U hU (by have := HML.out; omega))
  rw [HQ.out] at HCN
  clear h hl hb hg hr
  generalize memL (abS (parN L) (toN l) L.length) = ml at *
  generalize abO L u (toN l) = q at *
  go_enter Try.func50, Try.ntmps50
  go_wp2_with fail
  refine HA.out.mono ?_
  rintro e w1 ⟨d, cd, rfl, hi, hb1⟩
  have HB := hid hb1
  have HC := hid (HCN.out d cd w1 hi)
  clear hb1 hi HCN HQ HML HA
  go_wp2_with fail
  refine HC.out.mono ?_
  rintro e w2 ⟨rfl, hb2⟩
  have HB2 := hid (HB.out.trans (hb2.mono HB.out.size))
  clear hb2
  go_wp2
  go_ret
  exact ⟨rfl, HB2.out⟩
end Go.Proofs.Ythcfgoknphpkdaa

