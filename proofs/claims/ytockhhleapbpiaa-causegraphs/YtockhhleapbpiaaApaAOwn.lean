/- Package graph: Apart. -/
import Derived.Test.YtockhhleapbpiaaOpnDOwn
import Derived.Test.YtockhhleapbpiaaApaPToCutP
import Derived.Test.YtockhhleapbpiaaAbvAToOrdC
import Derived.BigQuiet
namespace Go.Proofs.Ytockhhleapbpiaa
open Go.RowKit Go.Shelf

/-- What Apart answers. -/
def ApR (L : List (List Int)) (x y z : List Int) (e : Ending) : Prop :=
  (gcE L ≠ 0 ∧ e = .returned (.tuple #[.bool false, .int .i64 (gcE L)])) ∨ (gcE L = 0 ∧ apB L.length [x, y, z] = false ∧ e = .returned (.tuple #[.bool false, .int .i64 11])) ∨
  (gcE L = 0 ∧ apB L.length [x, y, z] = true ∧ e = .returned (.tuple #[.bool (!opX L x y z), .int .i64 0]))
theorem ApR.told {L : List (List Int)} {x y z : List Int} {e : Ending} (h : ApR L x y z e) : ∃ pb er, e = .returned (.tuple #[.bool pb, .int .i64 er]) ∧ ∀ e', ApR L x y z e' → e' = .returned (.tuple #[.bool pb, .int .i64 er]) := by
  rcases h with ⟨h1, h2⟩ | ⟨h1, h2, h3⟩ | ⟨h1, h2, h3⟩
  · refine ⟨_, _, h2, ?_⟩
    rintro e' (⟨_, k⟩ | ⟨k, _⟩ | ⟨k, _⟩)
    · exact k
    · exact absurd k h1
    · exact absurd k h1
  · refine ⟨_, _, h3, ?_⟩
    rintro e' (⟨k, _⟩ | ⟨_, _, k⟩ | ⟨_, k, _⟩)
    · exact absurd h1 k
    · exact k
    · rw [h2] at k; cases k
  · refine ⟨_, _, h3, ?_⟩
    rintro e' (⟨k, _⟩ | ⟨_, k, _⟩ | ⟨_, _, k⟩)
    · exact absurd h1 k
    · rw [h2] at k; cases k
    · exact k
theorem three_lists {U : World} {bx by' bz : Option Addr} {cx cy cz : Nat} {x y z : List Int} (hx : IntS U bx x) (hy : IntS U by' y) (hz : IntS U bz z) : LsS (U.alloc (.cells #[.slice bx x.length cx, .slice by' y.length cy, .slice bz z.length cz] 23)) (some ⟨U.heap.size, 0, none⟩) [x, y, z] := fun k hk => by
  have hA := (Below.refl U.heap.size U).alloc (Nat.le_refl _) (.cells #[.slice bx x.length cx, .slice by' y.length cy, .slice bz z.length cz] 23)
  have hnew := heap_alloc_new U (.cells #[.slice bx x.length cx, .slice by' y.length cy, .slice bz z.length cz] 23)
  have hlt := (Array.getElem?_eq_some_iff.1 hnew).1
  match k, hk with
  | 0, _ => exact ⟨_, 0, bx, cx, rfl, hlt, by rw [cell_of_row _ U.heap.size _ _ _ (0, 0) hnew]; rfl, hx.below hA⟩
  | 1, _ => exact ⟨_, 0, by', cy, rfl, hlt, by rw [cell_of_row _ U.heap.size _ _ _ (0, 0) hnew]; rfl, hy.below hA⟩
  | 2, _ => exact ⟨_, 0, bz, cz, rfl, hlt, by rw [cell_of_row _ U.heap.size _ _ _ (0, 0) hnew]; rfl, hz.below hA⟩

set_option maxRecDepth 100000 in
set_option maxHeartbeats 2000000 in
theorem gApart_any (a bx by' bz : Option Addr) (ca cx cy cz : Nat) (L : List (List Int)) (x y z : List Int) (w : World) (h : LsS w a L) (hl : ∀ l ∈ L, l.length ≤ 140737488355328) (hx : IntS w bx x) (hy : IntS w by' y) (hz : IntS w bz z) (hxl : x.length ≤ 140737488355328) (hyl : y.length ≤ 140737488355328) (hzl : z.length ≤ 140737488355328) :
    Calls Try.prog 15 #[.slice a L.length ca, .slice bx x.length cx, .slice by' y.length cy, .slice bz z.length cz] w fun e w' => Below w.heap.size w w' ∧ ApR L x y z e := by
  have HR := hid (gRead_any a ca L w h hl)
  have HLS : Hid (∀ U : World, Below w.heap.size w U → LsS (U.alloc (.cells #[.slice bx x.length cx, .slice by' y.length cy, .slice bz z.length cz] 23)) (some ⟨U.heap.size, 0, none⟩) [x, y, z]) := fun U hU => three_lists (hx.below hU) (hy.below hU) (hz.below hU)
  have HSO : Hid (gcE L = 0 → ∀ (G : Nat) (U : World), LsS U (some ⟨G, 0, none⟩) [x, y, z] → Calls Try.prog 42 #[.slice (some ⟨G, 0, none⟩) 3 3, .int .i64 (L.length : Nat)] U fun e w' => Below U.heap.size U w' ∧
      ((allRis [x, y, z] L.length = true ∧ ∃ G, e = .returned (.tuple #[.slice (some ⟨G, 0, none⟩) 3 3, .bool true]) ∧ U.heap.size ≤ G ∧ RowU w' G (masks [x, y, z])) ∨ (allRis [x, y, z] L.length = false ∧ e = .returned (.tuple #[.slice none 0 0, .bool false])))) := fun hg G U hU => setsOf_any (some ⟨G, 0, none⟩) 3 L.length [x, y, z] U hU (by simp) (gB_parts (gc_parts hg).1).2.1 (fun l hl' => by
    simp only [List.mem_cons, List.not_mem_nil, or_false] at hl'
    rcases hl' with rfl | rfl | rfl <;> assumption)
  have hup : allRis [x, y, z] L.length = true → Up x L.length ∧ Up y L.length ∧ Up z L.length := fun hr => ⟨ris_up (List.all_eq_true.1 hr x (by simp)), ris_up (List.all_eq_true.1 hr y (by simp)), ris_up (List.all_eq_true.1 hr z (by simp))⟩
  have HOP : Hid (gcE L = 0 → allRis [x, y, z] L.length = true → ∀ (G c : Nat) (U : World), RowU U G (masks L) → Calls Try.prog 43 #[.slice (some ⟨G, 0, none⟩) L.length c, .int .u32 (mskN (toN x) : Nat), .int .u32 (mskN (toN y) : Nat), .int .u32 (mskN (toN z) : Nat)] U fun e w' => ∃ q, e = .returned (.bool q) ∧ (apB L.length [x, y, z] = true → q = opX L x y z) ∧ Below U.heap.size U w') := fun hg hr G c U hU => by
    have hgb := (gc_parts hg).1
    have h8 := (gB_parts hgb).2.1
    obtain ⟨h1, h2, h3⟩ := hup hr
    rw [masks_par] at hU
    refine (isOpen_any G L.length c (parN L) (toN x) (toN y) (toN z) U (parN_length L) h8 hU (fun v u hu => pa_lt hgb hu) (par_lt hgb) (up_lt h1) (up_lt h2) (up_lt h3)).mono ?_
    rintro e w' ⟨q, rfl, hq, hb⟩
    exact ⟨q, rfl, fun hap => Bool.eq_iff_iff.2 (hq.trans (opX_iff hg h8 hap).symm), hb⟩
  have HMK : Hid (allRis [x, y, z] L.length = true → (apB L.length [x, y, z] = true ↔ mskN ((toN x).filter fun v => decide (v ∈ toN y)) = 0 ∧ mskN ((toN x ++ toN y).filter fun v => decide (v ∈ toN z)) = 0)) := apB_masks
  have HNR : Hid (allRis [x, y, z] L.length = false → apB L.length [x, y, z] = false) := fun hr => by rw [apB, hr]; rfl
  have HBT : Hid (gcE L = 0 → allRis [x, y, z] L.length = true → bits BinOp.and IntKind.u32 (mskN (toN x) : Nat) (mskN (toN y) : Nat) = ((mskN ((toN x).filter fun v => decide (v ∈ toN y)) : Nat) : Int) ∧ bits BinOp.or IntKind.u32 (mskN (toN x) : Nat) (mskN (toN y) : Nat) = ((mskN (toN x ++ toN y) : Nat) : Int) ∧ bits BinOp.and IntKind.u32 (mskN (toN x ++ toN y) : Nat) (mskN (toN z) : Nat) = ((mskN ((toN x ++ toN y).filter fun v => decide (v ∈ toN z)) : Nat) : Int)) := fun hg hr => by
    have h8 := (gB_parts (gc_parts hg).1).2.1
    obtain ⟨h1, h2, h3⟩ := hup hr
    have k1 : ∀ u ∈ toN x, u < 8 := fun u hu => by have := up_lt h1 u hu; omega
    have k2 : ∀ u ∈ toN y, u < 8 := fun u hu => by have := up_lt h2 u hu; omega
    have k3 : ∀ u ∈ toN z, u < 8 := fun u hu => by have := up_lt h3 u hu; omega
    exact ⟨bits_and _ _ k1 k2, bits_or _ _ k1 k2, bits_and _ _ (app_small k1 k2) k3⟩
  have HMS : Hid (masks [x, y, z] = [mskN (toN x), mskN (toN y), mskN (toN z)]) := rfl
  clear h hl hx hy hz hup
  go_enter Try.func15, Try.ntmps15
  go_wp2_with fail
  refine HR.out.mono ?_
  rintro e w1 ⟨hb1, ⟨hg, G, rfl, hG, hU⟩ | ⟨hg, rfl⟩⟩
  · have HB1 := hid hb1
    have HG0 := hid hg
    have HU := hid hU
    have HS1 := hid (HSO.out hg w1.heap.size _ (HLS.out w1 hb1))
    have hA := (Below.refl w1.heap.size w1).alloc (Nat.le_refl _) (.cells #[.slice bx x.length cx, .slice by' y.length cy, .slice bz z.length cz] 23)
    have HA := hid hA
    clear hb1 hA HR HSO HLS hg hU
    go_wp2_with fail
    refine HS1.out.mono ?_
    rintro e w2 ⟨hb2, ⟨hr, G2, rfl, hG2, hU2⟩ | ⟨hr, rfl⟩⟩
    · have HB2 := hid ((HB1.out.trans (HA.out.mono HB1.out.size)).trans (hb2.mono (Nat.le_trans HB1.out.size HA.out.size)))
      obtain ⟨hand, hor, hand2⟩ := HBT.out HG0.out hr
      have hmk := HMK.out hr
      have hUw2 : RowU w2 G (masks L) := ((HU.out.below HA.out HU.out.lt)).below hb2 (Nat.lt_of_lt_of_le HU.out.lt HA.out.size)
      have HUW := hid hUw2
      rw [HMS.out] at hU2
      have HU2 := hid hU2
      have k0 := hU2.cell 0 (by simp)
      have k1 := hU2.cell 1 (by simp)
      have k2 := hU2.cell 2 (by simp)
      have HOP2 := hid (HOP.out HG0.out hr G L.length)
      simp only [List.getElem_cons_zero, List.getElem_cons_succ] at k0 k1 k2
      clear hr hb2 HS1 HOP HMK HBT HMS HNR hU2 hUw2
      generalize mskN ((toN x).filter fun v => decide (v ∈ toN y)) = mxy at *
      generalize mskN ((toN x ++ toN y).filter fun v => decide (v ∈ toN z)) = mxyz at *
      generalize mskN (toN x ++ toN y) = mu at *
      generalize mskN (toN x) = mx at *
      generalize mskN (toN y) = my at *
      generalize mskN (toN z) = mz at *
      by_cases h1 : mxy = 0
      · by_cases h2 : mxyz = 0
        · have HAP := hid (hmk.2 ⟨h1, h2⟩)
          subst h1
          subst h2
          clear hmk
          go_upto_region 7 with (go_quiet (fail))
          have HU3 : Hid (RowU (w2.drewN nq) G2 [mx, my, mz]) := HU2.out
          have HUW3 : Hid (RowU (w2.drewN nq).drew G (masks L)) := HUW.out
          have HB3 := hid (below_drewN HB2.out nq)
          have k0' : (w2.drewN nq).drew.cell? ⟨G2, 0, none⟩ = some (.int .u32 (mx : Nat)) := k0
          have k1' : (w2.drewN nq).drew.cell? ⟨G2, 1, none⟩ = some (.int .u32 (my : Nat)) := k1
          have k2' : (w2.drewN nq).drew.cell? ⟨G2, 2, none⟩ = some (.int .u32 (mz : Nat)) := k2
          clear k0 k1 k2 hand hor hand2
          generalize w2.drewN nq = W3 at *
          have hG2l := HU3.out.lt
          have HK3 : Hid (∀ U : World, Below W3.drew.heap.size W3.drew U → U.cell? ⟨G2, 0, none⟩ = some (.int .u32 (mx : Nat)) ∧ U.cell? ⟨G2, 1, none⟩ = some (.int .u32 (my : Nat)) ∧ U.cell? ⟨G2, 2, none⟩ = some (.int .u32 (mz : Nat))) := fun U hU => ⟨(hU.cell (p := ⟨G2, 0, none⟩) hG2l).trans k0', (hU.cell (p := ⟨G2, 1, none⟩) hG2l).trans k1', (hU.cell (p := ⟨G2, 2, none⟩) hG2l).trans k2'⟩
          refine wp_region_held_drew (S := fun U => U.cell? ⟨G2, 0, none⟩ = some (.int .u32 (mx : Nat)) ∧ U.cell? ⟨G2, 1, none⟩ = some (.int .u32 (my : Nat)) ∧ U.cell? ⟨G2, 2, none⟩ = some (.int .u32 (mz : Nat))) (by kernel_rfl) ⟨k0', k1', k2'⟩ (fun hSd => ?_)
          refine wpAnyH_take (i := 0) (oi := _) (v := .slice (some ⟨G, 0, none⟩) L.length L.length) rfl (by kernel_rfl) (by kernel_rfl) (by kernel_rfl) (fun _ _ _ h => h) (Or.inl ⟨by rfl, ?_⟩) (by assumption) ?_
          · intro u' hSu
            (try simp only [List.getElem_toArray, List.getElem_cons_zero])
            go_simp
          (try simp only [List.getElem_toArray, List.getElem_cons_zero])
          (try simp only [Act.put, List.setIfInBounds_toArray, List.set_cons_zero, List.set_cons_succ])
          refine wpAnyH_take (i := 1) (oi := _) (v := .slice (some ⟨G2, 0, none⟩) 3 3) rfl (by kernel_rfl) (by kernel_rfl) (by kernel_rfl) (fun _ _ _ h => h) (Or.inl ⟨by rfl, ?_⟩) (by assumption) ?_
          · intro u' hSu
            (try simp only [List.getElem_toArray, List.getElem_cons_zero, List.getElem_cons_succ])
            go_simp
          (try simp only [List.getElem_toArray, List.getElem_cons_zero, List.getElem_cons_succ])
          (try simp only [Act.put, List.setIfInBounds_toArray, List.set_cons_zero, List.set_cons_succ])
          refine wpAnyH_take (i := 2) (oi := _) (v := .pointer (some ⟨G2, 0, none⟩)) rfl (by kernel_rfl) (by kernel_rfl) (by kernel_rfl) (fun _ _ _ h => h) (Or.inl ⟨by rfl, ?_⟩) (by assumption) ?_
          · intro u' hSu
            (try simp only [List.getElem_toArray, List.getElem_cons_zero, List.getElem_cons_succ])
            go_simp
          (try simp only [List.getElem_toArray, List.getElem_cons_zero, List.getElem_cons_succ])
          (try simp only [Act.put, List.setIfInBounds_toArray, List.set_cons_zero, List.set_cons_succ])
          refine wpAnyH_take (i := 3) (oi := _) (v := .int .u32 (mx : Nat)) rfl (by kernel_rfl) (by kernel_rfl) (by kernel_rfl) (fun _ _ _ h => h) (Or.inl ⟨by rfl, ?_⟩) (by assumption) ?_
          · intro u' hSu
            (try simp only [List.getElem_toArray, List.getElem_cons_zero, List.getElem_cons_succ])
            obtain ⟨s0, s1, s2⟩ := hSu
            go_simp
          (try simp only [List.getElem_toArray, List.getElem_cons_zero, List.getElem_cons_succ])
          (try simp only [Act.put, List.setIfInBounds_toArray, List.set_cons_zero, List.set_cons_succ])
          refine wpAnyH_take (i := 4) (oi := _) (v := .slice (some ⟨G2, 0, none⟩) 3 3) rfl (by kernel_rfl) (by kernel_rfl) (by kernel_rfl) (fun _ _ _ h => h) (Or.inl ⟨by rfl, ?_⟩) (by assumption) ?_
          · intro u' hSu
            (try simp only [List.getElem_toArray, List.getElem_cons_zero, List.getElem_cons_succ])
            go_simp
          (try simp only [List.getElem_toArray, List.getElem_cons_zero, List.getElem_cons_succ])
          (try simp only [Act.put, List.setIfInBounds_toArray, List.set_cons_zero, List.set_cons_succ])
          refine wpAnyH_take (i := 5) (oi := _) (v := .pointer (some ⟨G2, 1, none⟩)) rfl (by kernel_rfl) (by kernel_rfl) (by kernel_rfl) (fun _ _ _ h => h) (Or.inl ⟨by rfl, ?_⟩) (by assumption) ?_
          · intro u' hSu
            (try simp only [List.getElem_toArray, List.getElem_cons_zero, List.getElem_cons_succ])
            go_simp
          (try simp only [List.getElem_toArray, List.getElem_cons_zero, List.getElem_cons_succ])
          (try simp only [Act.put, List.setIfInBounds_toArray, List.set_cons_zero, List.set_cons_succ])
          refine wpAnyH_take (i := 6) (oi := _) (v := .int .u32 (my : Nat)) rfl (by kernel_rfl) (by kernel_rfl) (by kernel_rfl) (fun _ _ _ h => h) (Or.inl ⟨by rfl, ?_⟩) (by assumption) ?_
          · intro u' hSu
            (try simp only [List.getElem_toArray, List.getElem_cons_zero, List.getElem_cons_succ])
            obtain ⟨s0, s1, s2⟩ := hSu
            go_simp
          (try simp only [List.getElem_toArray, List.getElem_cons_zero, List.getElem_cons_succ])
          (try simp only [Act.put, List.setIfInBounds_toArray, List.set_cons_zero, List.set_cons_succ])
          refine wpAnyH_take (i := 7) (oi := _) (v := .slice (some ⟨G2, 0, none⟩) 3 3) rfl (by kernel_rfl) (by kernel_rfl) (by kernel_rfl) (fun _ _ _ h => h) (Or.inl ⟨by rfl, ?_⟩) (by assumption) ?_
          · intro u' hSu
            (try simp only [List.getElem_toArray, List.getElem_cons_zero, List.getElem_cons_succ])
            go_simp
          (try simp only [List.getElem_toArray, List.getElem_cons_zero, List.getElem_cons_succ])
          (try simp only [Act.put, List.setIfInBounds_toArray, List.set_cons_zero, List.set_cons_succ])
          refine wpAnyH_take (i := 8) (oi := _) (v := .pointer (some ⟨G2, 2, none⟩)) rfl (by kernel_rfl) (by kernel_rfl) (by kernel_rfl) (fun _ _ _ h => h) (Or.inl ⟨by rfl, ?_⟩) (by assumption) ?_
          · intro u' hSu
            (try simp only [List.getElem_toArray, List.getElem_cons_zero, List.getElem_cons_succ])
            go_simp
          (try simp only [List.getElem_toArray, List.getElem_cons_zero, List.getElem_cons_succ])
          (try simp only [Act.put, List.setIfInBounds_toArray, List.set_cons_zero, List.set_cons_succ])
          refine wpAnyH_take (i := 9) (oi := _) (v := .int .u32 (mz : Nat)) rfl (by kernel_rfl) (by kernel_rfl) (by kernel_rfl) (fun _ _ _ h => h) (Or.inl ⟨by rfl, ?_⟩) (by assumption) ?_
          · intro u' hSu
            (try simp only [List.getElem_toArray, List.getElem_cons_zero, List.getElem_cons_succ])
            obtain ⟨s0, s1, s2⟩ := hSu
            go_simp
          (try simp only [List.getElem_toArray, List.getElem_cons_zero, List.getElem_cons_succ])
          (try simp only [Act.put, List.setIfInBounds_toArray, List.set_cons_zero, List.set_cons_succ])
          refine wpAnyH_ready (rs := [10]) (by kernel_rfl) (by simp) (AllReadyH.cons rfl ?_ (AllReadyH.nil))
          · intro K' hK'
            (try simp only [List.getElem_toArray, List.getElem_cons_zero, List.getElem_cons_succ])
            go_simp
            refine (HOP2.out W3.drew HUW3.out).mono ?_
            rintro r w5 ⟨q, rfl, hq, hb5⟩
            refine hK'.out _ _ (HK3.out w5 hb5) (fun hSe => ?_)
            clear hK' K' hSd
            (try simp only [List.getElem_toArray, List.getElem_cons_zero, List.getElem_cons_succ])
            (try simp only [Act.put, List.setIfInBounds_toArray, List.set_cons_zero, List.set_cons_succ])
            refine wpAnyH_take (i := 11) (oi := _) (v := .bool (!q)) rfl (by kernel_rfl) (by kernel_rfl) (by kernel_rfl) (fun _ _ _ h => h) (Or.inl ⟨by rfl, ?_⟩) (by assumption) ?_
            · intro u' hSu
              (try simp only [List.getElem_toArray, List.getElem_cons_zero, List.getElem_cons_succ])
              go_simp
            (try simp only [List.getElem_toArray, List.getElem_cons_zero, List.getElem_cons_succ])
            (try simp only [Act.put, List.setIfInBounds_toArray, List.set_cons_zero, List.set_cons_succ])
            refine wpAnyH_take (i := 12) (oi := _) (v := .bool (!q)) rfl (by kernel_rfl) (by kernel_rfl) (by kernel_rfl) (fun _ _ _ h => h) (Or.inl ⟨by rfl, ?_⟩) (by assumption) ?_
            · intro u' hSu
              (try simp only [List.getElem_toArray, List.getElem_cons_zero, List.getElem_cons_succ])
              go_simp
            (try simp only [List.getElem_toArray, List.getElem_cons_zero, List.getElem_cons_succ])
            (try simp only [Act.put, List.setIfInBounds_toArray, List.set_cons_zero, List.set_cons_succ])
            refine wpAnyH_take (i := 13) (oi := _) (v := .int .i64 0) rfl (by kernel_rfl) (by kernel_rfl) (by kernel_rfl) (fun _ _ _ h => h) (Or.inl ⟨by rfl, ?_⟩) (by assumption) ?_
            · intro u' hSu
              (try simp only [List.getElem_toArray, List.getElem_cons_zero, List.getElem_cons_succ])
              go_simp
            (try simp only [List.getElem_toArray, List.getElem_cons_zero, List.getElem_cons_succ])
            (try simp only [Act.put, List.setIfInBounds_toArray, List.set_cons_zero, List.set_cons_succ])
            refine wpAnyH_done (by kernel_rfl) ?_ _
            clear hSe
            have HB5 : Hid (Below w.heap.size w w5) := HB3.out.drew.trans (hb5.mono HB3.out.drew.size)
            have HQ := hid (hq HAP.out)
            clear hq hb5
            go_wp2
            go_ret2
            exact ⟨HB5.out, .inr (.inr ⟨HG0.out, HAP.out, by rw [HQ.out]; rfl⟩)⟩
        · have HAP : Hid (apB L.length [x, y, z] = false) := Bool.eq_false_iff.2 fun e => h2 (hmk.1 e).2
          subst h1
          have h2' : ((mxyz : Int) == 0) = false := by simp; omega
          clear hmk
          go_wp2_with (go_quiet (fail))
          go_ret2
          exact ⟨below_drewN HB2.out _, .inr (.inl ⟨HG0.out, HAP.out, rfl⟩)⟩
      · have HAP : Hid (apB L.length [x, y, z] = false) := Bool.eq_false_iff.2 fun e => h1 (hmk.1 e).1
        have h1' : ((mxy : Int) == 0) = false := by simp; omega
        clear hmk
        go_wp2_with (go_quiet (fail))
        go_ret2
        exact ⟨below_drewN HB2.out _, .inr (.inl ⟨HG0.out, HAP.out, rfl⟩)⟩
    · have HAP := hid (HNR.out hr)
      have HB2 := hid ((HB1.out.trans (HA.out.mono HB1.out.size)).trans (hb2.mono (Nat.le_trans HB1.out.size HA.out.size)))
      clear hr hb2 HS1 HOP HMK HBT HMS HNR
      go_wp2_with (go_quiet (fail))
      go_ret2
      exact ⟨below_drewN HB2.out _, .inr (.inl ⟨HG0.out, HAP.out, rfl⟩)⟩
  · have HGN := hid hg
    have HB1 := hid hb1
    have hgb : (gcE L == 0) = false := by simpa using hg
    clear hg hb1 HLS HSO HOP HMK HNR HBT HMS HR
    generalize hge : gcE L = ge at *
    have HGE := hid hge
    clear hge
    go_wp2
    go_ret2
    exact ⟨HB1.out, .inl ⟨by rw [HGE.out]; exact HGN.out, by rw [HGE.out]; rfl⟩⟩
end Go.Proofs.Ytockhhleapbpiaa

