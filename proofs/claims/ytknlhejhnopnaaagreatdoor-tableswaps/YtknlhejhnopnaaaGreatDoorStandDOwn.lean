/- Package table: where an assignment and a value of one more variable stand in another table: the maker. -/
import Derived.Test.YtknlhejhnopnaaaGreatDoorStandCOwn
import Derived.Laws.EntriesVeiled
namespace Go.Proofs.YtknlhejhnopnaaaGreatDoor
open Go.RowKit Go.Shelf

theorem wpAnyH_weaken {P : Program} {md : Region.Mode} {ops : Array Oper} {Q : Exit → Act → World → Prop} {S S' : World → Prop} (hS : ∀ w, S' w → S w) : ∀ (fuel : Nat) (listed : Array Bool) (a : Act) (w : World), wpAnyH P md ops Q S' fuel listed a w → wpAnyH P md ops Q S fuel listed a w
  | 0, _, _, _, h => h
  | fuel + 1, _, _, _, h => ⟨h.1, fun i hi => wpOp_mono (fun a' w' h' => ⟨hS _ h'.1, wpAnyH_weaken hS fuel _ a' w' h'.2⟩) (h.2 i hi)⟩
theorem below_s {w u : World} (h : Below w.heap.size w u) (B j : Nat) (y : Value) (hB : w.heap.size ≤ B) : Below w.heap.size w (u.setCell ⟨B, j, none⟩ y) := h.setCell (p := ⟨B, j, none⟩) hB y
theorem boxed_keep {W V : World} {B : Nat} {t : TypeId} {x : Value} (h : Boxed W B t x) (hb : Below W.heap.size W V) : Boxed V B t x := (hb.block B h.lt).trans h
theorem iL_stpL {S other : List Nat} {n v : Nat} (h : v < n) : (iL (stpL S n other))[v]'(by rw [iL_length, stpL_length]; exact h) = ((stp S other v : Nat) : Int) := by simp [iL, stpL]

set_option maxRecDepth 100000 in
set_option maxHeartbeats 400000 in
theorem standingWith_any (a b c : Option Addr) (ca cb cc : Nat) (sizes vars other : List Int) (v : Nat) (w : World) (hs : IntS w a sizes) (ho : IntS w c other) (hfi : Fine sizes) (huo : Up other sizes.length) (hvs : v < sizes.length) :
    Calls Tryz.prog 65 #[.slice a sizes.length ca, .slice b vars.length cb, .slice c other.length cc, .int .i64 (v : Nat)] w fun e w' => ∃ f, e = .returned f ∧ StandW w' w.heap.size w'.heap.size f a b ca cb sizes vars other v ∧ Below w.heap.size w w' := by
  have HS := hid hs
  have HO := hid ho
  have HA := hid (fun V h1 h2 => steps_any a c ca cc sizes other V h1 h2 hfi huo)
  have HB := hid (fun V h1 h2 => standing_any a b c ca cb cc sizes vars other V h1 h2 hfi huo)
  have hl8 := hfi.eight
  have hv0 : (0 : Int) ≤ (v : Int) := by omega
  have hv1 : (v : Int) < (sizes.length : Int) := by omega
  clear hs ho
  go_enter Tryz.func65, Tryz.ntmps65
  go_upto_region 1 with fail
  have hB : Below w.heap.size w w.drew := (Below.refl w.heap.size w).drew
  refine wp_region_held_drew (S := fun u => Hid (Below w.heap.size w u)) (by kernel_rfl) hB (fun hSd => ?_)
  generalize w.drew = u0 at *
  refine wpAnyH_take (i := 0) (oi := _) (v := .slice a sizes.length ca) rfl (by kernel_rfl) (by kernel_rfl) (by kernel_rfl) (fun _ _ _ h => h) (Or.inl ⟨by rfl, ?_⟩) (by assumption) ?_
  · intro u' hSu
    (try simp only [List.getElem_toArray, List.getElem_cons_zero])
    go_simp
  (try simp only [List.getElem_toArray, List.getElem_cons_zero])
  (try simp only [Act.put, List.setIfInBounds_toArray, List.set_cons_zero, List.set_cons_succ])
  refine wpAnyH_take (i := 1) (oi := _) (v := .slice b vars.length cb) rfl (by kernel_rfl) (by kernel_rfl) (by kernel_rfl) (fun _ _ _ h => h) (Or.inl ⟨by rfl, ?_⟩) (by assumption) ?_
  · intro u' hSu
    (try simp only [List.getElem_toArray, List.getElem_cons_zero, List.getElem_cons_succ])
    go_simp
  (try simp only [List.getElem_toArray, List.getElem_cons_zero, List.getElem_cons_succ])
  (try simp only [Act.put, List.setIfInBounds_toArray, List.set_cons_zero, List.set_cons_succ])
  refine wpAnyH_take (i := 2) (oi := _) (v := .slice c other.length cc) rfl (by kernel_rfl) (by kernel_rfl) (by kernel_rfl) (fun _ _ _ h => h) (Or.inl ⟨by rfl, ?_⟩) (by assumption) ?_
  · intro u' hSu
    (try simp only [List.getElem_toArray, List.getElem_cons_zero, List.getElem_cons_succ])
    go_simp
  (try simp only [List.getElem_toArray, List.getElem_cons_zero, List.getElem_cons_succ])
  (try simp only [Act.put, List.setIfInBounds_toArray, List.set_cons_zero, List.set_cons_succ])
  refine wpAnyH_take (i := 4) (oi := _) (v := .slice a sizes.length ca) rfl (by kernel_rfl) (by kernel_rfl) (by kernel_rfl) (fun _ _ _ h => h) (Or.inl ⟨by rfl, ?_⟩) (by assumption) ?_
  · intro u' hSu
    (try simp only [List.getElem_toArray, List.getElem_cons_zero, List.getElem_cons_succ])
    go_simp
  (try simp only [List.getElem_toArray, List.getElem_cons_zero, List.getElem_cons_succ])
  (try simp only [Act.put, List.setIfInBounds_toArray, List.set_cons_zero, List.set_cons_succ])
  refine wpAnyH_take (i := 5) (oi := _) (v := .slice c other.length cc) rfl (by kernel_rfl) (by kernel_rfl) (by kernel_rfl) (fun _ _ _ h => h) (Or.inl ⟨by rfl, ?_⟩) (by assumption) ?_
  · intro u' hSu
    (try simp only [List.getElem_toArray, List.getElem_cons_zero, List.getElem_cons_succ])
    go_simp
  (try simp only [List.getElem_toArray, List.getElem_cons_zero, List.getElem_cons_succ])
  (try simp only [Act.put, List.setIfInBounds_toArray, List.set_cons_zero, List.set_cons_succ])
  refine wpAnyH_take (i := 7) (oi := _) (v := .int .i64 (v : Nat)) rfl (by kernel_rfl) (by kernel_rfl) (by kernel_rfl) (fun _ _ _ h => h) (Or.inl ⟨by rfl, ?_⟩) (by assumption) ?_
  · intro u' hSu
    (try simp only [List.getElem_toArray, List.getElem_cons_zero, List.getElem_cons_succ])
    go_simp
  (try simp only [List.getElem_toArray, List.getElem_cons_zero, List.getElem_cons_succ])
  (try simp only [Act.put, List.setIfInBounds_toArray, List.set_cons_zero, List.set_cons_succ])
  refine wpAnyH_ready (rs := [3, 10, 11]) (by kernel_rfl) (by simp) (AllReadyH.cons rfl ?_ (AllReadyH.cons rfl ?_ (AllReadyH.cons rfl ?_ (AllReadyH.nil))))
  · intro K' hK'
    (try simp only [List.getElem_toArray, List.getElem_cons_zero, List.getElem_cons_succ])
    go_simp
    refine (HB.out _ (HS.out.below hB) (HO.out.below hB)).mono ?_
    rintro e u1 ⟨f, rfl, hF, hb⟩
    obtain ⟨lb, rfl⟩ := hF.shape
    have hn1 := hB.size
    replace hB := hB.trans (hb.mono hB.size)
    refine hK'.out _ _ hB (fun hSe => ?_)
    clear hK' K' hSd
    have hSd := hSe
    clear hSe
    have hn0 : w.heap.size ≤ u0.heap.size := hn1
    have hFt := hF.top
    generalize u0.heap.size = n1 at hF hn1 hn0 ⊢
    generalize hm1 : u1.heap.size = m1 at hF hFt
    rw [← hm1] at hFt
    have hm2 : m1 ≤ u1.heap.size := by omega
    clear hb hm1
    (try simp only [List.getElem_toArray, List.getElem_cons_zero, List.getElem_cons_succ])
    (try simp only [Act.put, List.setIfInBounds_toArray, List.set_cons_zero, List.set_cons_succ])
    refine wpAnyH_ready (rs := [6, 10, 11]) (by kernel_rfl) (by simp) (AllReadyH.cons rfl ?_ (AllReadyH.cons rfl ?_ (AllReadyH.cons rfl ?_ (AllReadyH.nil))))
    · intro K' hK'
      (try simp only [List.getElem_toArray, List.getElem_cons_zero, List.getElem_cons_succ])
      go_simp
      refine (HA.out _ (HS.out.below hB) (HO.out.below hB)).mono ?_
      rintro e u2 ⟨g, ct, rfl, hg1, hi, hb⟩
      replace hB := hB.trans (hb.mono hB.size)
      replace hF := hF.below hb
      replace hm2 := Nat.le_trans hm2 hb.size
      refine hK'.out _ _ hB (fun hSe => ?_)
      clear hK' K' hSd
      have hSd := hSe
      clear hSe
      obtain ⟨g3, o3, e3, hgl, cv⟩ := hi v (by rw [iL_length, stpL_length]; exact hvs)
      cases e3
      rw [iL_stpL hvs, Nat.zero_add] at cv
      clear hb hi hg1 hSd
      (try simp only [List.getElem_toArray, List.getElem_cons_zero, List.getElem_cons_succ])
      (try simp only [Act.put, List.setIfInBounds_toArray, List.set_cons_zero, List.set_cons_succ])
      refine wpAnyH_weaken (S' := fun u => Hid (Below w.heap.size w u) ∧ u.cell? ⟨g, v, none⟩ = some (.int .i64 (stp (toN sizes) (toN other) v : Nat))) (fun _ h => h.1) _ _ _ _ ?_
      have hSd : Hid (Below w.heap.size w u2) ∧ u2.cell? ⟨g, v, none⟩ = some (.int .i64 (stp (toN sizes) (toN other) v : Nat)) := ⟨hB, cv⟩
      refine wpAnyH_take (i := 8) (oi := _) (v := .pointer (some ⟨g, v, none⟩)) rfl (by kernel_rfl) (by kernel_rfl) (by kernel_rfl) (fun _ _ _ h => h) (Or.inl ⟨by rfl, ?_⟩) (by assumption) ?_
      · intro u' hSu
        (try simp only [List.getElem_toArray, List.getElem_cons_zero, List.getElem_cons_succ])
        go_simp
      (try simp only [List.getElem_toArray, List.getElem_cons_zero, List.getElem_cons_succ])
      (try simp only [Act.put, List.setIfInBounds_toArray, List.set_cons_zero, List.set_cons_succ])
      refine wpAnyH_take (i := 9) (oi := _) (v := .int .i64 (stp (toN sizes) (toN other) v : Nat)) rfl (by kernel_rfl) (by kernel_rfl) (by kernel_rfl) (fun _ _ _ h => h) (Or.inl ⟨by rfl, ?_⟩) (by assumption) ?_
      · intro u' hSu
        (try simp only [List.getElem_toArray, List.getElem_cons_zero, List.getElem_cons_succ])
        obtain ⟨s1, s2⟩ := hSu
        go_simp
      (try simp only [List.getElem_toArray, List.getElem_cons_zero, List.getElem_cons_succ])
      (try simp only [Act.put, List.setIfInBounds_toArray, List.set_cons_zero, List.set_cons_succ])
      refine wpAnyH_ready (rs := [10, 11]) (by kernel_rfl) (by simp) (AllReadyH.cons rfl ?_ (AllReadyH.cons rfl ?_ (AllReadyH.nil)))
      · intro K' hK'
        (try simp only [List.getElem_toArray, List.getElem_cons_zero, List.getElem_cons_succ])
        go_simp
        have hb : Below u2.heap.size u2 (u2.alloc (.cells #[.nilFunc] 73)) := (Below.refl _ u2).alloc (Nat.le_refl _) _
        have h9 : Boxed (u2.alloc (.cells #[.nilFunc] 73)) u2.heap.size 73 (.nilFunc) := Boxed.new u2 _ _
        have l9 : u2.heap.size < (u2.alloc (.cells #[.nilFunc] 73)).heap.size := by simp
        have w9 := hB.size
        replace hB := hB.trans (hb.mono hB.size)
        replace hF := hF.below hb
        have r9 : u2.heap.size < n1 ∨ m1 ≤ u2.heap.size := .inr hm2
        replace hm2 := Nat.le_trans hm2 hb.size
        have g9 : ¬ u2.heap.size = g := by omega
        replace cv := (hb.cell (p := ⟨g, v, none⟩) hgl).trans cv
        replace hgl := Nat.lt_of_lt_of_le hgl hb.size
        refine hK'.out _ _ ⟨hB, cv⟩ (fun hSd => ?_)
        clear hK' K' hb
        generalize (u2.alloc (.cells #[.nilFunc] 73)) = u3 at *
        generalize u2.heap.size = B9 at *
        (try simp only [List.getElem_toArray, List.getElem_cons_zero, List.getElem_cons_succ])
        (try simp only [Act.put, List.setIfInBounds_toArray, List.set_cons_zero, List.set_cons_succ])
        refine wpAnyH_ready (rs := [11]) (by kernel_rfl) (by simp) (AllReadyH.cons rfl ?_ (AllReadyH.nil))
        · intro K' hK'
          (try simp only [List.getElem_toArray, List.getElem_cons_zero, List.getElem_cons_succ])
          go_simp
          have hb : Below u3.heap.size u3 (u3.alloc (.cells #[.int .i64 0] 3)) := (Below.refl _ u3).alloc (Nat.le_refl _) _
          have h10 : Boxed (u3.alloc (.cells #[.int .i64 0] 3)) u3.heap.size 3 (.int .i64 0) := Boxed.new u3 _ _
          have l10 : u3.heap.size < (u3.alloc (.cells #[.int .i64 0] 3)).heap.size := by simp
          have w10 := hB.size
          replace hB := hB.trans (hb.mono hB.size)
          replace h9 := boxed_keep h9 hb
          have ne : ¬ B9 = u3.heap.size := by omega
          replace l9 := Nat.lt_of_lt_of_le l9 hb.size
          replace hF := hF.below hb
          have r10 : u3.heap.size < n1 ∨ m1 ≤ u3.heap.size := .inr hm2
          replace hm2 := Nat.le_trans hm2 hb.size
          have g10 : ¬ u3.heap.size = g := by omega
          replace cv := (hb.cell (p := ⟨g, v, none⟩) hgl).trans cv
          replace hgl := Nat.lt_of_lt_of_le hgl hb.size
          refine hK'.out _ _ ⟨hB, cv⟩ (fun hSd => ?_)
          clear hK' K' hb
          generalize (u3.alloc (.cells #[.int .i64 0] 3)) = u4 at *
          generalize u3.heap.size = B10 at *
          (try simp only [List.getElem_toArray, List.getElem_cons_zero, List.getElem_cons_succ])
          (try simp only [Act.put, List.setIfInBounds_toArray, List.set_cons_zero, List.set_cons_succ])
          refine wpAnyH_ready (rs := [12]) (by kernel_rfl) (by simp) (AllReadyH.cons rfl ?_ (AllReadyH.nil))
          · have c9 := h9.cell
            have f9 := h9.frozen
            intro K' hK'
            (try simp only [List.getElem_toArray, List.getElem_cons_zero, List.getElem_cons_succ])
            go_simp
            have e9 : Boxed (u4.setCell ⟨B9, 0, none⟩ (.func (.func 103) #[] lb)) B9 73 (.func (.func 103) #[] lb) := h9.set _
            have e10 : Boxed (u4.setCell ⟨B9, 0, none⟩ (.func (.func 103) #[] lb)) B10 3 (.int .i64 0) := boxed_off h10 B9 0 _ (by omega)
            replace hF := hF.kept (KeepsIn.set u4 0 (.func (.func 103) #[] lb) hm2 r9)
            replace hB := below_s hB B9 0 (.func (.func 103) #[] lb) w9
            replace cv : (u4.setCell ⟨B9, 0, none⟩ (.func (.func 103) #[] lb)).cell? ⟨g, v, none⟩ = _ := (World.cell?_setCell_other _ _ _ _ (fun e => g9 (congrArg Addr.block e))).trans cv
            have lz : u4.heap.size ≤ (u4.setCell ⟨B9, 0, none⟩ (.func (.func 103) #[] lb)).heap.size := (KeepsOthers.setCell u4 _ _).size
            replace l9 := Nat.lt_of_lt_of_le l9 lz
            replace l10 := Nat.lt_of_lt_of_le l10 lz
            replace hm2 := Nat.le_trans hm2 lz
            refine hK'.out _ _ ⟨hB, cv⟩ (fun hSe => ?_)
            clear hK' K' hSd h9 h10 c9 f9 lz
            have hSd := hSe
            clear hSe
            generalize (u4.setCell ⟨B9, 0, none⟩ (.func (.func 103) #[] lb)) = v1 at *
            (try simp only [List.getElem_toArray, List.getElem_cons_zero, List.getElem_cons_succ])
            (try simp only [Act.put, List.setIfInBounds_toArray, List.set_cons_zero, List.set_cons_succ])
            have c10 := e10.cell
            have f10 := e10.frozen
            refine wpAnyH_ready (rs := [13]) (by kernel_rfl) (by simp) (AllReadyH.cons rfl ?_ AllReadyH.nil)
            intro K' hK'
            (try simp only [List.getElem_toArray, List.getElem_cons_zero, List.getElem_cons_succ])
            go_simp
            have x9 : Boxed (v1.setCell ⟨B10, 0, none⟩ (.int .i64 (stp (toN sizes) (toN other) v : Nat))) B9 73 (.func (.func 103) #[] lb) := boxed_off e9 B10 0 _ (by omega)
            have x10 := e10.set (.int .i64 (stp (toN sizes) (toN other) v : Nat))
            replace hF := hF.kept (KeepsIn.set v1 0 (.int .i64 (stp (toN sizes) (toN other) v : Nat)) hm2 r10)
            replace hB := below_s hB B10 0 (.int .i64 (stp (toN sizes) (toN other) v : Nat)) w10
            replace cv : (v1.setCell ⟨B10, 0, none⟩ (.int .i64 (stp (toN sizes) (toN other) v : Nat))).cell? ⟨g, v, none⟩ = _ := (World.cell?_setCell_other _ _ _ _ (fun e => g10 (congrArg Addr.block e))).trans cv
            have lz : v1.heap.size ≤ (v1.setCell ⟨B10, 0, none⟩ (.int .i64 (stp (toN sizes) (toN other) v : Nat))).heap.size := (KeepsOthers.setCell v1 _ _).size
            replace l9 := Nat.lt_of_lt_of_le l9 lz
            replace l10 := Nat.lt_of_lt_of_le l10 lz
            replace hm2 := Nat.le_trans hm2 lz
            refine hK'.out _ _ ⟨hB, cv⟩ (fun _ => wpAnyH_done (by kernel_rfl) ?_ _)
            clear hK' K' hSd e9 e10 c10 f10 lz
            generalize (v1.setCell ⟨B10, 0, none⟩ (.int .i64 (stp (toN sizes) (toN other) v : Nat))) = v2 at *
            go_wp2
            go_ret
            exact ⟨_, rfl, ⟨B9, B10, _, rfl, w9, w10, l9, l10, Nat.le_refl _, x9.cell, x10.cell, hF.wider hn0 hm2 (Nat.le_refl _)⟩, hB⟩
      · intro K' hK'
        (try simp only [List.getElem_toArray, List.getElem_cons_zero, List.getElem_cons_succ])
        go_simp
        have hb : Below u2.heap.size u2 (u2.alloc (.cells #[.int .i64 0] 3)) := (Below.refl _ u2).alloc (Nat.le_refl _) _
        have h10 : Boxed (u2.alloc (.cells #[.int .i64 0] 3)) u2.heap.size 3 (.int .i64 0) := Boxed.new u2 _ _
        have l10 : u2.heap.size < (u2.alloc (.cells #[.int .i64 0] 3)).heap.size := by simp
        have w10 := hB.size
        replace hB := hB.trans (hb.mono hB.size)
        replace hF := hF.below hb
        have r10 : u2.heap.size < n1 ∨ m1 ≤ u2.heap.size := .inr hm2
        replace hm2 := Nat.le_trans hm2 hb.size
        have g10 : ¬ u2.heap.size = g := by omega
        replace cv := (hb.cell (p := ⟨g, v, none⟩) hgl).trans cv
        replace hgl := Nat.lt_of_lt_of_le hgl hb.size
        refine hK'.out _ _ ⟨hB, cv⟩ (fun hSd => ?_)
        clear hK' K' hb
        generalize (u2.alloc (.cells #[.int .i64 0] 3)) = u3 at *
        generalize u2.heap.size = B10 at *
        (try simp only [List.getElem_toArray, List.getElem_cons_zero, List.getElem_cons_succ])
        (try simp only [Act.put, List.setIfInBounds_toArray, List.set_cons_zero, List.set_cons_succ])
        refine wpAnyH_ready (rs := [10]) (by kernel_rfl) (by simp) (AllReadyH.cons rfl ?_ (AllReadyH.nil))
        · intro K' hK'
          (try simp only [List.getElem_toArray, List.getElem_cons_zero, List.getElem_cons_succ])
          go_simp
          have hb : Below u3.heap.size u3 (u3.alloc (.cells #[.nilFunc] 73)) := (Below.refl _ u3).alloc (Nat.le_refl _) _
          have h9 : Boxed (u3.alloc (.cells #[.nilFunc] 73)) u3.heap.size 73 (.nilFunc) := Boxed.new u3 _ _
          have l9 : u3.heap.size < (u3.alloc (.cells #[.nilFunc] 73)).heap.size := by simp
          have w9 := hB.size
          replace hB := hB.trans (hb.mono hB.size)
          replace h10 := boxed_keep h10 hb
          have ne : ¬ B10 = u3.heap.size := by omega
          replace l10 := Nat.lt_of_lt_of_le l10 hb.size
          replace hF := hF.below hb
          have r9 : u3.heap.size < n1 ∨ m1 ≤ u3.heap.size := .inr hm2
          replace hm2 := Nat.le_trans hm2 hb.size
          have g9 : ¬ u3.heap.size = g := by omega
          replace cv := (hb.cell (p := ⟨g, v, none⟩) hgl).trans cv
          replace hgl := Nat.lt_of_lt_of_le hgl hb.size
          refine hK'.out _ _ ⟨hB, cv⟩ (fun hSd => ?_)
          clear hK' K' hb
          generalize (u3.alloc (.cells #[.nilFunc] 73)) = u4 at *
          generalize u3.heap.size = B9 at *
          (try simp only [List.getElem_toArray, List.getElem_cons_zero, List.getElem_cons_succ])
          (try simp only [Act.put, List.setIfInBounds_toArray, List.set_cons_zero, List.set_cons_succ])
          refine wpAnyH_ready (rs := [12]) (by kernel_rfl) (by simp) (AllReadyH.cons rfl ?_ (AllReadyH.nil))
          · have c9 := h9.cell
            have f9 := h9.frozen
            intro K' hK'
            (try simp only [List.getElem_toArray, List.getElem_cons_zero, List.getElem_cons_succ])
            go_simp
            have e9 : Boxed (u4.setCell ⟨B9, 0, none⟩ (.func (.func 103) #[] lb)) B9 73 (.func (.func 103) #[] lb) := h9.set _
            have e10 : Boxed (u4.setCell ⟨B9, 0, none⟩ (.func (.func 103) #[] lb)) B10 3 (.int .i64 0) := boxed_off h10 B9 0 _ (by omega)
            replace hF := hF.kept (KeepsIn.set u4 0 (.func (.func 103) #[] lb) hm2 r9)
            replace hB := below_s hB B9 0 (.func (.func 103) #[] lb) w9
            replace cv : (u4.setCell ⟨B9, 0, none⟩ (.func (.func 103) #[] lb)).cell? ⟨g, v, none⟩ = _ := (World.cell?_setCell_other _ _ _ _ (fun e => g9 (congrArg Addr.block e))).trans cv
            have lz : u4.heap.size ≤ (u4.setCell ⟨B9, 0, none⟩ (.func (.func 103) #[] lb)).heap.size := (KeepsOthers.setCell u4 _ _).size
            replace l9 := Nat.lt_of_lt_of_le l9 lz
            replace l10 := Nat.lt_of_lt_of_le l10 lz
            replace hm2 := Nat.le_trans hm2 lz
            refine hK'.out _ _ ⟨hB, cv⟩ (fun hSe => ?_)
            clear hK' K' hSd h9 h10 c9 f9 lz
            have hSd := hSe
            clear hSe
            generalize (u4.setCell ⟨B9, 0, none⟩ (.func (.func 103) #[] lb)) = v1 at *
            (try simp only [List.getElem_toArray, List.getElem_cons_zero, List.getElem_cons_succ])
            (try simp only [Act.put, List.setIfInBounds_toArray, List.set_cons_zero, List.set_cons_succ])
            have c10 := e10.cell
            have f10 := e10.frozen
            refine wpAnyH_ready (rs := [13]) (by kernel_rfl) (by simp) (AllReadyH.cons rfl ?_ AllReadyH.nil)
            intro K' hK'
            (try simp only [List.getElem_toArray, List.getElem_cons_zero, List.getElem_cons_succ])
            go_simp
            have x9 : Boxed (v1.setCell ⟨B10, 0, none⟩ (.int .i64 (stp (toN sizes) (toN other) v : Nat))) B9 73 (.func (.func 103) #[] lb) := boxed_off e9 B10 0 _ (by omega)
            have x10 := e10.set (.int .i64 (stp (toN sizes) (toN other) v : Nat))
            replace hF := hF.kept (KeepsIn.set v1 0 (.int .i64 (stp (toN sizes) (toN other) v : Nat)) hm2 r10)
            replace hB := below_s hB B10 0 (.int .i64 (stp (toN sizes) (toN other) v : Nat)) w10
            replace cv : (v1.setCell ⟨B10, 0, none⟩ (.int .i64 (stp (toN sizes) (toN other) v : Nat))).cell? ⟨g, v, none⟩ = _ := (World.cell?_setCell_other _ _ _ _ (fun e => g10 (congrArg Addr.block e))).trans cv
            have lz : v1.heap.size ≤ (v1.setCell ⟨B10, 0, none⟩ (.int .i64 (stp (toN sizes) (toN other) v : Nat))).heap.size := (KeepsOthers.setCell v1 _ _).size
            replace l9 := Nat.lt_of_lt_of_le l9 lz
            replace l10 := Nat.lt_of_lt_of_le l10 lz
            replace hm2 := Nat.le_trans hm2 lz
            refine hK'.out _ _ ⟨hB, cv⟩ (fun _ => wpAnyH_done (by kernel_rfl) ?_ _)
            clear hK' K' hSd e9 e10 c10 f10 lz
            generalize (v1.setCell ⟨B10, 0, none⟩ (.int .i64 (stp (toN sizes) (toN other) v : Nat))) = v2 at *
            go_wp2
            go_ret
            exact ⟨_, rfl, ⟨B9, B10, _, rfl, w9, w10, l9, l10, Nat.le_refl _, x9.cell, x10.cell, hF.wider hn0 hm2 (Nat.le_refl _)⟩, hB⟩
    · intro K' hK'
      (try simp only [List.getElem_toArray, List.getElem_cons_zero, List.getElem_cons_succ])
      go_simp
      have hb : Below u1.heap.size u1 (u1.alloc (.cells #[.nilFunc] 73)) := (Below.refl _ u1).alloc (Nat.le_refl _) _
      have h9 : Boxed (u1.alloc (.cells #[.nilFunc] 73)) u1.heap.size 73 (.nilFunc) := Boxed.new u1 _ _
      have l9 : u1.heap.size < (u1.alloc (.cells #[.nilFunc] 73)).heap.size := by simp
      have w9 := hB.size
      replace hB := hB.trans (hb.mono hB.size)
      replace hF := hF.below hb
      have r9 : u1.heap.size < n1 ∨ m1 ≤ u1.heap.size := .inr hm2
      replace hm2 := Nat.le_trans hm2 hb.size
      refine hK'.out _ _ hB (fun hSd => ?_)
      clear hK' K' hb
      generalize (u1.alloc (.cells #[.nilFunc] 73)) = u2 at *
      generalize u1.heap.size = B9 at *
      (try simp only [List.getElem_toArray, List.getElem_cons_zero, List.getElem_cons_succ])
      (try simp only [Act.put, List.setIfInBounds_toArray, List.set_cons_zero, List.set_cons_succ])
      refine wpAnyH_ready (rs := [6, 11]) (by kernel_rfl) (by simp) (AllReadyH.cons rfl ?_ (AllReadyH.cons rfl ?_ (AllReadyH.nil)))
      · intro K' hK'
        (try simp only [List.getElem_toArray, List.getElem_cons_zero, List.getElem_cons_succ])
        go_simp
        refine (HA.out _ (HS.out.below hB) (HO.out.below hB)).mono ?_
        rintro e u3 ⟨g, ct, rfl, hg1, hi, hb⟩
        replace hB := hB.trans (hb.mono hB.size)
        replace hF := hF.below hb
        replace hm2 := Nat.le_trans hm2 hb.size
        refine hK'.out _ _ hB (fun hSe => ?_)
        clear hK' K' hSd
        have hSd := hSe
        clear hSe
        obtain ⟨g3, o3, e3, hgl, cv⟩ := hi v (by rw [iL_length, stpL_length]; exact hvs)
        cases e3
        rw [iL_stpL hvs, Nat.zero_add] at cv
        replace h9 := boxed_keep h9 hb
        have g9 : ¬ B9 = g := by omega
        replace l9 := Nat.lt_of_lt_of_le l9 hb.size
        clear hb hi hg1 hSd
        (try simp only [List.getElem_toArray, List.getElem_cons_zero, List.getElem_cons_succ])
        (try simp only [Act.put, List.setIfInBounds_toArray, List.set_cons_zero, List.set_cons_succ])
        refine wpAnyH_weaken (S' := fun u => Hid (Below w.heap.size w u) ∧ u.cell? ⟨g, v, none⟩ = some (.int .i64 (stp (toN sizes) (toN other) v : Nat))) (fun _ h => h.1) _ _ _ _ ?_
        have hSd : Hid (Below w.heap.size w u3) ∧ u3.cell? ⟨g, v, none⟩ = some (.int .i64 (stp (toN sizes) (toN other) v : Nat)) := ⟨hB, cv⟩
        refine wpAnyH_take (i := 8) (oi := _) (v := .pointer (some ⟨g, v, none⟩)) rfl (by kernel_rfl) (by kernel_rfl) (by kernel_rfl) (fun _ _ _ h => h) (Or.inl ⟨by rfl, ?_⟩) (by assumption) ?_
        · intro u' hSu
          (try simp only [List.getElem_toArray, List.getElem_cons_zero, List.getElem_cons_succ])
          go_simp
        (try simp only [List.getElem_toArray, List.getElem_cons_zero, List.getElem_cons_succ])
        (try simp only [Act.put, List.setIfInBounds_toArray, List.set_cons_zero, List.set_cons_succ])
        refine wpAnyH_take (i := 9) (oi := _) (v := .int .i64 (stp (toN sizes) (toN other) v : Nat)) rfl (by kernel_rfl) (by kernel_rfl) (by kernel_rfl) (fun _ _ _ h => h) (Or.inl ⟨by rfl, ?_⟩) (by assumption) ?_
        · intro u' hSu
          (try simp only [List.getElem_toArray, List.getElem_cons_zero, List.getElem_cons_succ])
          obtain ⟨s1, s2⟩ := hSu
          go_simp
        (try simp only [List.getElem_toArray, List.getElem_cons_zero, List.getElem_cons_succ])
        (try simp only [Act.put, List.setIfInBounds_toArray, List.set_cons_zero, List.set_cons_succ])
        refine wpAnyH_ready (rs := [11]) (by kernel_rfl) (by simp) (AllReadyH.cons rfl ?_ (AllReadyH.nil))
        · intro K' hK'
          (try simp only [List.getElem_toArray, List.getElem_cons_zero, List.getElem_cons_succ])
          go_simp
          have hb : Below u3.heap.size u3 (u3.alloc (.cells #[.int .i64 0] 3)) := (Below.refl _ u3).alloc (Nat.le_refl _) _
          have h10 : Boxed (u3.alloc (.cells #[.int .i64 0] 3)) u3.heap.size 3 (.int .i64 0) := Boxed.new u3 _ _
          have l10 : u3.heap.size < (u3.alloc (.cells #[.int .i64 0] 3)).heap.size := by simp
          have w10 := hB.size
          replace hB := hB.trans (hb.mono hB.size)
          replace h9 := boxed_keep h9 hb
          have ne : ¬ B9 = u3.heap.size := by omega
          replace l9 := Nat.lt_of_lt_of_le l9 hb.size
          replace hF := hF.below hb
          have r10 : u3.heap.size < n1 ∨ m1 ≤ u3.heap.size := .inr hm2
          replace hm2 := Nat.le_trans hm2 hb.size
          have g10 : ¬ u3.heap.size = g := by omega
          replace cv := (hb.cell (p := ⟨g, v, none⟩) hgl).trans cv
          replace hgl := Nat.lt_of_lt_of_le hgl hb.size
          refine hK'.out _ _ ⟨hB, cv⟩ (fun hSd => ?_)
          clear hK' K' hb
          generalize (u3.alloc (.cells #[.int .i64 0] 3)) = u4 at *
          generalize u3.heap.size = B10 at *
          (try simp only [List.getElem_toArray, List.getElem_cons_zero, List.getElem_cons_succ])
          (try simp only [Act.put, List.setIfInBounds_toArray, List.set_cons_zero, List.set_cons_succ])
          refine wpAnyH_ready (rs := [12]) (by kernel_rfl) (by simp) (AllReadyH.cons rfl ?_ (AllReadyH.nil))
          · have c9 := h9.cell
            have f9 := h9.frozen
            intro K' hK'
            (try simp only [List.getElem_toArray, List.getElem_cons_zero, List.getElem_cons_succ])
            go_simp
            have e9 : Boxed (u4.setCell ⟨B9, 0, none⟩ (.func (.func 103) #[] lb)) B9 73 (.func (.func 103) #[] lb) := h9.set _
            have e10 : Boxed (u4.setCell ⟨B9, 0, none⟩ (.func (.func 103) #[] lb)) B10 3 (.int .i64 0) := boxed_off h10 B9 0 _ (by omega)
            replace hF := hF.kept (KeepsIn.set u4 0 (.func (.func 103) #[] lb) hm2 r9)
            replace hB := below_s hB B9 0 (.func (.func 103) #[] lb) w9
            replace cv : (u4.setCell ⟨B9, 0, none⟩ (.func (.func 103) #[] lb)).cell? ⟨g, v, none⟩ = _ := (World.cell?_setCell_other _ _ _ _ (fun e => g9 (congrArg Addr.block e))).trans cv
            have lz : u4.heap.size ≤ (u4.setCell ⟨B9, 0, none⟩ (.func (.func 103) #[] lb)).heap.size := (KeepsOthers.setCell u4 _ _).size
            replace l9 := Nat.lt_of_lt_of_le l9 lz
            replace l10 := Nat.lt_of_lt_of_le l10 lz
            replace hm2 := Nat.le_trans hm2 lz
            refine hK'.out _ _ ⟨hB, cv⟩ (fun hSe => ?_)
            clear hK' K' hSd h9 h10 c9 f9 lz
            have hSd := hSe
            clear hSe
            generalize (u4.setCell ⟨B9, 0, none⟩ (.func (.func 103) #[] lb)) = v1 at *
            (try simp only [List.getElem_toArray, List.getElem_cons_zero, List.getElem_cons_succ])
            (try simp only [Act.put, List.setIfInBounds_toArray, List.set_cons_zero, List.set_cons_succ])
            have c10 := e10.cell
            have f10 := e10.frozen
            refine wpAnyH_ready (rs := [13]) (by kernel_rfl) (by simp) (AllReadyH.cons rfl ?_ AllReadyH.nil)
            intro K' hK'
            (try simp only [List.getElem_toArray, List.getElem_cons_zero, List.getElem_cons_succ])
            go_simp
            have x9 : Boxed (v1.setCell ⟨B10, 0, none⟩ (.int .i64 (stp (toN sizes) (toN other) v : Nat))) B9 73 (.func (.func 103) #[] lb) := boxed_off e9 B10 0 _ (by omega)
            have x10 := e10.set (.int .i64 (stp (toN sizes) (toN other) v : Nat))
            replace hF := hF.kept (KeepsIn.set v1 0 (.int .i64 (stp (toN sizes) (toN other) v : Nat)) hm2 r10)
            replace hB := below_s hB B10 0 (.int .i64 (stp (toN sizes) (toN other) v : Nat)) w10
            replace cv : (v1.setCell ⟨B10, 0, none⟩ (.int .i64 (stp (toN sizes) (toN other) v : Nat))).cell? ⟨g, v, none⟩ = _ := (World.cell?_setCell_other _ _ _ _ (fun e => g10 (congrArg Addr.block e))).trans cv
            have lz : v1.heap.size ≤ (v1.setCell ⟨B10, 0, none⟩ (.int .i64 (stp (toN sizes) (toN other) v : Nat))).heap.size := (KeepsOthers.setCell v1 _ _).size
            replace l9 := Nat.lt_of_lt_of_le l9 lz
            replace l10 := Nat.lt_of_lt_of_le l10 lz
            replace hm2 := Nat.le_trans hm2 lz
            refine hK'.out _ _ ⟨hB, cv⟩ (fun _ => wpAnyH_done (by kernel_rfl) ?_ _)
            clear hK' K' hSd e9 e10 c10 f10 lz
            generalize (v1.setCell ⟨B10, 0, none⟩ (.int .i64 (stp (toN sizes) (toN other) v : Nat))) = v2 at *
            go_wp2
            go_ret
            exact ⟨_, rfl, ⟨B9, B10, _, rfl, w9, w10, l9, l10, Nat.le_refl _, x9.cell, x10.cell, hF.wider hn0 hm2 (Nat.le_refl _)⟩, hB⟩
      · intro K' hK'
        (try simp only [List.getElem_toArray, List.getElem_cons_zero, List.getElem_cons_succ])
        go_simp
        have hb : Below u2.heap.size u2 (u2.alloc (.cells #[.int .i64 0] 3)) := (Below.refl _ u2).alloc (Nat.le_refl _) _
        have h10 : Boxed (u2.alloc (.cells #[.int .i64 0] 3)) u2.heap.size 3 (.int .i64 0) := Boxed.new u2 _ _
        have l10 : u2.heap.size < (u2.alloc (.cells #[.int .i64 0] 3)).heap.size := by simp
        have w10 := hB.size
        replace hB := hB.trans (hb.mono hB.size)
        replace h9 := boxed_keep h9 hb
        have ne : ¬ B9 = u2.heap.size := by omega
        replace l9 := Nat.lt_of_lt_of_le l9 hb.size
        replace hF := hF.below hb
        have r10 : u2.heap.size < n1 ∨ m1 ≤ u2.heap.size := .inr hm2
        replace hm2 := Nat.le_trans hm2 hb.size
        refine hK'.out _ _ hB (fun hSd => ?_)
        clear hK' K' hb
        generalize (u2.alloc (.cells #[.int .i64 0] 3)) = u3 at *
        generalize u2.heap.size = B10 at *
        (try simp only [List.getElem_toArray, List.getElem_cons_zero, List.getElem_cons_succ])
        (try simp only [Act.put, List.setIfInBounds_toArray, List.set_cons_zero, List.set_cons_succ])
        refine wpAnyH_ready (rs := [6]) (by kernel_rfl) (by simp) (AllReadyH.cons rfl ?_ (AllReadyH.nil))
        · intro K' hK'
          (try simp only [List.getElem_toArray, List.getElem_cons_zero, List.getElem_cons_succ])
          go_simp
          refine (HA.out _ (HS.out.below hB) (HO.out.below hB)).mono ?_
          rintro e u4 ⟨g, ct, rfl, hg1, hi, hb⟩
          replace hB := hB.trans (hb.mono hB.size)
          replace hF := hF.below hb
          replace hm2 := Nat.le_trans hm2 hb.size
          refine hK'.out _ _ hB (fun hSe => ?_)
          clear hK' K' hSd
          have hSd := hSe
          clear hSe
          obtain ⟨g3, o3, e3, hgl, cv⟩ := hi v (by rw [iL_length, stpL_length]; exact hvs)
          cases e3
          rw [iL_stpL hvs, Nat.zero_add] at cv
          replace h9 := boxed_keep h9 hb
          have g9 : ¬ B9 = g := by omega
          replace l9 := Nat.lt_of_lt_of_le l9 hb.size
          replace h10 := boxed_keep h10 hb
          have g10 : ¬ B10 = g := by omega
          replace l10 := Nat.lt_of_lt_of_le l10 hb.size
          clear hb hi hg1 hSd
          (try simp only [List.getElem_toArray, List.getElem_cons_zero, List.getElem_cons_succ])
          (try simp only [Act.put, List.setIfInBounds_toArray, List.set_cons_zero, List.set_cons_succ])
          refine wpAnyH_weaken (S' := fun u => Hid (Below w.heap.size w u) ∧ u.cell? ⟨g, v, none⟩ = some (.int .i64 (stp (toN sizes) (toN other) v : Nat))) (fun _ h => h.1) _ _ _ _ ?_
          have hSd : Hid (Below w.heap.size w u4) ∧ u4.cell? ⟨g, v, none⟩ = some (.int .i64 (stp (toN sizes) (toN other) v : Nat)) := ⟨hB, cv⟩
          refine wpAnyH_take (i := 8) (oi := _) (v := .pointer (some ⟨g, v, none⟩)) rfl (by kernel_rfl) (by kernel_rfl) (by kernel_rfl) (fun _ _ _ h => h) (Or.inl ⟨by rfl, ?_⟩) (by assumption) ?_
          · intro u' hSu
            (try simp only [List.getElem_toArray, List.getElem_cons_zero, List.getElem_cons_succ])
            go_simp
          (try simp only [List.getElem_toArray, List.getElem_cons_zero, List.getElem_cons_succ])
          (try simp only [Act.put, List.setIfInBounds_toArray, List.set_cons_zero, List.set_cons_succ])
          refine wpAnyH_take (i := 9) (oi := _) (v := .int .i64 (stp (toN sizes) (toN other) v : Nat)) rfl (by kernel_rfl) (by kernel_rfl) (by kernel_rfl) (fun _ _ _ h => h) (Or.inl ⟨by rfl, ?_⟩) (by assumption) ?_
          · intro u' hSu
            (try simp only [List.getElem_toArray, List.getElem_cons_zero, List.getElem_cons_succ])
            obtain ⟨s1, s2⟩ := hSu
            go_simp
          (try simp only [List.getElem_toArray, List.getElem_cons_zero, List.getElem_cons_succ])
          (try simp only [Act.put, List.setIfInBounds_toArray, List.set_cons_zero, List.set_cons_succ])
          refine wpAnyH_ready (rs := [12]) (by kernel_rfl) (by simp) (AllReadyH.cons rfl ?_ (AllReadyH.nil))
          · have c9 := h9.cell
            have f9 := h9.frozen
            intro K' hK'
            (try simp only [List.getElem_toArray, List.getElem_cons_zero, List.getElem_cons_succ])
            go_simp
            have e9 : Boxed (u4.setCell ⟨B9, 0, none⟩ (.func (.func 103) #[] lb)) B9 73 (.func (.func 103) #[] lb) := h9.set _
            have e10 : Boxed (u4.setCell ⟨B9, 0, none⟩ (.func (.func 103) #[] lb)) B10 3 (.int .i64 0) := boxed_off h10 B9 0 _ (by omega)
            replace hF := hF.kept (KeepsIn.set u4 0 (.func (.func 103) #[] lb) hm2 r9)
            replace hB := below_s hB B9 0 (.func (.func 103) #[] lb) w9
            replace cv : (u4.setCell ⟨B9, 0, none⟩ (.func (.func 103) #[] lb)).cell? ⟨g, v, none⟩ = _ := (World.cell?_setCell_other _ _ _ _ (fun e => g9 (congrArg Addr.block e))).trans cv
            have lz : u4.heap.size ≤ (u4.setCell ⟨B9, 0, none⟩ (.func (.func 103) #[] lb)).heap.size := (KeepsOthers.setCell u4 _ _).size
            replace l9 := Nat.lt_of_lt_of_le l9 lz
            replace l10 := Nat.lt_of_lt_of_le l10 lz
            replace hm2 := Nat.le_trans hm2 lz
            refine hK'.out _ _ ⟨hB, cv⟩ (fun hSe => ?_)
            clear hK' K' hSd h9 h10 c9 f9 lz
            have hSd := hSe
            clear hSe
            generalize (u4.setCell ⟨B9, 0, none⟩ (.func (.func 103) #[] lb)) = v1 at *
            (try simp only [List.getElem_toArray, List.getElem_cons_zero, List.getElem_cons_succ])
            (try simp only [Act.put, List.setIfInBounds_toArray, List.set_cons_zero, List.set_cons_succ])
            have c10 := e10.cell
            have f10 := e10.frozen
            refine wpAnyH_ready (rs := [13]) (by kernel_rfl) (by simp) (AllReadyH.cons rfl ?_ AllReadyH.nil)
            intro K' hK'
            (try simp only [List.getElem_toArray, List.getElem_cons_zero, List.getElem_cons_succ])
            go_simp
            have x9 : Boxed (v1.setCell ⟨B10, 0, none⟩ (.int .i64 (stp (toN sizes) (toN other) v : Nat))) B9 73 (.func (.func 103) #[] lb) := boxed_off e9 B10 0 _ (by omega)
            have x10 := e10.set (.int .i64 (stp (toN sizes) (toN other) v : Nat))
            replace hF := hF.kept (KeepsIn.set v1 0 (.int .i64 (stp (toN sizes) (toN other) v : Nat)) hm2 r10)
            replace hB := below_s hB B10 0 (.int .i64 (stp (toN sizes) (toN other) v : Nat)) w10
            replace cv : (v1.setCell ⟨B10, 0, none⟩ (.int .i64 (stp (toN sizes) (toN other) v : Nat))).cell? ⟨g, v, none⟩ = _ := (World.cell?_setCell_other _ _ _ _ (fun e => g10 (congrArg Addr.block e))).trans cv
            have lz : v1.heap.size ≤ (v1.setCell ⟨B10, 0, none⟩ (.int .i64 (stp (toN sizes) (toN other) v : Nat))).heap.size := (KeepsOthers.setCell v1 _ _).size
            replace l9 := Nat.lt_of_lt_of_le l9 lz
            replace l10 := Nat.lt_of_lt_of_le l10 lz
            replace hm2 := Nat.le_trans hm2 lz
            refine hK'.out _ _ ⟨hB, cv⟩ (fun _ => wpAnyH_done (by kernel_rfl) ?_ _)
            clear hK' K' hSd e9 e10 c10 f10 lz
            generalize (v1.setCell ⟨B10, 0, none⟩ (.int .i64 (stp (toN sizes) (toN other) v : Nat))) = v2 at *
            go_wp2
            go_ret
            exact ⟨_, rfl, ⟨B9, B10, _, rfl, w9, w10, l9, l10, Nat.le_refl _, x9.cell, x10.cell, hF.wider hn0 hm2 (Nat.le_refl _)⟩, hB⟩
    · intro K' hK'
      (try simp only [List.getElem_toArray, List.getElem_cons_zero, List.getElem_cons_succ])
      go_simp
      have hb : Below u1.heap.size u1 (u1.alloc (.cells #[.int .i64 0] 3)) := (Below.refl _ u1).alloc (Nat.le_refl _) _
      have h10 : Boxed (u1.alloc (.cells #[.int .i64 0] 3)) u1.heap.size 3 (.int .i64 0) := Boxed.new u1 _ _
      have l10 : u1.heap.size < (u1.alloc (.cells #[.int .i64 0] 3)).heap.size := by simp
      have w10 := hB.size
      replace hB := hB.trans (hb.mono hB.size)
      replace hF := hF.below hb
      have r10 : u1.heap.size < n1 ∨ m1 ≤ u1.heap.size := .inr hm2
      replace hm2 := Nat.le_trans hm2 hb.size
      refine hK'.out _ _ hB (fun hSd => ?_)
      clear hK' K' hb
      generalize (u1.alloc (.cells #[.int .i64 0] 3)) = u2 at *
      generalize u1.heap.size = B10 at *
      (try simp only [List.getElem_toArray, List.getElem_cons_zero, List.getElem_cons_succ])
      (try simp only [Act.put, List.setIfInBounds_toArray, List.set_cons_zero, List.set_cons_succ])
      refine wpAnyH_ready (rs := [6, 10]) (by kernel_rfl) (by simp) (AllReadyH.cons rfl ?_ (AllReadyH.cons rfl ?_ (AllReadyH.nil)))
      · intro K' hK'
        (try simp only [List.getElem_toArray, List.getElem_cons_zero, List.getElem_cons_succ])
        go_simp
        refine (HA.out _ (HS.out.below hB) (HO.out.below hB)).mono ?_
        rintro e u3 ⟨g, ct, rfl, hg1, hi, hb⟩
        replace hB := hB.trans (hb.mono hB.size)
        replace hF := hF.below hb
        replace hm2 := Nat.le_trans hm2 hb.size
        refine hK'.out _ _ hB (fun hSe => ?_)
        clear hK' K' hSd
        have hSd := hSe
        clear hSe
        obtain ⟨g3, o3, e3, hgl, cv⟩ := hi v (by rw [iL_length, stpL_length]; exact hvs)
        cases e3
        rw [iL_stpL hvs, Nat.zero_add] at cv
        replace h10 := boxed_keep h10 hb
        have g10 : ¬ B10 = g := by omega
        replace l10 := Nat.lt_of_lt_of_le l10 hb.size
        clear hb hi hg1 hSd
        (try simp only [List.getElem_toArray, List.getElem_cons_zero, List.getElem_cons_succ])
        (try simp only [Act.put, List.setIfInBounds_toArray, List.set_cons_zero, List.set_cons_succ])
        refine wpAnyH_weaken (S' := fun u => Hid (Below w.heap.size w u) ∧ u.cell? ⟨g, v, none⟩ = some (.int .i64 (stp (toN sizes) (toN other) v : Nat))) (fun _ h => h.1) _ _ _ _ ?_
        have hSd : Hid (Below w.heap.size w u3) ∧ u3.cell? ⟨g, v, none⟩ = some (.int .i64 (stp (toN sizes) (toN other) v : Nat)) := ⟨hB, cv⟩
        refine wpAnyH_take (i := 8) (oi := _) (v := .pointer (some ⟨g, v, none⟩)) rfl (by kernel_rfl) (by kernel_rfl) (by kernel_rfl) (fun _ _ _ h => h) (Or.inl ⟨by rfl, ?_⟩) (by assumption) ?_
        · intro u' hSu
          (try simp only [List.getElem_toArray, List.getElem_cons_zero, List.getElem_cons_succ])
          go_simp
        (try simp only [List.getElem_toArray, List.getElem_cons_zero, List.getElem_cons_succ])
        (try simp only [Act.put, List.setIfInBounds_toArray, List.set_cons_zero, List.set_cons_succ])
        refine wpAnyH_take (i := 9) (oi := _) (v := .int .i64 (stp (toN sizes) (toN other) v : Nat)) rfl (by kernel_rfl) (by kernel_rfl) (by kernel_rfl) (fun _ _ _ h => h) (Or.inl ⟨by rfl, ?_⟩) (by assumption) ?_
        · intro u' hSu
          (try simp only [List.getElem_toArray, List.getElem_cons_zero, List.getElem_cons_succ])
          obtain ⟨s1, s2⟩ := hSu
          go_simp
        (try simp only [List.getElem_toArray, List.getElem_cons_zero, List.getElem_cons_succ])
        (try simp only [Act.put, List.setIfInBounds_toArray, List.set_cons_zero, List.set_cons_succ])
        refine wpAnyH_ready (rs := [10]) (by kernel_rfl) (by simp) (AllReadyH.cons rfl ?_ (AllReadyH.nil))
        · intro K' hK'
          (try simp only [List.getElem_toArray, List.getElem_cons_zero, List.getElem_cons_succ])
          go_simp
          have hb : Below u3.heap.size u3 (u3.alloc (.cells #[.nilFunc] 73)) := (Below.refl _ u3).alloc (Nat.le_refl _) _
          have h9 : Boxed (u3.alloc (.cells #[.nilFunc] 73)) u3.heap.size 73 (.nilFunc) := Boxed.new u3 _ _
          have l9 : u3.heap.size < (u3.alloc (.cells #[.nilFunc] 73)).heap.size := by simp
          have w9 := hB.size
          replace hB := hB.trans (hb.mono hB.size)
          replace h10 := boxed_keep h10 hb
          have ne : ¬ B10 = u3.heap.size := by omega
          replace l10 := Nat.lt_of_lt_of_le l10 hb.size
          replace hF := hF.below hb
          have r9 : u3.heap.size < n1 ∨ m1 ≤ u3.heap.size := .inr hm2
          replace hm2 := Nat.le_trans hm2 hb.size
          have g9 : ¬ u3.heap.size = g := by omega
          replace cv := (hb.cell (p := ⟨g, v, none⟩) hgl).trans cv
          replace hgl := Nat.lt_of_lt_of_le hgl hb.size
          refine hK'.out _ _ ⟨hB, cv⟩ (fun hSd => ?_)
          clear hK' K' hb
          generalize (u3.alloc (.cells #[.nilFunc] 73)) = u4 at *
          generalize u3.heap.size = B9 at *
          (try simp only [List.getElem_toArray, List.getElem_cons_zero, List.getElem_cons_succ])
          (try simp only [Act.put, List.setIfInBounds_toArray, List.set_cons_zero, List.set_cons_succ])
          refine wpAnyH_ready (rs := [12]) (by kernel_rfl) (by simp) (AllReadyH.cons rfl ?_ (AllReadyH.nil))
          · have c9 := h9.cell
            have f9 := h9.frozen
            intro K' hK'
            (try simp only [List.getElem_toArray, List.getElem_cons_zero, List.getElem_cons_succ])
            go_simp
            have e9 : Boxed (u4.setCell ⟨B9, 0, none⟩ (.func (.func 103) #[] lb)) B9 73 (.func (.func 103) #[] lb) := h9.set _
            have e10 : Boxed (u4.setCell ⟨B9, 0, none⟩ (.func (.func 103) #[] lb)) B10 3 (.int .i64 0) := boxed_off h10 B9 0 _ (by omega)
            replace hF := hF.kept (KeepsIn.set u4 0 (.func (.func 103) #[] lb) hm2 r9)
            replace hB := below_s hB B9 0 (.func (.func 103) #[] lb) w9
            replace cv : (u4.setCell ⟨B9, 0, none⟩ (.func (.func 103) #[] lb)).cell? ⟨g, v, none⟩ = _ := (World.cell?_setCell_other _ _ _ _ (fun e => g9 (congrArg Addr.block e))).trans cv
            have lz : u4.heap.size ≤ (u4.setCell ⟨B9, 0, none⟩ (.func (.func 103) #[] lb)).heap.size := (KeepsOthers.setCell u4 _ _).size
            replace l9 := Nat.lt_of_lt_of_le l9 lz
            replace l10 := Nat.lt_of_lt_of_le l10 lz
            replace hm2 := Nat.le_trans hm2 lz
            refine hK'.out _ _ ⟨hB, cv⟩ (fun hSe => ?_)
            clear hK' K' hSd h9 h10 c9 f9 lz
            have hSd := hSe
            clear hSe
            generalize (u4.setCell ⟨B9, 0, none⟩ (.func (.func 103) #[] lb)) = v1 at *
            (try simp only [List.getElem_toArray, List.getElem_cons_zero, List.getElem_cons_succ])
            (try simp only [Act.put, List.setIfInBounds_toArray, List.set_cons_zero, List.set_cons_succ])
            have c10 := e10.cell
            have f10 := e10.frozen
            refine wpAnyH_ready (rs := [13]) (by kernel_rfl) (by simp) (AllReadyH.cons rfl ?_ AllReadyH.nil)
            intro K' hK'
            (try simp only [List.getElem_toArray, List.getElem_cons_zero, List.getElem_cons_succ])
            go_simp
            have x9 : Boxed (v1.setCell ⟨B10, 0, none⟩ (.int .i64 (stp (toN sizes) (toN other) v : Nat))) B9 73 (.func (.func 103) #[] lb) := boxed_off e9 B10 0 _ (by omega)
            have x10 := e10.set (.int .i64 (stp (toN sizes) (toN other) v : Nat))
            replace hF := hF.kept (KeepsIn.set v1 0 (.int .i64 (stp (toN sizes) (toN other) v : Nat)) hm2 r10)
            replace hB := below_s hB B10 0 (.int .i64 (stp (toN sizes) (toN other) v : Nat)) w10
            replace cv : (v1.setCell ⟨B10, 0, none⟩ (.int .i64 (stp (toN sizes) (toN other) v : Nat))).cell? ⟨g, v, none⟩ = _ := (World.cell?_setCell_other _ _ _ _ (fun e => g10 (congrArg Addr.block e))).trans cv
            have lz : v1.heap.size ≤ (v1.setCell ⟨B10, 0, none⟩ (.int .i64 (stp (toN sizes) (toN other) v : Nat))).heap.size := (KeepsOthers.setCell v1 _ _).size
            replace l9 := Nat.lt_of_lt_of_le l9 lz
            replace l10 := Nat.lt_of_lt_of_le l10 lz
            replace hm2 := Nat.le_trans hm2 lz
            refine hK'.out _ _ ⟨hB, cv⟩ (fun _ => wpAnyH_done (by kernel_rfl) ?_ _)
            clear hK' K' hSd e9 e10 c10 f10 lz
            generalize (v1.setCell ⟨B10, 0, none⟩ (.int .i64 (stp (toN sizes) (toN other) v : Nat))) = v2 at *
            go_wp2
            go_ret
            exact ⟨_, rfl, ⟨B9, B10, _, rfl, w9, w10, l9, l10, Nat.le_refl _, x9.cell, x10.cell, hF.wider hn0 hm2 (Nat.le_refl _)⟩, hB⟩
      · intro K' hK'
        (try simp only [List.getElem_toArray, List.getElem_cons_zero, List.getElem_cons_succ])
        go_simp
        have hb : Below u2.heap.size u2 (u2.alloc (.cells #[.nilFunc] 73)) := (Below.refl _ u2).alloc (Nat.le_refl _) _
        have h9 : Boxed (u2.alloc (.cells #[.nilFunc] 73)) u2.heap.size 73 (.nilFunc) := Boxed.new u2 _ _
        have l9 : u2.heap.size < (u2.alloc (.cells #[.nilFunc] 73)).heap.size := by simp
        have w9 := hB.size
        replace hB := hB.trans (hb.mono hB.size)
        replace h10 := boxed_keep h10 hb
        have ne : ¬ B10 = u2.heap.size := by omega
        replace l10 := Nat.lt_of_lt_of_le l10 hb.size
        replace hF := hF.below hb
        have r9 : u2.heap.size < n1 ∨ m1 ≤ u2.heap.size := .inr hm2
        replace hm2 := Nat.le_trans hm2 hb.size
        refine hK'.out _ _ hB (fun hSd => ?_)
        clear hK' K' hb
        generalize (u2.alloc (.cells #[.nilFunc] 73)) = u3 at *
        generalize u2.heap.size = B9 at *
        (try simp only [List.getElem_toArray, List.getElem_cons_zero, List.getElem_cons_succ])
        (try simp only [Act.put, List.setIfInBounds_toArray, List.set_cons_zero, List.set_cons_succ])
        refine wpAnyH_ready (rs := [6]) (by kernel_rfl) (by simp) (AllReadyH.cons rfl ?_ (AllReadyH.nil))
        · intro K' hK'
          (try simp only [List.getElem_toArray, List.getElem_cons_zero, List.getElem_cons_succ])
          go_simp
          refine (HA.out _ (HS.out.below hB) (HO.out.below hB)).mono ?_
          rintro e u4 ⟨g, ct, rfl, hg1, hi, hb⟩
          replace hB := hB.trans (hb.mono hB.size)
          replace hF := hF.below hb
          replace hm2 := Nat.le_trans hm2 hb.size
          refine hK'.out _ _ hB (fun hSe => ?_)
          clear hK' K' hSd
          have hSd := hSe
          clear hSe
          obtain ⟨g3, o3, e3, hgl, cv⟩ := hi v (by rw [iL_length, stpL_length]; exact hvs)
          cases e3
          rw [iL_stpL hvs, Nat.zero_add] at cv
          replace h9 := boxed_keep h9 hb
          have g9 : ¬ B9 = g := by omega
          replace l9 := Nat.lt_of_lt_of_le l9 hb.size
          replace h10 := boxed_keep h10 hb
          have g10 : ¬ B10 = g := by omega
          replace l10 := Nat.lt_of_lt_of_le l10 hb.size
          clear hb hi hg1 hSd
          (try simp only [List.getElem_toArray, List.getElem_cons_zero, List.getElem_cons_succ])
          (try simp only [Act.put, List.setIfInBounds_toArray, List.set_cons_zero, List.set_cons_succ])
          refine wpAnyH_weaken (S' := fun u => Hid (Below w.heap.size w u) ∧ u.cell? ⟨g, v, none⟩ = some (.int .i64 (stp (toN sizes) (toN other) v : Nat))) (fun _ h => h.1) _ _ _ _ ?_
          have hSd : Hid (Below w.heap.size w u4) ∧ u4.cell? ⟨g, v, none⟩ = some (.int .i64 (stp (toN sizes) (toN other) v : Nat)) := ⟨hB, cv⟩
          refine wpAnyH_take (i := 8) (oi := _) (v := .pointer (some ⟨g, v, none⟩)) rfl (by kernel_rfl) (by kernel_rfl) (by kernel_rfl) (fun _ _ _ h => h) (Or.inl ⟨by rfl, ?_⟩) (by assumption) ?_
          · intro u' hSu
            (try simp only [List.getElem_toArray, List.getElem_cons_zero, List.getElem_cons_succ])
            go_simp
          (try simp only [List.getElem_toArray, List.getElem_cons_zero, List.getElem_cons_succ])
          (try simp only [Act.put, List.setIfInBounds_toArray, List.set_cons_zero, List.set_cons_succ])
          refine wpAnyH_take (i := 9) (oi := _) (v := .int .i64 (stp (toN sizes) (toN other) v : Nat)) rfl (by kernel_rfl) (by kernel_rfl) (by kernel_rfl) (fun _ _ _ h => h) (Or.inl ⟨by rfl, ?_⟩) (by assumption) ?_
          · intro u' hSu
            (try simp only [List.getElem_toArray, List.getElem_cons_zero, List.getElem_cons_succ])
            obtain ⟨s1, s2⟩ := hSu
            go_simp
          (try simp only [List.getElem_toArray, List.getElem_cons_zero, List.getElem_cons_succ])
          (try simp only [Act.put, List.setIfInBounds_toArray, List.set_cons_zero, List.set_cons_succ])
          refine wpAnyH_ready (rs := [12]) (by kernel_rfl) (by simp) (AllReadyH.cons rfl ?_ (AllReadyH.nil))
          · have c9 := h9.cell
            have f9 := h9.frozen
            intro K' hK'
            (try simp only [List.getElem_toArray, List.getElem_cons_zero, List.getElem_cons_succ])
            go_simp
            have e9 : Boxed (u4.setCell ⟨B9, 0, none⟩ (.func (.func 103) #[] lb)) B9 73 (.func (.func 103) #[] lb) := h9.set _
            have e10 : Boxed (u4.setCell ⟨B9, 0, none⟩ (.func (.func 103) #[] lb)) B10 3 (.int .i64 0) := boxed_off h10 B9 0 _ (by omega)
            replace hF := hF.kept (KeepsIn.set u4 0 (.func (.func 103) #[] lb) hm2 r9)
            replace hB := below_s hB B9 0 (.func (.func 103) #[] lb) w9
            replace cv : (u4.setCell ⟨B9, 0, none⟩ (.func (.func 103) #[] lb)).cell? ⟨g, v, none⟩ = _ := (World.cell?_setCell_other _ _ _ _ (fun e => g9 (congrArg Addr.block e))).trans cv
            have lz : u4.heap.size ≤ (u4.setCell ⟨B9, 0, none⟩ (.func (.func 103) #[] lb)).heap.size := (KeepsOthers.setCell u4 _ _).size
            replace l9 := Nat.lt_of_lt_of_le l9 lz
            replace l10 := Nat.lt_of_lt_of_le l10 lz
            replace hm2 := Nat.le_trans hm2 lz
            refine hK'.out _ _ ⟨hB, cv⟩ (fun hSe => ?_)
            clear hK' K' hSd h9 h10 c9 f9 lz
            have hSd := hSe
            clear hSe
            generalize (u4.setCell ⟨B9, 0, none⟩ (.func (.func 103) #[] lb)) = v1 at *
            (try simp only [List.getElem_toArray, List.getElem_cons_zero, List.getElem_cons_succ])
            (try simp only [Act.put, List.setIfInBounds_toArray, List.set_cons_zero, List.set_cons_succ])
            have c10 := e10.cell
            have f10 := e10.frozen
            refine wpAnyH_ready (rs := [13]) (by kernel_rfl) (by simp) (AllReadyH.cons rfl ?_ AllReadyH.nil)
            intro K' hK'
            (try simp only [List.getElem_toArray, List.getElem_cons_zero, List.getElem_cons_succ])
            go_simp
            have x9 : Boxed (v1.setCell ⟨B10, 0, none⟩ (.int .i64 (stp (toN sizes) (toN other) v : Nat))) B9 73 (.func (.func 103) #[] lb) := boxed_off e9 B10 0 _ (by omega)
            have x10 := e10.set (.int .i64 (stp (toN sizes) (toN other) v : Nat))
            replace hF := hF.kept (KeepsIn.set v1 0 (.int .i64 (stp (toN sizes) (toN other) v : Nat)) hm2 r10)
            replace hB := below_s hB B10 0 (.int .i64 (stp (toN sizes) (toN other) v : Nat)) w10
            replace cv : (v1.setCell ⟨B10, 0, none⟩ (.int .i64 (stp (toN sizes) (toN other) v : Nat))).cell? ⟨g, v, none⟩ = _ := (World.cell?_setCell_other _ _ _ _ (fun e => g10 (congrArg Addr.block e))).trans cv
            have lz : v1.heap.size ≤ (v1.setCell ⟨B10, 0, none⟩ (.int .i64 (stp (toN sizes) (toN other) v : Nat))).heap.size := (KeepsOthers.setCell v1 _ _).size
            replace l9 := Nat.lt_of_lt_of_le l9 lz
            replace l10 := Nat.lt_of_lt_of_le l10 lz
            replace hm2 := Nat.le_trans hm2 lz
            refine hK'.out _ _ ⟨hB, cv⟩ (fun _ => wpAnyH_done (by kernel_rfl) ?_ _)
            clear hK' K' hSd e9 e10 c10 f10 lz
            generalize (v1.setCell ⟨B10, 0, none⟩ (.int .i64 (stp (toN sizes) (toN other) v : Nat))) = v2 at *
            go_wp2
            go_ret
            exact ⟨_, rfl, ⟨B9, B10, _, rfl, w9, w10, l9, l10, Nat.le_refl _, x9.cell, x10.cell, hF.wider hn0 hm2 (Nat.le_refl _)⟩, hB⟩
  · intro K' hK'
    (try simp only [List.getElem_toArray, List.getElem_cons_zero, List.getElem_cons_succ])
    go_simp
    have hb : Below u0.heap.size u0 (u0.alloc (.cells #[.nilFunc] 73)) := (Below.refl _ u0).alloc (Nat.le_refl _) _
    have h9 : Boxed (u0.alloc (.cells #[.nilFunc] 73)) u0.heap.size 73 (.nilFunc) := Boxed.new u0 _ _
    have l9 : u0.heap.size < (u0.alloc (.cells #[.nilFunc] 73)).heap.size := by simp
    have w9 := hB.size
    replace hB := hB.trans (hb.mono hB.size)
    refine hK'.out _ _ hB (fun hSd => ?_)
    clear hK' K' hb
    generalize (u0.alloc (.cells #[.nilFunc] 73)) = u1 at *
    generalize u0.heap.size = B9 at *
    (try simp only [List.getElem_toArray, List.getElem_cons_zero, List.getElem_cons_succ])
    (try simp only [Act.put, List.setIfInBounds_toArray, List.set_cons_zero, List.set_cons_succ])
    refine wpAnyH_ready (rs := [3, 11]) (by kernel_rfl) (by simp) (AllReadyH.cons rfl ?_ (AllReadyH.cons rfl ?_ (AllReadyH.nil)))
    · intro K' hK'
      (try simp only [List.getElem_toArray, List.getElem_cons_zero, List.getElem_cons_succ])
      go_simp
      refine (HB.out _ (HS.out.below hB) (HO.out.below hB)).mono ?_
      rintro e u2 ⟨f, rfl, hF, hb⟩
      obtain ⟨lb, rfl⟩ := hF.shape
      have hn1 := hB.size
      replace hB := hB.trans (hb.mono hB.size)
      refine hK'.out _ _ hB (fun hSe => ?_)
      clear hK' K' hSd
      have hSd := hSe
      clear hSe
      replace h9 := boxed_keep h9 hb
      have r9 : B9 < u1.heap.size ∨ u2.heap.size ≤ B9 := .inl l9
      replace l9 := Nat.lt_of_lt_of_le l9 hb.size
      have hn0 : w.heap.size ≤ u1.heap.size := hn1
      have hFt := hF.top
      generalize u1.heap.size = n1 at hF hn1 hn0 r9 ⊢
      generalize hm1 : u2.heap.size = m1 at hF hFt r9
      rw [← hm1] at hFt
      have hm2 : m1 ≤ u2.heap.size := by omega
      clear hb hm1
      (try simp only [List.getElem_toArray, List.getElem_cons_zero, List.getElem_cons_succ])
      (try simp only [Act.put, List.setIfInBounds_toArray, List.set_cons_zero, List.set_cons_succ])
      refine wpAnyH_ready (rs := [6, 11]) (by kernel_rfl) (by simp) (AllReadyH.cons rfl ?_ (AllReadyH.cons rfl ?_ (AllReadyH.nil)))
      · intro K' hK'
        (try simp only [List.getElem_toArray, List.getElem_cons_zero, List.getElem_cons_succ])
        go_simp
        refine (HA.out _ (HS.out.below hB) (HO.out.below hB)).mono ?_
        rintro e u3 ⟨g, ct, rfl, hg1, hi, hb⟩
        replace hB := hB.trans (hb.mono hB.size)
        replace hF := hF.below hb
        replace hm2 := Nat.le_trans hm2 hb.size
        refine hK'.out _ _ hB (fun hSe => ?_)
        clear hK' K' hSd
        have hSd := hSe
        clear hSe
        obtain ⟨g3, o3, e3, hgl, cv⟩ := hi v (by rw [iL_length, stpL_length]; exact hvs)
        cases e3
        rw [iL_stpL hvs, Nat.zero_add] at cv
        replace h9 := boxed_keep h9 hb
        have g9 : ¬ B9 = g := by omega
        replace l9 := Nat.lt_of_lt_of_le l9 hb.size
        clear hb hi hg1 hSd
        (try simp only [List.getElem_toArray, List.getElem_cons_zero, List.getElem_cons_succ])
        (try simp only [Act.put, List.setIfInBounds_toArray, List.set_cons_zero, List.set_cons_succ])
        refine wpAnyH_weaken (S' := fun u => Hid (Below w.heap.size w u) ∧ u.cell? ⟨g, v, none⟩ = some (.int .i64 (stp (toN sizes) (toN other) v : Nat))) (fun _ h => h.1) _ _ _ _ ?_
        have hSd : Hid (Below w.heap.size w u3) ∧ u3.cell? ⟨g, v, none⟩ = some (.int .i64 (stp (toN sizes) (toN other) v : Nat)) := ⟨hB, cv⟩
        refine wpAnyH_take (i := 8) (oi := _) (v := .pointer (some ⟨g, v, none⟩)) rfl (by kernel_rfl) (by kernel_rfl) (by kernel_rfl) (fun _ _ _ h => h) (Or.inl ⟨by rfl, ?_⟩) (by assumption) ?_
        · intro u' hSu
          (try simp only [List.getElem_toArray, List.getElem_cons_zero, List.getElem_cons_succ])
          go_simp
        (try simp only [List.getElem_toArray, List.getElem_cons_zero, List.getElem_cons_succ])
        (try simp only [Act.put, List.setIfInBounds_toArray, List.set_cons_zero, List.set_cons_succ])
        refine wpAnyH_take (i := 9) (oi := _) (v := .int .i64 (stp (toN sizes) (toN other) v : Nat)) rfl (by kernel_rfl) (by kernel_rfl) (by kernel_rfl) (fun _ _ _ h => h) (Or.inl ⟨by rfl, ?_⟩) (by assumption) ?_
        · intro u' hSu
          (try simp only [List.getElem_toArray, List.getElem_cons_zero, List.getElem_cons_succ])
          obtain ⟨s1, s2⟩ := hSu
          go_simp
        (try simp only [List.getElem_toArray, List.getElem_cons_zero, List.getElem_cons_succ])
        (try simp only [Act.put, List.setIfInBounds_toArray, List.set_cons_zero, List.set_cons_succ])
        refine wpAnyH_ready (rs := [11]) (by kernel_rfl) (by simp) (AllReadyH.cons rfl ?_ (AllReadyH.nil))
        · intro K' hK'
          (try simp only [List.getElem_toArray, List.getElem_cons_zero, List.getElem_cons_succ])
          go_simp
          have hb : Below u3.heap.size u3 (u3.alloc (.cells #[.int .i64 0] 3)) := (Below.refl _ u3).alloc (Nat.le_refl _) _
          have h10 : Boxed (u3.alloc (.cells #[.int .i64 0] 3)) u3.heap.size 3 (.int .i64 0) := Boxed.new u3 _ _
          have l10 : u3.heap.size < (u3.alloc (.cells #[.int .i64 0] 3)).heap.size := by simp
          have w10 := hB.size
          replace hB := hB.trans (hb.mono hB.size)
          replace h9 := boxed_keep h9 hb
          have ne : ¬ B9 = u3.heap.size := by omega
          replace l9 := Nat.lt_of_lt_of_le l9 hb.size
          replace hF := hF.below hb
          have r10 : u3.heap.size < n1 ∨ m1 ≤ u3.heap.size := .inr hm2
          replace hm2 := Nat.le_trans hm2 hb.size
          have g10 : ¬ u3.heap.size = g := by omega
          replace cv := (hb.cell (p := ⟨g, v, none⟩) hgl).trans cv
          replace hgl := Nat.lt_of_lt_of_le hgl hb.size
          refine hK'.out _ _ ⟨hB, cv⟩ (fun hSd => ?_)
          clear hK' K' hb
          generalize (u3.alloc (.cells #[.int .i64 0] 3)) = u4 at *
          generalize u3.heap.size = B10 at *
          (try simp only [List.getElem_toArray, List.getElem_cons_zero, List.getElem_cons_succ])
          (try simp only [Act.put, List.setIfInBounds_toArray, List.set_cons_zero, List.set_cons_succ])
          refine wpAnyH_ready (rs := [12]) (by kernel_rfl) (by simp) (AllReadyH.cons rfl ?_ (AllReadyH.nil))
          · have c9 := h9.cell
            have f9 := h9.frozen
            intro K' hK'
            (try simp only [List.getElem_toArray, List.getElem_cons_zero, List.getElem_cons_succ])
            go_simp
            have e9 : Boxed (u4.setCell ⟨B9, 0, none⟩ (.func (.func 103) #[] lb)) B9 73 (.func (.func 103) #[] lb) := h9.set _
            have e10 : Boxed (u4.setCell ⟨B9, 0, none⟩ (.func (.func 103) #[] lb)) B10 3 (.int .i64 0) := boxed_off h10 B9 0 _ (by omega)
            replace hF := hF.kept (KeepsIn.set u4 0 (.func (.func 103) #[] lb) hm2 r9)
            replace hB := below_s hB B9 0 (.func (.func 103) #[] lb) w9
            replace cv : (u4.setCell ⟨B9, 0, none⟩ (.func (.func 103) #[] lb)).cell? ⟨g, v, none⟩ = _ := (World.cell?_setCell_other _ _ _ _ (fun e => g9 (congrArg Addr.block e))).trans cv
            have lz : u4.heap.size ≤ (u4.setCell ⟨B9, 0, none⟩ (.func (.func 103) #[] lb)).heap.size := (KeepsOthers.setCell u4 _ _).size
            replace l9 := Nat.lt_of_lt_of_le l9 lz
            replace l10 := Nat.lt_of_lt_of_le l10 lz
            replace hm2 := Nat.le_trans hm2 lz
            refine hK'.out _ _ ⟨hB, cv⟩ (fun hSe => ?_)
            clear hK' K' hSd h9 h10 c9 f9 lz
            have hSd := hSe
            clear hSe
            generalize (u4.setCell ⟨B9, 0, none⟩ (.func (.func 103) #[] lb)) = v1 at *
            (try simp only [List.getElem_toArray, List.getElem_cons_zero, List.getElem_cons_succ])
            (try simp only [Act.put, List.setIfInBounds_toArray, List.set_cons_zero, List.set_cons_succ])
            have c10 := e10.cell
            have f10 := e10.frozen
            refine wpAnyH_ready (rs := [13]) (by kernel_rfl) (by simp) (AllReadyH.cons rfl ?_ AllReadyH.nil)
            intro K' hK'
            (try simp only [List.getElem_toArray, List.getElem_cons_zero, List.getElem_cons_succ])
            go_simp
            have x9 : Boxed (v1.setCell ⟨B10, 0, none⟩ (.int .i64 (stp (toN sizes) (toN other) v : Nat))) B9 73 (.func (.func 103) #[] lb) := boxed_off e9 B10 0 _ (by omega)
            have x10 := e10.set (.int .i64 (stp (toN sizes) (toN other) v : Nat))
            replace hF := hF.kept (KeepsIn.set v1 0 (.int .i64 (stp (toN sizes) (toN other) v : Nat)) hm2 r10)
            replace hB := below_s hB B10 0 (.int .i64 (stp (toN sizes) (toN other) v : Nat)) w10
            replace cv : (v1.setCell ⟨B10, 0, none⟩ (.int .i64 (stp (toN sizes) (toN other) v : Nat))).cell? ⟨g, v, none⟩ = _ := (World.cell?_setCell_other _ _ _ _ (fun e => g10 (congrArg Addr.block e))).trans cv
            have lz : v1.heap.size ≤ (v1.setCell ⟨B10, 0, none⟩ (.int .i64 (stp (toN sizes) (toN other) v : Nat))).heap.size := (KeepsOthers.setCell v1 _ _).size
            replace l9 := Nat.lt_of_lt_of_le l9 lz
            replace l10 := Nat.lt_of_lt_of_le l10 lz
            replace hm2 := Nat.le_trans hm2 lz
            refine hK'.out _ _ ⟨hB, cv⟩ (fun _ => wpAnyH_done (by kernel_rfl) ?_ _)
            clear hK' K' hSd e9 e10 c10 f10 lz
            generalize (v1.setCell ⟨B10, 0, none⟩ (.int .i64 (stp (toN sizes) (toN other) v : Nat))) = v2 at *
            go_wp2
            go_ret
            exact ⟨_, rfl, ⟨B9, B10, _, rfl, w9, w10, l9, l10, Nat.le_refl _, x9.cell, x10.cell, hF.wider hn0 hm2 (Nat.le_refl _)⟩, hB⟩
      · intro K' hK'
        (try simp only [List.getElem_toArray, List.getElem_cons_zero, List.getElem_cons_succ])
        go_simp
        have hb : Below u2.heap.size u2 (u2.alloc (.cells #[.int .i64 0] 3)) := (Below.refl _ u2).alloc (Nat.le_refl _) _
        have h10 : Boxed (u2.alloc (.cells #[.int .i64 0] 3)) u2.heap.size 3 (.int .i64 0) := Boxed.new u2 _ _
        have l10 : u2.heap.size < (u2.alloc (.cells #[.int .i64 0] 3)).heap.size := by simp
        have w10 := hB.size
        replace hB := hB.trans (hb.mono hB.size)
        replace h9 := boxed_keep h9 hb
        have ne : ¬ B9 = u2.heap.size := by omega
        replace l9 := Nat.lt_of_lt_of_le l9 hb.size
        replace hF := hF.below hb
        have r10 : u2.heap.size < n1 ∨ m1 ≤ u2.heap.size := .inr hm2
        replace hm2 := Nat.le_trans hm2 hb.size
        refine hK'.out _ _ hB (fun hSd => ?_)
        clear hK' K' hb
        generalize (u2.alloc (.cells #[.int .i64 0] 3)) = u3 at *
        generalize u2.heap.size = B10 at *
        (try simp only [List.getElem_toArray, List.getElem_cons_zero, List.getElem_cons_succ])
        (try simp only [Act.put, List.setIfInBounds_toArray, List.set_cons_zero, List.set_cons_succ])
        refine wpAnyH_ready (rs := [6]) (by kernel_rfl) (by simp) (AllReadyH.cons rfl ?_ (AllReadyH.nil))
        · intro K' hK'
          (try simp only [List.getElem_toArray, List.getElem_cons_zero, List.getElem_cons_succ])
          go_simp
          refine (HA.out _ (HS.out.below hB) (HO.out.below hB)).mono ?_
          rintro e u4 ⟨g, ct, rfl, hg1, hi, hb⟩
          replace hB := hB.trans (hb.mono hB.size)
          replace hF := hF.below hb
          replace hm2 := Nat.le_trans hm2 hb.size
          refine hK'.out _ _ hB (fun hSe => ?_)
          clear hK' K' hSd
          have hSd := hSe
          clear hSe
          obtain ⟨g3, o3, e3, hgl, cv⟩ := hi v (by rw [iL_length, stpL_length]; exact hvs)
          cases e3
          rw [iL_stpL hvs, Nat.zero_add] at cv
          replace h9 := boxed_keep h9 hb
          have g9 : ¬ B9 = g := by omega
          replace l9 := Nat.lt_of_lt_of_le l9 hb.size
          replace h10 := boxed_keep h10 hb
          have g10 : ¬ B10 = g := by omega
          replace l10 := Nat.lt_of_lt_of_le l10 hb.size
          clear hb hi hg1 hSd
          (try simp only [List.getElem_toArray, List.getElem_cons_zero, List.getElem_cons_succ])
          (try simp only [Act.put, List.setIfInBounds_toArray, List.set_cons_zero, List.set_cons_succ])
          refine wpAnyH_weaken (S' := fun u => Hid (Below w.heap.size w u) ∧ u.cell? ⟨g, v, none⟩ = some (.int .i64 (stp (toN sizes) (toN other) v : Nat))) (fun _ h => h.1) _ _ _ _ ?_
          have hSd : Hid (Below w.heap.size w u4) ∧ u4.cell? ⟨g, v, none⟩ = some (.int .i64 (stp (toN sizes) (toN other) v : Nat)) := ⟨hB, cv⟩
          refine wpAnyH_take (i := 8) (oi := _) (v := .pointer (some ⟨g, v, none⟩)) rfl (by kernel_rfl) (by kernel_rfl) (by kernel_rfl) (fun _ _ _ h => h) (Or.inl ⟨by rfl, ?_⟩) (by assumption) ?_
          · intro u' hSu
            (try simp only [List.getElem_toArray, List.getElem_cons_zero, List.getElem_cons_succ])
            go_simp
          (try simp only [List.getElem_toArray, List.getElem_cons_zero, List.getElem_cons_succ])
          (try simp only [Act.put, List.setIfInBounds_toArray, List.set_cons_zero, List.set_cons_succ])
          refine wpAnyH_take (i := 9) (oi := _) (v := .int .i64 (stp (toN sizes) (toN other) v : Nat)) rfl (by kernel_rfl) (by kernel_rfl) (by kernel_rfl) (fun _ _ _ h => h) (Or.inl ⟨by rfl, ?_⟩) (by assumption) ?_
          · intro u' hSu
            (try simp only [List.getElem_toArray, List.getElem_cons_zero, List.getElem_cons_succ])
            obtain ⟨s1, s2⟩ := hSu
            go_simp
          (try simp only [List.getElem_toArray, List.getElem_cons_zero, List.getElem_cons_succ])
          (try simp only [Act.put, List.setIfInBounds_toArray, List.set_cons_zero, List.set_cons_succ])
          refine wpAnyH_ready (rs := [12]) (by kernel_rfl) (by simp) (AllReadyH.cons rfl ?_ (AllReadyH.nil))
          · have c9 := h9.cell
            have f9 := h9.frozen
            intro K' hK'
            (try simp only [List.getElem_toArray, List.getElem_cons_zero, List.getElem_cons_succ])
            go_simp
            have e9 : Boxed (u4.setCell ⟨B9, 0, none⟩ (.func (.func 103) #[] lb)) B9 73 (.func (.func 103) #[] lb) := h9.set _
            have e10 : Boxed (u4.setCell ⟨B9, 0, none⟩ (.func (.func 103) #[] lb)) B10 3 (.int .i64 0) := boxed_off h10 B9 0 _ (by omega)
            replace hF := hF.kept (KeepsIn.set u4 0 (.func (.func 103) #[] lb) hm2 r9)
            replace hB := below_s hB B9 0 (.func (.func 103) #[] lb) w9
            replace cv : (u4.setCell ⟨B9, 0, none⟩ (.func (.func 103) #[] lb)).cell? ⟨g, v, none⟩ = _ := (World.cell?_setCell_other _ _ _ _ (fun e => g9 (congrArg Addr.block e))).trans cv
            have lz : u4.heap.size ≤ (u4.setCell ⟨B9, 0, none⟩ (.func (.func 103) #[] lb)).heap.size := (KeepsOthers.setCell u4 _ _).size
            replace l9 := Nat.lt_of_lt_of_le l9 lz
            replace l10 := Nat.lt_of_lt_of_le l10 lz
            replace hm2 := Nat.le_trans hm2 lz
            refine hK'.out _ _ ⟨hB, cv⟩ (fun hSe => ?_)
            clear hK' K' hSd h9 h10 c9 f9 lz
            have hSd := hSe
            clear hSe
            generalize (u4.setCell ⟨B9, 0, none⟩ (.func (.func 103) #[] lb)) = v1 at *
            (try simp only [List.getElem_toArray, List.getElem_cons_zero, List.getElem_cons_succ])
            (try simp only [Act.put, List.setIfInBounds_toArray, List.set_cons_zero, List.set_cons_succ])
            have c10 := e10.cell
            have f10 := e10.frozen
            refine wpAnyH_ready (rs := [13]) (by kernel_rfl) (by simp) (AllReadyH.cons rfl ?_ AllReadyH.nil)
            intro K' hK'
            (try simp only [List.getElem_toArray, List.getElem_cons_zero, List.getElem_cons_succ])
            go_simp
            have x9 : Boxed (v1.setCell ⟨B10, 0, none⟩ (.int .i64 (stp (toN sizes) (toN other) v : Nat))) B9 73 (.func (.func 103) #[] lb) := boxed_off e9 B10 0 _ (by omega)
            have x10 := e10.set (.int .i64 (stp (toN sizes) (toN other) v : Nat))
            replace hF := hF.kept (KeepsIn.set v1 0 (.int .i64 (stp (toN sizes) (toN other) v : Nat)) hm2 r10)
            replace hB := below_s hB B10 0 (.int .i64 (stp (toN sizes) (toN other) v : Nat)) w10
            replace cv : (v1.setCell ⟨B10, 0, none⟩ (.int .i64 (stp (toN sizes) (toN other) v : Nat))).cell? ⟨g, v, none⟩ = _ := (World.cell?_setCell_other _ _ _ _ (fun e => g10 (congrArg Addr.block e))).trans cv
            have lz : v1.heap.size ≤ (v1.setCell ⟨B10, 0, none⟩ (.int .i64 (stp (toN sizes) (toN other) v : Nat))).heap.size := (KeepsOthers.setCell v1 _ _).size
            replace l9 := Nat.lt_of_lt_of_le l9 lz
            replace l10 := Nat.lt_of_lt_of_le l10 lz
            replace hm2 := Nat.le_trans hm2 lz
            refine hK'.out _ _ ⟨hB, cv⟩ (fun _ => wpAnyH_done (by kernel_rfl) ?_ _)
            clear hK' K' hSd e9 e10 c10 f10 lz
            generalize (v1.setCell ⟨B10, 0, none⟩ (.int .i64 (stp (toN sizes) (toN other) v : Nat))) = v2 at *
            go_wp2
            go_ret
            exact ⟨_, rfl, ⟨B9, B10, _, rfl, w9, w10, l9, l10, Nat.le_refl _, x9.cell, x10.cell, hF.wider hn0 hm2 (Nat.le_refl _)⟩, hB⟩
    · intro K' hK'
      (try simp only [List.getElem_toArray, List.getElem_cons_zero, List.getElem_cons_succ])
      go_simp
      have hb : Below u1.heap.size u1 (u1.alloc (.cells #[.int .i64 0] 3)) := (Below.refl _ u1).alloc (Nat.le_refl _) _
      have h10 : Boxed (u1.alloc (.cells #[.int .i64 0] 3)) u1.heap.size 3 (.int .i64 0) := Boxed.new u1 _ _
      have l10 : u1.heap.size < (u1.alloc (.cells #[.int .i64 0] 3)).heap.size := by simp
      have w10 := hB.size
      replace hB := hB.trans (hb.mono hB.size)
      replace h9 := boxed_keep h9 hb
      have ne : ¬ B9 = u1.heap.size := by omega
      replace l9 := Nat.lt_of_lt_of_le l9 hb.size
      refine hK'.out _ _ hB (fun hSd => ?_)
      clear hK' K' hb
      generalize (u1.alloc (.cells #[.int .i64 0] 3)) = u2 at *
      generalize u1.heap.size = B10 at *
      (try simp only [List.getElem_toArray, List.getElem_cons_zero, List.getElem_cons_succ])
      (try simp only [Act.put, List.setIfInBounds_toArray, List.set_cons_zero, List.set_cons_succ])
      refine wpAnyH_ready (rs := [3]) (by kernel_rfl) (by simp) (AllReadyH.cons rfl ?_ (AllReadyH.nil))
      · intro K' hK'
        (try simp only [List.getElem_toArray, List.getElem_cons_zero, List.getElem_cons_succ])
        go_simp
        refine (HB.out _ (HS.out.below hB) (HO.out.below hB)).mono ?_
        rintro e u3 ⟨f, rfl, hF, hb⟩
        obtain ⟨lb, rfl⟩ := hF.shape
        have hn1 := hB.size
        replace hB := hB.trans (hb.mono hB.size)
        refine hK'.out _ _ hB (fun hSe => ?_)
        clear hK' K' hSd
        have hSd := hSe
        clear hSe
        replace h9 := boxed_keep h9 hb
        have r9 : B9 < u2.heap.size ∨ u3.heap.size ≤ B9 := .inl l9
        replace l9 := Nat.lt_of_lt_of_le l9 hb.size
        replace h10 := boxed_keep h10 hb
        have r10 : B10 < u2.heap.size ∨ u3.heap.size ≤ B10 := .inl l10
        replace l10 := Nat.lt_of_lt_of_le l10 hb.size
        have hn0 : w.heap.size ≤ u2.heap.size := hn1
        have hFt := hF.top
        generalize u2.heap.size = n1 at hF hn1 hn0 r9 r10 ⊢
        generalize hm1 : u3.heap.size = m1 at hF hFt r9 r10
        rw [← hm1] at hFt
        have hm2 : m1 ≤ u3.heap.size := by omega
        clear hb hm1
        (try simp only [List.getElem_toArray, List.getElem_cons_zero, List.getElem_cons_succ])
        (try simp only [Act.put, List.setIfInBounds_toArray, List.set_cons_zero, List.set_cons_succ])
        refine wpAnyH_ready (rs := [6]) (by kernel_rfl) (by simp) (AllReadyH.cons rfl ?_ (AllReadyH.nil))
        · intro K' hK'
          (try simp only [List.getElem_toArray, List.getElem_cons_zero, List.getElem_cons_succ])
          go_simp
          refine (HA.out _ (HS.out.below hB) (HO.out.below hB)).mono ?_
          rintro e u4 ⟨g, ct, rfl, hg1, hi, hb⟩
          replace hB := hB.trans (hb.mono hB.size)
          replace hF := hF.below hb
          replace hm2 := Nat.le_trans hm2 hb.size
          refine hK'.out _ _ hB (fun hSe => ?_)
          clear hK' K' hSd
          have hSd := hSe
          clear hSe
          obtain ⟨g3, o3, e3, hgl, cv⟩ := hi v (by rw [iL_length, stpL_length]; exact hvs)
          cases e3
          rw [iL_stpL hvs, Nat.zero_add] at cv
          replace h9 := boxed_keep h9 hb
          have g9 : ¬ B9 = g := by omega
          replace l9 := Nat.lt_of_lt_of_le l9 hb.size
          replace h10 := boxed_keep h10 hb
          have g10 : ¬ B10 = g := by omega
          replace l10 := Nat.lt_of_lt_of_le l10 hb.size
          clear hb hi hg1 hSd
          (try simp only [List.getElem_toArray, List.getElem_cons_zero, List.getElem_cons_succ])
          (try simp only [Act.put, List.setIfInBounds_toArray, List.set_cons_zero, List.set_cons_succ])
          refine wpAnyH_weaken (S' := fun u => Hid (Below w.heap.size w u) ∧ u.cell? ⟨g, v, none⟩ = some (.int .i64 (stp (toN sizes) (toN other) v : Nat))) (fun _ h => h.1) _ _ _ _ ?_
          have hSd : Hid (Below w.heap.size w u4) ∧ u4.cell? ⟨g, v, none⟩ = some (.int .i64 (stp (toN sizes) (toN other) v : Nat)) := ⟨hB, cv⟩
          refine wpAnyH_take (i := 8) (oi := _) (v := .pointer (some ⟨g, v, none⟩)) rfl (by kernel_rfl) (by kernel_rfl) (by kernel_rfl) (fun _ _ _ h => h) (Or.inl ⟨by rfl, ?_⟩) (by assumption) ?_
          · intro u' hSu
            (try simp only [List.getElem_toArray, List.getElem_cons_zero, List.getElem_cons_succ])
            go_simp
          (try simp only [List.getElem_toArray, List.getElem_cons_zero, List.getElem_cons_succ])
          (try simp only [Act.put, List.setIfInBounds_toArray, List.set_cons_zero, List.set_cons_succ])
          refine wpAnyH_take (i := 9) (oi := _) (v := .int .i64 (stp (toN sizes) (toN other) v : Nat)) rfl (by kernel_rfl) (by kernel_rfl) (by kernel_rfl) (fun _ _ _ h => h) (Or.inl ⟨by rfl, ?_⟩) (by assumption) ?_
          · intro u' hSu
            (try simp only [List.getElem_toArray, List.getElem_cons_zero, List.getElem_cons_succ])
            obtain ⟨s1, s2⟩ := hSu
            go_simp
          (try simp only [List.getElem_toArray, List.getElem_cons_zero, List.getElem_cons_succ])
          (try simp only [Act.put, List.setIfInBounds_toArray, List.set_cons_zero, List.set_cons_succ])
          refine wpAnyH_ready (rs := [12]) (by kernel_rfl) (by simp) (AllReadyH.cons rfl ?_ (AllReadyH.nil))
          · have c9 := h9.cell
            have f9 := h9.frozen
            intro K' hK'
            (try simp only [List.getElem_toArray, List.getElem_cons_zero, List.getElem_cons_succ])
            go_simp
            have e9 : Boxed (u4.setCell ⟨B9, 0, none⟩ (.func (.func 103) #[] lb)) B9 73 (.func (.func 103) #[] lb) := h9.set _
            have e10 : Boxed (u4.setCell ⟨B9, 0, none⟩ (.func (.func 103) #[] lb)) B10 3 (.int .i64 0) := boxed_off h10 B9 0 _ (by omega)
            replace hF := hF.kept (KeepsIn.set u4 0 (.func (.func 103) #[] lb) hm2 r9)
            replace hB := below_s hB B9 0 (.func (.func 103) #[] lb) w9
            replace cv : (u4.setCell ⟨B9, 0, none⟩ (.func (.func 103) #[] lb)).cell? ⟨g, v, none⟩ = _ := (World.cell?_setCell_other _ _ _ _ (fun e => g9 (congrArg Addr.block e))).trans cv
            have lz : u4.heap.size ≤ (u4.setCell ⟨B9, 0, none⟩ (.func (.func 103) #[] lb)).heap.size := (KeepsOthers.setCell u4 _ _).size
            replace l9 := Nat.lt_of_lt_of_le l9 lz
            replace l10 := Nat.lt_of_lt_of_le l10 lz
            replace hm2 := Nat.le_trans hm2 lz
            refine hK'.out _ _ ⟨hB, cv⟩ (fun hSe => ?_)
            clear hK' K' hSd h9 h10 c9 f9 lz
            have hSd := hSe
            clear hSe
            generalize (u4.setCell ⟨B9, 0, none⟩ (.func (.func 103) #[] lb)) = v1 at *
            (try simp only [List.getElem_toArray, List.getElem_cons_zero, List.getElem_cons_succ])
            (try simp only [Act.put, List.setIfInBounds_toArray, List.set_cons_zero, List.set_cons_succ])
            have c10 := e10.cell
            have f10 := e10.frozen
            refine wpAnyH_ready (rs := [13]) (by kernel_rfl) (by simp) (AllReadyH.cons rfl ?_ AllReadyH.nil)
            intro K' hK'
            (try simp only [List.getElem_toArray, List.getElem_cons_zero, List.getElem_cons_succ])
            go_simp
            have x9 : Boxed (v1.setCell ⟨B10, 0, none⟩ (.int .i64 (stp (toN sizes) (toN other) v : Nat))) B9 73 (.func (.func 103) #[] lb) := boxed_off e9 B10 0 _ (by omega)
            have x10 := e10.set (.int .i64 (stp (toN sizes) (toN other) v : Nat))
            replace hF := hF.kept (KeepsIn.set v1 0 (.int .i64 (stp (toN sizes) (toN other) v : Nat)) hm2 r10)
            replace hB := below_s hB B10 0 (.int .i64 (stp (toN sizes) (toN other) v : Nat)) w10
            replace cv : (v1.setCell ⟨B10, 0, none⟩ (.int .i64 (stp (toN sizes) (toN other) v : Nat))).cell? ⟨g, v, none⟩ = _ := (World.cell?_setCell_other _ _ _ _ (fun e => g10 (congrArg Addr.block e))).trans cv
            have lz : v1.heap.size ≤ (v1.setCell ⟨B10, 0, none⟩ (.int .i64 (stp (toN sizes) (toN other) v : Nat))).heap.size := (KeepsOthers.setCell v1 _ _).size
            replace l9 := Nat.lt_of_lt_of_le l9 lz
            replace l10 := Nat.lt_of_lt_of_le l10 lz
            replace hm2 := Nat.le_trans hm2 lz
            refine hK'.out _ _ ⟨hB, cv⟩ (fun _ => wpAnyH_done (by kernel_rfl) ?_ _)
            clear hK' K' hSd e9 e10 c10 f10 lz
            generalize (v1.setCell ⟨B10, 0, none⟩ (.int .i64 (stp (toN sizes) (toN other) v : Nat))) = v2 at *
            go_wp2
            go_ret
            exact ⟨_, rfl, ⟨B9, B10, _, rfl, w9, w10, l9, l10, Nat.le_refl _, x9.cell, x10.cell, hF.wider hn0 hm2 (Nat.le_refl _)⟩, hB⟩
  · intro K' hK'
    (try simp only [List.getElem_toArray, List.getElem_cons_zero, List.getElem_cons_succ])
    go_simp
    have hb : Below u0.heap.size u0 (u0.alloc (.cells #[.int .i64 0] 3)) := (Below.refl _ u0).alloc (Nat.le_refl _) _
    have h10 : Boxed (u0.alloc (.cells #[.int .i64 0] 3)) u0.heap.size 3 (.int .i64 0) := Boxed.new u0 _ _
    have l10 : u0.heap.size < (u0.alloc (.cells #[.int .i64 0] 3)).heap.size := by simp
    have w10 := hB.size
    replace hB := hB.trans (hb.mono hB.size)
    refine hK'.out _ _ hB (fun hSd => ?_)
    clear hK' K' hb
    generalize (u0.alloc (.cells #[.int .i64 0] 3)) = u1 at *
    generalize u0.heap.size = B10 at *
    (try simp only [List.getElem_toArray, List.getElem_cons_zero, List.getElem_cons_succ])
    (try simp only [Act.put, List.setIfInBounds_toArray, List.set_cons_zero, List.set_cons_succ])
    refine wpAnyH_ready (rs := [3, 10]) (by kernel_rfl) (by simp) (AllReadyH.cons rfl ?_ (AllReadyH.cons rfl ?_ (AllReadyH.nil)))
    · intro K' hK'
      (try simp only [List.getElem_toArray, List.getElem_cons_zero, List.getElem_cons_succ])
      go_simp
      refine (HB.out _ (HS.out.below hB) (HO.out.below hB)).mono ?_
      rintro e u2 ⟨f, rfl, hF, hb⟩
      obtain ⟨lb, rfl⟩ := hF.shape
      have hn1 := hB.size
      replace hB := hB.trans (hb.mono hB.size)
      refine hK'.out _ _ hB (fun hSe => ?_)
      clear hK' K' hSd
      have hSd := hSe
      clear hSe
      replace h10 := boxed_keep h10 hb
      have r10 : B10 < u1.heap.size ∨ u2.heap.size ≤ B10 := .inl l10
      replace l10 := Nat.lt_of_lt_of_le l10 hb.size
      have hn0 : w.heap.size ≤ u1.heap.size := hn1
      have hFt := hF.top
      generalize u1.heap.size = n1 at hF hn1 hn0 r10 ⊢
      generalize hm1 : u2.heap.size = m1 at hF hFt r10
      rw [← hm1] at hFt
      have hm2 : m1 ≤ u2.heap.size := by omega
      clear hb hm1
      (try simp only [List.getElem_toArray, List.getElem_cons_zero, List.getElem_cons_succ])
      (try simp only [Act.put, List.setIfInBounds_toArray, List.set_cons_zero, List.set_cons_succ])
      refine wpAnyH_ready (rs := [6, 10]) (by kernel_rfl) (by simp) (AllReadyH.cons rfl ?_ (AllReadyH.cons rfl ?_ (AllReadyH.nil)))
      · intro K' hK'
        (try simp only [List.getElem_toArray, List.getElem_cons_zero, List.getElem_cons_succ])
        go_simp
        refine (HA.out _ (HS.out.below hB) (HO.out.below hB)).mono ?_
        rintro e u3 ⟨g, ct, rfl, hg1, hi, hb⟩
        replace hB := hB.trans (hb.mono hB.size)
        replace hF := hF.below hb
        replace hm2 := Nat.le_trans hm2 hb.size
        refine hK'.out _ _ hB (fun hSe => ?_)
        clear hK' K' hSd
        have hSd := hSe
        clear hSe
        obtain ⟨g3, o3, e3, hgl, cv⟩ := hi v (by rw [iL_length, stpL_length]; exact hvs)
        cases e3
        rw [iL_stpL hvs, Nat.zero_add] at cv
        replace h10 := boxed_keep h10 hb
        have g10 : ¬ B10 = g := by omega
        replace l10 := Nat.lt_of_lt_of_le l10 hb.size
        clear hb hi hg1 hSd
        (try simp only [List.getElem_toArray, List.getElem_cons_zero, List.getElem_cons_succ])
        (try simp only [Act.put, List.setIfInBounds_toArray, List.set_cons_zero, List.set_cons_succ])
        refine wpAnyH_weaken (S' := fun u => Hid (Below w.heap.size w u) ∧ u.cell? ⟨g, v, none⟩ = some (.int .i64 (stp (toN sizes) (toN other) v : Nat))) (fun _ h => h.1) _ _ _ _ ?_
        have hSd : Hid (Below w.heap.size w u3) ∧ u3.cell? ⟨g, v, none⟩ = some (.int .i64 (stp (toN sizes) (toN other) v : Nat)) := ⟨hB, cv⟩
        refine wpAnyH_take (i := 8) (oi := _) (v := .pointer (some ⟨g, v, none⟩)) rfl (by kernel_rfl) (by kernel_rfl) (by kernel_rfl) (fun _ _ _ h => h) (Or.inl ⟨by rfl, ?_⟩) (by assumption) ?_
        · intro u' hSu
          (try simp only [List.getElem_toArray, List.getElem_cons_zero, List.getElem_cons_succ])
          go_simp
        (try simp only [List.getElem_toArray, List.getElem_cons_zero, List.getElem_cons_succ])
        (try simp only [Act.put, List.setIfInBounds_toArray, List.set_cons_zero, List.set_cons_succ])
        refine wpAnyH_take (i := 9) (oi := _) (v := .int .i64 (stp (toN sizes) (toN other) v : Nat)) rfl (by kernel_rfl) (by kernel_rfl) (by kernel_rfl) (fun _ _ _ h => h) (Or.inl ⟨by rfl, ?_⟩) (by assumption) ?_
        · intro u' hSu
          (try simp only [List.getElem_toArray, List.getElem_cons_zero, List.getElem_cons_succ])
          obtain ⟨s1, s2⟩ := hSu
          go_simp
        (try simp only [List.getElem_toArray, List.getElem_cons_zero, List.getElem_cons_succ])
        (try simp only [Act.put, List.setIfInBounds_toArray, List.set_cons_zero, List.set_cons_succ])
        refine wpAnyH_ready (rs := [10]) (by kernel_rfl) (by simp) (AllReadyH.cons rfl ?_ (AllReadyH.nil))
        · intro K' hK'
          (try simp only [List.getElem_toArray, List.getElem_cons_zero, List.getElem_cons_succ])
          go_simp
          have hb : Below u3.heap.size u3 (u3.alloc (.cells #[.nilFunc] 73)) := (Below.refl _ u3).alloc (Nat.le_refl _) _
          have h9 : Boxed (u3.alloc (.cells #[.nilFunc] 73)) u3.heap.size 73 (.nilFunc) := Boxed.new u3 _ _
          have l9 : u3.heap.size < (u3.alloc (.cells #[.nilFunc] 73)).heap.size := by simp
          have w9 := hB.size
          replace hB := hB.trans (hb.mono hB.size)
          replace h10 := boxed_keep h10 hb
          have ne : ¬ B10 = u3.heap.size := by omega
          replace l10 := Nat.lt_of_lt_of_le l10 hb.size
          replace hF := hF.below hb
          have r9 : u3.heap.size < n1 ∨ m1 ≤ u3.heap.size := .inr hm2
          replace hm2 := Nat.le_trans hm2 hb.size
          have g9 : ¬ u3.heap.size = g := by omega
          replace cv := (hb.cell (p := ⟨g, v, none⟩) hgl).trans cv
          replace hgl := Nat.lt_of_lt_of_le hgl hb.size
          refine hK'.out _ _ ⟨hB, cv⟩ (fun hSd => ?_)
          clear hK' K' hb
          generalize (u3.alloc (.cells #[.nilFunc] 73)) = u4 at *
          generalize u3.heap.size = B9 at *
          (try simp only [List.getElem_toArray, List.getElem_cons_zero, List.getElem_cons_succ])
          (try simp only [Act.put, List.setIfInBounds_toArray, List.set_cons_zero, List.set_cons_succ])
          refine wpAnyH_ready (rs := [12]) (by kernel_rfl) (by simp) (AllReadyH.cons rfl ?_ (AllReadyH.nil))
          · have c9 := h9.cell
            have f9 := h9.frozen
            intro K' hK'
            (try simp only [List.getElem_toArray, List.getElem_cons_zero, List.getElem_cons_succ])
            go_simp
            have e9 : Boxed (u4.setCell ⟨B9, 0, none⟩ (.func (.func 103) #[] lb)) B9 73 (.func (.func 103) #[] lb) := h9.set _
            have e10 : Boxed (u4.setCell ⟨B9, 0, none⟩ (.func (.func 103) #[] lb)) B10 3 (.int .i64 0) := boxed_off h10 B9 0 _ (by omega)
            replace hF := hF.kept (KeepsIn.set u4 0 (.func (.func 103) #[] lb) hm2 r9)
            replace hB := below_s hB B9 0 (.func (.func 103) #[] lb) w9
            replace cv : (u4.setCell ⟨B9, 0, none⟩ (.func (.func 103) #[] lb)).cell? ⟨g, v, none⟩ = _ := (World.cell?_setCell_other _ _ _ _ (fun e => g9 (congrArg Addr.block e))).trans cv
            have lz : u4.heap.size ≤ (u4.setCell ⟨B9, 0, none⟩ (.func (.func 103) #[] lb)).heap.size := (KeepsOthers.setCell u4 _ _).size
            replace l9 := Nat.lt_of_lt_of_le l9 lz
            replace l10 := Nat.lt_of_lt_of_le l10 lz
            replace hm2 := Nat.le_trans hm2 lz
            refine hK'.out _ _ ⟨hB, cv⟩ (fun hSe => ?_)
            clear hK' K' hSd h9 h10 c9 f9 lz
            have hSd := hSe
            clear hSe
            generalize (u4.setCell ⟨B9, 0, none⟩ (.func (.func 103) #[] lb)) = v1 at *
            (try simp only [List.getElem_toArray, List.getElem_cons_zero, List.getElem_cons_succ])
            (try simp only [Act.put, List.setIfInBounds_toArray, List.set_cons_zero, List.set_cons_succ])
            have c10 := e10.cell
            have f10 := e10.frozen
            refine wpAnyH_ready (rs := [13]) (by kernel_rfl) (by simp) (AllReadyH.cons rfl ?_ AllReadyH.nil)
            intro K' hK'
            (try simp only [List.getElem_toArray, List.getElem_cons_zero, List.getElem_cons_succ])
            go_simp
            have x9 : Boxed (v1.setCell ⟨B10, 0, none⟩ (.int .i64 (stp (toN sizes) (toN other) v : Nat))) B9 73 (.func (.func 103) #[] lb) := boxed_off e9 B10 0 _ (by omega)
            have x10 := e10.set (.int .i64 (stp (toN sizes) (toN other) v : Nat))
            replace hF := hF.kept (KeepsIn.set v1 0 (.int .i64 (stp (toN sizes) (toN other) v : Nat)) hm2 r10)
            replace hB := below_s hB B10 0 (.int .i64 (stp (toN sizes) (toN other) v : Nat)) w10
            replace cv : (v1.setCell ⟨B10, 0, none⟩ (.int .i64 (stp (toN sizes) (toN other) v : Nat))).cell? ⟨g, v, none⟩ = _ := (World.cell?_setCell_other _ _ _ _ (fun e => g10 (congrArg Addr.block e))).trans cv
            have lz : v1.heap.size ≤ (v1.setCell ⟨B10, 0, none⟩ (.int .i64 (stp (toN sizes) (toN other) v : Nat))).heap.size := (KeepsOthers.setCell v1 _ _).size
            replace l9 := Nat.lt_of_lt_of_le l9 lz
            replace l10 := Nat.lt_of_lt_of_le l10 lz
            replace hm2 := Nat.le_trans hm2 lz
            refine hK'.out _ _ ⟨hB, cv⟩ (fun _ => wpAnyH_done (by kernel_rfl) ?_ _)
            clear hK' K' hSd e9 e10 c10 f10 lz
            generalize (v1.setCell ⟨B10, 0, none⟩ (.int .i64 (stp (toN sizes) (toN other) v : Nat))) = v2 at *
            go_wp2
            go_ret
            exact ⟨_, rfl, ⟨B9, B10, _, rfl, w9, w10, l9, l10, Nat.le_refl _, x9.cell, x10.cell, hF.wider hn0 hm2 (Nat.le_refl _)⟩, hB⟩
      · intro K' hK'
        (try simp only [List.getElem_toArray, List.getElem_cons_zero, List.getElem_cons_succ])
        go_simp
        have hb : Below u2.heap.size u2 (u2.alloc (.cells #[.nilFunc] 73)) := (Below.refl _ u2).alloc (Nat.le_refl _) _
        have h9 : Boxed (u2.alloc (.cells #[.nilFunc] 73)) u2.heap.size 73 (.nilFunc) := Boxed.new u2 _ _
        have l9 : u2.heap.size < (u2.alloc (.cells #[.nilFunc] 73)).heap.size := by simp
        have w9 := hB.size
        replace hB := hB.trans (hb.mono hB.size)
        replace h10 := boxed_keep h10 hb
        have ne : ¬ B10 = u2.heap.size := by omega
        replace l10 := Nat.lt_of_lt_of_le l10 hb.size
        replace hF := hF.below hb
        have r9 : u2.heap.size < n1 ∨ m1 ≤ u2.heap.size := .inr hm2
        replace hm2 := Nat.le_trans hm2 hb.size
        refine hK'.out _ _ hB (fun hSd => ?_)
        clear hK' K' hb
        generalize (u2.alloc (.cells #[.nilFunc] 73)) = u3 at *
        generalize u2.heap.size = B9 at *
        (try simp only [List.getElem_toArray, List.getElem_cons_zero, List.getElem_cons_succ])
        (try simp only [Act.put, List.setIfInBounds_toArray, List.set_cons_zero, List.set_cons_succ])
        refine wpAnyH_ready (rs := [6]) (by kernel_rfl) (by simp) (AllReadyH.cons rfl ?_ (AllReadyH.nil))
        · intro K' hK'
          (try simp only [List.getElem_toArray, List.getElem_cons_zero, List.getElem_cons_succ])
          go_simp
          refine (HA.out _ (HS.out.below hB) (HO.out.below hB)).mono ?_
          rintro e u4 ⟨g, ct, rfl, hg1, hi, hb⟩
          replace hB := hB.trans (hb.mono hB.size)
          replace hF := hF.below hb
          replace hm2 := Nat.le_trans hm2 hb.size
          refine hK'.out _ _ hB (fun hSe => ?_)
          clear hK' K' hSd
          have hSd := hSe
          clear hSe
          obtain ⟨g3, o3, e3, hgl, cv⟩ := hi v (by rw [iL_length, stpL_length]; exact hvs)
          cases e3
          rw [iL_stpL hvs, Nat.zero_add] at cv
          replace h9 := boxed_keep h9 hb
          have g9 : ¬ B9 = g := by omega
          replace l9 := Nat.lt_of_lt_of_le l9 hb.size
          replace h10 := boxed_keep h10 hb
          have g10 : ¬ B10 = g := by omega
          replace l10 := Nat.lt_of_lt_of_le l10 hb.size
          clear hb hi hg1 hSd
          (try simp only [List.getElem_toArray, List.getElem_cons_zero, List.getElem_cons_succ])
          (try simp only [Act.put, List.setIfInBounds_toArray, List.set_cons_zero, List.set_cons_succ])
          refine wpAnyH_weaken (S' := fun u => Hid (Below w.heap.size w u) ∧ u.cell? ⟨g, v, none⟩ = some (.int .i64 (stp (toN sizes) (toN other) v : Nat))) (fun _ h => h.1) _ _ _ _ ?_
          have hSd : Hid (Below w.heap.size w u4) ∧ u4.cell? ⟨g, v, none⟩ = some (.int .i64 (stp (toN sizes) (toN other) v : Nat)) := ⟨hB, cv⟩
          refine wpAnyH_take (i := 8) (oi := _) (v := .pointer (some ⟨g, v, none⟩)) rfl (by kernel_rfl) (by kernel_rfl) (by kernel_rfl) (fun _ _ _ h => h) (Or.inl ⟨by rfl, ?_⟩) (by assumption) ?_
          · intro u' hSu
            (try simp only [List.getElem_toArray, List.getElem_cons_zero, List.getElem_cons_succ])
            go_simp
          (try simp only [List.getElem_toArray, List.getElem_cons_zero, List.getElem_cons_succ])
          (try simp only [Act.put, List.setIfInBounds_toArray, List.set_cons_zero, List.set_cons_succ])
          refine wpAnyH_take (i := 9) (oi := _) (v := .int .i64 (stp (toN sizes) (toN other) v : Nat)) rfl (by kernel_rfl) (by kernel_rfl) (by kernel_rfl) (fun _ _ _ h => h) (Or.inl ⟨by rfl, ?_⟩) (by assumption) ?_
          · intro u' hSu
            (try simp only [List.getElem_toArray, List.getElem_cons_zero, List.getElem_cons_succ])
            obtain ⟨s1, s2⟩ := hSu
            go_simp
          (try simp only [List.getElem_toArray, List.getElem_cons_zero, List.getElem_cons_succ])
          (try simp only [Act.put, List.setIfInBounds_toArray, List.set_cons_zero, List.set_cons_succ])
          refine wpAnyH_ready (rs := [12]) (by kernel_rfl) (by simp) (AllReadyH.cons rfl ?_ (AllReadyH.nil))
          · have c9 := h9.cell
            have f9 := h9.frozen
            intro K' hK'
            (try simp only [List.getElem_toArray, List.getElem_cons_zero, List.getElem_cons_succ])
            go_simp
            have e9 : Boxed (u4.setCell ⟨B9, 0, none⟩ (.func (.func 103) #[] lb)) B9 73 (.func (.func 103) #[] lb) := h9.set _
            have e10 : Boxed (u4.setCell ⟨B9, 0, none⟩ (.func (.func 103) #[] lb)) B10 3 (.int .i64 0) := boxed_off h10 B9 0 _ (by omega)
            replace hF := hF.kept (KeepsIn.set u4 0 (.func (.func 103) #[] lb) hm2 r9)
            replace hB := below_s hB B9 0 (.func (.func 103) #[] lb) w9
            replace cv : (u4.setCell ⟨B9, 0, none⟩ (.func (.func 103) #[] lb)).cell? ⟨g, v, none⟩ = _ := (World.cell?_setCell_other _ _ _ _ (fun e => g9 (congrArg Addr.block e))).trans cv
            have lz : u4.heap.size ≤ (u4.setCell ⟨B9, 0, none⟩ (.func (.func 103) #[] lb)).heap.size := (KeepsOthers.setCell u4 _ _).size
            replace l9 := Nat.lt_of_lt_of_le l9 lz
            replace l10 := Nat.lt_of_lt_of_le l10 lz
            replace hm2 := Nat.le_trans hm2 lz
            refine hK'.out _ _ ⟨hB, cv⟩ (fun hSe => ?_)
            clear hK' K' hSd h9 h10 c9 f9 lz
            have hSd := hSe
            clear hSe
            generalize (u4.setCell ⟨B9, 0, none⟩ (.func (.func 103) #[] lb)) = v1 at *
            (try simp only [List.getElem_toArray, List.getElem_cons_zero, List.getElem_cons_succ])
            (try simp only [Act.put, List.setIfInBounds_toArray, List.set_cons_zero, List.set_cons_succ])
            have c10 := e10.cell
            have f10 := e10.frozen
            refine wpAnyH_ready (rs := [13]) (by kernel_rfl) (by simp) (AllReadyH.cons rfl ?_ AllReadyH.nil)
            intro K' hK'
            (try simp only [List.getElem_toArray, List.getElem_cons_zero, List.getElem_cons_succ])
            go_simp
            have x9 : Boxed (v1.setCell ⟨B10, 0, none⟩ (.int .i64 (stp (toN sizes) (toN other) v : Nat))) B9 73 (.func (.func 103) #[] lb) := boxed_off e9 B10 0 _ (by omega)
            have x10 := e10.set (.int .i64 (stp (toN sizes) (toN other) v : Nat))
            replace hF := hF.kept (KeepsIn.set v1 0 (.int .i64 (stp (toN sizes) (toN other) v : Nat)) hm2 r10)
            replace hB := below_s hB B10 0 (.int .i64 (stp (toN sizes) (toN other) v : Nat)) w10
            replace cv : (v1.setCell ⟨B10, 0, none⟩ (.int .i64 (stp (toN sizes) (toN other) v : Nat))).cell? ⟨g, v, none⟩ = _ := (World.cell?_setCell_other _ _ _ _ (fun e => g10 (congrArg Addr.block e))).trans cv
            have lz : v1.heap.size ≤ (v1.setCell ⟨B10, 0, none⟩ (.int .i64 (stp (toN sizes) (toN other) v : Nat))).heap.size := (KeepsOthers.setCell v1 _ _).size
            replace l9 := Nat.lt_of_lt_of_le l9 lz
            replace l10 := Nat.lt_of_lt_of_le l10 lz
            replace hm2 := Nat.le_trans hm2 lz
            refine hK'.out _ _ ⟨hB, cv⟩ (fun _ => wpAnyH_done (by kernel_rfl) ?_ _)
            clear hK' K' hSd e9 e10 c10 f10 lz
            generalize (v1.setCell ⟨B10, 0, none⟩ (.int .i64 (stp (toN sizes) (toN other) v : Nat))) = v2 at *
            go_wp2
            go_ret
            exact ⟨_, rfl, ⟨B9, B10, _, rfl, w9, w10, l9, l10, Nat.le_refl _, x9.cell, x10.cell, hF.wider hn0 hm2 (Nat.le_refl _)⟩, hB⟩
    · intro K' hK'
      (try simp only [List.getElem_toArray, List.getElem_cons_zero, List.getElem_cons_succ])
      go_simp
      have hb : Below u1.heap.size u1 (u1.alloc (.cells #[.nilFunc] 73)) := (Below.refl _ u1).alloc (Nat.le_refl _) _
      have h9 : Boxed (u1.alloc (.cells #[.nilFunc] 73)) u1.heap.size 73 (.nilFunc) := Boxed.new u1 _ _
      have l9 : u1.heap.size < (u1.alloc (.cells #[.nilFunc] 73)).heap.size := by simp
      have w9 := hB.size
      replace hB := hB.trans (hb.mono hB.size)
      replace h10 := boxed_keep h10 hb
      have ne : ¬ B10 = u1.heap.size := by omega
      replace l10 := Nat.lt_of_lt_of_le l10 hb.size
      refine hK'.out _ _ hB (fun hSd => ?_)
      clear hK' K' hb
      generalize (u1.alloc (.cells #[.nilFunc] 73)) = u2 at *
      generalize u1.heap.size = B9 at *
      (try simp only [List.getElem_toArray, List.getElem_cons_zero, List.getElem_cons_succ])
      (try simp only [Act.put, List.setIfInBounds_toArray, List.set_cons_zero, List.set_cons_succ])
      refine wpAnyH_ready (rs := [3]) (by kernel_rfl) (by simp) (AllReadyH.cons rfl ?_ (AllReadyH.nil))
      · intro K' hK'
        (try simp only [List.getElem_toArray, List.getElem_cons_zero, List.getElem_cons_succ])
        go_simp
        refine (HB.out _ (HS.out.below hB) (HO.out.below hB)).mono ?_
        rintro e u3 ⟨f, rfl, hF, hb⟩
        obtain ⟨lb, rfl⟩ := hF.shape
        have hn1 := hB.size
        replace hB := hB.trans (hb.mono hB.size)
        refine hK'.out _ _ hB (fun hSe => ?_)
        clear hK' K' hSd
        have hSd := hSe
        clear hSe
        replace h9 := boxed_keep h9 hb
        have r9 : B9 < u2.heap.size ∨ u3.heap.size ≤ B9 := .inl l9
        replace l9 := Nat.lt_of_lt_of_le l9 hb.size
        replace h10 := boxed_keep h10 hb
        have r10 : B10 < u2.heap.size ∨ u3.heap.size ≤ B10 := .inl l10
        replace l10 := Nat.lt_of_lt_of_le l10 hb.size
        have hn0 : w.heap.size ≤ u2.heap.size := hn1
        have hFt := hF.top
        generalize u2.heap.size = n1 at hF hn1 hn0 r9 r10 ⊢
        generalize hm1 : u3.heap.size = m1 at hF hFt r9 r10
        rw [← hm1] at hFt
        have hm2 : m1 ≤ u3.heap.size := by omega
        clear hb hm1
        (try simp only [List.getElem_toArray, List.getElem_cons_zero, List.getElem_cons_succ])
        (try simp only [Act.put, List.setIfInBounds_toArray, List.set_cons_zero, List.set_cons_succ])
        refine wpAnyH_ready (rs := [6]) (by kernel_rfl) (by simp) (AllReadyH.cons rfl ?_ (AllReadyH.nil))
        · intro K' hK'
          (try simp only [List.getElem_toArray, List.getElem_cons_zero, List.getElem_cons_succ])
          go_simp
          refine (HA.out _ (HS.out.below hB) (HO.out.below hB)).mono ?_
          rintro e u4 ⟨g, ct, rfl, hg1, hi, hb⟩
          replace hB := hB.trans (hb.mono hB.size)
          replace hF := hF.below hb
          replace hm2 := Nat.le_trans hm2 hb.size
          refine hK'.out _ _ hB (fun hSe => ?_)
          clear hK' K' hSd
          have hSd := hSe
          clear hSe
          obtain ⟨g3, o3, e3, hgl, cv⟩ := hi v (by rw [iL_length, stpL_length]; exact hvs)
          cases e3
          rw [iL_stpL hvs, Nat.zero_add] at cv
          replace h9 := boxed_keep h9 hb
          have g9 : ¬ B9 = g := by omega
          replace l9 := Nat.lt_of_lt_of_le l9 hb.size
          replace h10 := boxed_keep h10 hb
          have g10 : ¬ B10 = g := by omega
          replace l10 := Nat.lt_of_lt_of_le l10 hb.size
          clear hb hi hg1 hSd
          (try simp only [List.getElem_toArray, List.getElem_cons_zero, List.getElem_cons_succ])
          (try simp only [Act.put, List.setIfInBounds_toArray, List.set_cons_zero, List.set_cons_succ])
          refine wpAnyH_weaken (S' := fun u => Hid (Below w.heap.size w u) ∧ u.cell? ⟨g, v, none⟩ = some (.int .i64 (stp (toN sizes) (toN other) v : Nat))) (fun _ h => h.1) _ _ _ _ ?_
          have hSd : Hid (Below w.heap.size w u4) ∧ u4.cell? ⟨g, v, none⟩ = some (.int .i64 (stp (toN sizes) (toN other) v : Nat)) := ⟨hB, cv⟩
          refine wpAnyH_take (i := 8) (oi := _) (v := .pointer (some ⟨g, v, none⟩)) rfl (by kernel_rfl) (by kernel_rfl) (by kernel_rfl) (fun _ _ _ h => h) (Or.inl ⟨by rfl, ?_⟩) (by assumption) ?_
          · intro u' hSu
            (try simp only [List.getElem_toArray, List.getElem_cons_zero, List.getElem_cons_succ])
            go_simp
          (try simp only [List.getElem_toArray, List.getElem_cons_zero, List.getElem_cons_succ])
          (try simp only [Act.put, List.setIfInBounds_toArray, List.set_cons_zero, List.set_cons_succ])
          refine wpAnyH_take (i := 9) (oi := _) (v := .int .i64 (stp (toN sizes) (toN other) v : Nat)) rfl (by kernel_rfl) (by kernel_rfl) (by kernel_rfl) (fun _ _ _ h => h) (Or.inl ⟨by rfl, ?_⟩) (by assumption) ?_
          · intro u' hSu
            (try simp only [List.getElem_toArray, List.getElem_cons_zero, List.getElem_cons_succ])
            obtain ⟨s1, s2⟩ := hSu
            go_simp
          (try simp only [List.getElem_toArray, List.getElem_cons_zero, List.getElem_cons_succ])
          (try simp only [Act.put, List.setIfInBounds_toArray, List.set_cons_zero, List.set_cons_succ])
          refine wpAnyH_ready (rs := [12]) (by kernel_rfl) (by simp) (AllReadyH.cons rfl ?_ (AllReadyH.nil))
          · have c9 := h9.cell
            have f9 := h9.frozen
            intro K' hK'
            (try simp only [List.getElem_toArray, List.getElem_cons_zero, List.getElem_cons_succ])
            go_simp
            have e9 : Boxed (u4.setCell ⟨B9, 0, none⟩ (.func (.func 103) #[] lb)) B9 73 (.func (.func 103) #[] lb) := h9.set _
            have e10 : Boxed (u4.setCell ⟨B9, 0, none⟩ (.func (.func 103) #[] lb)) B10 3 (.int .i64 0) := boxed_off h10 B9 0 _ (by omega)
            replace hF := hF.kept (KeepsIn.set u4 0 (.func (.func 103) #[] lb) hm2 r9)
            replace hB := below_s hB B9 0 (.func (.func 103) #[] lb) w9
            replace cv : (u4.setCell ⟨B9, 0, none⟩ (.func (.func 103) #[] lb)).cell? ⟨g, v, none⟩ = _ := (World.cell?_setCell_other _ _ _ _ (fun e => g9 (congrArg Addr.block e))).trans cv
            have lz : u4.heap.size ≤ (u4.setCell ⟨B9, 0, none⟩ (.func (.func 103) #[] lb)).heap.size := (KeepsOthers.setCell u4 _ _).size
            replace l9 := Nat.lt_of_lt_of_le l9 lz
            replace l10 := Nat.lt_of_lt_of_le l10 lz
            replace hm2 := Nat.le_trans hm2 lz
            refine hK'.out _ _ ⟨hB, cv⟩ (fun hSe => ?_)
            clear hK' K' hSd h9 h10 c9 f9 lz
            have hSd := hSe
            clear hSe
            generalize (u4.setCell ⟨B9, 0, none⟩ (.func (.func 103) #[] lb)) = v1 at *
            (try simp only [List.getElem_toArray, List.getElem_cons_zero, List.getElem_cons_succ])
            (try simp only [Act.put, List.setIfInBounds_toArray, List.set_cons_zero, List.set_cons_succ])
            have c10 := e10.cell
            have f10 := e10.frozen
            refine wpAnyH_ready (rs := [13]) (by kernel_rfl) (by simp) (AllReadyH.cons rfl ?_ AllReadyH.nil)
            intro K' hK'
            (try simp only [List.getElem_toArray, List.getElem_cons_zero, List.getElem_cons_succ])
            go_simp
            have x9 : Boxed (v1.setCell ⟨B10, 0, none⟩ (.int .i64 (stp (toN sizes) (toN other) v : Nat))) B9 73 (.func (.func 103) #[] lb) := boxed_off e9 B10 0 _ (by omega)
            have x10 := e10.set (.int .i64 (stp (toN sizes) (toN other) v : Nat))
            replace hF := hF.kept (KeepsIn.set v1 0 (.int .i64 (stp (toN sizes) (toN other) v : Nat)) hm2 r10)
            replace hB := below_s hB B10 0 (.int .i64 (stp (toN sizes) (toN other) v : Nat)) w10
            replace cv : (v1.setCell ⟨B10, 0, none⟩ (.int .i64 (stp (toN sizes) (toN other) v : Nat))).cell? ⟨g, v, none⟩ = _ := (World.cell?_setCell_other _ _ _ _ (fun e => g10 (congrArg Addr.block e))).trans cv
            have lz : v1.heap.size ≤ (v1.setCell ⟨B10, 0, none⟩ (.int .i64 (stp (toN sizes) (toN other) v : Nat))).heap.size := (KeepsOthers.setCell v1 _ _).size
            replace l9 := Nat.lt_of_lt_of_le l9 lz
            replace l10 := Nat.lt_of_lt_of_le l10 lz
            replace hm2 := Nat.le_trans hm2 lz
            refine hK'.out _ _ ⟨hB, cv⟩ (fun _ => wpAnyH_done (by kernel_rfl) ?_ _)
            clear hK' K' hSd e9 e10 c10 f10 lz
            generalize (v1.setCell ⟨B10, 0, none⟩ (.int .i64 (stp (toN sizes) (toN other) v : Nat))) = v2 at *
            go_wp2
            go_ret
            exact ⟨_, rfl, ⟨B9, B10, _, rfl, w9, w10, l9, l10, Nat.le_refl _, x9.cell, x10.cell, hF.wider hn0 hm2 (Nat.le_refl _)⟩, hB⟩
end Go.Proofs.YtknlhejhnopnaaaGreatDoor
