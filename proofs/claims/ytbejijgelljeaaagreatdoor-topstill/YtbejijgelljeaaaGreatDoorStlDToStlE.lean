/- Still of package chain. -/
import Derived.Test.YtbejijgelljeaaaGreatDoorStlBToStlQ
namespace Go.Proofs.YtbejijgelljeaaaGreatDoor
open Go.RowKit Go.Shelf

/-- The bools of the classes. -/
abbrev clB (n : Nat) (P : Nat → Nat → Rat) : List Bool := (lstN n (cmsB n P) n).map (stB n (cmsB n P))
theorem clB_true {n : Nat} {P : Nat → Nat → Rat} (hn : 1 ≤ n) : true ∈ clB n P := by
  obtain ⟨j, hj, hs⟩ := stB_some (P := P) _ 0 (by omega : 0 < n) (Nat.le_refl _)
  obtain ⟨k, hk, hm⟩ := lst_of (P := P) hj
  exact List.mem_map.2 ⟨k, hk, stB_same hj hm hs⟩
/-- What Still answers: the only closed class's, or that there are more. -/
structure OneC (n : Nat) (P : Nat → Nat → Rat) (k : Nat) : Prop where
  mem : k ∈ lstN n (cmsB n P) n
  shut : stB n (cmsB n P) k = true
  only : ∀ j, j ∈ lstN n (cmsB n P) n → stB n (cmsB n P) j = true → j = k
theorem OneC.lt {n : Nat} {P : Nat → Nat → Rat} {k : Nat} (h : OneC n P k) : k < n := (lstN_mem.1 h.mem).1
theorem OneC.cls {n : Nat} {P : Nat → Nat → Rat} {k : Nat} (h : OneC n P k) : Cls n P (clN n (cmsB n P) k) := cls_of h.lt h.shut
theorem oneC_of {n : Nat} {P : Nat → Nat → Rat} (hn : 1 ≤ n) (hno : true ∉ (clB n P).drop (fstT (clB n P) + 1)) : ∃ hl : fstT (clB n P) < (lstN n (cmsB n P) n).length, OneC n P (lstN n (cmsB n P) n)[fstT (clB n P)] := by
  obtain ⟨hk, h1, h2⟩ := fstT_spec (clB n P) (clB_true hn)
  have hl : fstT (clB n P) < (lstN n (cmsB n P) n).length := by simpa using hk
  refine ⟨hl, List.getElem_mem hl, by simpa using h1, fun j hj hs => ?_⟩
  obtain ⟨t, ht, rfl⟩ := List.mem_iff_getElem.1 hj
  have htB : t < (clB n P).length := by simpa using ht
  have et : (clB n P)[t] = true := by simpa using hs
  rcases Nat.lt_trichotomy t (fstT (clB n P)) with h | h | h
  · rw [h2 t htB h] at et; cases et
  · simp only [h]
  · refine absurd ?_ hno
    rw [List.mem_iff_getElem]
    exact ⟨t - (fstT (clB n P) + 1), by rw [List.length_drop]; omega, by rw [List.getElem_drop]; simpa [show fstT (clB n P) + 1 + (t - (fstT (clB n P) + 1)) = t by omega] using et⟩
theorem BoS'.drop {w : World} {g o : Nat} {l : List Bool} (h : BoS' w (some ⟨g, o, none⟩) l) (k : Nat) : BoS' w (some ⟨g, o + k, none⟩) (l.drop k) := fun j hj => by
  rw [List.length_drop] at hj
  obtain ⟨g', o', e, h1, h2⟩ := h (k + j) (by omega)
  cases e
  refine ⟨g, o + k, rfl, h1, ?_⟩
  rw [List.getElem_drop, Nat.add_assoc]
  exact h2

set_option maxRecDepth 100000 in
set_option maxHeartbeats 4000000 in
theorem chStill_any (a : Option Addr) (ca n : Nat) (P : Nat → Nat → Rat) (w : World) (hR : FsS w a (mR n P)) (hm : ChM n P) :
    Calls Tryz.prog 18 #[.slice a n ca] w fun e w' => Below w.heap.size w w' ∧ ((∃ k G, OneC n P k ∧ e = .returned (.tuple #[.slice (some ⟨G, 0, none⟩) n n, .int .i64 0]) ∧ w.heap.size ≤ G ∧ RowF w' G (lF n (stQ P (clN n (cmsB n P) k)))) ∨ (true ∈ (clB n P).drop (fstT (clB n P) + 1) ∧ e = .returned (.tuple #[.slice none 0 0, .int .i64 13]))) := by
  have h1 := hm.one
  have h5 := hm.five
  have HCS := hid (chClasses_any a ca n P w hR hm)
  have HCM := hid hm
  have HR := hid hR
  have HTR := hid (clB_true (P := P) h1)
  have HONE0 := hid (oneC_of (P := P) h1)
  have hcl : (clB n P).length = (lstN n (cmsB n P) n).length := by simp
  have hll := lstN_le n (cmsB n P) n
  clear hR hm
  obtain ⟨BL, hBL⟩ : ∃ BL, clB n P = BL := ⟨_, rfl⟩
  rw [hBL] at HTR hcl
  have HBLE := hid hBL
  have hbl5 : BL.length ≤ 5 := by omega
  have HCL9 := hid hcl
  clear hBL hcl hll
  obtain ⟨hat, -, -⟩ := fstT_spec BL HTR.out
  obtain ⟨at_, hat_⟩ : ∃ k, fstT BL = k := ⟨_, rfl⟩
  rw [hat_] at hat
  have HAT := hid hat_
  clear hat_
  go_enter Tryz.func18, Tryz.ntmps18
  go_wp2_with fail
  refine HCS.out.mono ?_
  rintro e1 W ⟨x, y, Q, B, rfl, hB, hcs, hbW⟩
  have HBW := hid hbW
  have HQL := hid hcs.len
  obtain ⟨dx, cx, rfl, hxr⟩ := owns_slice hcs.row.1
  obtain ⟨dy, cy, hye, hbo, hcy⟩ := hcs.cl.bos
  have HCSW := hid hcs
  rw [show (lstN n (cmsB n P) n).map (stB n (cmsB n P)) = BL from HBLE.out] at hye hbo hcy
  subst hye
  obtain ⟨gy, oy, hde, -, -⟩ := hbo at_ hat
  subst hde
  have HIX := hid (slIndexBo_any (some ⟨gy, oy, none⟩) cy BL.length BL W hbo rfl (by omega))
  have HCN := hid (slContainsBo_any (some ⟨gy, oy + (at_ + 1), none⟩) (cy - (at_ + 1)) (BL.length - (at_ + 1)) (BL.drop (at_ + 1)) W (hbo.drop (at_ + 1)) (by rw [List.length_drop]) (by omega))
  have HCN1 : Hid (at_ + 1 = cy → Calls Tryz.prog 45 #[.slice (some ⟨gy, oy, none⟩) 0 0, .bool true] W fun e w' => w' = W ∧ e = .returned (.bool (decide (true ∈ BL.drop (at_ + 1))))) := fun hcc => slContainsBo_any (some ⟨gy, oy, none⟩) 0 0 (BL.drop (at_ + 1)) W (fun k hk => absurd hk (by rw [List.length_drop]; omega)) (by rw [List.length_drop]; omega) (by omega)
  clear hbW hcs hbo hxr HCS
  go_wp2_with fail
  refine HIX.out.mono ?_
  rintro e1 w1 ⟨rfl, h9⟩
  rcases h9 with ⟨h9, rfl⟩ | ⟨-, rfl⟩
  · exact absurd HTR.out h9
  · rw [HAT.out]
    have hle : at_ + 1 ≤ BL.length := by omega
    have hle2 : at_ + 1 ≤ cy := by omega
    by_cases hcc : at_ + 1 = cy
    · have HC9 := hid (HCN1.out hcc)
      subst hcc
      go_wp2_with fail
      refine HC9.out.mono ?_
      rintro e1 w2 ⟨rfl, rfl⟩
      by_cases hmany : true ∈ BL.drop (at_ + 1)
      · rw [decide_eq_true hmany]
        have HMY := hid hmany
        clear hmany
        go_wp2
        go_ret2
        exact ⟨HBW.out, .inr ⟨by rw [HBLE.out, HAT.out]; exact HMY.out, rfl⟩⟩
      · rw [decide_eq_false hmany]
        obtain ⟨hl9, hone9⟩ := HONE0.out (by rw [HBLE.out, HAT.out]; exact hmany)
        have hatl : at_ < (lstN n (cmsB n P) n).length := by rw [← HCL9.out]; exact hat
        have HONE : Hid (OneC n P (lstN n (cmsB n P) n)[at_]) := by
          have e9 : fstT (clB n P) = at_ := by rw [HBLE.out]; exact HAT.out
          simp only [e9] at hone9
          exact hone9
        obtain ⟨k0, hk0⟩ : ∃ k, (lstN n (cmsB n P) n)[at_] = k := ⟨_, rfl⟩
        rw [hk0] at HONE
        have hatQ : at_ < Q.length := by rw [HQL.out]; exact hatl
        have hq2 : Q[at_].2 = iL (clN n (cmsB n P) k0) := by
          have h8 : (Q.map (·.2))[at_]? = ((lstN n (cmsB n P) n).map fun k => iL (clN n (cmsB n P) k))[at_]? := by rw [HCSW.out.val]
          rw [List.getElem?_map, List.getElem?_map, List.getElem?_eq_getElem hatQ, List.getElem?_eq_getElem hatl, hk0] at h8
          exact Option.some.inj h8
        have hrw := HCSW.out.row.2 Q[at_] (List.getElem_mem hatQ)
        rw [hq2] at hrw
        obtain ⟨dl, cl, hqe, hil⟩ := RwI.ints hrw
        rw [iL_length] at hqe
        obtain ⟨m, hme⟩ : ∃ m, (clN n (cmsB n P) k0).length = m := ⟨_, rfl⟩
        rw [hme] at hqe
        have HXC : Hid (∃ gx ox, dx = some ⟨gx, ox, none⟩ ∧ gx < w2.heap.size ∧ w2.cell? ⟨gx, ox + at_, none⟩ = some (.slice dl m cl)) := by
          rcases HCSW.out.row.1.2 with ⟨e8, e9⟩ | ⟨g8, cap8, cur8, e8, _, e10, _⟩
          · omega
          · have h8 := HCSW.out.row.1
            rw [e8] at h8
            cases e8
            refine ⟨g8, 0, rfl, (Array.getElem?_eq_some_iff.1 e10).1, ?_⟩
            rw [Nat.zero_add, World.ownsRow.cellAt h8 at_ (by omega)]
            simp [hatQ, hqe]
        have HSI := hid (fun (U : World) (hU : Below w2.heap.size w2 U) => chStill_in a dl ca cl n m P (clN n (cmsB n P) k0) U (HR.out.below (HBW.out.trans (hU.mono HBW.out.size))) (hil.below hU) hme HONE.out.cls HCM.out)
        have HSPR : Hid (∀ (U : World), Below w2.heap.size w2 U → ∀ (d : Option Addr) (cd : Nat), FrS U d (lF m (stX P (clN n (cmsB n P) k0))) → Calls Tryz.prog 34 #[.int .i64 (n : Nat), .slice dl m cl, .slice d m cd] U fun e w' => ∃ G, e = .returned (.slice (some ⟨G, 0, none⟩) n n) ∧ U.heap.size ≤ G ∧ RowF w' G (lF n (stQ P (clN n (cmsB n P) k0))) ∧ Below U.heap.size U w') := fun U hU d cd hx => by
          have h8 := chSpread_any dl d cl cd n m (clN n (cmsB n P) k0) (stX P (clN n (cmsB n P) k0)) U (hil.below hU) hx hme (fun y hy => (clN_mem.1 hy).1) h1 (by omega) (by have := clN_le n (cmsB n P) k0; omega)
          rw [show sprQ (clN n (cmsB n P) k0) (stX P (clN n (cmsB n P) k0)) m = stQ P (clN n (cmsB n P) k0) by rw [← hme]; rfl] at h8
          exact h8
        obtain ⟨gx, ox, rfl, hgx, c0⟩ := HXC.out
        obtain ⟨q, hqq⟩ : ∃ q, Q.length = q := ⟨_, rfl⟩
        have hatq : at_ < q := by rw [← hqq]; exact hatQ
        clear HXC hil hrw hq2 hone9 hl9 hk0 hqe HCN HCN1 HC9 HIX HCSW hmany hme hatQ
        simp only [hqq]
        clear hqq
        go_upto_region 7 with fail
        generalize hW : w2 = W at *
        clear hW
        have HB : Hid (Below W.heap.size W W.drew) := (Below.refl _ _).drew
        have HELD : Hid (∀ u, Below W.heap.size W u → u.cell? ⟨gx, ox + at_, none⟩ = some (.slice dl m cl)) := fun u h => (h.cell (p := ⟨gx, _, none⟩) hgx).trans c0
        clear c0
        refine wp_region_held_drew (S := fun u => u.cell? ⟨gx, ox + at_, none⟩ = some (.slice dl m cl)) (by kernel_rfl) (HELD.out _ HB.out) (fun hSd => ?_)
        generalize W.drew = u0 at *
        refine wpAnyH_take (i := 0) (oi := _) (v := .slice a n ca) rfl (by kernel_rfl) (by kernel_rfl) (by kernel_rfl) (fun _ _ _ h => h) (Or.inl ⟨by rfl, ?_⟩) (by assumption) ?_
        · intro u' hSu
          (try simp only [List.getElem_toArray, List.getElem_cons_zero])
          go_simp
        (try simp only [List.getElem_toArray, List.getElem_cons_zero])
        (try simp only [Act.put, List.setIfInBounds_toArray, List.set_cons_zero, List.set_cons_succ])
        refine wpAnyH_take (i := 1) (oi := _) (v := .int .i64 (n : Nat)) rfl (by kernel_rfl) (by kernel_rfl) (by kernel_rfl) (fun _ _ _ h => h) (Or.inl ⟨by rfl, ?_⟩) (by assumption) ?_
        · intro u' hSu
          (try simp only [List.getElem_toArray, List.getElem_cons_zero, List.getElem_cons_succ])
          go_simp
        (try simp only [List.getElem_toArray, List.getElem_cons_zero, List.getElem_cons_succ])
        (try simp only [Act.put, List.setIfInBounds_toArray, List.set_cons_zero, List.set_cons_succ])
        refine wpAnyH_take (i := 2) (oi := _) (v := .slice (some ⟨gx, ox, none⟩) q cx) rfl (by kernel_rfl) (by kernel_rfl) (by kernel_rfl) (fun _ _ _ h => h) (Or.inl ⟨by rfl, ?_⟩) (by assumption) ?_
        · intro u' hSu
          (try simp only [List.getElem_toArray, List.getElem_cons_zero, List.getElem_cons_succ])
          go_simp
        (try simp only [List.getElem_toArray, List.getElem_cons_zero, List.getElem_cons_succ])
        (try simp only [Act.put, List.setIfInBounds_toArray, List.set_cons_zero, List.set_cons_succ])
        refine wpAnyH_take (i := 3) (oi := _) (v := .int .i64 (at_ : Nat)) rfl (by kernel_rfl) (by kernel_rfl) (by kernel_rfl) (fun _ _ _ h => h) (Or.inl ⟨by rfl, ?_⟩) (by assumption) ?_
        · intro u' hSu
          (try simp only [List.getElem_toArray, List.getElem_cons_zero, List.getElem_cons_succ])
          go_simp
        (try simp only [List.getElem_toArray, List.getElem_cons_zero, List.getElem_cons_succ])
        (try simp only [Act.put, List.setIfInBounds_toArray, List.set_cons_zero, List.set_cons_succ])
        refine wpAnyH_take (i := 4) (oi := _) (v := .pointer (some ⟨gx, ox + at_, none⟩)) rfl (by kernel_rfl) (by kernel_rfl) (by kernel_rfl) (fun _ _ _ h => h) (Or.inl ⟨by rfl, ?_⟩) (by assumption) ?_
        · intro u' hSu
          (try simp only [List.getElem_toArray, List.getElem_cons_zero, List.getElem_cons_succ])
          go_simp
        (try simp only [List.getElem_toArray, List.getElem_cons_zero, List.getElem_cons_succ])
        (try simp only [Act.put, List.setIfInBounds_toArray, List.set_cons_zero, List.set_cons_succ])
        refine wpAnyH_take (i := 5) (oi := _) (v := .slice dl m cl) rfl (by kernel_rfl) (by kernel_rfl) (by kernel_rfl) (fun _ _ _ h => h) (Or.inl ⟨by rfl, ?_⟩) (by assumption) ?_
        · intro u' hSu
          (try simp only [List.getElem_toArray, List.getElem_cons_zero, List.getElem_cons_succ])
          obtain s0 := hSu
          go_simp
        (try simp only [List.getElem_toArray, List.getElem_cons_zero, List.getElem_cons_succ])
        (try simp only [Act.put, List.setIfInBounds_toArray, List.set_cons_zero, List.set_cons_succ])
        refine wpAnyH_take (i := 6) (oi := _) (v := .slice a n ca) rfl (by kernel_rfl) (by kernel_rfl) (by kernel_rfl) (fun _ _ _ h => h) (Or.inl ⟨by rfl, ?_⟩) (by assumption) ?_
        · intro u' hSu
          (try simp only [List.getElem_toArray, List.getElem_cons_zero, List.getElem_cons_succ])
          go_simp
        (try simp only [List.getElem_toArray, List.getElem_cons_zero, List.getElem_cons_succ])
        (try simp only [Act.put, List.setIfInBounds_toArray, List.set_cons_zero, List.set_cons_succ])
        refine wpAnyH_take (i := 7) (oi := _) (v := .slice (some ⟨gx, ox, none⟩) q cx) rfl (by kernel_rfl) (by kernel_rfl) (by kernel_rfl) (fun _ _ _ h => h) (Or.inl ⟨by rfl, ?_⟩) (by assumption) ?_
        · intro u' hSu
          (try simp only [List.getElem_toArray, List.getElem_cons_zero, List.getElem_cons_succ])
          go_simp
        (try simp only [List.getElem_toArray, List.getElem_cons_zero, List.getElem_cons_succ])
        (try simp only [Act.put, List.setIfInBounds_toArray, List.set_cons_zero, List.set_cons_succ])
        refine wpAnyH_take (i := 8) (oi := _) (v := .int .i64 (at_ : Nat)) rfl (by kernel_rfl) (by kernel_rfl) (by kernel_rfl) (fun _ _ _ h => h) (Or.inl ⟨by rfl, ?_⟩) (by assumption) ?_
        · intro u' hSu
          (try simp only [List.getElem_toArray, List.getElem_cons_zero, List.getElem_cons_succ])
          go_simp
        (try simp only [List.getElem_toArray, List.getElem_cons_zero, List.getElem_cons_succ])
        (try simp only [Act.put, List.setIfInBounds_toArray, List.set_cons_zero, List.set_cons_succ])
        refine wpAnyH_take (i := 9) (oi := _) (v := .pointer (some ⟨gx, ox + at_, none⟩)) rfl (by kernel_rfl) (by kernel_rfl) (by kernel_rfl) (fun _ _ _ h => h) (Or.inl ⟨by rfl, ?_⟩) (by assumption) ?_
        · intro u' hSu
          (try simp only [List.getElem_toArray, List.getElem_cons_zero, List.getElem_cons_succ])
          go_simp
        (try simp only [List.getElem_toArray, List.getElem_cons_zero, List.getElem_cons_succ])
        (try simp only [Act.put, List.setIfInBounds_toArray, List.set_cons_zero, List.set_cons_succ])
        refine wpAnyH_take (i := 10) (oi := _) (v := .slice dl m cl) rfl (by kernel_rfl) (by kernel_rfl) (by kernel_rfl) (fun _ _ _ h => h) (Or.inl ⟨by rfl, ?_⟩) (by assumption) ?_
        · intro u' hSu
          (try simp only [List.getElem_toArray, List.getElem_cons_zero, List.getElem_cons_succ])
          obtain s0 := hSu
          go_simp
        (try simp only [List.getElem_toArray, List.getElem_cons_zero, List.getElem_cons_succ])
        (try simp only [Act.put, List.setIfInBounds_toArray, List.set_cons_zero, List.set_cons_succ])
        refine wpAnyH_ready (rs := [11]) (by kernel_rfl) (by simp) (AllReadyH.cons rfl ?_ (AllReadyH.nil))
        · intro K' hK'
          (try simp only [List.getElem_toArray, List.getElem_cons_zero, List.getElem_cons_succ])
          go_simp
          refine (HSI.out _ HB.out).mono ?_
          rintro e u1 ⟨S1, rfl, hS1, hr1, hb⟩
          replace HB := hid (HB.out.trans (hb.mono HB.out.size))
          have HR1 := hid hr1
          refine hK'.out _ _ (HELD.out _ HB.out) (fun hSe => ?_)
          clear hK' K' hSd hb hr1 hS1
          have hSd := hSe
          clear hSe
          (try simp only [List.getElem_toArray, List.getElem_cons_zero, List.getElem_cons_succ])
          (try simp only [Act.put, List.setIfInBounds_toArray, List.set_cons_zero, List.set_cons_succ])
          refine wpAnyH_ready (rs := [12]) (by kernel_rfl) (by simp) (AllReadyH.cons rfl ?_ (AllReadyH.nil))
          · intro K' hK'
            (try simp only [List.getElem_toArray, List.getElem_cons_zero, List.getElem_cons_succ])
            go_simp
            refine (HSPR.out _ HB.out (some ⟨S1, 0, none⟩) m HR1.out.fr).mono ?_
            rintro e u2 ⟨G2, rfl, hG2, hr2, hb⟩
            have HG2 : Hid (W.heap.size ≤ G2) := Nat.le_trans HB.out.size hG2
            replace HB := hid (HB.out.trans (hb.mono HB.out.size))
            have HR2 := hid hr2
            refine hK'.out _ _ (HELD.out _ HB.out) (fun hSe => ?_)
            clear hK' K' hSd hb hr2 hG2
            have hSd := hSe
            clear hSe
            (try simp only [List.getElem_toArray, List.getElem_cons_zero, List.getElem_cons_succ])
            (try simp only [Act.put, List.setIfInBounds_toArray, List.set_cons_zero, List.set_cons_succ])
            refine wpAnyH_take (i := 13) (oi := _) (v := .slice (some ⟨G2, 0, none⟩) n n) rfl (by kernel_rfl) (by kernel_rfl) (by kernel_rfl) (fun _ _ _ h => h) (Or.inl ⟨by rfl, ?_⟩) (by assumption) ?_
            · intro u' hSu
              (try simp only [List.getElem_toArray, List.getElem_cons_zero, List.getElem_cons_succ])
              go_simp
            (try simp only [List.getElem_toArray, List.getElem_cons_zero, List.getElem_cons_succ])
            (try simp only [Act.put, List.setIfInBounds_toArray, List.set_cons_zero, List.set_cons_succ])
            refine wpAnyH_take (i := 14) (oi := _) (v := .int .i64 0) rfl (by kernel_rfl) (by kernel_rfl) (by kernel_rfl) (fun _ _ _ h => h) (Or.inl ⟨by rfl, ?_⟩) (by assumption) ?_
            · intro u' hSu
              (try simp only [List.getElem_toArray, List.getElem_cons_zero, List.getElem_cons_succ])
              go_simp
            (try simp only [List.getElem_toArray, List.getElem_cons_zero, List.getElem_cons_succ])
            (try simp only [Act.put, List.setIfInBounds_toArray, List.set_cons_zero, List.set_cons_succ])
            refine wpAnyH_done (by kernel_rfl) ?_ _
            clear hSd
            have HBF := hid (HBW.out.trans (HB.out.mono HBW.out.size))
            have HGF : Hid (w.heap.size ≤ G2) := Nat.le_trans HBW.out.size HG2.out
            go_wp2
            go_ret2
            exact ⟨HBF.out, .inl ⟨k0, G2, HONE.out, rfl, HGF.out, HR2.out⟩⟩
    · have HC9 := HCN
      have hcc2 : ¬ cy = at_ + 1 := fun e => hcc e.symm
      go_wp2_with fail
      refine HC9.out.mono ?_
      rintro e1 w2 ⟨rfl, rfl⟩
      by_cases hmany : true ∈ BL.drop (at_ + 1)
      · rw [decide_eq_true hmany]
        have HMY := hid hmany
        clear hmany
        go_wp2
        go_ret2
        exact ⟨HBW.out, .inr ⟨by rw [HBLE.out, HAT.out]; exact HMY.out, rfl⟩⟩
      · rw [decide_eq_false hmany]
        obtain ⟨hl9, hone9⟩ := HONE0.out (by rw [HBLE.out, HAT.out]; exact hmany)
        have hatl : at_ < (lstN n (cmsB n P) n).length := by rw [← HCL9.out]; exact hat
        have HONE : Hid (OneC n P (lstN n (cmsB n P) n)[at_]) := by
          have e9 : fstT (clB n P) = at_ := by rw [HBLE.out]; exact HAT.out
          simp only [e9] at hone9
          exact hone9
        obtain ⟨k0, hk0⟩ : ∃ k, (lstN n (cmsB n P) n)[at_] = k := ⟨_, rfl⟩
        rw [hk0] at HONE
        have hatQ : at_ < Q.length := by rw [HQL.out]; exact hatl
        have hq2 : Q[at_].2 = iL (clN n (cmsB n P) k0) := by
          have h8 : (Q.map (·.2))[at_]? = ((lstN n (cmsB n P) n).map fun k => iL (clN n (cmsB n P) k))[at_]? := by rw [HCSW.out.val]
          rw [List.getElem?_map, List.getElem?_map, List.getElem?_eq_getElem hatQ, List.getElem?_eq_getElem hatl, hk0] at h8
          exact Option.some.inj h8
        have hrw := HCSW.out.row.2 Q[at_] (List.getElem_mem hatQ)
        rw [hq2] at hrw
        obtain ⟨dl, cl, hqe, hil⟩ := RwI.ints hrw
        rw [iL_length] at hqe
        obtain ⟨m, hme⟩ : ∃ m, (clN n (cmsB n P) k0).length = m := ⟨_, rfl⟩
        rw [hme] at hqe
        have HXC : Hid (∃ gx ox, dx = some ⟨gx, ox, none⟩ ∧ gx < w2.heap.size ∧ w2.cell? ⟨gx, ox + at_, none⟩ = some (.slice dl m cl)) := by
          rcases HCSW.out.row.1.2 with ⟨e8, e9⟩ | ⟨g8, cap8, cur8, e8, _, e10, _⟩
          · omega
          · have h8 := HCSW.out.row.1
            rw [e8] at h8
            cases e8
            refine ⟨g8, 0, rfl, (Array.getElem?_eq_some_iff.1 e10).1, ?_⟩
            rw [Nat.zero_add, World.ownsRow.cellAt h8 at_ (by omega)]
            simp [hatQ, hqe]
        have HSI := hid (fun (U : World) (hU : Below w2.heap.size w2 U) => chStill_in a dl ca cl n m P (clN n (cmsB n P) k0) U (HR.out.below (HBW.out.trans (hU.mono HBW.out.size))) (hil.below hU) hme HONE.out.cls HCM.out)
        have HSPR : Hid (∀ (U : World), Below w2.heap.size w2 U → ∀ (d : Option Addr) (cd : Nat), FrS U d (lF m (stX P (clN n (cmsB n P) k0))) → Calls Tryz.prog 34 #[.int .i64 (n : Nat), .slice dl m cl, .slice d m cd] U fun e w' => ∃ G, e = .returned (.slice (some ⟨G, 0, none⟩) n n) ∧ U.heap.size ≤ G ∧ RowF w' G (lF n (stQ P (clN n (cmsB n P) k0))) ∧ Below U.heap.size U w') := fun U hU d cd hx => by
          have h8 := chSpread_any dl d cl cd n m (clN n (cmsB n P) k0) (stX P (clN n (cmsB n P) k0)) U (hil.below hU) hx hme (fun y hy => (clN_mem.1 hy).1) h1 (by omega) (by have := clN_le n (cmsB n P) k0; omega)
          rw [show sprQ (clN n (cmsB n P) k0) (stX P (clN n (cmsB n P) k0)) m = stQ P (clN n (cmsB n P) k0) by rw [← hme]; rfl] at h8
          exact h8
        obtain ⟨gx, ox, rfl, hgx, c0⟩ := HXC.out
        obtain ⟨q, hqq⟩ : ∃ q, Q.length = q := ⟨_, rfl⟩
        have hatq : at_ < q := by rw [← hqq]; exact hatQ
        clear HXC hil hrw hq2 hone9 hl9 hk0 hqe HCN HCN1 HC9 HIX HCSW hmany hme hatQ
        simp only [hqq]
        clear hqq
        go_upto_region 7 with fail
        generalize hW : w2 = W at *
        clear hW
        have HB : Hid (Below W.heap.size W W.drew) := (Below.refl _ _).drew
        have HELD : Hid (∀ u, Below W.heap.size W u → u.cell? ⟨gx, ox + at_, none⟩ = some (.slice dl m cl)) := fun u h => (h.cell (p := ⟨gx, _, none⟩) hgx).trans c0
        clear c0
        refine wp_region_held_drew (S := fun u => u.cell? ⟨gx, ox + at_, none⟩ = some (.slice dl m cl)) (by kernel_rfl) (HELD.out _ HB.out) (fun hSd => ?_)
        generalize W.drew = u0 at *
        refine wpAnyH_take (i := 0) (oi := _) (v := .slice a n ca) rfl (by kernel_rfl) (by kernel_rfl) (by kernel_rfl) (fun _ _ _ h => h) (Or.inl ⟨by rfl, ?_⟩) (by assumption) ?_
        · intro u' hSu
          (try simp only [List.getElem_toArray, List.getElem_cons_zero])
          go_simp
        (try simp only [List.getElem_toArray, List.getElem_cons_zero])
        (try simp only [Act.put, List.setIfInBounds_toArray, List.set_cons_zero, List.set_cons_succ])
        refine wpAnyH_take (i := 1) (oi := _) (v := .int .i64 (n : Nat)) rfl (by kernel_rfl) (by kernel_rfl) (by kernel_rfl) (fun _ _ _ h => h) (Or.inl ⟨by rfl, ?_⟩) (by assumption) ?_
        · intro u' hSu
          (try simp only [List.getElem_toArray, List.getElem_cons_zero, List.getElem_cons_succ])
          go_simp
        (try simp only [List.getElem_toArray, List.getElem_cons_zero, List.getElem_cons_succ])
        (try simp only [Act.put, List.setIfInBounds_toArray, List.set_cons_zero, List.set_cons_succ])
        refine wpAnyH_take (i := 2) (oi := _) (v := .slice (some ⟨gx, ox, none⟩) q cx) rfl (by kernel_rfl) (by kernel_rfl) (by kernel_rfl) (fun _ _ _ h => h) (Or.inl ⟨by rfl, ?_⟩) (by assumption) ?_
        · intro u' hSu
          (try simp only [List.getElem_toArray, List.getElem_cons_zero, List.getElem_cons_succ])
          go_simp
        (try simp only [List.getElem_toArray, List.getElem_cons_zero, List.getElem_cons_succ])
        (try simp only [Act.put, List.setIfInBounds_toArray, List.set_cons_zero, List.set_cons_succ])
        refine wpAnyH_take (i := 3) (oi := _) (v := .int .i64 (at_ : Nat)) rfl (by kernel_rfl) (by kernel_rfl) (by kernel_rfl) (fun _ _ _ h => h) (Or.inl ⟨by rfl, ?_⟩) (by assumption) ?_
        · intro u' hSu
          (try simp only [List.getElem_toArray, List.getElem_cons_zero, List.getElem_cons_succ])
          go_simp
        (try simp only [List.getElem_toArray, List.getElem_cons_zero, List.getElem_cons_succ])
        (try simp only [Act.put, List.setIfInBounds_toArray, List.set_cons_zero, List.set_cons_succ])
        refine wpAnyH_take (i := 4) (oi := _) (v := .pointer (some ⟨gx, ox + at_, none⟩)) rfl (by kernel_rfl) (by kernel_rfl) (by kernel_rfl) (fun _ _ _ h => h) (Or.inl ⟨by rfl, ?_⟩) (by assumption) ?_
        · intro u' hSu
          (try simp only [List.getElem_toArray, List.getElem_cons_zero, List.getElem_cons_succ])
          go_simp
        (try simp only [List.getElem_toArray, List.getElem_cons_zero, List.getElem_cons_succ])
        (try simp only [Act.put, List.setIfInBounds_toArray, List.set_cons_zero, List.set_cons_succ])
        refine wpAnyH_take (i := 5) (oi := _) (v := .slice dl m cl) rfl (by kernel_rfl) (by kernel_rfl) (by kernel_rfl) (fun _ _ _ h => h) (Or.inl ⟨by rfl, ?_⟩) (by assumption) ?_
        · intro u' hSu
          (try simp only [List.getElem_toArray, List.getElem_cons_zero, List.getElem_cons_succ])
          obtain s0 := hSu
          go_simp
        (try simp only [List.getElem_toArray, List.getElem_cons_zero, List.getElem_cons_succ])
        (try simp only [Act.put, List.setIfInBounds_toArray, List.set_cons_zero, List.set_cons_succ])
        refine wpAnyH_take (i := 6) (oi := _) (v := .slice a n ca) rfl (by kernel_rfl) (by kernel_rfl) (by kernel_rfl) (fun _ _ _ h => h) (Or.inl ⟨by rfl, ?_⟩) (by assumption) ?_
        · intro u' hSu
          (try simp only [List.getElem_toArray, List.getElem_cons_zero, List.getElem_cons_succ])
          go_simp
        (try simp only [List.getElem_toArray, List.getElem_cons_zero, List.getElem_cons_succ])
        (try simp only [Act.put, List.setIfInBounds_toArray, List.set_cons_zero, List.set_cons_succ])
        refine wpAnyH_take (i := 7) (oi := _) (v := .slice (some ⟨gx, ox, none⟩) q cx) rfl (by kernel_rfl) (by kernel_rfl) (by kernel_rfl) (fun _ _ _ h => h) (Or.inl ⟨by rfl, ?_⟩) (by assumption) ?_
        · intro u' hSu
          (try simp only [List.getElem_toArray, List.getElem_cons_zero, List.getElem_cons_succ])
          go_simp
        (try simp only [List.getElem_toArray, List.getElem_cons_zero, List.getElem_cons_succ])
        (try simp only [Act.put, List.setIfInBounds_toArray, List.set_cons_zero, List.set_cons_succ])
        refine wpAnyH_take (i := 8) (oi := _) (v := .int .i64 (at_ : Nat)) rfl (by kernel_rfl) (by kernel_rfl) (by kernel_rfl) (fun _ _ _ h => h) (Or.inl ⟨by rfl, ?_⟩) (by assumption) ?_
        · intro u' hSu
          (try simp only [List.getElem_toArray, List.getElem_cons_zero, List.getElem_cons_succ])
          go_simp
        (try simp only [List.getElem_toArray, List.getElem_cons_zero, List.getElem_cons_succ])
        (try simp only [Act.put, List.setIfInBounds_toArray, List.set_cons_zero, List.set_cons_succ])
        refine wpAnyH_take (i := 9) (oi := _) (v := .pointer (some ⟨gx, ox + at_, none⟩)) rfl (by kernel_rfl) (by kernel_rfl) (by kernel_rfl) (fun _ _ _ h => h) (Or.inl ⟨by rfl, ?_⟩) (by assumption) ?_
        · intro u' hSu
          (try simp only [List.getElem_toArray, List.getElem_cons_zero, List.getElem_cons_succ])
          go_simp
        (try simp only [List.getElem_toArray, List.getElem_cons_zero, List.getElem_cons_succ])
        (try simp only [Act.put, List.setIfInBounds_toArray, List.set_cons_zero, List.set_cons_succ])
        refine wpAnyH_take (i := 10) (oi := _) (v := .slice dl m cl) rfl (by kernel_rfl) (by kernel_rfl) (by kernel_rfl) (fun _ _ _ h => h) (Or.inl ⟨by rfl, ?_⟩) (by assumption) ?_
        · intro u' hSu
          (try simp only [List.getElem_toArray, List.getElem_cons_zero, List.getElem_cons_succ])
          obtain s0 := hSu
          go_simp
        (try simp only [List.getElem_toArray, List.getElem_cons_zero, List.getElem_cons_succ])
        (try simp only [Act.put, List.setIfInBounds_toArray, List.set_cons_zero, List.set_cons_succ])
        refine wpAnyH_ready (rs := [11]) (by kernel_rfl) (by simp) (AllReadyH.cons rfl ?_ (AllReadyH.nil))
        · intro K' hK'
          (try simp only [List.getElem_toArray, List.getElem_cons_zero, List.getElem_cons_succ])
          go_simp
          refine (HSI.out _ HB.out).mono ?_
          rintro e u1 ⟨S1, rfl, hS1, hr1, hb⟩
          replace HB := hid (HB.out.trans (hb.mono HB.out.size))
          have HR1 := hid hr1
          refine hK'.out _ _ (HELD.out _ HB.out) (fun hSe => ?_)
          clear hK' K' hSd hb hr1 hS1
          have hSd := hSe
          clear hSe
          (try simp only [List.getElem_toArray, List.getElem_cons_zero, List.getElem_cons_succ])
          (try simp only [Act.put, List.setIfInBounds_toArray, List.set_cons_zero, List.set_cons_succ])
          refine wpAnyH_ready (rs := [12]) (by kernel_rfl) (by simp) (AllReadyH.cons rfl ?_ (AllReadyH.nil))
          · intro K' hK'
            (try simp only [List.getElem_toArray, List.getElem_cons_zero, List.getElem_cons_succ])
            go_simp
            refine (HSPR.out _ HB.out (some ⟨S1, 0, none⟩) m HR1.out.fr).mono ?_
            rintro e u2 ⟨G2, rfl, hG2, hr2, hb⟩
            have HG2 : Hid (W.heap.size ≤ G2) := Nat.le_trans HB.out.size hG2
            replace HB := hid (HB.out.trans (hb.mono HB.out.size))
            have HR2 := hid hr2
            refine hK'.out _ _ (HELD.out _ HB.out) (fun hSe => ?_)
            clear hK' K' hSd hb hr2 hG2
            have hSd := hSe
            clear hSe
            (try simp only [List.getElem_toArray, List.getElem_cons_zero, List.getElem_cons_succ])
            (try simp only [Act.put, List.setIfInBounds_toArray, List.set_cons_zero, List.set_cons_succ])
            refine wpAnyH_take (i := 13) (oi := _) (v := .slice (some ⟨G2, 0, none⟩) n n) rfl (by kernel_rfl) (by kernel_rfl) (by kernel_rfl) (fun _ _ _ h => h) (Or.inl ⟨by rfl, ?_⟩) (by assumption) ?_
            · intro u' hSu
              (try simp only [List.getElem_toArray, List.getElem_cons_zero, List.getElem_cons_succ])
              go_simp
            (try simp only [List.getElem_toArray, List.getElem_cons_zero, List.getElem_cons_succ])
            (try simp only [Act.put, List.setIfInBounds_toArray, List.set_cons_zero, List.set_cons_succ])
            refine wpAnyH_take (i := 14) (oi := _) (v := .int .i64 0) rfl (by kernel_rfl) (by kernel_rfl) (by kernel_rfl) (fun _ _ _ h => h) (Or.inl ⟨by rfl, ?_⟩) (by assumption) ?_
            · intro u' hSu
              (try simp only [List.getElem_toArray, List.getElem_cons_zero, List.getElem_cons_succ])
              go_simp
            (try simp only [List.getElem_toArray, List.getElem_cons_zero, List.getElem_cons_succ])
            (try simp only [Act.put, List.setIfInBounds_toArray, List.set_cons_zero, List.set_cons_succ])
            refine wpAnyH_done (by kernel_rfl) ?_ _
            clear hSd
            have HBF := hid (HBW.out.trans (HB.out.mono HBW.out.size))
            have HGF : Hid (w.heap.size ≤ G2) := Nat.le_trans HBW.out.size HG2.out
            go_wp2
            go_ret2
            exact ⟨HBF.out, .inl ⟨k0, G2, HONE.out, rfl, HGF.out, HR2.out⟩⟩
end Go.Proofs.YtbejijgelljeaaaGreatDoor


/- Back of package chain. -/
namespace Go.Proofs.YtbejijgelljeaaaGreatDoor
open Go.RowKit Go.Shelf

theorem stX_fits {n : Nat} {P : Nat → Nat → Rat} {l : List Nat} (hc : Cls n P l) (hm : ChM n P) {k : Nat} (hk : k < l.length) : Fits 3413 (stX P l k) := by
  have h5 : l.length ≤ 5 := Nat.le_trans (nod_most hc.nd hc.lt) hm.five
  exact fits_up (elm_fits (b := 3) (fun i c hi _ => sM_fits hm.fit hc.lt i c hi) (fun j hj => hc.piv hm.chn j hj) _ (Nat.le_refl _) k _ hk (Nat.le_refl _)) (Nat.le_trans (bE_mono 3 h5) (by decide))
theorem stQ_fits {n : Nat} {P : Nat → Nat → Rat} {l : List Nat} (hc : Cls n P l) (hm : ChM n P) (i : Nat) : Fits 3413 (stQ P l i) := by
  by_cases e : i ∈ l
  · obtain ⟨k, hk, rfl⟩ := getD_of e
    rw [stQ_on hc hk]
    exact stX_fits hc hm hk
  · rw [stQ_off e]
    exact fits_up fits_zero (by omega)
set_option maxRecDepth 100000 in
set_option maxHeartbeats 4000000 in
theorem chBack_any (a : Option Addr) (ca n i : Nat) (P : Nat → Nat → Rat) (w : World) (hR : FsS w a (mR n P)) (hm : ChM n P) (hi : i < n) :
    Calls Tryz.prog 23 #[.slice a n ca, .int .i64 (i : Nat)] w fun e w' => Below w.heap.size w w' ∧ ((stB n (cmsB n P) i = true ∧ e = .returned (.tuple #[.agg #[.bool (qF (1 / stQ P (clN n (cmsB n P) i) i)).1, .string (qF (1 / stQ P (clN n (cmsB n P) i) i)).2.1, .string (qF (1 / stQ P (clN n (cmsB n P) i) i)).2.2], .int .i64 0])) ∨ (stB n (cmsB n P) i = false ∧ e = .returned (.tuple #[.agg #[.bool false, .string ⟨#[]⟩, .string ⟨#[]⟩], .int .i64 16]))) := by
  have h1 := hm.one
  have h5 := hm.five
  have HCK := hid (fun (U : World) (hU : FsS U a (mR n P)) => chCheck_yes a ca n (mR n P) U hU hm.ok h1 (by omega))
  have HCO := hid (fun (U : World) (hU : FsS U a (mR n P)) => chComes_any a ca n (mR n P) P U hU (mR_length n P) hm.lst (by omega))
  have HO1 := hid (fun V : World => fOf_q (k := 1) (w := V) 1 1 rfl (by decide) (by rfl))
  have HCLI := hid (fun (B G : Nat) (Rw : Nat → Nat) (U : World) (hM : BMt U B G n n Rw (cmsB n P)) => chClass_any B G n i Rw (cmsB n P) U hM hi (by omega))
  have HCM := hid hm
  have HR := hid hR
  clear hR hm
  have hA := (Below.refl w.heap.size w).alloc (Nat.le_refl _) (FC false ⟨#[]⟩ ⟨#[]⟩)
  have hX := Box.new w false ⟨#[]⟩ ⟨#[]⟩
  have HB0 := hid hA
  have HX0 := hid hX
  clear hA hX
  obtain ⟨l, hl⟩ : ∃ l, clN n (cmsB n P) i = l := ⟨_, rfl⟩
  have HML : Hid (i ∈ l) := by rw [← hl]; exact clN_mem.2 ⟨hi, cms_self _ _ _, cms_self _ _ _⟩
  have HND : Hid (l.Nodup) := by rw [← hl]; exact clN_nodup _ _ _
  have hlen : l.length ≤ n := by rw [← hl]; exact clN_le _ _ _
  have HCLS : Hid (stB n (cmsB n P) i = true → Cls n P l) := fun h => by rw [← hl]; exact cls_of hi h
  rw [hl] at HCLI ⊢
  clear hl
  obtain ⟨st, hst⟩ : ∃ st, stB n (cmsB n P) i = st := ⟨_, rfl⟩
  rw [hst] at HCLI HCLS ⊢
  clear hst
  go_enter Tryz.func23, Tryz.ntmps23
  go_wp2_with fail
  generalize (w.alloc (FC false ⟨#[]⟩ ⟨#[]⟩)) = w0 at *
  refine (HCK.out _ (HR.out.below HB0.out)).mono ?_
  rintro e1 w1 ⟨rfl, hb1⟩
  have HB1 := hid (HB0.out.trans (hb1.mono HB0.out.size))
  have HX1 := hid (HX0.out.below hb1 HX0.out.lt)
  clear hb1 HCK HB0 HX0
  have hlo : ¬ ((i : Int) < 0) := by omega
  have hhi : ¬ ((n : Int) ≤ (i : Int)) := by omega
  go_wp2_with fail
  refine (HCO.out _ (HR.out.below HB1.out)).mono ?_
  rintro e1 w3 ⟨G, Rw, rfl, hm3, hb3⟩
  have HB3 := hid (HB1.out.trans (hb3.mono HB1.out.size))
  have HX3 := hid (HX1.out.below hb3 HX1.out.lt)
  have HM3 := hid hm3
  clear hb3 hm3 HCO HB1 HX1
  go_wp2_with fail
  refine (HCLI.out _ G Rw _ HM3.out).mono ?_
  rintro e1 w4 ⟨v, rfl, hr4, hb4⟩
  have HB4 := hid (HB3.out.trans (hb4.mono HB3.out.size))
  have HX4 := hid (HX3.out.below hb4 HX3.out.lt)
  obtain ⟨dv, cv, rfl, hiv⟩ := RwI.ints hr4
  rw [iL_length]
  have HIV := hid hiv
  clear hr4 hb4 hiv HCLI HB3 HX3 HM3
  cases st with
  | false =>
    obtain ⟨k0, k1, k2⟩ : w4.cell? ⟨w.heap.size, 0, none⟩ = some (.bool false) ∧ w4.cell? ⟨w.heap.size, 1, none⟩ = some (.string ⟨#[]⟩) ∧ w4.cell? ⟨w.heap.size, 2, none⟩ = some (.string ⟨#[]⟩) := ⟨HX4.out.c0, HX4.out.c1, HX4.out.c2⟩
    have f0 := HX4.out.fz 0
    have f1 := HX4.out.fz 1
    have f2 := HX4.out.fz 2
    have HX9 := hid (HX4.out.put false ⟨#[]⟩ ⟨#[]⟩)
    have HB9 := hid (((HB4.out.setCell (p := ⟨w.heap.size, 0, none⟩) (Nat.le_refl _) (.bool false)).setCell (p := ⟨w.heap.size, 1, none⟩) (Nat.le_refl _) (.string ⟨#[]⟩)).setCell (p := ⟨w.heap.size, 2, none⟩) (Nat.le_refl _) (.string ⟨#[]⟩))
    clear HX4 HB4
    go_wp2
    refine bodyPost_ret (HX9.out.result2 rfl _ rfl) rfl ?_
    first | exact ⟨HB9.out, .inr ⟨rfl, rfl⟩⟩ | exact ⟨HB9.out, rfl⟩
  | true =>
    have hcls := HCLS.out rfl
    obtain ⟨k, hk, hke⟩ := List.mem_iff_getElem.1 HML.out
    have hgd : l.getD k 0 = i := by rw [List.getD_eq_getElem?_getD, List.getElem?_eq_getElem hk]; exact hke
    have HSQ : Hid (stQ P l i = stX P l k) := by
      show _ = _
      rw [← hgd]
      exact stQ_on hcls hk
    have hpos := hcls.pos HCM.out.chn k hk
    have hfit := stX_fits hcls HCM.out hk
    have HDV : Hid (∀ U : World, Calls Tryz.prog 49 #[.agg #[.bool (sgn 1), .string (nu 1), .string (de 1)], .agg #[.bool (qF (stX P l k)).1, .string (qF (stX P l k)).2.1, .string (qF (stX P l k)).2.2]] U fun e w' => e = .returned (.tuple #[.agg #[.bool (qF (1 / stQ P l i)).1, .string (qF (1 / stQ P l i)).2.1, .string (qF (1 / stQ P l i)).2.2], .int .i64 0]) ∧ Below U.heap.size U w') := fun U => fDiv_q (1 / stQ P l i) (val_own 1) (val_own (stX P l k)) (by grind) (congrArg (fun x => 1 / x) HSQ.out.symm) (by have h1 : qw 1 ≤ 2 := qw_one2; rw [own_size]; omega) (by show (nu _).size + (de _).size ≤ _; rw [own_size]; have := fits_qw hfit; omega)
    have HSI := hid (fun (U : World) (hU : FsS U a (mR n P)) (hI : IntS U dv (iL l)) => chStill_in a dv ca cv n l.length P l U hU hI rfl hcls HCM.out)
    have HIX := hid (fun (U : World) (hI : IntS U dv (iL l)) => slIndexI_at dv cv l.length k l U hI rfl HND.out hk (by omega))
    rw [hke] at HIX
    obtain ⟨m, hme⟩ : ∃ m, l.length = m := ⟨_, rfl⟩
    rw [hme] at HSI HIX hk hlen
    simp only [hme]
    clear hcls hke hgd hpos hfit hme HSQ HML HND
    go_wp2_with fail
    refine (HO1.out _).mono ?_
    rintro e1 w5 ⟨rfl, hb5⟩
    have HB5 := hid (HB4.out.trans (hb5.mono HB4.out.size))
    have HX5 := hid (HX4.out.below hb5 HX4.out.lt)
    have HI5 := hid (HIV.out.below hb5)
    clear hb5 HB4 HX4 HIV
    go_wp2_with fail
    refine (HSI.out _ (HR.out.below HB5.out) HI5.out).mono ?_
    rintro e1 w6 ⟨S, rfl, hS, hr6, hb6⟩
    have HB6 := hid (HB5.out.trans (hb6.mono HB5.out.size))
    have HX6 := hid (HX5.out.below hb6 HX5.out.lt)
    have HI6 := hid (HI5.out.below hb6)
    have HR6 := hid hr6
    clear hb6 hr6 hS HB5 HX5 HI5
    go_wp2_with fail
    refine (HIX.out _ HI6.out).mono ?_
    rintro e1 w7 ⟨rfl, rfl⟩
    obtain ⟨c0, c1, c2⟩ := HR6.out.cells k (by rw [lF_length]; exact hk)
    rw [lF_get] at c0 c1 c2
    generalize hz : qF (stX P l k) = z at *
    obtain ⟨an, ax, ay⟩ := z
    simp only at c0 c1 c2 HDV
    clear hz
    go_wp2_with fail
    refine (HDV.out _).mono ?_
    rintro e1 w8 ⟨rfl, hb8⟩
    have HX8 := hid (HX6.out.below hb8 HX6.out.lt)
    have HB8 := hid (HB6.out.trans (hb8.mono HB6.out.size))
    clear c0 c1 c2 hb8 HX6 HB6 HR6
    generalize hz : qF (1 / stQ P l i) = z at *
    obtain ⟨qn, qx, qy⟩ := z
    have HZ := hid hz
    clear hz
    simp only
    have k0 := HX8.out.c0
    have k1 := HX8.out.c1
    have k2 := HX8.out.c2
    have f0 := HX8.out.fz 0
    have f1 := HX8.out.fz 1
    have f2 := HX8.out.fz 2
    have HX9 := hid (HX8.out.put qn qx qy)
    have HB9 := hid (((HB8.out.setCell (p := ⟨w.heap.size, 0, none⟩) (Nat.le_refl _) (.bool qn)).setCell (p := ⟨w.heap.size, 1, none⟩) (Nat.le_refl _) (.string qx)).setCell (p := ⟨w.heap.size, 2, none⟩) (Nat.le_refl _) (.string qy))
    clear HX8 HB8
    go_wp2
    refine bodyPost_ret (HX9.out.result2 rfl _ rfl) rfl ?_
    first | exact ⟨HB9.out, .inl ⟨rfl, by rw [HZ.out]; rfl⟩⟩ | exact ⟨HB9.out, by rw [HZ.out]; rfl⟩
end Go.Proofs.YtbejijgelljeaaaGreatDoor

