/- Still of package chain. -/
import Derived.Test.YtbejijgelljeaaaGreatDoorStlCPwStlQ
import Derived.Test.YtbejijgelljeaaaGreatDoorNetDPwMadB
import Derived.Deep.QuietTactic
import Derived.BigQuiet
import Derived.Test.YtbejijgelljeaaaGreatDoorChnPPwRtC
import Derived.Test.YtbejijgelljeaaaGreatDoorCore1PwMem
import Derived.Deep.RegionHeld3
import Derived.Deep.OwnRows
import Derived.Laws.EntriesVeiled
import Derived.Shelf.Slices.CompactI
import Derived.Test.YtbejijgelljeaaaGreatDoorMadCPwChnA
namespace Go.Proofs.YtbejijgelljeaaaGreatDoor
open Go.RowKit Go.Shelf
/-- The bools of the classes. -/
abbrev clB (n : Nat) (P : Nat → Nat → Rat) : List Bool := (lstN n (cmsB n P) n).map (stB n (cmsB n P))
theorem clB_true {n : Nat} {P : Nat → Nat → Rat} (hn : 1 ≤ n) : true ∈ clB n P := by
  obtain ⟨j, hj, hs⟩ := stB_some (P := P) _ 0 (by omega : 0 < n) (Nat.le_refl _)
  obtain ⟨k, hk, hm⟩ := lst_of (P := P) hj
  exact List.mem_map.2 ⟨k, hk, stB_same hj hm hs⟩
/-- What Still answers: the only closed class's, or that there are more. -/
structure OneC (n : Nat) (P : Nat → Nat → Rat) (k : Nat) : Prop where
  mem : k ∈ lstN n (cmsB n P) n
  shut : stB n (cmsB n P) k = true
  only : ∀ j, j ∈ lstN n (cmsB n P) n → stB n (cmsB n P) j = true → j = k
theorem OneC.lt {n : Nat} {P : Nat → Nat → Rat} {k : Nat} (h : OneC n P k) : k < n := (lstN_mem.1 h.mem).1
theorem OneC.cls {n : Nat} {P : Nat → Nat → Rat} {k : Nat} (h : OneC n P k) : Cls n P (clN n (cmsB n P) k) := cls_of h.lt h.shut
theorem oneC_of {n : Nat} {P : Nat → Nat → Rat} (hn : 1 ≤ n) (hno : true ∉ (clB n P).drop (fstT (clB n P) + 1)) : ∃ hl : fstT (clB n P) < (lstN n (cmsB n P) n).length, OneC n P (lstN n (cmsB n P) n)[fstT (clB n P)] := by
  obtain ⟨hk, h1, h2⟩ := fstT_spec (clB n P) (clB_true hn)
  have hl : fstT (clB n P) < (lstN n (cmsB n P) n).length := by simpa using hk
  refine ⟨hl, List.getElem_mem hl, by simpa using h1, fun j hj hs => ?_⟩
  obtain ⟨t, ht, rfl⟩ := List.mem_iff_getElem.1 hj
  have htB : t < (clB n P).length := by simpa using ht
  have et : (clB n P)[t] = true := by simpa using hs
  rcases Nat.lt_trichotomy t (fstT (clB n P)) with h | h | h
  · rw [h2 t htB h] at et; cases et
  · simp only [h]
  · refine absurd ?_ hno
    rw [List.mem_iff_getElem]
    exact ⟨t - (fstT (clB n P) + 1), by rw [List.length_drop]; omega, by rw [List.getElem_drop]; simpa [show fstT (clB n P) + 1 + (t - (fstT (clB n P) + 1)) = t by omega] using et⟩
theorem BoS'.drop {w : World} {g o : Nat} {l : List Bool} (h : BoS' w (some ⟨g, o, none⟩) l) (k : Nat) : BoS' w (some ⟨g, o + k, none⟩) (l.drop k) := fun j hj => by
  rw [List.length_drop] at hj
  obtain ⟨g', o', e, h1, h2⟩ := h (k + j) (by omega)
  cases e
  refine ⟨g, o + k, rfl, h1, ?_⟩
  rw [List.getElem_drop, Nat.add_assoc]
  exact h2
set_option maxRecDepth 100000 in
set_option maxHeartbeats 4000000 in
theorem chStill_any (a : Option Addr) (ca n : Nat) (P : Nat → Nat → Rat) (w : World) (hR : FsS w a (mR n P)) {F : Nat} (hm : ChK F n P) :
    Calls Tryz.prog 18 #[.slice a n ca] w fun e w' => Below w.heap.size w w' ∧ ((∃ k G, OneC n P k ∧ e = .returned (.tuple #[.slice (some ⟨G, 0, none⟩) n n, .int .i64 0]) ∧ w.heap.size ≤ G ∧ RowF w' G (lF n (stQ P (clN n (cmsB n P) k)))) ∨ (true ∈ (clB n P).drop (fstT (clB n P) + 1) ∧ e = .returned (.tuple #[.slice none 0 0, .int .i64 13]))) := by
  have h1 := hm.one
  have h5 := hm.five
  have HCS := hid (chClasses_any a ca n P w hR hm)
  have HCM := hid hm
  have HR := hid hR
  have HTR := hid (clB_true (P := P) h1)
  have HONE0 := hid (oneC_of (P := P) h1)
  have hcl : (clB n P).length = (lstN n (cmsB n P) n).length := by simp
  have hll := lstN_le n (cmsB n P) n
  clear hR hm
  obtain ⟨BL, hBL⟩ : ∃ BL, clB n P = BL := ⟨_, rfl⟩
  rw [hBL] at HTR hcl
  have HBLE := hid hBL
  have hbl5 : BL.length ≤ 5 := by omega
  have HCL9 := hid hcl
  clear hBL hcl hll
  obtain ⟨hat, -, -⟩ := fstT_spec BL HTR.out
  obtain ⟨at_, hat_⟩ : ∃ k, fstT BL = k := ⟨_, rfl⟩
  rw [hat_] at hat
  have HAT := hid hat_
  clear hat_
  go_enter Tryz.func18, Tryz.ntmps18
  go_wp2_with fail
  refine HCS.out.mono ?_
  rintro e1 W ⟨x, y, Q, B, rfl, hB, hcs, hbW⟩
  have HBW := hid hbW
  have HQL := hid hcs.len
  obtain ⟨dx, cx, rfl, hxr⟩ := owns_slice hcs.row.1
  obtain ⟨dy, cy, hye, hbo, hcy⟩ := hcs.cl.bos
  have HCSW := hid hcs
  rw [show (lstN n (cmsB n P) n).map (stB n (cmsB n P)) = BL from HBLE.out] at hye hbo hcy
  subst hye
  obtain ⟨gy, oy, hde, -, -⟩ := hbo at_ hat
  subst hde
  have HIX := hid (slIndexBo_any (some ⟨gy, oy, none⟩) cy BL.length BL W hbo rfl (by omega))
  have HCN := hid (slContainsBo_any (some ⟨gy, oy + (at_ + 1), none⟩) (cy - (at_ + 1)) (BL.length - (at_ + 1)) (BL.drop (at_ + 1)) W (hbo.drop (at_ + 1)) (by rw [List.length_drop]) (by omega))
  have HCN1 : Hid (at_ + 1 = cy → Calls Tryz.prog 45 #[.slice (some ⟨gy, oy, none⟩) 0 0, .bool true] W fun e w' => w' = W ∧ e = .returned (.bool (decide (true ∈ BL.drop (at_ + 1))))) := fun hcc => slContainsBo_any (some ⟨gy, oy, none⟩) 0 0 (BL.drop (at_ + 1)) W (fun k hk => absurd hk (by rw [List.length_drop]; omega)) (by rw [List.length_drop]; omega) (by omega)
  clear hbW hcs hbo hxr HCS
  go_wp2_with fail
  refine HIX.out.mono ?_
  rintro e1 w1 ⟨rfl, h9⟩
  rcases h9 with ⟨h9, rfl⟩ | ⟨-, rfl⟩
  · exact absurd HTR.out h9
  · rw [HAT.out]
    have hle : at_ + 1 ≤ BL.length := by omega
    have hle2 : at_ + 1 ≤ cy := by omega
    by_cases hcc : at_ + 1 = cy
    · have HC9 := hid (HCN1.out hcc)
      subst hcc
      go_wp2_with fail
      refine HC9.out.mono ?_
      rintro e1 w2 ⟨rfl, rfl⟩
      by_cases hmany : true ∈ BL.drop (at_ + 1)
      · rw [decide_eq_true hmany]
        have HMY := hid hmany
        clear hmany
        go_wp2
        go_ret2
        exact ⟨HBW.out, .inr ⟨by rw [HBLE.out, HAT.out]; exact HMY.out, rfl⟩⟩
      · rw [decide_eq_false hmany]
        obtain ⟨hl9, hone9⟩ := HONE0.out (by rw [HBLE.out, HAT.out]; exact hmany)
        have hatl : at_ < (lstN n (cmsB n P) n).length := by rw [← HCL9.out]; exact hat
        have HONE : Hid (OneC n P (lstN n (cmsB n P) n)[at_]) := by
          have e9 : fstT (clB n P) = at_ := by rw [HBLE.out]; exact HAT.out
          simp only [e9] at hone9
          exact hone9
        obtain ⟨k0, hk0⟩ : ∃ k, (lstN n (cmsB n P) n)[at_] = k := ⟨_, rfl⟩
        rw [hk0] at HONE
        have hatQ : at_ < Q.length := by rw [HQL.out]; exact hatl
        have hq2 : Q[at_].2 = iL (clN n (cmsB n P) k0) := by
          have h8 : (Q.map (·.2))[at_]? = ((lstN n (cmsB n P) n).map fun k => iL (clN n (cmsB n P) k))[at_]? := by rw [HCSW.out.val]
          rw [List.getElem?_map, List.getElem?_map, List.getElem?_eq_getElem hatQ, List.getElem?_eq_getElem hatl, hk0] at h8
          exact Option.some.inj h8
        have hrw := HCSW.out.row.2 Q[at_] (List.getElem_mem hatQ)
        rw [hq2] at hrw
        obtain ⟨dl, cl, hqe, hil⟩ := RwI.ints hrw
        rw [iL_length] at hqe
        obtain ⟨m, hme⟩ : ∃ m, (clN n (cmsB n P) k0).length = m := ⟨_, rfl⟩
        rw [hme] at hqe
        have HXC : Hid (∃ gx ox, dx = some ⟨gx, ox, none⟩ ∧ gx < w2.heap.size ∧ w2.cell? ⟨gx, ox + at_, none⟩ = some (.slice dl m cl)) := by
          rcases HCSW.out.row.1.2 with ⟨e8, e9⟩ | ⟨g8, cap8, cur8, e8, _, e10, _⟩
          · omega
          · have h8 := HCSW.out.row.1
            rw [e8] at h8
            cases e8
            refine ⟨g8, 0, rfl, (Array.getElem?_eq_some_iff.1 e10).1, ?_⟩
            rw [Nat.zero_add, World.ownsRow.cellAt h8 at_ (by omega)]
            simp [hatQ, hqe]
        have HSI := hid (fun (U : World) (hU : Below w2.heap.size w2 U) => chStill_in a dl ca cl n m P (clN n (cmsB n P) k0) U (HR.out.below (HBW.out.trans (hU.mono HBW.out.size))) (hil.below hU) hme HONE.out.cls HCM.out)
        have HSPR : Hid (∀ (U : World), Below w2.heap.size w2 U → ∀ (d : Option Addr) (cd : Nat), FrS U d (lF m (stX P (clN n (cmsB n P) k0))) → Calls Tryz.prog 34 #[.int .i64 (n : Nat), .slice dl m cl, .slice d m cd] U fun e w' => ∃ G, e = .returned (.slice (some ⟨G, 0, none⟩) n n) ∧ U.heap.size ≤ G ∧ RowF w' G (lF n (stQ P (clN n (cmsB n P) k0))) ∧ Below U.heap.size U w') := fun U hU d cd hx => by
          have h8 := chSpread_any dl d cl cd n m (clN n (cmsB n P) k0) (stX P (clN n (cmsB n P) k0)) U (hil.below hU) hx hme (fun y hy => (clN_mem.1 hy).1) h1 (by omega) (by have := clN_le n (cmsB n P) k0; omega)
          rw [show sprQ (clN n (cmsB n P) k0) (stX P (clN n (cmsB n P) k0)) m = stQ P (clN n (cmsB n P) k0) by rw [← hme]; rfl] at h8
          exact h8
        obtain ⟨gx, ox, rfl, hgx, c0⟩ := HXC.out
        obtain ⟨q, hqq⟩ : ∃ q, Q.length = q := ⟨_, rfl⟩
        have hatq : at_ < q := by rw [← hqq]; exact hatQ
        clear HXC hil hrw hq2 hone9 hl9 hk0 hqe HCN HCN1 HC9 HIX HCSW hmany hme hatQ
        simp only [hqq]
        clear hqq
        go_upto_region 7 with fail
        generalize hW : w2 = W at *
        clear hW
        have HB : Hid (Below W.heap.size W W.drew) := (Below.refl _ _).drew
        have HELD : Hid (∀ u, Below W.heap.size W u → u.cell? ⟨gx, ox + at_, none⟩ = some (.slice dl m cl)) := fun u h => (h.cell (p := ⟨gx, _, none⟩) hgx).trans c0
        clear c0
        refine wp_region_held_drew (S := fun u => u.cell? ⟨gx, ox + at_, none⟩ = some (.slice dl m cl)) (by kernel_rfl) (HELD.out _ HB.out) (fun hSd => ?_)
        generalize W.drew = u0 at *
        refine wpAnyH_take (i := 0) (oi := _) (v := .slice a n ca) rfl (by kernel_rfl) (by kernel_rfl) (by kernel_rfl) (fun _ _ _ h => h) (Or.inl ⟨by rfl, ?_⟩) (by assumption) ?_
        · intro u' hSu
          (try simp only [List.getElem_toArray, List.getElem_cons_zero])
          go_simp
        (try simp only [List.getElem_toArray, List.getElem_cons_zero])
        (try simp only [Act.put, List.setIfInBounds_toArray, List.set_cons_zero, List.set_cons_succ])
        refine wpAnyH_take (i := 1) (oi := _) (v := .int .i64 (n : Nat)) rfl (by kernel_rfl) (by kernel_rfl) (by kernel_rfl) (fun _ _ _ h => h) (Or.inl ⟨by rfl, ?_⟩) (by assumption) ?_
        · intro u' hSu
          (try simp only [List.getElem_toArray, List.getElem_cons_zero, List.getElem_cons_succ])
          go_simp
        (try simp only [List.getElem_toArray, List.getElem_cons_zero, List.getElem_cons_succ])
        (try simp only [Act.put, List.setIfInBounds_toArray, List.set_cons_zero, List.set_cons_succ])
        refine wpAnyH_take (i := 2) (oi := _) (v := .slice (some ⟨gx, ox, none⟩) q cx) rfl (by kernel_rfl) (by kernel_rfl) (by kernel_rfl) (fun _ _ _ h => h) (Or.inl ⟨by rfl, ?_⟩) (by assumption) ?_
        · intro u' hSu
          (try simp only [List.getElem_toArray, List.getElem_cons_zero, List.getElem_cons_succ])
          go_simp
        (try simp only [List.getElem_toArray, List.getElem_cons_zero, List.getElem_cons_succ])
        (try simp only [Act.put, List.setIfInBounds_toArray, List.set_cons_zero, List.set_cons_succ])
        refine wpAnyH_take (i := 3) (oi := _) (v := .int .i64 (at_ : Nat)) rfl (by kernel_rfl) (by kernel_rfl) (by kernel_rfl) (fun _ _ _ h => h) (Or.inl ⟨by rfl, ?_⟩) (by assumption) ?_
        · intro u' hSu
          (try simp only [List.getElem_toArray, List.getElem_cons_zero, List.getElem_cons_succ])
          go_simp
        (try simp only [List.getElem_toArray, List.getElem_cons_zero, List.getElem_cons_succ])
        (try simp only [Act.put, List.setIfInBounds_toArray, List.set_cons_zero, List.set_cons_succ])
        refine wpAnyH_take (i := 4) (oi := _) (v := .pointer (some ⟨gx, ox + at_, none⟩)) rfl (by kernel_rfl) (by kernel_rfl) (by kernel_rfl) (fun _ _ _ h => h) (Or.inl ⟨by rfl, ?_⟩) (by assumption) ?_
        · intro u' hSu
          (try simp only [List.getElem_toArray, List.getElem_cons_zero, List.getElem_cons_succ])
          go_simp
        (try simp only [List.getElem_toArray, List.getElem_cons_zero, List.getElem_cons_succ])
        (try simp only [Act.put, List.setIfInBounds_toArray, List.set_cons_zero, List.set_cons_succ])
        refine wpAnyH_take (i := 5) (oi := _) (v := .slice dl m cl) rfl (by kernel_rfl) (by kernel_rfl) (by kernel_rfl) (fun _ _ _ h => h) (Or.inl ⟨by rfl, ?_⟩) (by assumption) ?_
        · intro u' hSu
          (try simp only [List.getElem_toArray, List.getElem_cons_zero, List.getElem_cons_succ])
          obtain s0 := hSu
          go_simp
        (try simp only [List.getElem_toArray, List.getElem_cons_zero, List.getElem_cons_succ])
        (try simp only [Act.put, List.setIfInBounds_toArray, List.set_cons_zero, List.set_cons_succ])
        refine wpAnyH_take (i := 6) (oi := _) (v := .slice a n ca) rfl (by kernel_rfl) (by kernel_rfl) (by kernel_rfl) (fun _ _ _ h => h) (Or.inl ⟨by rfl, ?_⟩) (by assumption) ?_
        · intro u' hSu
          (try simp only [List.getElem_toArray, List.getElem_cons_zero, List.getElem_cons_succ])
          go_simp
        (try simp only [List.getElem_toArray, List.getElem_cons_zero, List.getElem_cons_succ])
        (try simp only [Act.put, List.setIfInBounds_toArray, List.set_cons_zero, List.set_cons_succ])
        refine wpAnyH_take (i := 7) (oi := _) (v := .slice (some ⟨gx, ox, none⟩) q cx) rfl (by kernel_rfl) (by kernel_rfl) (by kernel_rfl) (fun _ _ _ h => h) (Or.inl ⟨by rfl, ?_⟩) (by assumption) ?_
        · intro u' hSu
          (try simp only [List.getElem_toArray, List.getElem_cons_zero, List.getElem_cons_succ])
          go_simp
        (try simp only [List.getElem_toArray, List.getElem_cons_zero, List.getElem_cons_succ])
        (try simp only [Act.put, List.setIfInBounds_toArray, List.set_cons_zero, List.set_cons_succ])
        refine wpAnyH_take (i := 8) (oi := _) (v := .int .i64 (at_ : Nat)) rfl (by kernel_rfl) (by kernel_rfl) (by kernel_rfl) (fun _ _ _ h => h) (Or.inl ⟨by rfl, ?_⟩) (by assumption) ?_
        · intro u' hSu
          (try simp only [List.getElem_toArray, List.getElem_cons_zero, List.getElem_cons_succ])
          go_simp
        (try simp only [List.getElem_toArray, List.getElem_cons_zero, List.getElem_cons_succ])
        (try simp only [Act.put, List.setIfInBounds_toArray, List.set_cons_zero, List.set_cons_succ])
        refine wpAnyH_take (i := 9) (oi := _) (v := .pointer (some ⟨gx, ox + at_, none⟩)) rfl (by kernel_rfl) (by kernel_rfl) (by kernel_rfl) (fun _ _ _ h => h) (Or.inl ⟨by rfl, ?_⟩) (by assumption) ?_
        · intro u' hSu
          (try simp only [List.getElem_toArray, List.getElem_cons_zero, List.getElem_cons_succ])
          go_simp
        (try simp only [List.getElem_toArray, List.getElem_cons_zero, List.getElem_cons_succ])
        (try simp only [Act.put, List.setIfInBounds_toArray, List.set_cons_zero, List.set_cons_succ])
        refine wpAnyH_take (i := 10) (oi := _) (v := .slice dl m cl) rfl (by kernel_rfl) (by kernel_rfl) (by kernel_rfl) (fun _ _ _ h => h) (Or.inl ⟨by rfl, ?_⟩) (by assumption) ?_
        · intro u' hSu
          (try simp only [List.getElem_toArray, List.getElem_cons_zero, List.getElem_cons_succ])
          obtain s0 := hSu
          go_simp
        (try simp only [List.getElem_toArray, List.getElem_cons_zero, List.getElem_cons_succ])
        (try simp only [Act.put, List.setIfInBounds_toArray, List.set_cons_zero, List.set_cons_succ])
        refine wpAnyH_ready (rs := [11]) (by kernel_rfl) (by simp) (AllReadyH.cons rfl ?_ (AllReadyH.nil))
        · intro K' hK'
          (try simp only [List.getElem_toArray, List.getElem_cons_zero, List.getElem_cons_succ])
          go_simp
          refine (HSI.out _ HB.out).mono ?_
          rintro e u1 ⟨S1, rfl, hS1, hr1, hb⟩
          replace HB := hid (HB.out.trans (hb.mono HB.out.size))
          have HR1 := hid hr1
          refine hK'.out _ _ (HELD.out _ HB.out) (fun hSe => ?_)
          clear hK' K' hSd hb hr1 hS1
          have hSd := hSe
          clear hSe
          (try simp only [List.getElem_toArray, List.getElem_cons_zero, List.getElem_cons_succ])
          (try simp only [Act.put, List.setIfInBounds_toArray, List.set_cons_zero, List.set_cons_succ])
          refine wpAnyH_ready (rs := [12]) (by kernel_rfl) (by simp) (AllReadyH.cons rfl ?_ (AllReadyH.nil))
          · intro K' hK'
            (try simp only [List.getElem_toArray, List.getElem_cons_zero, List.getElem_cons_succ])
            go_simp
            refine (HSPR.out _ HB.out (some ⟨S1, 0, none⟩) m HR1.out.fr).mono ?_
            rintro e u2 ⟨G2, rfl, hG2, hr2, hb⟩
            have HG2 : Hid (W.heap.size ≤ G2) := Nat.le_trans HB.out.size hG2
            replace HB := hid (HB.out.trans (hb.mono HB.out.size))
            have HR2 := hid hr2
            refine hK'.out _ _ (HELD.out _ HB.out) (fun hSe => ?_)
            clear hK' K' hSd hb hr2 hG2
            have hSd := hSe
            clear hSe
            (try simp only [List.getElem_toArray, List.getElem_cons_zero, List.getElem_cons_succ])
            (try simp only [Act.put, List.setIfInBounds_toArray, List.set_cons_zero, List.set_cons_succ])
            refine wpAnyH_take (i := 13) (oi := _) (v := .slice (some ⟨G2, 0, none⟩) n n) rfl (by kernel_rfl) (by kernel_rfl) (by kernel_rfl) (fun _ _ _ h => h) (Or.inl ⟨by rfl, ?_⟩) (by assumption) ?_
            · intro u' hSu
              (try simp only [List.getElem_toArray, List.getElem_cons_zero, List.getElem_cons_succ])
              go_simp
            (try simp only [List.getElem_toArray, List.getElem_cons_zero, List.getElem_cons_succ])
            (try simp only [Act.put, List.setIfInBounds_toArray, List.set_cons_zero, List.set_cons_succ])
            refine wpAnyH_take (i := 14) (oi := _) (v := .int .i64 0) rfl (by kernel_rfl) (by kernel_rfl) (by kernel_rfl) (fun _ _ _ h => h) (Or.inl ⟨by rfl, ?_⟩) (by assumption) ?_
            · intro u' hSu
              (try simp only [List.getElem_toArray, List.getElem_cons_zero, List.getElem_cons_succ])
              go_simp
            (try simp only [List.getElem_toArray, List.getElem_cons_zero, List.getElem_cons_succ])
            (try simp only [Act.put, List.setIfInBounds_toArray, List.set_cons_zero, List.set_cons_succ])
            refine wpAnyH_done (by kernel_rfl) ?_ _
            clear hSd
            have HBF := hid (HBW.out.trans (HB.out.mono HBW.out.size))
            have HGF : Hid (w.heap.size ≤ G2) := Nat.le_trans HBW.out.size HG2.out
            go_wp2
            go_ret2
            exact ⟨HBF.out, .inl ⟨k0, G2, HONE.out, rfl, HGF.out, HR2.out⟩⟩
    · have HC9 := HCN
      have hcc2 : ¬ cy = at_ + 1 := fun e => hcc e.symm
      go_wp2_with fail
      refine HC9.out.mono ?_
      rintro e1 w2 ⟨rfl, rfl⟩
      by_cases hmany : true ∈ BL.drop (at_ + 1)
      · rw [decide_eq_true hmany]
        have HMY := hid hmany
        clear hmany
        go_wp2
        go_ret2
        exact ⟨HBW.out, .inr ⟨by rw [HBLE.out, HAT.out]; exact HMY.out, rfl⟩⟩
      · rw [decide_eq_false hmany]
        obtain ⟨hl9, hone9⟩ := HONE0.out (by rw [HBLE.out, HAT.out]; exact hmany)
        have hatl : at_ < (lstN n (cmsB n P) n).length := by rw [← HCL9.out]; exact hat
        have HONE : Hid (OneC n P (lstN n (cmsB n P) n)[at_]) := by
          have e9 : fstT (clB n P) = at_ := by rw [HBLE.out]; exact HAT.out
          simp only [e9] at hone9
          exact hone9
        obtain ⟨k0, hk0⟩ : ∃ k, (lstN n (cmsB n P) n)[at_] = k := ⟨_, rfl⟩
        rw [hk0] at HONE
        have hatQ : at_ < Q.length := by rw [HQL.out]; exact hatl
        have hq2 : Q[at_].2 = iL (clN n (cmsB n P) k0) := by
          have h8 : (Q.map (·.2))[at_]? = ((lstN n (cmsB n P) n).map fun k => iL (clN n (cmsB n P) k))[at_]? := by rw [HCSW.out.val]
          rw [List.getElem?_map, List.getElem?_map, List.getElem?_eq_getElem hatQ, List.getElem?_eq_getElem hatl, hk0] at h8
          exact Option.some.inj h8
        have hrw := HCSW.out.row.2 Q[at_] (List.getElem_mem hatQ)
        rw [hq2] at hrw
        obtain ⟨dl, cl, hqe, hil⟩ := RwI.ints hrw
        rw [iL_length] at hqe
        obtain ⟨m, hme⟩ : ∃ m, (clN n (cmsB n P) k0).length = m := ⟨_, rfl⟩
        rw [hme] at hqe
        have HXC : Hid (∃ gx ox, dx = some ⟨gx, ox, none⟩ ∧ gx < w2.heap.size ∧ w2.cell? ⟨gx, ox + at_, none⟩ = some (.slice dl m cl)) := by
          rcases HCSW.out.row.1.2 with ⟨e8, e9⟩ | ⟨g8, cap8, cur8, e8, _, e10, _⟩
          · omega
          · have h8 := HCSW.out.row.1
            rw [e8] at h8
            cases e8
            refine ⟨g8, 0, rfl, (Array.getElem?_eq_some_iff.1 e10).1, ?_⟩
            rw [Nat.zero_add, World.ownsRow.cellAt h8 at_ (by omega)]
            simp [hatQ, hqe]
        have HSI := hid (fun (U : World) (hU : Below w2.heap.size w2 U) => chStill_in a dl ca cl n m P (clN n (cmsB n P) k0) U (HR.out.below (HBW.out.trans (hU.mono HBW.out.size))) (hil.below hU) hme HONE.out.cls HCM.out)
        have HSPR : Hid (∀ (U : World), Below w2.heap.size w2 U → ∀ (d : Option Addr) (cd : Nat), FrS U d (lF m (stX P (clN n (cmsB n P) k0))) → Calls Tryz.prog 34 #[.int .i64 (n : Nat), .slice dl m cl, .slice d m cd] U fun e w' => ∃ G, e = .returned (.slice (some ⟨G, 0, none⟩) n n) ∧ U.heap.size ≤ G ∧ RowF w' G (lF n (stQ P (clN n (cmsB n P) k0))) ∧ Below U.heap.size U w') := fun U hU d cd hx => by
          have h8 := chSpread_any dl d cl cd n m (clN n (cmsB n P) k0) (stX P (clN n (cmsB n P) k0)) U (hil.below hU) hx hme (fun y hy => (clN_mem.1 hy).1) h1 (by omega) (by have := clN_le n (cmsB n P) k0; omega)
          rw [show sprQ (clN n (cmsB n P) k0) (stX P (clN n (cmsB n P) k0)) m = stQ P (clN n (cmsB n P) k0) by rw [← hme]; rfl] at h8
          exact h8
        obtain ⟨gx, ox, rfl, hgx, c0⟩ := HXC.out
        obtain ⟨q, hqq⟩ : ∃ q, Q.length = q := ⟨_, rfl⟩
        have hatq : at_ < q := by rw [← hqq]; exact hatQ
        clear HXC hil hrw hq2 hone9 hl9 hk0 hqe HCN HCN1 HC9 HIX HCSW hmany hme hatQ
        simp only [hqq]
        clear hqq
        go_upto_region 7 with fail
        generalize hW : w2 = W at *
        clear hW
        have HB : Hid (Below W.heap.size W W.drew) := (Below.refl _ _).drew
        have HELD : Hid (∀ u, Below W.heap.size W u → u.cell? ⟨gx, ox + at_, none⟩ = some (.slice dl m cl)) := fun u h => (h.cell (p := ⟨gx, _, none⟩) hgx).trans c0
        clear c0
        refine wp_region_held_drew (S := fun u => u.cell? ⟨gx, ox + at_, none⟩ = some (.slice dl m cl)) (by kernel_rfl) (HELD.out _ HB.out) (fun hSd => ?_)
        generalize W.drew = u0 at *
        refine wpAnyH_take (i := 0) (oi := _) (v := .slice a n ca) rfl (by kernel_rfl) (by kernel_rfl) (by kernel_rfl) (fun _ _ _ h => h) (Or.inl ⟨by rfl, ?_⟩) (by assumption) ?_
        · intro u' hSu
          (try simp only [List.getElem_toArray, List.getElem_cons_zero])
          go_simp
        (try simp only [List.getElem_toArray, List.getElem_cons_zero])
        (try simp only [Act.put, List.setIfInBounds_toArray, List.set_cons_zero, List.set_cons_succ])
        refine wpAnyH_take (i := 1) (oi := _) (v := .int .i64 (n : Nat)) rfl (by kernel_rfl) (by kernel_rfl) (by kernel_rfl) (fun _ _ _ h => h) (Or.inl ⟨by rfl, ?_⟩) (by assumption) ?_
        · intro u' hSu
          (try simp only [List.getElem_toArray, List.getElem_cons_zero, List.getElem_cons_succ])
          go_simp
        (try simp only [List.getElem_toArray, List.getElem_cons_zero, List.getElem_cons_succ])
        (try simp only [Act.put, List.setIfInBounds_toArray, List.set_cons_zero, List.set_cons_succ])
        refine wpAnyH_take (i := 2) (oi := _) (v := .slice (some ⟨gx, ox, none⟩) q cx) rfl (by kernel_rfl) (by kernel_rfl) (by kernel_rfl) (fun _ _ _ h => h) (Or.inl ⟨by rfl, ?_⟩) (by assumption) ?_
        · intro u' hSu
          (try simp only [List.getElem_toArray, List.getElem_cons_zero, List.getElem_cons_succ])
          go_simp
        (try simp only [List.getElem_toArray, List.getElem_cons_zero, List.getElem_cons_succ])
        (try simp only [Act.put, List.setIfInBounds_toArray, List.set_cons_zero, List.set_cons_succ])
        refine wpAnyH_take (i := 3) (oi := _) (v := .int .i64 (at_ : Nat)) rfl (by kernel_rfl) (by kernel_rfl) (by kernel_rfl) (fun _ _ _ h => h) (Or.inl ⟨by rfl, ?_⟩) (by assumption) ?_
        · intro u' hSu
          (try simp only [List.getElem_toArray, List.getElem_cons_zero, List.getElem_cons_succ])
          go_simp
        (try simp only [List.getElem_toArray, List.getElem_cons_zero, List.getElem_cons_succ])
        (try simp only [Act.put, List.setIfInBounds_toArray, List.set_cons_zero, List.set_cons_succ])
        refine wpAnyH_take (i := 4) (oi := _) (v := .pointer (some ⟨gx, ox + at_, none⟩)) rfl (by kernel_rfl) (by kernel_rfl) (by kernel_rfl) (fun _ _ _ h => h) (Or.inl ⟨by rfl, ?_⟩) (by assumption) ?_
        · intro u' hSu
          (try simp only [List.getElem_toArray, List.getElem_cons_zero, List.getElem_cons_succ])
          go_simp
        (try simp only [List.getElem_toArray, List.getElem_cons_zero, List.getElem_cons_succ])
        (try simp only [Act.put, List.setIfInBounds_toArray, List.set_cons_zero, List.set_cons_succ])
        refine wpAnyH_take (i := 5) (oi := _) (v := .slice dl m cl) rfl (by kernel_rfl) (by kernel_rfl) (by kernel_rfl) (fun _ _ _ h => h) (Or.inl ⟨by rfl, ?_⟩) (by assumption) ?_
        · intro u' hSu
          (try simp only [List.getElem_toArray, List.getElem_cons_zero, List.getElem_cons_succ])
          obtain s0 := hSu
          go_simp
        (try simp only [List.getElem_toArray, List.getElem_cons_zero, List.getElem_cons_succ])
        (try simp only [Act.put, List.setIfInBounds_toArray, List.set_cons_zero, List.set_cons_succ])
        refine wpAnyH_take (i := 6) (oi := _) (v := .slice a n ca) rfl (by kernel_rfl) (by kernel_rfl) (by kernel_rfl) (fun _ _ _ h => h) (Or.inl ⟨by rfl, ?_⟩) (by assumption) ?_
        · intro u' hSu
          (try simp only [List.getElem_toArray, List.getElem_cons_zero, List.getElem_cons_succ])
          go_simp
        (try simp only [List.getElem_toArray, List.getElem_cons_zero, List.getElem_cons_succ])
        (try simp only [Act.put, List.setIfInBounds_toArray, List.set_cons_zero, List.set_cons_succ])
        refine wpAnyH_take (i := 7) (oi := _) (v := .slice (some ⟨gx, ox, none⟩) q cx) rfl (by kernel_rfl) (by kernel_rfl) (by kernel_rfl) (fun _ _ _ h => h) (Or.inl ⟨by rfl, ?_⟩) (by assumption) ?_
        · intro u' hSu
          (try simp only [List.getElem_toArray, List.getElem_cons_zero, List.getElem_cons_succ])
          go_simp
        (try simp only [List.getElem_toArray, List.getElem_cons_zero, List.getElem_cons_succ])
        (try simp only [Act.put, List.setIfInBounds_toArray, List.set_cons_zero, List.set_cons_succ])
        refine wpAnyH_take (i := 8) (oi := _) (v := .int .i64 (at_ : Nat)) rfl (by kernel_rfl) (by kernel_rfl) (by kernel_rfl) (fun _ _ _ h => h) (Or.inl ⟨by rfl, ?_⟩) (by assumption) ?_
        · intro u' hSu
          (try simp only [List.getElem_toArray, List.getElem_cons_zero, List.getElem_cons_succ])
          go_simp
        (try simp only [List.getElem_toArray, List.getElem_cons_zero, List.getElem_cons_succ])
        (try simp only [Act.put, List.setIfInBounds_toArray, List.set_cons_zero, List.set_cons_succ])
        refine wpAnyH_take (i := 9) (oi := _) (v := .pointer (some ⟨gx, ox + at_, none⟩)) rfl (by kernel_rfl) (by kernel_rfl) (by kernel_rfl) (fun _ _ _ h => h) (Or.inl ⟨by rfl, ?_⟩) (by assumption) ?_
        · intro u' hSu
          (try simp only [List.getElem_toArray, List.getElem_cons_zero, List.getElem_cons_succ])
          go_simp
        (try simp only [List.getElem_toArray, List.getElem_cons_zero, List.getElem_cons_succ])
        (try simp only [Act.put, List.setIfInBounds_toArray, List.set_cons_zero, List.set_cons_succ])
        refine wpAnyH_take (i := 10) (oi := _) (v := .slice dl m cl) rfl (by kernel_rfl) (by kernel_rfl) (by kernel_rfl) (fun _ _ _ h => h) (Or.inl ⟨by rfl, ?_⟩) (by assumption) ?_
        · intro u' hSu
          (try simp only [List.getElem_toArray, List.getElem_cons_zero, List.getElem_cons_succ])
          obtain s0 := hSu
          go_simp
        (try simp only [List.getElem_toArray, List.getElem_cons_zero, List.getElem_cons_succ])
        (try simp only [Act.put, List.setIfInBounds_toArray, List.set_cons_zero, List.set_cons_succ])
        refine wpAnyH_ready (rs := [11]) (by kernel_rfl) (by simp) (AllReadyH.cons rfl ?_ (AllReadyH.nil))
        · intro K' hK'
          (try simp only [List.getElem_toArray, List.getElem_cons_zero, List.getElem_cons_succ])
          go_simp
          refine (HSI.out _ HB.out).mono ?_
          rintro e u1 ⟨S1, rfl, hS1, hr1, hb⟩
          replace HB := hid (HB.out.trans (hb.mono HB.out.size))
          have HR1 := hid hr1
          refine hK'.out _ _ (HELD.out _ HB.out) (fun hSe => ?_)
          clear hK' K' hSd hb hr1 hS1
          have hSd := hSe
          clear hSe
          (try simp only [List.getElem_toArray, List.getElem_cons_zero, List.getElem_cons_succ])
          (try simp only [Act.put, List.setIfInBounds_toArray, List.set_cons_zero, List.set_cons_succ])
          refine wpAnyH_ready (rs := [12]) (by kernel_rfl) (by simp) (AllReadyH.cons rfl ?_ (AllReadyH.nil))
          · intro K' hK'
            (try simp only [List.getElem_toArray, List.getElem_cons_zero, List.getElem_cons_succ])
            go_simp
            refine (HSPR.out _ HB.out (some ⟨S1, 0, none⟩) m HR1.out.fr).mono ?_
            rintro e u2 ⟨G2, rfl, hG2, hr2, hb⟩
            have HG2 : Hid (W.heap.size ≤ G2) := Nat.le_trans HB.out.size hG2
            replace HB := hid (HB.out.trans (hb.mono HB.out.size))
            have HR2 := hid hr2
            refine hK'.out _ _ (HELD.out _ HB.out) (fun hSe => ?_)
            clear hK' K' hSd hb hr2 hG2
            have hSd := hSe
            clear hSe
            (try simp only [List.getElem_toArray, List.getElem_cons_zero, List.getElem_cons_succ])
            (try simp only [Act.put, List.setIfInBounds_toArray, List.set_cons_zero, List.set_cons_succ])
            refine wpAnyH_take (i := 13) (oi := _) (v := .slice (some ⟨G2, 0, none⟩) n n) rfl (by kernel_rfl) (by kernel_rfl) (by kernel_rfl) (fun _ _ _ h => h) (Or.inl ⟨by rfl, ?_⟩) (by assumption) ?_
            · intro u' hSu
              (try simp only [List.getElem_toArray, List.getElem_cons_zero, List.getElem_cons_succ])
              go_simp
            (try simp only [List.getElem_toArray, List.getElem_cons_zero, List.getElem_cons_succ])
            (try simp only [Act.put, List.setIfInBounds_toArray, List.set_cons_zero, List.set_cons_succ])
            refine wpAnyH_take (i := 14) (oi := _) (v := .int .i64 0) rfl (by kernel_rfl) (by kernel_rfl) (by kernel_rfl) (fun _ _ _ h => h) (Or.inl ⟨by rfl, ?_⟩) (by assumption) ?_
            · intro u' hSu
              (try simp only [List.getElem_toArray, List.getElem_cons_zero, List.getElem_cons_succ])
              go_simp
            (try simp only [List.getElem_toArray, List.getElem_cons_zero, List.getElem_cons_succ])
            (try simp only [Act.put, List.setIfInBounds_toArray, List.set_cons_zero, List.set_cons_succ])
            refine wpAnyH_done (by kernel_rfl) ?_ _
            clear hSd
            have HBF := hid (HBW.out.trans (HB.out.mono HBW.out.size))
            have HGF : Hid (w.heap.size ≤ G2) := Nat.le_trans HBW.out.size HG2.out
            go_wp2
            go_ret2
            exact ⟨HBF.out, .inl ⟨k0, G2, HONE.out, rfl, HGF.out, HR2.out⟩⟩
end Go.Proofs.YtbejijgelljeaaaGreatDoor

/- Plain: all assignments of a net together are as likely as 1; what is given of a variable is 1 for each assignment of its parents. -/
namespace Go.Proofs.YtbejijgelljeaaaGreatDoor
open Go.RowKit Go.Shelf
/-- One over another, where it speaks. -/
def over (vs : List Nat) (f g : Nat → Nat) : Nat → Nat := fun u => if u ∈ vs then g u else f u
end Go.Proofs.YtbejijgelljeaaaGreatDoor

/- The document's answer: a net under way. -/
namespace Go.Proofs.YtbejijgelljeaaaGreatDoor
open Go.RowKit Go.Shelf Go.Lib
def rOf (Rs : List PR) : List (List Fr) := Rs.map (·.2)
theorem OwR.rows {W : World} {B : Nat} {z : Value} {Rs : List PR} (h : OwR W B z Rs) : ∃ a c, z = .slice a (rOf Rs).length c ∧ FsS W a (rOf Rs) := by
  have hl : (rOf Rs).length = Rs.length := by simp [rOf]
  obtain ⟨a, c, rfl, _⟩ := owns_slice h.1
  refine ⟨a, c, by rw [hl], fun k hk => ?_⟩
  rw [hl] at hk
  obtain ⟨g, rfl, hg, c1⟩ := owns_cell h.1 (j := k) (by simpa using hk)
  have hin := h.2 Rs[k] (List.getElem_mem hk)
  obtain ⟨b, cb, eb, hst⟩ := hin.fr
  have hcap : Rs[k].2.length ≤ cb := by
    rcases hin.2 with ⟨h1, h2⟩ | ⟨g2, cap, cur, h1, _, _, h4, _⟩
    · omega
    · rw [eb] at h1
      injection h1 with _ _ h6
      omega
  exact ⟨g, 0, b, cb, rfl, hg, by rw [Nat.zero_add, c1]; simp [rOf, eb], by simpa [rOf] using hst, by simpa [rOf] using hcap⟩
end Go.Proofs.YtbejijgelljeaaaGreatDoor

/- The document's answer: a hidden chain of raw numbers; the law's signs. -/
namespace Go.Proofs.YtbejijgelljeaaaGreatDoor
open Go.RowKit Go.Shelf Go.Lib
/-- Rows of raw weights, of so many each. -/
def RwP (i k : Nat) (P : List PR) : Prop := P.length = i ∧ ∀ p ∈ P, ∃ Ls, p.2 = rawF Ls ∧ Wts Ls k ∧ 1 ≤ Ls.sum
theorem RwP.push {i k : Nat} {P : List PR} (h : RwP i k P) (q : Value) {Ls : List Nat} (h1 : Wts Ls k) (h2 : 1 ≤ Ls.sum) : RwP (i + 1) k (P ++ [(q, rawF Ls)]) := by
  refine ⟨by rw [List.length_append, h.1]; rfl, fun p hp => ?_⟩
  rcases List.mem_append.1 hp with hp | hp
  · exact h.2 p hp
  · rw [List.mem_singleton.1 hp]
    exact ⟨Ls, rfl, h1, h2⟩
end Go.Proofs.YtbejijgelljeaaaGreatDoor
