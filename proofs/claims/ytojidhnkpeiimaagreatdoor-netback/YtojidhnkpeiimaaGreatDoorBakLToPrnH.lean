/- NetBack's lowest: a net with its numbers in lowest terms. -/
import Derived.Test.YtojidhnkpeiimaaGreatDoorBakYToBakK
import Derived.Test.YtojidhnkpeiimaaGreatDoorRowAToTextC
import Derived.Test.YtojidhnkpeiimaaGreatDoorSumAToNameD
import Derived.Test.YtojidhnkpeiimaaGreatDoorFracAToRefS
import Derived.Test.YtojidhnkpeiimaaGreatDoorIterBToNetC
import Derived.Test.YtojidhnkpeiimaaGreatDoorBakPToMadC
import Derived.Lib.AppendZerosOnto
import Derived.Laws.AppendOwnNone
import Derived.Test.YtojidhnkpeiimaaGreatDoorGivCToMadD
import Derived.Test.YtojidhnkpeiimaaGreatDoorPrnGOwn
namespace Go.Proofs.YtojidhnkpeiimaaGreatDoor
open Go.RowKit Go.Shelf Go.Lib
theorem OwR.more {U U' : World} {B : Nat} {y v' q : Value} {r : List Fr} {P : List PR} (h : OwR U B y P) (hr : U'.ownsRow B 51 1 v' (P.length + 1) (P.map (·.1) ++ [q])) (hg : U.grownBy U' y.ownBlock) (hq : RwF U B q r) : OwR U' B v' (P ++ [(q, r)]) := by
  have hk : KeepT 58 U U' := KeepT.grown hg (owns_typed h.1) (by decide)
  refine ⟨by rw [List.length_append, List.map_append]; exact hr, fun p hp => ?_⟩
  rcases List.mem_append.1 hp with hp | hp
  · exact owns_keep (h.2 p hp) hk
  · rw [List.mem_singleton.1 hp]
    exact owns_keep hq hk
structure LW (B : Nat) (x y z : Value) (w W : World) (q : Value) (Rs : List PR) : Prop where
  box : W.heap[B]? = some (.cells #[x, y, z] 29 (0, 0))
  res : W.heap[B + 1]? = some (.cells #[.slice none 0 0, .slice none 0 0, .slice none 0 0] 29 (0, 0))
  net : W.heap[B + 1 + 1]? = some (.cells #[x, y, q] 29 (0, 0))
  rows : OwR W (B + 1 + 1 + 1) q Rs
  low : Below B w W
  size : B + 1 + 1 + 1 ≤ W.heap.size
section
variable {B : Nat} {x y z q q' v' : Value} {w W U : World} {Rs : List PR} {l : List Fr}
theorem LW.cells (h : LW B x y z w W q Rs) : W.cell? ⟨B, 2, none⟩ = some z ∧ W.cell? ⟨B + 1 + 1, 2, none⟩ = some q := by
  refine ⟨?_, ?_⟩
  · rw [cell_of_row W B _ _ _ (0, 0) h.box]; rfl
  · rw [cell_of_row W (B + 1 + 1) _ _ _ (0, 0) h.net]; rfl
theorem LW.below (h : LW B x y z w W q Rs) (hb : Below W.heap.size W U) : LW B x y z w U q Rs := by
  have hs := h.size
  exact ⟨(hb.block B (by omega)).trans h.box, (hb.block (B + 1) (by omega)).trans h.res, (hb.block (B + 1 + 1) (by omega)).trans h.net, h.rows.keep (KeepT.below hb) (KeepT.below hb), h.low.trans (hb.mono (by omega)), Nat.le_trans hs hb.size⟩
theorem LW.push (h : LW B x y z w W q Rs) (hr : U.ownsRow (B + 1 + 1 + 1) 51 1 v' (Rs.length + 1) (Rs.map (·.1) ++ [q'])) (hg : W.grownBy U q.ownBlock) (hq : RwF W (B + 1 + 1 + 1) q' l) :
    U.cell? ⟨B + 1 + 1, 2, none⟩ = some q ∧ U.frozen? ⟨B + 1 + 1, 2, none⟩ = false ∧ LW B x y z w (U.setCell ⟨B + 1 + 1, 2, none⟩ v') v' (Rs ++ [(q', l)]) := by
  have hs := h.size
  have kk : ∀ t : TypeId, t ≠ 51 → KeepT t W U := fun t ht => KeepT.grown hg (owns_typed h.rows.1) ht
  have hn : U.heap[B + 1 + 1]? = some (.cells #[x, y, q] 29 (0, 0)) := kk _ (by decide) _ _ _ h.net
  have ks : ∀ t : TypeId, t ≠ 29 → KeepT t U (U.setCell ⟨B + 1 + 1, 2, none⟩ v') := fun t ht => KeepT.set hn ht 2 v'
  have hb : Below B W U := (Below.refl B W).grown hg (by omega) fun k e => by have := owns_from h.rows.1 k e; omega
  have f1 : (U.setCell ⟨B + 1 + 1, 2, none⟩ v').heap[B]? = U.heap[B]? := Below.heap_setCell _ _ _ _ (by show B ≠ B + 1 + 1; omega)
  have f2 : (U.setCell ⟨B + 1 + 1, 2, none⟩ v').heap[B + 1]? = U.heap[B + 1]? := Below.heap_setCell _ _ _ _ (by show B + 1 ≠ B + 1 + 1; omega)
  refine ⟨by rw [cell_of_row U (B + 1 + 1) _ _ _ (0, 0) hn]; rfl, frozen_of_row U (B + 1 + 1) 2 _ _ hn, ⟨f1.trans (kk _ (by decide) _ _ _ h.box), f2.trans (kk _ (by decide) _ _ _ h.res), heap_setCell_same U (B + 1 + 1) 2 _ _ v' hn, (h.rows.more hr hg hq).keep (ks _ (by decide)) (ks _ (by decide)), (h.low.trans hb).setCell (p := ⟨B + 1 + 1, 2, none⟩) (by show B ≤ B + 1 + 1; omega) _, ?_⟩⟩
  have : U.heap.size = (U.setCell ⟨B + 1 + 1, 2, none⟩ v').heap.size := by simp [World.setCell]
  have := hg.size
  omega
end
set_option maxRecDepth 100000 in
set_option maxHeartbeats 4000000 in
theorem lowest_any (a b c : Option Addr) (ca cb cc : Nat) (V : List Vr) (L : List (List Int)) (R : List (List Fr)) (w : World) (h : NetI w a b c V L R) (hR : R.length ≤ 1000) (hr : ∀ l ∈ R, l.length ≤ 10000 ∧ ∀ f ∈ l, f.2.1.size + f.2.2.size ≤ 100000) :
    Calls Tryz.prog 8 #[.agg #[.slice a V.length ca, .slice b L.length cb, .slice c R.length cc]] w fun e w' => ∃ d cd, e = .returned (.agg #[.slice a V.length ca, .slice b L.length cb, .slice d (lowR R).length cd]) ∧ NetI w' a b d V L (lowR R) ∧ Below w.heap.size w w' := by
  obtain ⟨B, hB⟩ : ∃ B, w.heap.size = B := ⟨_, rfl⟩
  obtain ⟨W0, hW0⟩ : ∃ W0, ((w.alloc (.cells #[.slice a V.length ca, .slice b L.length cb, .slice c R.length cc] 29)).alloc (.cells #[.slice none 0 0, .slice none 0 0, .slice none 0 0] 29)).alloc (.cells #[.slice a V.length ca, .slice b L.length cb, .slice none 0 0] 29) = W0 := ⟨_, rfl⟩
  have HL0 : Hid (LW B (.slice a V.length ca) (.slice b L.length cb) (.slice c R.length cc) w W0 (.slice none 0 0) []) := by
    have z1 : (w.alloc (.cells #[.slice a V.length ca, .slice b L.length cb, .slice c R.length cc] 29)).heap.size = B + 1 := by rw [World.size_alloc, hB]
    have z2 : ((w.alloc (.cells #[.slice a V.length ca, .slice b L.length cb, .slice c R.length cc] 29)).alloc (.cells #[.slice none 0 0, .slice none 0 0, .slice none 0 0] 29)).heap.size = B + 1 + 1 := by rw [World.size_alloc, z1]
    show LW _ _ _ _ _ _ _ _
    rw [← hW0]
    refine ⟨?_, ?_, ?_, OwR.nil _ _, ?_, by rw [World.size_alloc, z2]; exact Nat.le_refl _⟩
    · rw [Below.heap_alloc _ _ _ (by omega), Below.heap_alloc _ _ _ (by omega), ← hB, heap_alloc_new]
    · rw [Below.heap_alloc _ _ _ (by omega), ← z1, heap_alloc_new]
    · rw [← z2, heap_alloc_new]
    · exact (((Below.refl _ w).alloc (by omega) _).alloc (by omega) _).alloc (by omega) _
  have HI := hid h
  have HB := hid hB
  have HW := hid hW0
  have HR := hid hr
  have HN := hid hR
  obtain ⟨nR, hnR⟩ : ∃ n, R.length = n := ⟨_, rfl⟩
  have HNR := hid hnR
  rw [hnR] at HL0 HN ⊢
  rw [hnR] at HW
  clear h hB hW0 hr hR hnR
  go_enter Tryz.func8, Tryz.ntmps8
  go_wp2_with fail
  simp only [HB.out, HW.out]
  go_loopw [4] (fun iv wr => ∃ i : Nat, i ≤ nR ∧ iv = .int .i64 i ∧ ∃ (q : Value) (Rs : List PR), Hid (LW B (.slice a V.length ca) (.slice b L.length cb) (.slice c nR cc) w wr q Rs) ∧ Hid (rOf Rs = (lowR R).take i)) (fun iv _ => nR - (intOf iv).toNat)
  case atStart => exact ⟨0, Nat.zero_le _, rfl, _, [], HL0, rfl⟩
  case round =>
    rename World => wo
    obtain ⟨i, hi, rfl, q, Rs, HL, HT⟩ := hrel
    clear HL0
    obtain ⟨k0, k1⟩ := HL.out.cells
    by_cases hlt : i < nR
    · have hiR : i < R.length := by have := HNR.out; omega
      have hI0 := HI.out.below (by have := HL.out.low; rw [← HB.out] at this; exact this)
      obtain ⟨gc, oc, bc, cc1, ec, hgc, kc, hfc, -⟩ := hI0.rows i hiR
      subst ec
      have hll := HR.out R[i] (List.getElem_mem hiR)
      have hRow : Hid ((lowR R)[i]? = some (R[i].map lowF)) := by
        show _ = _
        rw [lowR, List.getElem?_map, List.getElem?_eq_getElem hiR]
        rfl
      obtain ⟨l, hl⟩ : ∃ l, R[i] = l := ⟨_, rfl⟩
      rw [hl] at kc hfc hll hRow
      have HFR := hid hfc
      have HLL := hid hll
      obtain ⟨B0, hB0⟩ : ∃ x, x = wo.heap.size := ⟨_, rfl⟩
      have hgB : gc < B0 := by omega
      have HB0 := hid hB0
      have HKC := hid kc
      have HGB := hid hgB
      clear hI0 hl hfc hll hB0 hgc kc hgB k1
      obtain ⟨nl, hnl⟩ : ∃ n, l.length = n := ⟨_, rfl⟩
      rw [hnl] at HKC
      have HNL := hid hnl
      clear hnl
      go_wp2_with fail
      clear k0
      go_loopw [5, 6] (fun qv jv wq => ∃ j : Nat, j ≤ nl ∧ jv = .int .i64 j ∧ Hid (RwF wq B0 qv ((l.map lowF).take j)) ∧ Hid (Below B0 wo wq)) (fun _ jv _ => nl - (intOf jv).toNat)
      case atStart => exact ⟨0, Nat.zero_le _, rfl, RwF.empty _ _, Below.refl _ _⟩
      case round =>
        obtain ⟨j, hj, rfl, HQ, HX⟩ := hrel
        have hLq := HL.out.below (by have := HX.out; rw [HB0.out] at this; exact this)
        obtain ⟨k0, -⟩ := hLq.cells
        have kc := (HX.out.cell (p := ⟨gc, oc + i, none⟩) HGB.out).trans HKC.out
        clear hLq
        by_cases hlj : j < nl
        · have hjl : j < l.length := by have := HNL.out; omega
          have hbx : Below wo.heap.size wo wr := by have := HX.out; rwa [HB0.out] at this
          obtain ⟨gb, ob, eb, hgb, c0, c1, c2⟩ := (HFR.out.below hbx) j hjl
          subst eb
          have hsz := HLL.out.2 l[j] (List.getElem_mem hjl)
          have HTK : Hid ((l.map lowF).take (j + 1) = (l.map lowF).take j ++ [lowF l[j]]) := by
            show _ = _
            rw [List.take_add_one, List.getElem?_map, List.getElem?_eq_getElem hjl]
            rfl
          have HCN : Hid (∀ U : World, Calls Tryz.prog 22 #[.agg #[.bool l[j].1, .string l[j].2.1, .string l[j].2.2]] U fun e w' => e = .returned (frV (lowF l[j])) ∧ Below U.heap.size U w') := fun U => Canon_r hsz
          clear hsz hbx
          generalize lowF l[j] = lf at *
          generalize l[j] = f at *
          obtain ⟨f1, f2, f3⟩ := f
          obtain ⟨ln, lx, ly⟩ := lf
          go_wp2_with fail
          refine (HCN.out _).mono ?_
          rintro e w1 ⟨rfl, hb1⟩
          have hj10 : nl ≤ 10000 := by have := HLL.out.1; have := HNL.out; omega
          have hs0 : B0 ≤ wr.heap.size := by have := HX.out.size; have := HB0.out; omega
          have hbB : Below w1.heap.size w1 (w1.alloc (FC ln lx ly)) := (Below.refl _ w1).alloc (Nat.le_refl _) _
          have X1 := hid ((HX.out.trans (hb1.mono hs0)).trans (hbB.mono (Nat.le_trans hs0 hb1.size)))
          have Q5 := hid ((HQ.out.below hb1).below hbB)
          have hb5 : B0 ≤ (w1.alloc (FC ln lx ly)).heap.size := Nat.le_trans (Nat.le_trans hs0 hb1.size) hbB.size
          have hbx2 := Box.at (w := w1) rfl ln lx ly
          have hlen : ((l.map lowF).take j).length + 1 ≤ 100000 := by
            have := HLL.out.1
            rw [List.length_take, List.length_map]
            omega
          clear hbB HQ HX hb1 k0 kc c0 c1 c2 HCN hs0
          go_wp2_with (at_builtin; refine wpList_append_fr rfl _ _ rfl B0 _ ((l.map lowF).take j) (ln, lx, ly) rfl Q5.out w1.heap.size rfl hbx2 hlen hb5 ?_; intro v' w8 hr8 hg8)
          have X8 := hid (X1.out.grown hg8 hb5 (fun k e => Q5.out.own k e))
          have Q8 : Hid (RwF w8 B0 v' ((l.map lowF).take (j + 1))) := by
            show RwF _ _ _ _
            rw [HTK.out]
            exact hr8
          clear hr8 hg8 X1 Q5 hbx2 hlen hb5 HTK
          generalize w1.heap.size = g6 at *
          go_wp2
          go_roundw
          case rel => exact ⟨j + 1, by omega, by go_num, Q8, X8⟩
          case measure => simp [intOf]; omega
        · obtain rfl : j = nl := by omega
          have hq0 := HQ.out
          rw [List.take_of_length_le (by rw [List.length_map, HNL.out]; exact Nat.le_refl _)] at hq0
          obtain ⟨da, na, ca1, eda⟩ := hq0.slv
          subst eda
          have hLq := HL.out.below (by have := HX.out; rw [HB0.out] at this; exact this)
          obtain ⟨dq, cq, edq, -⟩ := owns_slice hLq.rows.1
          subst edq
          have hAL := (Below.refl wr.heap.size wr).alloc (Nat.le_refl _) (.cells #[.slice da na ca1] 51)
          have hone : (wr.alloc (.cells #[.slice da na ca1] 51)).heap[wr.heap.size]? = some (.cells #[.slice da na ca1] 51 (0, 0)) := heap_alloc_new wr _
          have HC1 : Hid ((wr.alloc (.cells #[.slice da na ca1] 51)).cell? ⟨wr.heap.size, 0, none⟩ = some (.slice da na ca1)) := by
            show _ = _
            rw [cell_of_row _ _ _ _ _ (0, 0) hone]
            rfl
          have HL4 := hid (hLq.below hAL)
          have hlow : B + 1 + 1 + 1 ≤ B0 := by have := HL.out.size; have := HB0.out; omega
          have HA := hid (RwF.below (show RwF wr (B + 1 + 1 + 1) _ _ from owns_lower hq0 hlow) hAL)
          have hrl : Rs.length + 1 ≤ 100000 := by
            have h1 : (rOf Rs).length = Rs.length := by simp [rOf]
            have h2 := HT.out
            have h3 := HN.out
            rw [← h1, h2, List.length_take]
            omega
          obtain ⟨k3, k4⟩ := hLq.cells
          have hn1 : nR ≤ 1000 := HN.out
          clear hone hAL hq0 hLq hlow
          go_wp2_with (at_builtin; refine wpList_append_rs rfl _ _ rfl (B + 1 + 1 + 1) (.slice dq Rs.length cq) Rs (.slice da na ca1) ⟨_, _, _, rfl⟩ rfl HL4.out.rows.1 wr.heap.size rfl HC1.out hrl HL4.out.size ?_; intro v5 w5 hr5 hg5; obtain ⟨d5, c5, e5, -⟩ := owns_slice hr5; subst e5; obtain ⟨kq, fq, hL5⟩ := HL4.out.push hr5 hg5 HA.out; have HL5 := hid hL5; clear hL5 hr5 hg5 k3 k4)
          have HT5 : Hid (rOf (Rs ++ [(Value.slice da na ca1, l.map lowF)]) = (lowR R).take (i + 1)) := by
            show _ = _
            rw [List.take_add_one, hRow.out, ← HT.out]
            simp [rOf]
          clear hRow HT HFR HLL HC1 HL4 HA kq fq
          go_roundw
          case rel => exact ⟨i + 1, by omega, by go_num, _, _, HL5, HT5⟩
          case measure => simp [intOf]; omega
    · obtain rfl : i = nR := by omega
      have hw := HL.out
      obtain ⟨dq, cq, edq, -⟩ := owns_slice hw.rows.1
      subst edq
      have hTe : rOf Rs = lowR R := by
        have := HT.out
        rwa [List.take_of_length_le (by rw [lowR, List.length_map, HNR.out]; exact Nat.le_refl _)] at this
      have hRl : Rs.length = (lowR R).length := by rw [← hTe]; simp [rOf]
      rw [hRl] at hw
      have HWq := hid hw
      have r0 : wo.cell? ⟨B + 1 + 1, 0, none⟩ = some (.slice a V.length ca) := by rw [cell_of_row wo (B + 1 + 1) _ _ _ (0, 0) hw.net]; rfl
      have r1 : wo.cell? ⟨B + 1 + 1, 1, none⟩ = some (.slice b L.length cb) := by rw [cell_of_row wo (B + 1 + 1) _ _ _ (0, 0) hw.net]; rfl
      have r2 : wo.cell? ⟨B + 1 + 1, 2, none⟩ = some (.slice dq (lowR R).length cq) := by rw [cell_of_row wo (B + 1 + 1) _ _ _ (0, 0) hw.net]; rfl
      have n0 : wo.cell? ⟨B + 1, 0, none⟩ = some (.slice none 0 0) := by rw [cell_of_row wo (B + 1) _ _ _ (0, 0) hw.res]; rfl
      have n1 : wo.cell? ⟨B + 1, 1, none⟩ = some (.slice none 0 0) := by rw [cell_of_row wo (B + 1) _ _ _ (0, 0) hw.res]; rfl
      have n2 : wo.cell? ⟨B + 1, 2, none⟩ = some (.slice none 0 0) := by rw [cell_of_row wo (B + 1) _ _ _ (0, 0) hw.res]; rfl
      have f0 := frozen_of_row wo (B + 1) 0 _ _ hw.res
      have f1 := frozen_of_row wo (B + 1) 1 _ _ hw.res
      have f2 := frozen_of_row wo (B + 1) 2 _ _ hw.res
      have HTE := hid hTe
      clear hw hTe hRl HL k1
      go_wp2
      have hb : Below B w (((wo.setCell ⟨B + 1, 0, none⟩ (.slice a V.length ca)).setCell ⟨B + 1, 1, none⟩ (.slice b L.length cb)).setCell ⟨B + 1, 2, none⟩ (.slice dq (lowR R).length cq)) :=
        ((HWq.out.low.setCell (p := ⟨B + 1, 0, none⟩) (Nat.le_succ _) _).setCell (p := ⟨B + 1, 1, none⟩) (Nat.le_succ _) _).setCell (p := ⟨B + 1, 2, none⟩) (Nat.le_succ _) _
      have hk : ∀ t : TypeId, t ≠ 29 → KeepT t wo (((wo.setCell ⟨B + 1, 0, none⟩ (.slice a V.length ca)).setCell ⟨B + 1, 1, none⟩ (.slice b L.length cb)).setCell ⟨B + 1, 2, none⟩ (.slice dq (lowR R).length cq)) := fun t h1 k c fr hk => by
        have n1 : k ≠ B + 1 := by
          rintro rfl
          rw [HWq.out.res] at hk
          injection hk with hk
          injection hk with _ e _
          exact h1 e.symm
        rw [Below.heap_setCell _ _ _ k n1, Below.heap_setCell _ _ _ k n1, Below.heap_setCell _ _ _ k n1]
        exact hk
      obtain ⟨d, cd, e3, g3⟩ := (HWq.out.rows.keep (hk _ (by decide)) (hk _ (by decide))).rows
      injection e3 with e3 _ _
      rw [HTE.out, ← e3] at g3
      have hbw : Below w.heap.size w (((wo.setCell ⟨B + 1, 0, none⟩ (.slice a V.length ca)).setCell ⟨B + 1, 1, none⟩ (.slice b L.length cb)).setCell ⟨B + 1, 2, none⟩ (.slice dq (lowR R).length cq)) := hb.mono (Nat.le_of_eq HB.out)
      have hI := HI.out.below hbw
      have HNI := hid (show NetI _ a b dq V L (lowR R) from ⟨hI.vars, hI.pars, g3⟩)
      have HBB := hid hbw
      clear hb hbw hk g3 hI
      refine bodyPost_ret (v := .agg #[.slice a V.length ca, .slice b L.length cb, .slice dq (lowR R).length cq]) ?_ rfl ⟨dq, cq, rfl, HNI.out, HBB.out⟩
      simp [results, Tryz.results8, go_sem, *]
end Go.Proofs.YtojidhnkpeiimaaGreatDoor

/- Hidden chains, plainly: forward and backward meet; no way is likelier than the path that is found step by step. -/
namespace Go.Proofs.YtojidhnkpeiimaaGreatDoor
structure HC where
  s : Nat
  L : Nat
  st : Nat → Rat
  mv : Nat → Nat → Rat
  sh : Nat → Nat → Rat
variable {h : HC}
end Go.Proofs.YtojidhnkpeiimaaGreatDoor

/- The answer's HiddenCheck and Seen, of whatever hidden chain. -/
namespace Go.Proofs.YtojidhnkpeiimaaGreatDoor
open Go.RowKit Go.Shelf
theorem FsS.raw' {w : World} {a : Option Addr} {R : List (List Fr)} (h : FsS w a R) {i : Nat} (hi : i < R.length) : ∃ g o b c, a = some ⟨g, o, none⟩ ∧ g < w.heap.size ∧ w.cell? ⟨g, o + i, none⟩ = some (.slice b R[i].length c) ∧ FrS w b R[i] := by
  obtain ⟨g, o, b, c, h1, h2, h3, h4, _⟩ := h i hi
  exact ⟨g, o, b, c, h1, h2, h3, h4⟩
end Go.Proofs.YtojidhnkpeiimaaGreatDoor

/- The law: rows, names and texts that are alike. -/
namespace Go.Proofs.YtojidhnkpeiimaaGreatDoor
open Go.RowKit Go.Shelf
set_option maxRecDepth 100000 in
set_option maxHeartbeats 1000000 in
theorem sameRows_any (a b : Option Addr) (ca cb : Nat) (L : List (List Fr)) (w : World) (ha : FsS w a L) (hb : FsS w b L) (hL : L.length ≤ 1000) (hl : ∀ l ∈ L, l.length ≤ 1000) :
    Calls Tryz.prog 20 #[.slice a L.length ca, .slice b L.length cb] w fun e w' => e = .returned (.bool true) ∧ Below w.heap.size w w' := by
  have HA := hid ha
  have HB := hid hb
  have HL := hid hl
  clear ha hb hl
  go_enter Tryz.func20, Tryz.ntmps20
  go_wp2_with fail
  go_loopw [5] (fun iv wr => ∃ i : Nat, i ≤ L.length ∧ iv = .int .i64 i ∧ Hid (Below w.heap.size w wr)) (fun iv _ => L.length - (intOf iv).toNat)
  case atStart => exact ⟨0, Nat.zero_le _, rfl, Below.refl _ _⟩
  case round =>
    obtain ⟨i, hi, rfl, HW⟩ := hrel
    by_cases hlt : i < L.length
    · obtain ⟨g, o, b1, c1, rfl, hg, k1, h1⟩ := HA.out.raw' hlt
      obtain ⟨g2, o2, b2, c2, rfl, hg2, k2, h2⟩ := HB.out.raw' hlt
      have hli := HL.out _ (List.getElem_mem hlt)
      have HC1 : Hid (∀ U : World, Below w.heap.size w U → U.cell? ⟨g, o + i, none⟩ = some (.slice b1 L[i].length c1)) := fun U hb => (hb.cell (p := ⟨g, _, none⟩) hg).trans k1
      have HC2 : Hid (∀ U : World, Below w.heap.size w U → U.cell? ⟨g2, o2 + i, none⟩ = some (.slice b2 L[i].length c2)) := fun U hb => (hb.cell (p := ⟨g2, _, none⟩) hg2).trans k2
      have HS := hid (fun (U : World) (hb : Below w.heap.size w U) => sameFracs_any b1 b2 c1 c2 L[i] U (h1.below hb) (h2.below hb) (by omega))
      clear k1 k2 h1 h2
      generalize L[i].length = li at *
      go_upto_region 6 with fail
      refine wp_region_held_drew (S := fun U => U.cell? ⟨g, o + i, none⟩ = some (.slice b1 li c1) ∧ U.cell? ⟨g2, o2 + i, none⟩ = some (.slice b2 li c2)) (by kernel_rfl) ⟨HC1.out _ HW.out.drew, HC2.out _ HW.out.drew⟩ (fun hSd => ?_)
      refine wpAnyH_take (i := 0) (oi := _) (v := .slice (some ⟨g, o, none⟩) L.length ca) rfl (by kernel_rfl) (by kernel_rfl) (by kernel_rfl) (fun _ _ _ h => h) (Or.inl ⟨by rfl, ?_⟩) (by assumption) ?_
      · intro u' hSu
        (try simp only [List.getElem_toArray, List.getElem_cons_zero])
        go_simp
      (try simp only [List.getElem_toArray, List.getElem_cons_zero])
      (try simp only [Act.put, List.setIfInBounds_toArray, List.set_cons_zero, List.set_cons_succ])
      refine wpAnyH_take (i := 1) (oi := _) (v := .int .i64 (i : Nat)) rfl (by kernel_rfl) (by kernel_rfl) (by kernel_rfl) (fun _ _ _ h => h) (Or.inl ⟨by rfl, ?_⟩) (by assumption) ?_
      · intro u' hSu
        (try simp only [List.getElem_toArray, List.getElem_cons_zero, List.getElem_cons_succ])
        go_simp
      (try simp only [List.getElem_toArray, List.getElem_cons_zero, List.getElem_cons_succ])
      (try simp only [Act.put, List.setIfInBounds_toArray, List.set_cons_zero, List.set_cons_succ])
      refine wpAnyH_take (i := 2) (oi := _) (v := .pointer (some ⟨g, o + i, none⟩)) rfl (by kernel_rfl) (by kernel_rfl) (by kernel_rfl) (fun _ _ _ h => h) (Or.inl ⟨by rfl, ?_⟩) (by assumption) ?_
      · intro u' hSu
        (try simp only [List.getElem_toArray, List.getElem_cons_zero, List.getElem_cons_succ])
        go_simp
      (try simp only [List.getElem_toArray, List.getElem_cons_zero, List.getElem_cons_succ])
      (try simp only [Act.put, List.setIfInBounds_toArray, List.set_cons_zero, List.set_cons_succ])
      refine wpAnyH_take (i := 3) (oi := _) (v := .slice b1 li c1) rfl (by kernel_rfl) (by kernel_rfl) (by kernel_rfl) (fun _ _ _ h => h) (Or.inl ⟨by rfl, ?_⟩) (by assumption) ?_
      · intro u' hSu
        (try simp only [List.getElem_toArray, List.getElem_cons_zero, List.getElem_cons_succ])
        obtain ⟨s1, s2⟩ := hSu
        go_simp
      (try simp only [List.getElem_toArray, List.getElem_cons_zero, List.getElem_cons_succ])
      (try simp only [Act.put, List.setIfInBounds_toArray, List.set_cons_zero, List.set_cons_succ])
      refine wpAnyH_take (i := 4) (oi := _) (v := .slice (some ⟨g2, o2, none⟩) L.length cb) rfl (by kernel_rfl) (by kernel_rfl) (by kernel_rfl) (fun _ _ _ h => h) (Or.inl ⟨by rfl, ?_⟩) (by assumption) ?_
      · intro u' hSu
        (try simp only [List.getElem_toArray, List.getElem_cons_zero, List.getElem_cons_succ])
        go_simp
      (try simp only [List.getElem_toArray, List.getElem_cons_zero, List.getElem_cons_succ])
      (try simp only [Act.put, List.setIfInBounds_toArray, List.set_cons_zero, List.set_cons_succ])
      refine wpAnyH_take (i := 5) (oi := _) (v := .int .i64 (i : Nat)) rfl (by kernel_rfl) (by kernel_rfl) (by kernel_rfl) (fun _ _ _ h => h) (Or.inl ⟨by rfl, ?_⟩) (by assumption) ?_
      · intro u' hSu
        (try simp only [List.getElem_toArray, List.getElem_cons_zero, List.getElem_cons_succ])
        go_simp
      (try simp only [List.getElem_toArray, List.getElem_cons_zero, List.getElem_cons_succ])
      (try simp only [Act.put, List.setIfInBounds_toArray, List.set_cons_zero, List.set_cons_succ])
      refine wpAnyH_take (i := 6) (oi := _) (v := .pointer (some ⟨g2, o2 + i, none⟩)) rfl (by kernel_rfl) (by kernel_rfl) (by kernel_rfl) (fun _ _ _ h => h) (Or.inl ⟨by rfl, ?_⟩) (by assumption) ?_
      · intro u' hSu
        (try simp only [List.getElem_toArray, List.getElem_cons_zero, List.getElem_cons_succ])
        go_simp
      (try simp only [List.getElem_toArray, List.getElem_cons_zero, List.getElem_cons_succ])
      (try simp only [Act.put, List.setIfInBounds_toArray, List.set_cons_zero, List.set_cons_succ])
      refine wpAnyH_take (i := 7) (oi := _) (v := .slice b2 li c2) rfl (by kernel_rfl) (by kernel_rfl) (by kernel_rfl) (fun _ _ _ h => h) (Or.inl ⟨by rfl, ?_⟩) (by assumption) ?_
      · intro u' hSu
        (try simp only [List.getElem_toArray, List.getElem_cons_zero, List.getElem_cons_succ])
        obtain ⟨s1, s2⟩ := hSu
        go_simp
      (try simp only [List.getElem_toArray, List.getElem_cons_zero, List.getElem_cons_succ])
      (try simp only [Act.put, List.setIfInBounds_toArray, List.set_cons_zero, List.set_cons_succ])
      refine wpAnyH_ready (rs := [8]) (by kernel_rfl) (by simp) (AllReadyH.cons rfl ?_ (AllReadyH.nil))
      · intro K' hK'
        (try simp only [List.getElem_toArray, List.getElem_cons_zero, List.getElem_cons_succ])
        go_simp
        refine (HS.out _ HW.out.drew).mono ?_
        rintro r w5 ⟨rfl, hb5⟩
        have hl5 : Below w.heap.size w w5 := HW.out.drew.trans (hb5.mono HW.out.drew.size)
        refine hK'.out _ _ ⟨HC1.out _ hl5, HC2.out _ hl5⟩ (fun hSe => ?_)
        clear hK' K' hSd
        (try simp only [List.getElem_toArray, List.getElem_cons_zero, List.getElem_cons_succ])
        (try simp only [Act.put, List.setIfInBounds_toArray, List.set_cons_zero, List.set_cons_succ])
        refine wpAnyH_take (i := 9) (oi := _) (v := .bool false) rfl (by kernel_rfl) (by kernel_rfl) (by kernel_rfl) (fun _ _ _ h => h) (Or.inl ⟨by rfl, ?_⟩) (by assumption) ?_
        · intro u' hSu
          (try simp only [List.getElem_toArray, List.getElem_cons_zero, List.getElem_cons_succ])
          go_simp
        (try simp only [List.getElem_toArray, List.getElem_cons_zero, List.getElem_cons_succ])
        (try simp only [Act.put, List.setIfInBounds_toArray, List.set_cons_zero, List.set_cons_succ])
        refine wpAnyH_done (by kernel_rfl) ?_ _
        clear hSe
        have HW5 := hid hl5
        clear hl5 hb5
        go_wp2
        go_roundw
        case rel => exact ⟨i + 1, by omega, by go_num, HW5⟩
        case measure => simp [intOf]; omega
    · obtain rfl : i = L.length := by omega
      go_wp2
      go_ret
      exact ⟨rfl, HW.out⟩
set_option maxRecDepth 100000 in
set_option maxHeartbeats 1000000 in
theorem sameLists_w (a b : Option Addr) (ca cb : Nat) (L : List (List Int)) (w : World) (ha : LsS w a L) (hb : LsS w b L) (hL : L.length ≤ 1000) (hl : ∀ l ∈ L, l.length ≤ 1000) :
    Calls Tryz.prog 19 #[.slice a L.length ca, .slice b L.length cb] w fun e w' => e = .returned (.bool true) ∧ Below w.heap.size w w' := by
  have HA := hid ha
  have HB := hid hb
  have HL := hid hl
  clear ha hb hl
  go_enter Tryz.func19, Tryz.ntmps19
  go_wp2_with fail
  go_loopw [5] (fun iv wr => ∃ i : Nat, i ≤ L.length ∧ iv = .int .i64 i ∧ Hid (Below w.heap.size w wr)) (fun iv _ => L.length - (intOf iv).toNat)
  case atStart => exact ⟨0, Nat.zero_le _, rfl, Below.refl _ _⟩
  case round =>
    obtain ⟨i, hi, rfl, HW⟩ := hrel
    by_cases hlt : i < L.length
    · obtain ⟨g, o, b1, c1, rfl, hg, k1, h1⟩ := HA.out i hlt
      obtain ⟨g2, o2, b2, c2, rfl, hg2, k2, h2⟩ := HB.out i hlt
      have hli := HL.out _ (List.getElem_mem hlt)
      have HC1 : Hid (∀ U : World, Below w.heap.size w U → U.cell? ⟨g, o + i, none⟩ = some (.slice b1 L[i].length c1)) := fun U hb => (hb.cell (p := ⟨g, _, none⟩) hg).trans k1
      have HC2 : Hid (∀ U : World, Below w.heap.size w U → U.cell? ⟨g2, o2 + i, none⟩ = some (.slice b2 L[i].length c2)) := fun U hb => (hb.cell (p := ⟨g2, _, none⟩) hg2).trans k2
      have HS := hid (fun (U : World) (hb : Below w.heap.size w U) => sameInts_any b1 b2 c1 c2 L[i] U (h1.below hb) (h2.below hb) (by omega))
      clear k1 k2 h1 h2
      generalize L[i].length = li at *
      go_upto_region 6 with fail
      refine wp_region_held_drew (S := fun U => U.cell? ⟨g, o + i, none⟩ = some (.slice b1 li c1) ∧ U.cell? ⟨g2, o2 + i, none⟩ = some (.slice b2 li c2)) (by kernel_rfl) ⟨HC1.out _ HW.out.drew, HC2.out _ HW.out.drew⟩ (fun hSd => ?_)
      refine wpAnyH_take (i := 0) (oi := _) (v := .slice (some ⟨g, o, none⟩) L.length ca) rfl (by kernel_rfl) (by kernel_rfl) (by kernel_rfl) (fun _ _ _ h => h) (Or.inl ⟨by rfl, ?_⟩) (by assumption) ?_
      · intro u' hSu
        (try simp only [List.getElem_toArray, List.getElem_cons_zero])
        go_simp
      (try simp only [List.getElem_toArray, List.getElem_cons_zero])
      (try simp only [Act.put, List.setIfInBounds_toArray, List.set_cons_zero, List.set_cons_succ])
      refine wpAnyH_take (i := 1) (oi := _) (v := .int .i64 (i : Nat)) rfl (by kernel_rfl) (by kernel_rfl) (by kernel_rfl) (fun _ _ _ h => h) (Or.inl ⟨by rfl, ?_⟩) (by assumption) ?_
      · intro u' hSu
        (try simp only [List.getElem_toArray, List.getElem_cons_zero, List.getElem_cons_succ])
        go_simp
      (try simp only [List.getElem_toArray, List.getElem_cons_zero, List.getElem_cons_succ])
      (try simp only [Act.put, List.setIfInBounds_toArray, List.set_cons_zero, List.set_cons_succ])
      refine wpAnyH_take (i := 2) (oi := _) (v := .pointer (some ⟨g, o + i, none⟩)) rfl (by kernel_rfl) (by kernel_rfl) (by kernel_rfl) (fun _ _ _ h => h) (Or.inl ⟨by rfl, ?_⟩) (by assumption) ?_
      · intro u' hSu
        (try simp only [List.getElem_toArray, List.getElem_cons_zero, List.getElem_cons_succ])
        go_simp
      (try simp only [List.getElem_toArray, List.getElem_cons_zero, List.getElem_cons_succ])
      (try simp only [Act.put, List.setIfInBounds_toArray, List.set_cons_zero, List.set_cons_succ])
      refine wpAnyH_take (i := 3) (oi := _) (v := .slice b1 li c1) rfl (by kernel_rfl) (by kernel_rfl) (by kernel_rfl) (fun _ _ _ h => h) (Or.inl ⟨by rfl, ?_⟩) (by assumption) ?_
      · intro u' hSu
        (try simp only [List.getElem_toArray, List.getElem_cons_zero, List.getElem_cons_succ])
        obtain ⟨s1, s2⟩ := hSu
        go_simp
      (try simp only [List.getElem_toArray, List.getElem_cons_zero, List.getElem_cons_succ])
      (try simp only [Act.put, List.setIfInBounds_toArray, List.set_cons_zero, List.set_cons_succ])
      refine wpAnyH_take (i := 4) (oi := _) (v := .slice (some ⟨g2, o2, none⟩) L.length cb) rfl (by kernel_rfl) (by kernel_rfl) (by kernel_rfl) (fun _ _ _ h => h) (Or.inl ⟨by rfl, ?_⟩) (by assumption) ?_
      · intro u' hSu
        (try simp only [List.getElem_toArray, List.getElem_cons_zero, List.getElem_cons_succ])
        go_simp
      (try simp only [List.getElem_toArray, List.getElem_cons_zero, List.getElem_cons_succ])
      (try simp only [Act.put, List.setIfInBounds_toArray, List.set_cons_zero, List.set_cons_succ])
      refine wpAnyH_take (i := 5) (oi := _) (v := .int .i64 (i : Nat)) rfl (by kernel_rfl) (by kernel_rfl) (by kernel_rfl) (fun _ _ _ h => h) (Or.inl ⟨by rfl, ?_⟩) (by assumption) ?_
      · intro u' hSu
        (try simp only [List.getElem_toArray, List.getElem_cons_zero, List.getElem_cons_succ])
        go_simp
      (try simp only [List.getElem_toArray, List.getElem_cons_zero, List.getElem_cons_succ])
      (try simp only [Act.put, List.setIfInBounds_toArray, List.set_cons_zero, List.set_cons_succ])
      refine wpAnyH_take (i := 6) (oi := _) (v := .pointer (some ⟨g2, o2 + i, none⟩)) rfl (by kernel_rfl) (by kernel_rfl) (by kernel_rfl) (fun _ _ _ h => h) (Or.inl ⟨by rfl, ?_⟩) (by assumption) ?_
      · intro u' hSu
        (try simp only [List.getElem_toArray, List.getElem_cons_zero, List.getElem_cons_succ])
        go_simp
      (try simp only [List.getElem_toArray, List.getElem_cons_zero, List.getElem_cons_succ])
      (try simp only [Act.put, List.setIfInBounds_toArray, List.set_cons_zero, List.set_cons_succ])
      refine wpAnyH_take (i := 7) (oi := _) (v := .slice b2 li c2) rfl (by kernel_rfl) (by kernel_rfl) (by kernel_rfl) (fun _ _ _ h => h) (Or.inl ⟨by rfl, ?_⟩) (by assumption) ?_
      · intro u' hSu
        (try simp only [List.getElem_toArray, List.getElem_cons_zero, List.getElem_cons_succ])
        obtain ⟨s1, s2⟩ := hSu
        go_simp
      (try simp only [List.getElem_toArray, List.getElem_cons_zero, List.getElem_cons_succ])
      (try simp only [Act.put, List.setIfInBounds_toArray, List.set_cons_zero, List.set_cons_succ])
      refine wpAnyH_ready (rs := [8]) (by kernel_rfl) (by simp) (AllReadyH.cons rfl ?_ (AllReadyH.nil))
      · intro K' hK'
        (try simp only [List.getElem_toArray, List.getElem_cons_zero, List.getElem_cons_succ])
        go_simp
        refine (HS.out _ HW.out.drew).mono ?_
        rintro r w5 ⟨rfl, hb5⟩
        have hl5 : Below w.heap.size w w5 := HW.out.drew.trans (hb5.mono HW.out.drew.size)
        refine hK'.out _ _ ⟨HC1.out _ hl5, HC2.out _ hl5⟩ (fun hSe => ?_)
        clear hK' K' hSd
        (try simp only [List.getElem_toArray, List.getElem_cons_zero, List.getElem_cons_succ])
        (try simp only [Act.put, List.setIfInBounds_toArray, List.set_cons_zero, List.set_cons_succ])
        refine wpAnyH_take (i := 9) (oi := _) (v := .bool false) rfl (by kernel_rfl) (by kernel_rfl) (by kernel_rfl) (fun _ _ _ h => h) (Or.inl ⟨by rfl, ?_⟩) (by assumption) ?_
        · intro u' hSu
          (try simp only [List.getElem_toArray, List.getElem_cons_zero, List.getElem_cons_succ])
          go_simp
        (try simp only [List.getElem_toArray, List.getElem_cons_zero, List.getElem_cons_succ])
        (try simp only [Act.put, List.setIfInBounds_toArray, List.set_cons_zero, List.set_cons_succ])
        refine wpAnyH_done (by kernel_rfl) ?_ _
        clear hSe
        have HW5 := hid hl5
        clear hl5 hb5
        go_wp2
        go_roundw
        case rel => exact ⟨i + 1, by omega, by go_num, HW5⟩
        case measure => simp [intOf]; omega
    · obtain rfl : i = L.length := by omega
      go_wp2
      go_ret
      exact ⟨rfl, HW.out⟩
end Go.Proofs.YtojidhnkpeiimaaGreatDoor

/- The law: sameNet. -/
namespace Go.Proofs.YtojidhnkpeiimaaGreatDoor
open Go.RowKit Go.Shelf
set_option maxRecDepth 100000 in
set_option maxHeartbeats 400000 in
theorem sameTexts_q (a b : Option Addr) (ca cb : Nat) (l : List ByteArray) (w : World) (ha : StS w a l) (hb : StS w b l) (hn : l.length ≤ 100000) :
    Calls Tryz.prog 21 #[.slice a l.length ca, .slice b l.length cb] w fun e w' => e = .returned (.bool true) ∧ ∃ m, w' = w.drewN m := by
  have HA := hid (fun m => ha.below (below_drewN (Below.refl _ w) m))
  have HB := hid (fun m => hb.below (below_drewN (Below.refl _ w) m))
  clear ha hb
  go_enter Tryz.func21, Tryz.ntmps21
  go_wp2_with fail
  go_loopw [5] (fun iv wr => ∃ i : Nat, i ≤ l.length ∧ iv = .int .i64 i ∧ Hid (∃ m, wr = w.drewN m)) (fun iv _ => l.length - (intOf iv).toNat)
  case atStart => exact ⟨0, Nat.zero_le _, rfl, ⟨0, rfl⟩⟩
  case round =>
    obtain ⟨i, hi, rfl, HW⟩ := hrel
    have HA' : Hid (StS wr a l) := by
      obtain ⟨m, e⟩ := HW.out
      show StS wr a l
      rw [e]
      exact HA.out m
    have HB' : Hid (StS wr b l) := by
      obtain ⟨m, e⟩ := HW.out
      show StS wr b l
      rw [e]
      exact HB.out m
    have HN : Hid (∀ n', ∃ m, wr.drewN n' = w.drewN m) := fun n' => by
      obtain ⟨m, e⟩ := HW.out
      exact ⟨m + n', by rw [e, World.drewN_drewN]⟩
    by_cases hlt : i < l.length
    · obtain ⟨g, o, rfl, hg, c0⟩ := HA'.out i hlt
      obtain ⟨g2, o2, rfl, hg2, c2⟩ := HB'.out i hlt
      generalize l[i] = x at *
      go_wp2_with fail
      go_quiet (fail)
      go_wp2
      go_roundw
      case rel => exact ⟨i + 1, by omega, by go_num, HN.out _⟩
      case measure => simp [intOf]; omega
    · obtain rfl : i = l.length := by omega
      go_wp2
      go_ret
      exact ⟨rfl, HW.out⟩
structure Few9 (V : List Vr) (L : List (List Int)) (R : List (List Fr)) : Prop where
  v : V.length ≤ 1000 ∧ ∀ x ∈ V, x.2.length ≤ 1000
  l : L.length ≤ 1000 ∧ ∀ x ∈ L, x.length ≤ 1000
  r : R.length ≤ 1000 ∧ ∀ x ∈ R, x.length ≤ 1000
set_option maxRecDepth 100000 in
set_option maxHeartbeats 1000000 in
theorem sameNet_any (a b c d e f : Option Addr) (ca cb cc cd ce cf : Nat) (V : List Vr) (L : List (List Int)) (R : List (List Fr)) (w : World) (h : NetI w a b c V L R) (h' : NetI w d e f V L R) (hk : Few9 V L R) :
    Calls Tryz.prog 7 #[.agg #[.slice a V.length ca, .slice b L.length cb, .slice c R.length cc], .agg #[.slice d V.length cd, .slice e L.length ce, .slice f R.length cf]] w fun e w' => e = .returned (.bool true) ∧ Below w.heap.size w w' := by
  have HSL := hid (fun (U : World) (hU : Below w.heap.size w U) => sameLists_w b e cb ce L U (h.pars.below hU) (h'.pars.below hU) hk.l.1 hk.l.2)
  have HSR := hid (fun (U : World) (hU : Below w.heap.size w U) => sameRows_any c f cc cf R U (h.rows.below hU) (h'.rows.below hU) hk.r.1 hk.r.2)
  have HV1 := hid (fun (U : World) (hU : Below w.heap.size w U) => h.vars.below hU)
  have HV2 := hid (fun (U : World) (hU : Below w.heap.size w U) => h'.vars.below hU)
  have HKV := hid hk.v.2
  have hVl := hk.v.1
  have hLl := hk.l.1
  have hRl := hk.r.1
  have hA0 := (Below.refl w.heap.size w).alloc (Nat.le_refl _) (NC (.slice a V.length ca) (.slice b L.length cb) (.slice c R.length cc))
  have hA := hA0.alloc hA0.size (NC (.slice d V.length cd) (.slice e L.length ce) (.slice f R.length cf))
  have hst := (Below.refl (w.alloc (NC (.slice a V.length ca) (.slice b L.length cb) (.slice c R.length cc))).heap.size (w.alloc (NC (.slice a V.length ca) (.slice b L.length cb) (.slice c R.length cc)))).alloc (Nat.le_refl _) (NC (.slice d V.length cd) (.slice e L.length ce) (.slice f R.length cf))
  have hN10 : NBox (w.alloc (NC (.slice a V.length ca) (.slice b L.length cb) (.slice c R.length cc))) w.heap.size (.slice a V.length ca) (.slice b L.length cb) (.slice c R.length cc) := NBox.at rfl _ _ _
  have hN1 := hN10.below hst hN10.lt
  have hN2 : NBox ((w.alloc (NC (.slice a V.length ca) (.slice b L.length cb) (.slice c R.length cc))).alloc (NC (.slice d V.length cd) (.slice e L.length ce) (.slice f R.length cf))) (w.heap.size + 1) (.slice d V.length cd) (.slice e L.length ce) (.slice f R.length cf) := NBox.at (by simp) _ _ _
  clear h h' hk hA0 hst hN10
  obtain ⟨nv, hnv⟩ : ∃ x, V.length = x := ⟨_, rfl⟩
  obtain ⟨nl, hnl⟩ : ∃ x, L.length = x := ⟨_, rfl⟩
  obtain ⟨nr, hnr⟩ : ∃ x, R.length = x := ⟨_, rfl⟩
  have HNV := hid hnv
  simp only [hnv, hnl, hnr] at hVl hLl hRl hA hN1 hN2 HSL HSR ⊢
  clear hnv hnl hnr
  obtain ⟨e0, e1, e2⟩ := hN1.cells
  obtain ⟨f0, f1, f2⟩ := hN2.cells
  go_enter Tryz.func7, Tryz.ntmps7
  go_wp2_with fail
  generalize ((w.alloc (NC (.slice a nv ca) (.slice b nl cb) (.slice c nr cc))).alloc (NC (.slice d nv cd) (.slice e nl ce) (.slice f nr cf))) = W at *
  refine (HSL.out _ hA).mono ?_
  rintro e9 w1 ⟨rfl, hb⟩
  have hA1 := hA.trans (hb.mono hA.size)
  have hN3 := hN1.below hb hN1.lt
  have hN4 := hN2.below hb hN2.lt
  clear hA hN1 hN2 hb e0 e1 e2 f0 f1 f2
  obtain ⟨e0, e1, e2⟩ := hN3.cells
  obtain ⟨f0, f1, f2⟩ := hN4.cells
  go_wp2_with fail
  refine (HSR.out _ hA1).mono ?_
  rintro e9 w2 ⟨rfl, hb⟩
  have HA2 := hid (hA1.trans (hb.mono hA1.size))
  have HN3 := hid (hN3.below hb hN3.lt)
  have HN4 := hid (hN4.below hb hN4.lt)
  clear hA1 hN3 hN4 hb e0 e1 e2 f0 f1 f2 HSL HSR
  go_wp2_with fail
  go_loopw [5] (fun iv wr => ∃ i : Nat, i ≤ nv ∧ iv = .int .i64 i ∧ Hid (Below w.heap.size w wr) ∧ Hid (NBox wr w.heap.size (.slice a nv ca) (.slice b nl cb) (.slice c nr cc)) ∧ Hid (NBox wr (w.heap.size + 1) (.slice d nv cd) (.slice e nl ce) (.slice f nr cf))) (fun iv _ => nv - (intOf iv).toNat)
  case atStart => exact ⟨0, Nat.zero_le _, rfl, HA2, HN3, HN4⟩
  case round =>
    clear HA2 HN3 HN4
    obtain ⟨i, hi, rfl, HA, HN1, HN2⟩ := hrel
    obtain ⟨e0, e1, e2⟩ := HN1.out.cells
    obtain ⟨f0, f1, f2⟩ := HN2.out.cells
    by_cases hlt : i < nv
    · have hiV : i < V.length := by rw [HNV.out]; exact hlt
      obtain ⟨g, o, b1, c1, rfl, hg, k0, k1, hS1, -⟩ := (HV1.out wr HA.out) i hiV
      obtain ⟨g2, o2, b2, c2, rfl, hg2, m0, m1, hS2, -⟩ := (HV2.out wr HA.out) i hiV
      have hvl := HKV.out _ (List.getElem_mem hiV)
      have HST := hid (fun m => sameTexts_q b1 b2 c1 c2 V[i].2 (wr.drewN m) (hS1.below (below_drewN (Below.refl _ wr) m)) (hS2.below (below_drewN (Below.refl _ wr) m)) (by omega))
      clear hS1 hS2
      generalize V[i].2.length = vl at *
      generalize V[i].1 = nm at *
      have hnn : decide (nm = nm) = true := decide_eq_true rfl
      go_wp2_with fail
      go_quiet ((go_at_call 21; refine Calls.quiet_of (HST.out _)))
      go_wp2
      go_roundw
      case rel => exact ⟨i + 1, by omega, by go_num, below_drewN HA.out _, HN1.out.below (below_drewN (Below.refl _ wr) _) HN1.out.lt, HN2.out.below (below_drewN (Below.refl _ wr) _) HN2.out.lt⟩
      case measure => simp [intOf]; omega
    · obtain rfl : i = nv := by omega
      go_wp2
      go_ret
      exact ⟨rfl, HA.out⟩
end Go.Proofs.YtojidhnkpeiimaaGreatDoor

/- Print of package net. -/
namespace Go.Proofs.YtojidhnkpeiimaaGreatDoor
open Go.RowKit Go.Shelf
set_option maxRecDepth 100000 in
set_option maxHeartbeats 2000000 in
theorem nPrint_any (a b c : Option Addr) (ca cb cc : Nat) (V : List Vr) (L : List (List Int)) (R : List (List Fr)) (w : World) (h : NetI w a b c V L R) (hs : NSm V L R) (htab : Lib.TabIs Tryz.prog w "internal/strconv.uint64pow10" .u64 Lib.pow10Tab) :
    Calls Tryz.prog 5 #[.agg #[.slice a V.length ca, .slice b L.length cb, .slice c R.length cc]] w fun e w' => e = .returned (.tuple #[.string (prT V L R), .int .i64 (prE V L R)]) ∧ Below w.heap.size w w' := by
  have HI := hid h
  have HTB := hid htab
  have HCK := hid (fun (U : World) (hU : NetI U a b c V L R) => check_any a b c ca cb cc V L R U hU hs)
  have HWR := hid (fun (h0 : netE V L R = 0) (U : World) (hU : NetI U a b c V L R) (hT : Lib.TabIs Tryz.prog U "internal/strconv.uint64pow10" .u64 Lib.pow10Tab) => write_any a b c ca cb cc V L R U hU hs h0 hT)
  have HK0 := hid (NK.new w (.slice a V.length ca) (.slice b L.length cb) (.slice c R.length cc))
  obtain ⟨c0, c1, c2⟩ := HK0.out.1.cells
  have HLE := hid (fun (h0 : netE V L R = 0) => (prS_of hs (netE_ok h0)).two V.length (Nat.le_refl _))
  clear h hs htab
  go_enter Tryz.func5, Tryz.ntmps5
  go_wp2_with fail
  generalize (w.alloc (NC (.slice a V.length ca) (.slice b L.length cb) (.slice c R.length cc))) = w1 at *
  refine (HCK.out _ (HI.out.below HK0.out.2)).mono ?_
  rintro e w2 ⟨rfl, hb⟩
  have HK := hid (HK0.out.step hb)
  clear hb HK0 c0 c1 c2 HCK
  obtain ⟨c0, c1, c2⟩ := HK.out.1.cells
  by_cases h0 : netE V L R = 0
  case neg =>
    have HE := hid (prE_bad h0)
    generalize netE V L R = ne at *
    have hnb : (ne == 0) = false := by simpa using h0
    clear h0
    go_wp2
    go_ret2
    exact ⟨by rw [HE.out.1, HE.out.2]; rfl, HK.out.2⟩
  case pos =>
    have HRES := hid (prE_of h0)
    have HW := hid (HWR.out h0)
    have hle : (netL V L R).length ≤ 400000000000 := HLE.out h0
    rw [h0]
    have hsz := tx_size (netL V L R)
    go_wp2_with fail
    refine (HW.out _ (HI.out.below HK.out.2) (tab_below HTB.out HK.out.2)).mono ?_
    rintro e w3 ⟨rfl, hb⟩
    have HB := hid (HK.out.2.trans (hb.mono HK.out.2.size))
    clear hb c0 c1 c2
    by_cases h20 : (netL V L R).length ≤ 20000
    · have HR := hid (HRES.out.1 h20)
      have hsi : ((tx (netL V L R)).size : Int) ≤ 20000 := by omega
      clear hsz h20
      generalize tx (netL V L R) = S at *
      go_wp2
      go_ret2
      exact ⟨by rw [HR.out.1, HR.out.2]; rfl, HB.out⟩
    · have HR := hid (HRES.out.2 (by omega))
      have hsi : (20000 : Int) < ((tx (netL V L R)).size : Int) := by omega
      clear hsz h20
      generalize tx (netL V L R) = S at *
      go_wp2
      go_ret2
      exact ⟨by rw [HR.out.1, HR.out.2]; rfl, HB.out⟩
end Go.Proofs.YtojidhnkpeiimaaGreatDoor
