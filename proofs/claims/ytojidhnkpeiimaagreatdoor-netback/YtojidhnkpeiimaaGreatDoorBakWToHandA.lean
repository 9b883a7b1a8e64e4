/- The law NetBack answers true: a net's text reads back as the net with its numbers in lowest terms. -/
import Derived.Test.YtojidhnkpeiimaaGreatDoorBakLToPrnH
import Derived.Test.YtojidhnkpeiimaaGreatDoorCrAToBakQ
import Derived.Test.YtojidhnkpeiimaaGreatDoorFracAToRefS
import Derived.Deep.Strs
import Derived.HandedShaped
import Derived.ProofKit
import Derived.OpenShut
import Derived.ShutString
import Derived.SizedLaws
import Derived.Test.YtojidhnkpeiimaaGreatDoorSumAToNameD
import Derived.Carry
import Derived.Test.YtojidhnkpeiimaaGreatDoorBakPToMadC
import Derived.Test.YtojidhnkpeiimaaGreatDoorMadEOwn
import Derived.Lib.SmallJoins
import Derived.Test.YtojidhnkpeiimaaGreatDoorProg
namespace Go.Proofs.YtojidhnkpeiimaaGreatDoor
open Go.RowKit Go.Shelf Go.Lib
structure BK (w W : World) (g3 g6 : Nat) (a b c a' b' c' : Option Addr) (ca cb cc ca' cb' cc' : Nat) (V : List Vr) (L : List (List Int)) (R : List (List Fr)) : Prop where
  b3 : NBox W g3 (.slice a V.length ca) (.slice b L.length cb) (.slice c R.length cc)
  b6 : NBox W g6 (.slice a' V.length ca') (.slice b' L.length cb') (.slice c' (lowR R).length cc')
  n3 : NetI W a b c V L R
  n6 : NetI W a' b' c' V L (lowR R)
  low : Below w.heap.size w W
section
variable {w W U : World} {g3 g6 : Nat} {a b c a' b' c' : Option Addr} {ca cb cc ca' cb' cc' : Nat} {V : List Vr} {L : List (List Int)} {R : List (List Fr)}
theorem BK.below (h : BK w W g3 g6 a b c a' b' c' ca cb cc ca' cb' cc' V L R) (hb : Below W.heap.size W U) : BK w U g3 g6 a b c a' b' c' ca cb cc ca' cb' cc' V L R :=
  ⟨h.b3.below hb h.b3.lt, h.b6.below hb h.b6.lt, h.n3.below hb, h.n6.below hb, h.low.trans (hb.mono h.low.size)⟩
theorem BK.cells (h : BK w W g3 g6 a b c a' b' c' ca cb cc ca' cb' cc' V L R) : W.cell? ⟨g3, 0, none⟩ = some (.slice a V.length ca) ∧ W.cell? ⟨g3, 1, none⟩ = some (.slice b L.length cb) ∧ W.cell? ⟨g3, 2, none⟩ = some (.slice c R.length cc) ∧ W.cell? ⟨g6, 0, none⟩ = some (.slice a' V.length ca') ∧ W.cell? ⟨g6, 1, none⟩ = some (.slice b' L.length cb') ∧ W.cell? ⟨g6, 2, none⟩ = some (.slice c' (lowR R).length cc') := by
  obtain ⟨x0, x1, x2⟩ := h.b3.cells
  obtain ⟨y0, y1, y2⟩ := h.b6.cells
  exact ⟨x0, x1, x2, y0, y1, y2⟩
end
theorem row_few {V : List Vr} {L : List (List Int)} {R : List (List Fr)} (h : NM V L R) : ∀ l ∈ R, l.length ≤ 256 ∧ ∀ f ∈ l, NuOK f := fun l hl => by
  have hk := netE_ok h.ok
  obtain ⟨v, hv, rfl⟩ := List.getElem_of_mem hl
  have hvV : v < V.length := by rw [← hk.lenR]; exact hv
  have ho := var_ok h hvV
  have e1 := ho.len
  have e2 := ho.tiny
  have e3 := ho.rows
  rw [getL hv] at e1 e2 e3
  have h1 := cnt_le (S := sizesN V) (fun u => Nat.le_trans (h.szs u) (by decide)) (toN (L.getD v []))
  have h2 : 4 ^ (toN (L.getD v [])).length ≤ 4 ^ 3 := Nat.pow_le_pow_right (by decide) (by rw [toN_length]; exact ho.few)
  refine ⟨?_, fun f hf => ?_⟩
  · rw [e1]
    have h3 : cnt (sizesN V) (toN (L.getD v [])) * sz (sizesN V) v ≤ 64 * 4 := Nat.mul_le_mul (Nat.le_trans h1 h2) ho.sz4
    exact h3
  · obtain ⟨i, hi, hm⟩ := chunk_all e1 hf
    exact nu_ok (e2 f hf) (row_sgn (e3 i hi) f hm)
theorem lowR_len (R : List (List Fr)) : (lowR R).length = R.length := List.length_map _
theorem low_small {V : List Vr} {L : List (List Int)} {R : List (List Fr)} (h : NM V L R) : NSm V L (lowR R) := by
  refine ⟨h.small.vars, h.small.pars, by rw [lowR_len]; exact h.small.rows.1, fun l hl => ?_⟩
  obtain ⟨l0, h0, rfl⟩ := List.mem_map.1 hl
  obtain ⟨h1, h2⟩ := row_few h l0 h0
  have h3 := fw_low h2
  exact ⟨by rw [List.length_map]; omega, by omega⟩
theorem few_low {V : List Vr} {L : List (List Int)} {R : List (List Fr)} (h : NM V L R) : Few9 V L (lowR R) := by
  have hk := netE_ok h.ok
  obtain ⟨hv, -, -⟩ := net_parts h.ok
  have h6 := h.six
  have e1 := hk.len
  have e2 := hk.lenR
  refine ⟨⟨by omega, fun x hx => ?_⟩, ⟨by omega, fun l hl => Nat.le_trans (h.few l hl) (by decide)⟩, ⟨by rw [lowR_len]; omega, fun l hl => ?_⟩⟩
  · obtain ⟨i, hi, rfl⟩ := List.getElem_of_mem hx
    exact Nat.le_trans (hv.len i hi).2 (by decide)
  · obtain ⟨l0, h0, rfl⟩ := List.mem_map.1 hl
    rw [List.length_map]
    exact Nat.le_trans (row_few h l0 h0).1 (by decide)
set_option maxRecDepth 100000 in
set_option maxHeartbeats 8000000 in
theorem netBack_walk (a1 a2 a3 : Option Addr) (c1 c2 c3 : Nat) (L1 L2 L3 : List Int) (bk : Bool) (m : Int) (w : World) (h1 : IntS w a1 L1) (h2 : IntS w a2 L2) (h3 : IntS w a3 L3) (r1 : Rng L1) (r2 : Rng L2) (r3 : Rng L3)
    (hm : w.cell? ⟨0, 0, none⟩ = some (.int .i64 m)) (htab : TabIs Tryz.prog w "internal/strconv.uint64pow10" .u64 pow10Tab) :
    Calls Tryz.prog 3 #[.agg #[.slice a1 L1.length c1, .slice a2 L2.length c2, .slice a3 L3.length c3, .bool bk]] w fun e w' => e = .returned (.bool true) ∧ Below w.heap.size w w' := by
  have hgw : 0 < w.heap.size := by
    rcases Nat.lt_or_ge 0 w.heap.size with h' | h'
    · exact h'
    · rw [World.cell?, Array.getElem?_eq_none h'] at hm
      cases hm
  have HMD := hid (fun (U : World) (hB : Below w.heap.size w U) => made_net a1 a2 a3 c1 c2 c3 L1 L2 L3 bk U (h1.below hB) (h2.below hB) (h3.below hB) r1 r2 r3)
  have HGC := hid (fun (U : World) (hB : Below w.heap.size w U) => (hB.cell (p := ⟨0, 0, none⟩) hgw).trans hm)
  have HTB := hid (fun (U : World) (hB : Below w.heap.size w U) => tab_below htab hB)
  have hrb : (w.alloc (.cells #[.slice a1 L1.length c1, .slice a2 L2.length c2, .slice a3 L3.length c3, .bool bk] 24)).heap[w.heap.size]? = some (.cells #[.slice a1 L1.length c1, .slice a2 L2.length c2, .slice a3 L3.length c3, .bool bk] 24 (0, 0)) := heap_alloc_new w _
  have q0 : (w.alloc (.cells #[.slice a1 L1.length c1, .slice a2 L2.length c2, .slice a3 L3.length c3, .bool bk] 24)).cell? ⟨w.heap.size, 0, none⟩ = some (.slice a1 L1.length c1) := by rw [cell_of_row _ _ _ _ _ (0, 0) hrb]; rfl
  have q1 : (w.alloc (.cells #[.slice a1 L1.length c1, .slice a2 L2.length c2, .slice a3 L3.length c3, .bool bk] 24)).cell? ⟨w.heap.size, 1, none⟩ = some (.slice a2 L2.length c2) := by rw [cell_of_row _ _ _ _ _ (0, 0) hrb]; rfl
  have q2 : (w.alloc (.cells #[.slice a1 L1.length c1, .slice a2 L2.length c2, .slice a3 L3.length c3, .bool bk] 24)).cell? ⟨w.heap.size, 2, none⟩ = some (.slice a3 L3.length c3) := by rw [cell_of_row _ _ _ _ _ (0, 0) hrb]; rfl
  have q3 : (w.alloc (.cells #[.slice a1 L1.length c1, .slice a2 L2.length c2, .slice a3 L3.length c3, .bool bk] 24)).cell? ⟨w.heap.size, 3, none⟩ = some (.bool bk) := by rw [cell_of_row _ _ _ _ _ (0, 0) hrb]; rfl
  have hb0 : Below w.heap.size w (w.alloc (.cells #[.slice a1 L1.length c1, .slice a2 L2.length c2, .slice a3 L3.length c3, .bool bk] 24)) := (Below.refl _ w).alloc (Nat.le_refl _) _
  clear h1 h2 h3 r1 r2 r3 hrb hm htab hgw
  go_enter Tryz.func3, Tryz.ntmps3
  go_wp2_with fail
  generalize (w.alloc (.cells #[.slice a1 L1.length c1, .slice a2 L2.length c2, .slice a3 L3.length c3, .bool bk] 24)) = W0 at *
  refine (HMD.out _ hb0).mono ?_
  rintro e W1 ⟨a, b, c, ca, cb, cc, V, L, R, rfl, hN, -, hNM, hb1⟩
  have hB1 := hb0.trans (hb1.mono hb0.size)
  clear q0 q1 q2 q3 hb1 hb0
  have hbx := NBox.at (w := W1) rfl (.slice a V.length ca) (.slice b L.length cb) (.slice c R.length cc)
  have hbA : Below W1.heap.size W1 (W1.alloc (NC (.slice a V.length ca) (.slice b L.length cb) (.slice c R.length cc))) := (Below.refl _ W1).alloc (Nat.le_refl _) _
  have hN2 := hN.below hbA
  have hB2 := hB1.trans (hbA.mono hB1.size)
  have hsh := net_short hNM
  have ep : prE V L R = 0 := by rw [prE, if_pos hNM.ok, if_pos hsh]
  have et : prT V L R = tx (netL V L R) := by rw [prT, if_pos ⟨hNM.ok, hsh⟩]
  have HPR : Hid (∀ U : World, NetI U a b c V L R → TabIs Tryz.prog U "internal/strconv.uint64pow10" .u64 pow10Tab → Calls Tryz.prog 5 #[.agg #[.slice a V.length ca, .slice b L.length cb, .slice c R.length cc]] U fun e w' => e = .returned (.tuple #[.string (tx (netL V L R)), .int .i64 0]) ∧ Below U.heap.size U w') := fun U hU hT => by
    have := nPrint_any a b c ca cb cc V L R U hU hNM.small hT
    rwa [ep, et] at this
  have HPS : Hid (∀ U : World, U.cell? ⟨0, 0, none⟩ = some (.int .i64 m) → Calls Tryz.prog 6 #[.string (tx (netL V L R))] U fun e w' => ∃ (a b c : Option Addr) (ca cb cc : Nat), e = .returned (.tuple #[.agg #[.slice a V.length ca, .slice b L.length cb, .slice c (lowR R).length cc], .int .i64 0]) ∧ NetI w' a b c V L (lowR R) ∧ Below U.heap.size U w') := fun U hU =>
    netParse_any hNM (netL V L R) m U hsh (net_rst (tkn_of hNM.ok)) hU
  have HLOW : Hid (∀ U : World, NetI U a b c V L R → Calls Tryz.prog 8 #[.agg #[.slice a V.length ca, .slice b L.length cb, .slice c R.length cc]] U fun e w' => ∃ d cd, e = .returned (.agg #[.slice a V.length ca, .slice b L.length cb, .slice d (lowR R).length cd]) ∧ NetI w' a b d V L (lowR R) ∧ Below U.heap.size U w') := fun U hU =>
    lowest_any a b c ca cb cc V L R U hU (by have := (netE_ok hNM.ok).lenR; have := hNM.six; omega) (fun l hl => ⟨Nat.le_trans (row_few hNM l hl).1 (by decide), fun f hf => Nat.le_trans (hNM.tiny l hl f hf) (by decide)⟩)
  have hfew := few_low hNM
  have hsml := low_small hNM
  have HSAM : Hid (∀ (a' b' c' : Option Addr) (ca' cb' cc' : Nat) (U : World) (d : Option Addr) (cd : Nat), NetI U a' b' c' V L (lowR R) → NetI U a b d V L (lowR R) → Calls Tryz.prog 7 #[.agg #[.slice a' V.length ca', .slice b' L.length cb', .slice c' (lowR R).length cc'], .agg #[.slice a V.length ca, .slice b L.length cb, .slice d (lowR R).length cd]] U fun e w' => e = .returned (.bool true) ∧ Below U.heap.size U w') := fun a' b' c' ca' cb' cc' U d cd h1 h2 =>
    sameNet_any a' b' c' a b d ca' cb' cc' ca cb cd V L (lowR R) U h1 h2 hfew
  have HCK : Hid (∀ (a' b' c' : Option Addr) (ca' cb' cc' : Nat) (U : World), NetI U a' b' c' V L (lowR R) → Calls Tryz.prog 9 #[.agg #[.slice a' V.length ca', .slice b' L.length cb', .slice c' (lowR R).length cc']] U fun e w' => e = .returned (.int .i64 0) ∧ Below U.heap.size U w') := fun a' b' c' ca' cb' cc' U hU => by
    have := check_any a' b' c' ca' cb' cc' V L (lowR R) U hU hsml
    rwa [netE_low, hNM.ok] at this
  obtain ⟨g3, hg3⟩ : ∃ g, W1.heap.size = g := ⟨_, rfl⟩
  obtain ⟨W2, hW2⟩ : ∃ U, W1.alloc (.cells #[.slice a V.length ca, .slice b L.length cb, .slice c R.length cc] 29) = U := ⟨_, rfl⟩
  have hbx2 : NBox W2 g3 (.slice a V.length ca) (.slice b L.length cb) (.slice c R.length cc) := by rw [← hW2, ← hg3]; exact hbx
  have hN3 : NetI W2 a b c V L R := by rw [← hW2]; exact hN2
  have hB3 : Below w.heap.size w W2 := by rw [← hW2]; exact hB2
  have HN2 := hid hN3
  have HB2 := hid hB3
  have HX2 := hid hbx2
  have HW := hid hW2
  have HG := hid hg3
  clear hN hbA hN2 hB1 hB2 hbx hsh ep et hfew hsml hNM HMD hN3 hB3 hbx2 hW2 hg3
  generalize netL V L R = tl at *
  go_wp2_with fail
  simp only [HG.out, HW.out]
  refine (HPR.out _ HN2.out (HTB.out _ HB2.out)).mono ?_
  rintro e W3 ⟨rfl, hb⟩
  have N3 := hid (HN2.out.below hb)
  have B3 := hid (HB2.out.trans (hb.mono HB2.out.size))
  have X3 := hid (HX2.out.below hb HX2.out.lt)
  clear hb HN2 HB2 HX2 HPR HTB
  go_wp2_with fail
  refine (HPS.out _ (HGC.out _ B3.out)).mono ?_
  rintro e W4 ⟨a', b', c', ca', cb', cc', rfl, hn6, hb⟩
  have hbA : Below W4.heap.size W4 (W4.alloc (.cells #[.slice a' V.length ca', .slice b' L.length cb', .slice c' (lowR R).length cc'] 29)) := (Below.refl _ W4).alloc (Nat.le_refl _) _
  have hB4 := B3.out.trans (hb.mono B3.out.size)
  have hX4 := X3.out.below hb X3.out.lt
  have hk : BK w (W4.alloc (.cells #[.slice a' V.length ca', .slice b' L.length cb', .slice c' (lowR R).length cc'] 29)) g3 W4.heap.size a b c a' b' c' ca cb cc ca' cb' cc' V L R :=
    ⟨hX4.below hbA hX4.lt, NBox.at (w := W4) rfl _ _ _, (N3.out.below hb).below hbA, hn6.below hbA, hB4.trans (hbA.mono hB4.size)⟩
  obtain ⟨g6, hg6⟩ : ∃ g, W4.heap.size = g := ⟨_, rfl⟩
  obtain ⟨W5, hW5⟩ : ∃ U, W4.alloc (.cells #[.slice a' V.length ca', .slice b' L.length cb', .slice c' (lowR R).length cc'] 29) = U := ⟨_, rfl⟩
  rw [hg6, hW5] at hk
  have K3 := hid hk
  have HG6 := hid hg6
  have HW5 := hid hW5
  replace HSAM := hid (HSAM.out a' b' c' ca' cb' cc')
  replace HCK := hid (HCK.out a' b' c' ca' cb' cc')
  clear hk hg6 hW5 hbA hB4 hX4 hn6 hb N3 B3 X3 HPS HGC HW HG
  go_upto_region 4 with fail
  simp only [HG6.out, HW5.out]
  have hbD : Below W5.heap.size W5 W5.drew := (Below.refl _ W5).drew
  have K4 := hid (K3.out.below hbD)
  clear hbD K3 HG6 HW5
  refine wp_region_held_drew (S := fun u => u.cell? ⟨g3, 0, none⟩ = some (.slice a V.length ca) ∧ u.cell? ⟨g3, 1, none⟩ = some (.slice b L.length cb) ∧ u.cell? ⟨g3, 2, none⟩ = some (.slice c R.length cc) ∧ u.cell? ⟨g6, 0, none⟩ = some (.slice a' V.length ca') ∧ u.cell? ⟨g6, 1, none⟩ = some (.slice b' L.length cb') ∧ u.cell? ⟨g6, 2, none⟩ = some (.slice c' (lowR R).length cc')) (by kernel_rfl) K4.out.cells (fun hSd => ?_)
  generalize W5.drew = z1 at *
  refine wpAnyH_take (i := 0) (oi := _) (v := (.int .i64 0)) rfl (by kernel_rfl) (by kernel_rfl) (by kernel_rfl) (fun _ _ _ h => h) (Or.inl ⟨by rfl, ?_⟩) (by assumption) ?_
  · intro u' hSu
    (try simp only [List.getElem_toArray, List.getElem_cons_zero])
    go_simp
  (try simp only [List.getElem_toArray, List.getElem_cons_zero])
  (try simp only [Act.put, List.setIfInBounds_toArray, List.set_cons_zero, List.set_cons_succ])
  refine wpAnyH_take (i := 1) (oi := _) (v := (.bool true)) rfl (by kernel_rfl) (by kernel_rfl) (by kernel_rfl) (fun _ _ _ h => h) (Or.inl ⟨by rfl, ?_⟩) (by assumption) ?_
  · intro u' hSu
    (try simp only [List.getElem_toArray, List.getElem_cons_zero, List.getElem_cons_succ])
    go_simp
  (try simp only [List.getElem_toArray, List.getElem_cons_zero, List.getElem_cons_succ])
  (try simp only [Act.put, List.setIfInBounds_toArray, List.set_cons_zero, List.set_cons_succ])
  refine wpAnyH_take (i := 2) (oi := _) (v := (.bool true)) rfl (by kernel_rfl) (by kernel_rfl) (by kernel_rfl) (fun _ _ _ h => h) (Or.inl ⟨by rfl, ?_⟩) (by assumption) ?_
  · intro u' hSu
    (try simp only [List.getElem_toArray, List.getElem_cons_zero, List.getElem_cons_succ])
    go_simp
  (try simp only [List.getElem_toArray, List.getElem_cons_zero, List.getElem_cons_succ])
  (try simp only [Act.put, List.setIfInBounds_toArray, List.set_cons_zero, List.set_cons_succ])
  refine wpAnyH_take (i := 3) (oi := _) (v := (.int .i64 0)) rfl (by kernel_rfl) (by kernel_rfl) (by kernel_rfl) (fun _ _ _ h => h) (Or.inl ⟨by rfl, ?_⟩) (by assumption) ?_
  · intro u' hSu
    (try simp only [List.getElem_toArray, List.getElem_cons_zero, List.getElem_cons_succ])
    go_simp
  (try simp only [List.getElem_toArray, List.getElem_cons_zero, List.getElem_cons_succ])
  (try simp only [Act.put, List.setIfInBounds_toArray, List.set_cons_zero, List.set_cons_succ])
  refine wpAnyH_take (i := 4) (oi := _) (v := (.bool true)) rfl (by kernel_rfl) (by kernel_rfl) (by kernel_rfl) (fun _ _ _ h => h) (Or.inl ⟨by rfl, ?_⟩) (by assumption) ?_
  · intro u' hSu
    (try simp only [List.getElem_toArray, List.getElem_cons_zero, List.getElem_cons_succ])
    go_simp
  (try simp only [List.getElem_toArray, List.getElem_cons_zero, List.getElem_cons_succ])
  (try simp only [Act.put, List.setIfInBounds_toArray, List.set_cons_zero, List.set_cons_succ])
  refine wpAnyH_take (i := 5) (oi := _) (v := (.bool true)) rfl (by kernel_rfl) (by kernel_rfl) (by kernel_rfl) (fun _ _ _ h => h) (Or.inl ⟨by rfl, ?_⟩) (by assumption) ?_
  · intro u' hSu
    (try simp only [List.getElem_toArray, List.getElem_cons_zero, List.getElem_cons_succ])
    go_simp
  (try simp only [List.getElem_toArray, List.getElem_cons_zero, List.getElem_cons_succ])
  (try simp only [Act.put, List.setIfInBounds_toArray, List.set_cons_zero, List.set_cons_succ])
  refine wpAnyH_take (i := 6) (oi := _) (v := (.bool true)) rfl (by kernel_rfl) (by kernel_rfl) (by kernel_rfl) (fun _ _ _ h => h) (Or.inl ⟨by rfl, ?_⟩) (by assumption) ?_
  · intro u' hSu
    (try simp only [List.getElem_toArray, List.getElem_cons_zero, List.getElem_cons_succ])
    go_simp
  (try simp only [List.getElem_toArray, List.getElem_cons_zero, List.getElem_cons_succ])
  (try simp only [Act.put, List.setIfInBounds_toArray, List.set_cons_zero, List.set_cons_succ])
  refine wpAnyH_take (i := 7) (oi := _) (v := (.agg #[.slice a' V.length ca', .slice b' L.length cb', .slice c' (lowR R).length cc'])) rfl (by kernel_rfl) (by kernel_rfl) (by kernel_rfl) (fun _ _ _ h => h) (Or.inl ⟨by rfl, ?_⟩) (by assumption) ?_
  · intro u' hSu
    (try simp only [List.getElem_toArray, List.getElem_cons_zero, List.getElem_cons_succ])
    obtain ⟨s1, s2, s3, s4, s5, s6⟩ := hSu
    go_simp
  (try simp only [List.getElem_toArray, List.getElem_cons_zero, List.getElem_cons_succ])
  (try simp only [Act.put, List.setIfInBounds_toArray, List.set_cons_zero, List.set_cons_succ])
  refine wpAnyH_take (i := 8) (oi := _) (v := (.agg #[.slice a V.length ca, .slice b L.length cb, .slice c R.length cc])) rfl (by kernel_rfl) (by kernel_rfl) (by kernel_rfl) (fun _ _ _ h => h) (Or.inl ⟨by rfl, ?_⟩) (by assumption) ?_
  · intro u' hSu
    (try simp only [List.getElem_toArray, List.getElem_cons_zero, List.getElem_cons_succ])
    obtain ⟨s1, s2, s3, s4, s5, s6⟩ := hSu
    go_simp
  (try simp only [List.getElem_toArray, List.getElem_cons_zero, List.getElem_cons_succ])
  (try simp only [Act.put, List.setIfInBounds_toArray, List.set_cons_zero, List.set_cons_succ])
  refine wpAnyH_ready (rs := [9]) (by kernel_rfl) (by simp) (AllReadyH.cons rfl ?_ (AllReadyH.nil))
  · intro K' hK'
    (try simp only [List.getElem_toArray, List.getElem_cons_zero, List.getElem_cons_succ])
    go_simp
    refine (HLOW.out z1 K4.out.n3).mono ?_
    rintro e z2 ⟨d, cd, rfl, n9, hb⟩
    have K5 := hid (K4.out.below hb)
    have N9 := hid n9
    clear n9 hb K4 HLOW
    refine hK'.out _ _ K5.out.cells (fun hSe => ?_)
    clear hK' K' hSd
    (try simp only [List.getElem_toArray, List.getElem_cons_zero, List.getElem_cons_succ])
    (try simp only [Act.put, List.setIfInBounds_toArray, List.set_cons_zero, List.set_cons_succ])
    refine wpAnyH_ready (rs := [10]) (by kernel_rfl) (by simp) (AllReadyH.cons rfl ?_ (AllReadyH.nil))
    · intro K' hK'
      (try simp only [List.getElem_toArray, List.getElem_cons_zero, List.getElem_cons_succ])
      go_simp
      refine (HSAM.out _ d cd K5.out.n6 N9.out).mono ?_
      rintro e z3 ⟨rfl, hb⟩
      have K6 := hid (K5.out.below hb)
      clear hb K5 N9 HSAM
      refine hK'.out _ _ K6.out.cells (fun hSf => ?_)
      clear hK' K' hSe
      (try simp only [List.getElem_toArray, List.getElem_cons_zero, List.getElem_cons_succ])
      (try simp only [Act.put, List.setIfInBounds_toArray, List.set_cons_zero, List.set_cons_succ])
      refine wpAnyH_take (i := 11) (oi := _) (v := (.bool true)) rfl (by kernel_rfl) (by kernel_rfl) (by kernel_rfl) (fun _ _ _ h => h) (Or.inl ⟨by rfl, ?_⟩) (by assumption) ?_
      · intro u' hSu
        (try simp only [List.getElem_toArray, List.getElem_cons_zero, List.getElem_cons_succ])
        go_simp
      (try simp only [List.getElem_toArray, List.getElem_cons_zero, List.getElem_cons_succ])
      (try simp only [Act.put, List.setIfInBounds_toArray, List.set_cons_zero, List.set_cons_succ])
      refine wpAnyH_take (i := 12) (oi := _) (v := (.bool true)) rfl (by kernel_rfl) (by kernel_rfl) (by kernel_rfl) (fun _ _ _ h => h) (Or.inl ⟨by rfl, ?_⟩) (by assumption) ?_
      · intro u' hSu
        (try simp only [List.getElem_toArray, List.getElem_cons_zero, List.getElem_cons_succ])
        go_simp
      (try simp only [List.getElem_toArray, List.getElem_cons_zero, List.getElem_cons_succ])
      (try simp only [Act.put, List.setIfInBounds_toArray, List.set_cons_zero, List.set_cons_succ])
      refine wpAnyH_take (i := 13) (oi := _) (v := (.agg #[.slice a' V.length ca', .slice b' L.length cb', .slice c' (lowR R).length cc'])) rfl (by kernel_rfl) (by kernel_rfl) (by kernel_rfl) (fun _ _ _ h => h) (Or.inl ⟨by rfl, ?_⟩) (by assumption) ?_
      · intro u' hSu
        (try simp only [List.getElem_toArray, List.getElem_cons_zero, List.getElem_cons_succ])
        obtain ⟨s1, s2, s3, s4, s5, s6⟩ := hSu
        go_simp
      (try simp only [List.getElem_toArray, List.getElem_cons_zero, List.getElem_cons_succ])
      (try simp only [Act.put, List.setIfInBounds_toArray, List.set_cons_zero, List.set_cons_succ])
      refine wpAnyH_ready (rs := [14]) (by kernel_rfl) (by simp) (AllReadyH.cons rfl ?_ (AllReadyH.nil))
      · intro K' hK'
        (try simp only [List.getElem_toArray, List.getElem_cons_zero, List.getElem_cons_succ])
        go_simp
        refine (HCK.out _ K6.out.n6).mono ?_
        rintro e z4 ⟨rfl, hb⟩
        have K7 := hid (K6.out.below hb)
        clear hb K6 HCK
        refine hK'.out _ _ K7.out.cells (fun hSg => ?_)
        clear hK' K' hSf
        (try simp only [List.getElem_toArray, List.getElem_cons_zero, List.getElem_cons_succ])
        (try simp only [Act.put, List.setIfInBounds_toArray, List.set_cons_zero, List.set_cons_succ])
        refine wpAnyH_take (i := 15) (oi := _) (v := (.bool true)) rfl (by kernel_rfl) (by kernel_rfl) (by kernel_rfl) (fun _ _ _ h => h) (Or.inl ⟨by rfl, ?_⟩) (by assumption) ?_
        · intro u' hSu
          (try simp only [List.getElem_toArray, List.getElem_cons_zero, List.getElem_cons_succ])
          go_simp
        (try simp only [List.getElem_toArray, List.getElem_cons_zero, List.getElem_cons_succ])
        (try simp only [Act.put, List.setIfInBounds_toArray, List.set_cons_zero, List.set_cons_succ])
        refine wpAnyH_take (i := 16) (oi := _) (v := (.bool true)) rfl (by kernel_rfl) (by kernel_rfl) (by kernel_rfl) (fun _ _ _ h => h) (Or.inl ⟨by rfl, ?_⟩) (by assumption) ?_
        · intro u' hSu
          (try simp only [List.getElem_toArray, List.getElem_cons_zero, List.getElem_cons_succ])
          go_simp
        (try simp only [List.getElem_toArray, List.getElem_cons_zero, List.getElem_cons_succ])
        (try simp only [Act.put, List.setIfInBounds_toArray, List.set_cons_zero, List.set_cons_succ])
        refine wpAnyH_take (i := 17) (oi := _) (v := (.bool true)) rfl (by kernel_rfl) (by kernel_rfl) (by kernel_rfl) (fun _ _ _ h => h) (Or.inl ⟨by rfl, ?_⟩) (by assumption) ?_
        · intro u' hSu
          (try simp only [List.getElem_toArray, List.getElem_cons_zero, List.getElem_cons_succ])
          go_simp
        (try simp only [List.getElem_toArray, List.getElem_cons_zero, List.getElem_cons_succ])
        (try simp only [Act.put, List.setIfInBounds_toArray, List.set_cons_zero, List.set_cons_succ])
        try simp only [List.getElem_toArray, List.getElem_cons_zero, List.getElem_cons_succ]
        try simp only [Act.put, List.setIfInBounds_toArray, List.set_cons_zero, List.set_cons_succ]
        refine wpAnyH_done (by kernel_rfl) ?_ _
        clear hSg
        go_wp2
        go_ret
        exact ⟨rfl, K7.out.low⟩
end Go.Proofs.YtojidhnkpeiimaaGreatDoor

/- A lifting that hands on the world's shape beside what the row lists; fractions opened and shut. -/
namespace Go.Proofs.YtojidhnkpeiimaaGreatDoor
open Go.ChangeShapes Go.WideShapes Go.ChangeAt Go.RowKit
theorem lift_shaped {H : Type} {enc : TypeId × Value → H} {a : Assume} {C : Checked} {os : Os} {f : FuncId} {fn : Func} {s : ChangeSpec} {conds : List PathCond} {apart fresh handsOn again : Bool} {X : World → Array Value → Prop}
    (hX : ∀ (w w' : World) (args : Array Value), w.heap = w'.heap → X w args → X w' args)
    (own : ownKnob C.prog.godebug = none) (started : os.Started) (noInit : C.prog.inits.idxOf? f = none) (hfn : C.prog.funcs[f]? = some fn)
    (witness : ∃ (w : World) (tape : Tape) (i : Input), w.os = os ∧ (w.forCall tape i).Shaped C.prog ∧ i.vars = [] ∧ Input.okWide C.prog (w.forCall tape i) .any w.heap.size f i ∧
      ((s.pre enc C.prog fn conds apart (w.forCall tape i).memory i.args ∧ X (w.forCall tape i).memory i.args) ∧ sizedMet enc C.prog fn (OpenSpec.ofChange s) apart (w.forCall tape i).memory i.args) ∧ a.holds C.prog (lone (Frame.enter C.prog f i.args .normal) [] (w.forCall tape i)))
    (walk : ∀ (W : World) (base : Nat) (args : Array Value) (ds gs : List (DataW H)) (before : List MemPlace),
      (∀ (j : Nat) t v, fn.params[j]? = some t → args[j]? = some v → Value.okWide C.prog W .any base t v) →
      DataW.Whole enc C.prog fn.params.toList s.vars apart W args.toList ds gs before →
      (DataW.weightsEach C.prog (fn.params.toList ++ s.plain.varTypes C.prog) (ds ++ gs)).all (· ≤ reachBytes) = true → X W args → W.ShapedOpen C.prog →
      Calls C.prog f args W fun e W' => ∃ v, e = .returned v ∧ s.post enc C.prog fn apart fresh handsOn again W args v W') :
    ReturnsInHanded a C os f .any (fun w args => (s.pre enc C.prog fn conds apart w args ∧ X w args) ∧ sizedMet enc C.prog fn (OpenSpec.ofChange s) apart w args) (s.post enc C.prog fn apart fresh handsOn again) := by
  refine returnsInHanded_of_calls own started noInit witness ?_
  intro w tape i _ hsh _ hok hpre _
  obtain ⟨_, _, _, fn', hfn', _, _, _, _, hval⟩ := hok
  obtain rfl : fn' = fn := Option.some.inj (hfn'.symm.trans hfn)
  obtain ⟨⟨⟨ds, gs, before, hw, _⟩, hx⟩, hz⟩ := hpre
  refine (walk (w.forCall tape i) w.heap.size i.args ds gs before hval (DataW.Whole.of_heap (w' := w.forCall tape i) (by rfl) hw) (hz.weights hw) (hX _ _ _ (by rfl) hx) hsh).mono fun e W' ⟨v, he, hp⟩ => ?_
  subst he
  exact ChangeSpec.post_blind hp
end Go.Proofs.YtojidhnkpeiimaaGreatDoor

/- A slice of fractions that came in, opened. -/
namespace Go.Proofs.YtojidhnkpeiimaaGreatDoor
open Go.ChangeShapes Go.WideShapes Go.ChangeAt Go.RowKit
theorem cell_ltH {w : World} {a : Addr} {v : Value} (h : w.cell? a = some v) : a.block < w.heap.size := by
  rcases Nat.lt_or_ge a.block w.heap.size with h1 | h1
  · exact h1
  · simp [World.cell?, Array.getElem?_eq_none h1] at h
end Go.Proofs.YtojidhnkpeiimaaGreatDoor

/- Lists of ints and tables that came in, opened. -/
namespace Go.Proofs.YtojidhnkpeiimaaGreatDoor
open Go.ChangeShapes Go.WideShapes Go.ChangeAt Go.RowKit
def idt {H : Type} (x : Int) : DataW H := .lit (.int .i64 x)
theorem cellsI : Tryz.prog.cellsOf 3 = 1 := by kernel_rfl
set_option maxRecDepth 100000 in
theorem trod_ints {H : Type} {enc : TypeId × Value → H} {W : World} {fuel : Nat} {cs : List Value} {x : DataW H × List MemPlace} (hf : DataW.trod enc Tryz.prog W 0 (fun _ => true) true fuel 22 cs = some x) :
    ∃ (a : Option Addr) (cap : Nat) (l : List Int), cs = [.slice a l.length cap] ∧ IntS W a l ∧ (a = none → cap = 0) ∧ ((x.1 = .nil ∧ l = []) ∨ ∃ rest, x.1 = .slice (l.map idt) rest) ∧ ∀ y ∈ l, -9223372036854775808 ≤ y ∧ y ≤ 9223372036854775807 := by
  rcases Deep.open_slice Tryz.underlying22 hf with ⟨hcs, hx⟩ | ⟨a', len, cap, m, n, D, Pl, hcs, hb, hl, hm, hmm, hx, hel⟩
  · exact ⟨none, 0, [], hcs, fun k hk => absurd hk (by simp), fun _ => rfl, .inl ⟨by rw [hx], rfl⟩, fun _ h => by cases h⟩
  · have hlm : len ≤ m := by rw [hmm]; split <;> omega
    rw [cellsI] at hel
    have each : ∀ i, i < len → ∃ z : Int, (W.cell? (a'.add (i * 1)) = some (.int .i64 z) ∧ -9223372036854775808 ≤ z ∧ z ≤ 9223372036854775807) ∧ D i = idt z := by
      intro i hi
      obtain ⟨cs', h1, h2⟩ := hel i (by omega)
      obtain ⟨_, hlen, hcell⟩ := World.cells?_some h1
      obtain ⟨z, e0, hxx, hwf⟩ := DataW.trod_int Tryz.underlying3 h2
      subst e0
      simp only [Prod.mk.injEq] at hxx
      have g0 := hcell 0 (by omega)
      rw [Deep.add_add] at g0
      exact ⟨z, ⟨by simpa using g0, bounds_i64 hwf⟩, hxx.1⟩
    obtain ⟨f, hf2⟩ := Deep.choose_lt (α := Int) each
    refine ⟨some a', cap, (List.range len).map f, by rw [hcs]; simp, ?_, fun e => by (cases e), .inr ⟨(List.range (m - len)).map fun j => D (len + j), ?_⟩, ?_⟩
    · intro k hk
      have hk' : k < len := by simpa using hk
      obtain ⟨⟨g0, _⟩, _⟩ := hf2 k hk'
      obtain ⟨⟨z0, _⟩, _⟩ := hf2 0 (by omega)
      have hsp := World.cell?_spot z0
      obtain ⟨bb, oo, sp⟩ := a'
      rw [Nat.zero_mul] at hsp
      simp [Addr.add] at hsp
      subst hsp
      rw [WideShapes.add_plain] at g0
      refine ⟨bb, oo, rfl, cell_ltH g0, ?_⟩
      simpa using g0
    · rw [hx]
      show DataW.slice _ _ = DataW.slice _ _
      congr 1
      rw [List.map_map]
      exact List.map_congr_left fun i hi => (hf2 i (List.mem_range.1 hi)).2
    · intro y hy
      obtain ⟨i, hi, rfl⟩ := List.mem_map.1 hy
      exact (hf2 i (List.mem_range.1 hi)).1.2
theorem bytesI : Tryz.prog.bytesOf 3 = 8 := by kernel_rfl
theorem sized_ints {H : Type} {ts : List TypeId} {ds : List (DataW H)} (h : (DataW.weightsEach Tryz.prog ts ds).all (· ≤ reachBytes) = true) {j : Nat} {l : List Int} {d : DataW H} (ht : ts[j]? = some 22) (hd : ds[j]? = some d) (hl : (d = .nil ∧ l = []) ∨ ∃ rest, d = .slice (l.map idt) rest) :
    l.length ≤ 140737488355328 := by
  rcases hl with ⟨_, rfl⟩ | ⟨rest, rfl⟩
  · simp
  have h1 := List.all_eq_true.1 h _ (DataW.weights_mem_each ht hd (((l.map (idt (H := H))).length + rest.length) * Tryz.prog.bytesOf 3) (by simp [DataW.weights, Tryz.underlying22]))
  have h1' : ((l.map (idt (H := H))).length + rest.length) * Tryz.prog.bytesOf 3 ≤ reachBytes := by simpa using h1
  rw [bytesI, List.length_map] at h1'
  simp only [reachBytes] at h1'
  omega
end Go.Proofs.YtojidhnkpeiimaaGreatDoor

/- Raw numbers that came in, opened. -/
namespace Go.Proofs.YtojidhnkpeiimaaGreatDoor
open Go.ChangeShapes Go.WideShapes Go.ChangeAt Go.RowKit
theorem cellsRaw : Tryz.prog.cellsOf 24 = 4 := by kernel_rfl
theorem cellsInts0 : Tryz.prog.cellsOf 22 = 1 := by kernel_rfl
theorem cellsBool0 : Tryz.prog.cellsOf 4 = 1 := by kernel_rfl
set_option maxRecDepth 100000 in
theorem open_raw {H : Type} {enc : TypeId × Value → H} {W : World} {r : Reach} {b0 : Nat} {v : Value} {d : DataW H} {p : List MemPlace} (hval : Value.okWide Tryz.prog W r b0 24 v) (h : DataW.Trod enc Tryz.prog W 0 (fun _ => true) true 24 v d p) :
    ∃ (a1 a2 a3 : Option Addr) (c1 c2 c3 : Nat) (L1 L2 L3 : List Int) (bk : Bool) (d1 d2 d3 d4 : DataW H), v = .agg #[.slice a1 L1.length c1, .slice a2 L2.length c2, .slice a3 L3.length c3, .bool bk] ∧ d = .agg [d1, d2, d3, d4] ∧ IntS W a1 L1 ∧ IntS W a2 L2 ∧ IntS W a3 L3 ∧
      ((d1 = .nil ∧ L1 = []) ∨ ∃ rest, d1 = .slice (L1.map idt) rest) ∧ ((d2 = .nil ∧ L2 = []) ∨ ∃ rest, d2 = .slice (L2.map idt) rest) ∧ ((d3 = .nil ∧ L3 = []) ∨ ∃ rest, d3 = .slice (L3.map idt) rest) ∧
      (∀ x ∈ L1, -9223372036854775808 ≤ x ∧ x ≤ 9223372036854775807) ∧ (∀ x ∈ L2, -9223372036854775808 ≤ x ∧ x ≤ 9223372036854775807) ∧ (∀ x ∈ L3, -9223372036854775808 ≤ x ∧ x ≤ 9223372036854775807) := by
  obtain ⟨cs, rfl, hsz⟩ := okWide_struct Tryz.underlying24 hval
  rw [cellsRaw] at hsz
  obtain ⟨l⟩ := cs
  match l, hsz with
  | [c0, c1, c2, c3], _ =>
    obtain ⟨fuel, hf⟩ := h
    obtain ⟨y0, y1, y2, y3, m, hx, _, hy0, hy1, hy2, hy3⟩ := Go.Joins.trod_struct4 Tryz.underlying24 hf
    simp [Value.cells, cellsInts0, cellsBool0] at hy0 hy1 hy2 hy3
    obtain ⟨a1, k1, L1, e0, h0, _, g0, r0⟩ := trod_ints hy0
    obtain ⟨a2, k2, L2, e1, h1, _, g1, r1⟩ := trod_ints hy1
    obtain ⟨a3, k3, L3, e2, h2, _, g2, r2⟩ := trod_ints hy2
    obtain ⟨nn, e3, rfl⟩ := DataW.trod_bool Tryz.underlying4 hy3
    obtain rfl : c0 = _ := by simpa using e0
    obtain rfl : c1 = _ := by simpa using e1
    obtain rfl : c2 = _ := by simpa using e2
    obtain rfl : c3 = _ := by simpa using e3
    simp only [Prod.mk.injEq] at hx
    exact ⟨a1, a2, a3, k1, k2, k3, L1, L2, L3, _, _, _, _, _, rfl, hx.1, h0, h1, h2, g0, g1, g2, r0, r1, r2⟩
theorem sized_raw {H : Type} {ts : List TypeId} {ds : List (DataW H)} (h : (DataW.weightsEach Tryz.prog ts ds).all (· ≤ reachBytes) = true) {j : Nat} {L1 L2 L3 : List Int} {d1 d2 d3 d4 : DataW H} (ht : ts[j]? = some 24) (hd : ds[j]? = some (.agg [d1, d2, d3, d4])) (h1 : (d1 = .nil ∧ L1 = []) ∨ ∃ rest, d1 = .slice (L1.map idt) rest) (h2 : (d2 = .nil ∧ L2 = []) ∨ ∃ rest, d2 = .slice (L2.map idt) rest) (h3 : (d3 = .nil ∧ L3 = []) ∨ ∃ rest, d3 = .slice (L3.map idt) rest) :
    L1.length ≤ 140737488355328 ∧ L2.length ≤ 140737488355328 ∧ L3.length ≤ 140737488355328 := by
  have h' : (DataW.weightsEach Tryz.prog [22, 22, 22, 4] [d1, d2, d3, d4]).all (· ≤ reachBytes) = true := by
    rw [List.all_eq_true]
    intro n hn
    refine List.all_eq_true.1 h _ (DataW.weights_mem_each ht hd n ?_)
    simp only [DataW.weights, Tryz.underlying24]
    exact hn
  exact ⟨sized_ints h' (j := 0) rfl rfl h1, sized_ints h' (j := 1) rfl rfl h2, sized_ints h' (j := 2) rfl rfl h3⟩
end Go.Proofs.YtojidhnkpeiimaaGreatDoor

/- Arguments that a call has left alone read as before. -/
namespace Go.Proofs.YtojidhnkpeiimaaGreatDoor
open Go.ChangeShapes Go.WideShapes Go.ChangeAt Go.RowKit
theorem below_all {H : Type} {enc : TypeId × Value → H} {P : Program} (hl : laidOutB P = true) {W W' : World} (hb : Below W.heap.size W W') : ∀ {ts : List TypeId} {vs : List Value} {ds : List (DataW H)} {ps : List MemPlace},
    (ts.all fun t => P.readableRec t && decide (t < P.types.size)) = true → DataW.TrodAll enc P W 0 (fun _ => true) true ts vs ds ps → DataW.TrodAll enc P W' 0 (fun b => decide (b < W.heap.size)) true ts vs ds ps
  | [], [], [], _, _, h => h
  | t :: ts, v :: vs, d :: ds, _, ht, ⟨p, q, h, hr, e⟩ => by
    rw [List.all_cons, Bool.and_eq_true, Bool.and_eq_true] at ht
    refine ⟨p, q, Below.trod hl ht.1.1 (of_decide_eq_true ht.1.2) h hb ?_, below_all hl hb ht.2 hr, e⟩
    obtain ⟨m, hm⟩ := h
    exact DataW.trod_lt m _ _ _ hm
  | [], _ :: _, _, _, _, h => by simp [DataW.TrodAll] at h
  | [], [], _ :: _, _, _, h => by simp [DataW.TrodAll] at h
  | _ :: _, [], _, _, _, h => by simp [DataW.TrodAll] at h
  | _ :: _, _ :: _, [], _, _, h => by simp [DataW.TrodAll] at h
end Go.Proofs.YtojidhnkpeiimaaGreatDoor
