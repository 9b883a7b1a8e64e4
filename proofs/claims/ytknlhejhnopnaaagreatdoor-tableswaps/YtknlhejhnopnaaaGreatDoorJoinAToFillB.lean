/- Package table: join. -/
import Derived.Test.YtknlhejhnopnaaaGreatDoorStandDOwn
namespace Go.Proofs.YtknlhejhnopnaaaGreatDoor
open Go.RowKit Go.Shelf

/-- A fraction as a value. -/
abbrev frV (f : Fr) : Value := .agg #[.bool f.1, .string f.2.1, .string f.2.2]

/-- What join holds while it runs: how, its result's block, what is left. -/
structure JF (w V : World) (pv : Value) (B : Nat) (n : Bool) (x y : ByteArray) : Prop where
  how : Boxed V w.heap.size 83 pv
  res : Box V (w.heap.size + 1) false ⟨#[]⟩ ⟨#[]⟩
  left : Box V B n x y
  below : Below w.heap.size w V
  lt : w.heap.size + 1 < B
theorem JF.step {w V V' : World} {pv : Value} {B : Nat} {n : Bool} {x y : ByteArray} (h : JF w V pv B n x y) (hb : Below V.heap.size V V') : JF w V' pv B n x y :=
  ⟨(hb.block _ h.how.lt).trans h.how, h.res.below hb h.res.lt, h.left.below hb h.left.lt, h.below.trans (hb.mono h.below.size), h.lt⟩
theorem JF.drew {w V : World} {pv : Value} {B : Nat} {n : Bool} {x y : ByteArray} (h : JF w V pv B n x y) : JF w V.drew pv B n x y := ⟨h.how, h.res, h.left, h.below.drew, h.lt⟩
theorem JF.put {w V : World} {pv : Value} {B : Nat} {n : Bool} {x y : ByteArray} (h : JF w V pv B n x y) (n' : Bool) (x' y' : ByteArray) : JF w (((V.setCell ⟨B, 0, none⟩ (.bool n')).setCell ⟨B, 1, none⟩ (.string x')).setCell ⟨B, 2, none⟩ (.string y')) pv B n' x' y' := by
  have h1 := h.lt
  exact ⟨boxed_off (boxed_off (boxed_off h.how B 0 _ (by omega)) B 1 _ (by omega)) B 2 _ (by omega), ((h.res.far (by omega) _).far (by omega) _).far (by omega) _, h.left.put n' x' y', below_put h.below (by omega) _ _ _, h.lt⟩
theorem JF.of {w V : World} {pv : Value} {B : Nat} {n : Bool} {x y : ByteArray} (h : JF w V pv B n x y) : (V.cell? ⟨w.heap.size, 0, none⟩ = some pv ∧ V.cell? ⟨B, 0, none⟩ = some (.bool n) ∧ V.cell? ⟨B, 1, none⟩ = some (.string x) ∧ V.cell? ⟨B, 2, none⟩ = some (.string y)) ∧ Hid (JF w V pv B n x y) := ⟨⟨h.how.cell, h.left.c0, h.left.c1, h.left.c2⟩, h⟩

set_option maxRecDepth 100000 in
set_option maxHeartbeats 400000 in
theorem joinF_any (pf tf : Nat) (plb tlb : Array Value) (ep : ∀ args w, (callFunc pf args).run Tryz.prog w = .ok (.enter pf args) w) (et : ∀ args w, (callFunc tf args).run Tryz.prog w = .ok (.enter tf args) w) (n : Nat) (T L : Nat → Fr) (w : World) (h1 : 1 ≤ n) (hn : n ≤ 65536)
    (ht : ∀ k, k < n → ∀ V, Below w.heap.size w V → Calls Tryz.prog tf (#[.int .i64 (k : Nat)] ++ tlb) V fun e w' => e = .returned (frV (T k)) ∧ Below V.heap.size V w')
    (hp : ∀ k, k + 1 < n → ∀ V, Below w.heap.size w V → Calls Tryz.prog pf (#[frV (L k), frV (T (k + 1))] ++ plb) V fun e w' => e = .returned (frV (L (k + 1))) ∧ Below V.heap.size V w')
    (h0 : L 0 = T 0) :
    Calls Tryz.prog 68 #[.agg #[.func (.func pf) #[] plb], .int .i64 (n : Nat), .func (.func tf) #[] tlb] w fun e w' => e = .returned (frV (L (n - 1))) ∧ Below w.heap.size w w' := by
  have HT := hid ht
  have HP := hid hp
  clear ht hp
  go_enter Tryz.func68, Tryz.ntmps68
  go_wp2_with fail
  have hb0 : Below w.heap.size w ((w.alloc (.cells #[.func (.func pf) #[] plb] 83)).alloc (.cells #[.bool false, .string ⟨#[]⟩, .string ⟨#[]⟩] 44)) := ((Below.refl _ w).alloc (Nat.le_refl _) _).alloc (by simp) _
  have b0 : Boxed ((w.alloc (.cells #[.func (.func pf) #[] plb] 83)).alloc (.cells #[.bool false, .string ⟨#[]⟩, .string ⟨#[]⟩] 44)) w.heap.size 83 (.func (.func pf) #[] plb) := (Boxed.new w _ _).alloc _
  have b1 : Box ((w.alloc (.cells #[.func (.func pf) #[] plb] 83)).alloc (.cells #[.bool false, .string ⟨#[]⟩, .string ⟨#[]⟩] 44)) (w.heap.size + 1) false ⟨#[]⟩ ⟨#[]⟩ := by
    have h := Box.new (w.alloc (.cells #[.func (.func pf) #[] plb] 83)) false ⟨#[]⟩ ⟨#[]⟩
    rwa [World.size_alloc] at h
  have hsz : ((w.alloc (.cells #[.func (.func pf) #[] plb] 83)).alloc (.cells #[.bool false, .string ⟨#[]⟩, .string ⟨#[]⟩] 44)).heap.size = w.heap.size + 1 + 1 := by simp
  generalize ((w.alloc (.cells #[.func (.func pf) #[] plb] 83)).alloc (.cells #[.bool false, .string ⟨#[]⟩, .string ⟨#[]⟩] 44)) = W at *
  have H00 := hid h0
  refine (HT.out 0 (by omega) _ hb0).mono ?_
  rcases hT0 : T 0 with ⟨n0, x0, y0⟩
  rintro e w1 ⟨rfl, hb1⟩
  rw [hT0] at h0
  have HL0 := hid h0
  clear h0 hT0 H00
  have hs1 := hb1.size
  have c0 := (boxed_keep b0 hb1)
  have c1 := b1.below hb1 b1.lt
  have cB := hb0.trans (hb1.mono hb0.size)
  go_wp2_with fail
  have HJ0 : Hid (JF w (w1.alloc (.cells #[.bool n0, .string x0, .string y0] 44)) (.func (.func pf) #[] plb) w1.heap.size n0 x0 y0) := ⟨c0.alloc _, c1.alloc _, Box.new w1 n0 x0 y0, cB.alloc cB.size _, by omega⟩
  generalize w1.heap.size = B at *
  clear b0 b1 hb0 hsz hb1 hs1 c0 c1 cB
  go_loopw [13] (fun iv wr => ∃ i : Nat, i + 1 ≤ n ∧ iv = .int .i64 i ∧ Hid (JF w wr (.func (.func pf) #[] plb) B (L i).1 (L i).2.1 (L i).2.2)) (fun iv _ => n - (intOf iv).toNat)
  case atStart => exact ⟨0, h1, rfl, by rw [HL0.out]; exact HJ0⟩
  case round =>
    obtain ⟨i, hi, rfl, HJ⟩ := hrel
    clear HJ0 HL0
    by_cases hlt : i + 1 < n
    · have HTi := HT.out (i + 1) hlt
      have HPi := HP.out i hlt
      rw [Int.natCast_succ] at HTi
      rcases hL : L i with ⟨ni, xi, yi⟩
      rcases hT : T (i + 1) with ⟨nt, xt, yt⟩
      rcases hL' : L (i + 1) with ⟨nl, xl, yl⟩
      rw [hL] at HJ HPi
      rw [hT] at HTi HPi
      rw [hL'] at HPi
      have HTI := hid HTi
      have HPI := hid HPi
      have HNX := hid hL'
      clear HTi HPi hL hT hL'
      have J0 := HJ.out
      simp only at J0
      obtain ⟨k0, k1, k2, f0, f1, f2⟩ := J0.left.facts
      have J0d := J0.drew
      have hwi : IntKind.i64.wrap ((i : Int) + 1) = (i : Int) + 1 := by rw [IntKind.wrap_i64]; omega
      go_upto_region 5 with fail
      refine wp_region_held_drew (S := fun V => V.cell? ⟨w.heap.size, 0, none⟩ = some (.func (.func pf) #[] plb)) (by kernel_rfl) J0d.how.cell (fun hSd => ?_)
      have d0 := J0d.left.c0
      have d1 := J0d.left.c1
      have d2 := J0d.left.c2
      refine wpAnyH_take (i := 0) (oi := _) (v := .pointer (some ⟨w.heap.size, 0, none⟩)) rfl (by kernel_rfl) (by kernel_rfl) (by kernel_rfl) (fun _ _ _ h => h) (Or.inl ⟨by rfl, ?_⟩) (by assumption) ?_
      · intro u' hSu
        (try simp only [List.getElem_toArray, List.getElem_cons_zero])
        go_simp
      (try simp only [List.getElem_toArray, List.getElem_cons_zero])
      (try simp only [Act.put, List.setIfInBounds_toArray, List.set_cons_zero, List.set_cons_succ])
      refine wpAnyH_take (i := 1) (oi := _) (v := .func (.func pf) #[] plb) rfl (by kernel_rfl) (by kernel_rfl) (by kernel_rfl) (fun _ _ _ h => h) (Or.inl ⟨by rfl, ?_⟩) (by assumption) ?_
      · intro u' hSu
        (try simp only [List.getElem_toArray, List.getElem_cons_zero, List.getElem_cons_succ])
        go_simp
      (try simp only [List.getElem_toArray, List.getElem_cons_zero, List.getElem_cons_succ])
      (try simp only [Act.put, List.setIfInBounds_toArray, List.set_cons_zero, List.set_cons_succ])
      refine wpAnyH_take (i := 3) (oi := _) (v := .func (.func tf) #[] tlb) rfl (by kernel_rfl) (by kernel_rfl) (by kernel_rfl) (fun _ _ _ h => h) (Or.inl ⟨by rfl, ?_⟩) (by assumption) ?_
      · intro u' hSu
        (try simp only [List.getElem_toArray, List.getElem_cons_zero, List.getElem_cons_succ])
        go_simp
      (try simp only [List.getElem_toArray, List.getElem_cons_zero, List.getElem_cons_succ])
      (try simp only [Act.put, List.setIfInBounds_toArray, List.set_cons_zero, List.set_cons_succ])
      refine wpAnyH_take (i := 4) (oi := _) (v := .int .i64 (i : Nat)) rfl (by kernel_rfl) (by kernel_rfl) (by kernel_rfl) (fun _ _ _ h => h) (Or.inl ⟨by rfl, ?_⟩) (by assumption) ?_
      · intro u' hSu
        (try simp only [List.getElem_toArray, List.getElem_cons_zero, List.getElem_cons_succ])
        go_simp
      (try simp only [List.getElem_toArray, List.getElem_cons_zero, List.getElem_cons_succ])
      (try simp only [Act.put, List.setIfInBounds_toArray, List.set_cons_zero, List.set_cons_succ])
      refine wpAnyH_take (i := 5) (oi := _) (v := .int .i64 ((i : Int) + 1)) rfl (by kernel_rfl) (by kernel_rfl) (by kernel_rfl) (fun _ _ _ h => h) (Or.inl ⟨by rfl, ?_⟩) (by assumption) ?_
      · intro u' hSu
        (try simp only [List.getElem_toArray, List.getElem_cons_zero, List.getElem_cons_succ])
        go_simp
      (try simp only [List.getElem_toArray, List.getElem_cons_zero, List.getElem_cons_succ])
      (try simp only [Act.put, List.setIfInBounds_toArray, List.set_cons_zero, List.set_cons_succ])
      refine wpAnyH_ready (rs := [2, 6]) (by kernel_rfl) (by simp) (AllReadyH.cons rfl ?_ (AllReadyH.cons rfl ?_ AllReadyH.nil))
      · intro K' hK'
        (try simp only [List.getElem_toArray, List.getElem_cons_zero, List.getElem_cons_succ])
        go_simp
        refine hK'.out _ _ J0d.how.cell (fun hSe => ?_)
        clear hK' K' hSd
        have hSd := hSe
        clear hSe
        (try simp only [List.getElem_toArray, List.getElem_cons_zero, List.getElem_cons_succ])
        (try simp only [Act.put, List.setIfInBounds_toArray, List.set_cons_zero, List.set_cons_succ])
        refine wpAnyH_ready (rs := [6]) (by kernel_rfl) (by simp) (AllReadyH.cons rfl ?_ AllReadyH.nil)
        intro K' hK'
        (try simp only [List.getElem_toArray, List.getElem_cons_zero, List.getElem_cons_succ])
        go_simp
        refine (HTI.out _ J0d.below).mono ?_
        rintro e w2 ⟨rfl, hb2⟩
        have J1 := J0d.step hb2
        obtain ⟨e0, e1, e2, _, _, _⟩ := J1.left.facts
        refine hK'.out _ _ J1.how.cell (fun hSe => ?_)
        clear hK' K' hSd
        have hSd := hSe
        clear hSe
        (try simp only [List.getElem_toArray, List.getElem_cons_zero, List.getElem_cons_succ])
        (try simp only [Act.put, List.setIfInBounds_toArray, List.set_cons_zero, List.set_cons_succ])
        refine wpAnyH_ready (rs := [7]) (by kernel_rfl) (by simp) (AllReadyH.cons rfl ?_ AllReadyH.nil)
        intro K' hK'
        (try simp only [List.getElem_toArray, List.getElem_cons_zero, List.getElem_cons_succ])
        go_simp
        refine (HPI.out _ J1.below).mono ?_
        rintro e w3 ⟨rfl, hb3⟩
        have J2 := J1.step hb3
        refine hK'.out _ _ J2.how.cell (fun hSe => ?_)
        clear hK' K' hSd
        have hSd := hSe
        clear hSe
        obtain ⟨q0, q1, q2, p0, p1, p2⟩ := J2.left.facts
        (try simp only [List.getElem_toArray, List.getElem_cons_zero, List.getElem_cons_succ])
        (try simp only [Act.put, List.setIfInBounds_toArray, List.set_cons_zero, List.set_cons_succ])
        refine wpAnyH_ready (rs := [8]) (by kernel_rfl) (by simp) (AllReadyH.cons rfl ?_ AllReadyH.nil)
        intro K' hK'
        (try simp only [List.getElem_toArray, List.getElem_cons_zero, List.getElem_cons_succ])
        go_simp
        have J3 := J2.put nl xl yl
        refine hK'.out _ _ J3.how.cell (fun _ => wpAnyH_done (by kernel_rfl) ?_ _)
        clear hK' K' hSd
        go_wp2
        go_roundw
        case rel => exact ⟨i + 1, by omega, by rw [Int.natCast_succ], by rw [HNX.out]; exact J3⟩
        case measure => simp [intOf]; omega
      · intro K' hK'
        (try simp only [List.getElem_toArray, List.getElem_cons_zero, List.getElem_cons_succ])
        go_simp
        refine (HTI.out _ J0d.below).mono ?_
        rintro e w2 ⟨rfl, hb2⟩
        have J1 := J0d.step hb2
        obtain ⟨e0, e1, e2, _, _, _⟩ := J1.left.facts
        refine hK'.out _ _ J1.how.cell (fun hSe => ?_)
        clear hK' K' hSd
        have hSd := hSe
        clear hSe
        (try simp only [List.getElem_toArray, List.getElem_cons_zero, List.getElem_cons_succ])
        (try simp only [Act.put, List.setIfInBounds_toArray, List.set_cons_zero, List.set_cons_succ])
        refine wpAnyH_ready (rs := [2]) (by kernel_rfl) (by simp) (AllReadyH.cons rfl ?_ AllReadyH.nil)
        intro K' hK'
        (try simp only [List.getElem_toArray, List.getElem_cons_zero, List.getElem_cons_succ])
        go_simp
        refine hK'.out _ _ J1.how.cell (fun hSe => ?_)
        clear hK' K' hSd
        have hSd := hSe
        clear hSe
        (try simp only [List.getElem_toArray, List.getElem_cons_zero, List.getElem_cons_succ])
        (try simp only [Act.put, List.setIfInBounds_toArray, List.set_cons_zero, List.set_cons_succ])
        refine wpAnyH_ready (rs := [7]) (by kernel_rfl) (by simp) (AllReadyH.cons rfl ?_ AllReadyH.nil)
        intro K' hK'
        (try simp only [List.getElem_toArray, List.getElem_cons_zero, List.getElem_cons_succ])
        go_simp
        refine (HPI.out _ J1.below).mono ?_
        rintro e w3 ⟨rfl, hb3⟩
        have J2 := J1.step hb3
        refine hK'.out _ _ J2.how.cell (fun hSe => ?_)
        clear hK' K' hSd
        have hSd := hSe
        clear hSe
        obtain ⟨q0, q1, q2, p0, p1, p2⟩ := J2.left.facts
        (try simp only [List.getElem_toArray, List.getElem_cons_zero, List.getElem_cons_succ])
        (try simp only [Act.put, List.setIfInBounds_toArray, List.set_cons_zero, List.set_cons_succ])
        refine wpAnyH_ready (rs := [8]) (by kernel_rfl) (by simp) (AllReadyH.cons rfl ?_ AllReadyH.nil)
        intro K' hK'
        (try simp only [List.getElem_toArray, List.getElem_cons_zero, List.getElem_cons_succ])
        go_simp
        have J3 := J2.put nl xl yl
        refine hK'.out _ _ J3.how.cell (fun _ => wpAnyH_done (by kernel_rfl) ?_ _)
        clear hK' K' hSd
        go_wp2
        go_roundw
        case rel => exact ⟨i + 1, by omega, by rw [Int.natCast_succ], by rw [HNX.out]; exact J3⟩
        case measure => simp [intOf]; omega
    · have hin : i + 1 = n := by omega
      have HE : Hid (L (n - 1) = L i) := by show _ = _; rw [show n - 1 = i by omega]
      have J0 := HJ.out
      obtain ⟨k0, k1, k2, f0, f1, f2⟩ := J0.left.facts
      obtain ⟨r0, r1, r2, t0, t1, t2⟩ := J0.res.facts
      go_wp2
      refine bodyPost_ret ((J0.res.put _ _ _).result rfl _ rfl) rfl ?_
      exact ⟨by rw [HE.out], below_put J0.below (by omega) _ _ _⟩
end Go.Proofs.YtknlhejhnopnaaaGreatDoor

/- Package table: the ways of joining. -/
namespace Go.Proofs.YtknlhejhnopnaaaGreatDoor
open Go.RowKit Go.Shelf

abbrev frQ (f : Fr) : Rat := val f.1 f.2.1 f.2.2
/-- The greater of two; of like ones the first. -/
def great (f g : Fr) : Fr := if cmpQ (frQ f) (frQ g) < 0 then g else f

set_option maxRecDepth 100000 in
set_option maxHeartbeats 400000 in
theorem greater_any (f g : Fr) (w : World) (s1 : f.2.1.size + f.2.2.size ≤ 100000) (s2 : g.2.1.size + g.2.2.size ≤ 100000) :
    Calls Tryz.prog 110 #[frV f, frV g] w fun e w' => e = .returned (frV (great f g)) ∧ Below w.heap.size w w' := by
  obtain ⟨n, x, y⟩ := f
  obtain ⟨m, u, v⟩ := g
  have HC := hid (fun V : World => fCmp_q (w := V) (cmpQ (val n x y) (val m u v)) rfl rfl rfl s1 s2)
  have HG : Hid (great (n, x, y) (m, u, v) = if cmpQ (val n x y) (val m u v) < 0 then (m, u, v) else (n, x, y)) := rfl
  generalize great (n, x, y) (m, u, v) = r at *
  generalize cmpQ (val n x y) (val m u v) = k at *
  have b0 : Box (((w.alloc (FC n x y)).alloc (FC m u v)).alloc (FC false ⟨#[]⟩ ⟨#[]⟩)) w.heap.size n x y := ((Box.new w n x y).alloc _).alloc _
  have b1 : Box (((w.alloc (FC n x y)).alloc (FC m u v)).alloc (FC false ⟨#[]⟩ ⟨#[]⟩)) (w.heap.size + 1) m u v := (Box.at (w := w.alloc (FC n x y)) (by simp) m u v).alloc _
  have b2 : Box (((w.alloc (FC n x y)).alloc (FC m u v)).alloc (FC false ⟨#[]⟩ ⟨#[]⟩)) (w.heap.size + 1 + 1) false ⟨#[]⟩ ⟨#[]⟩ := Box.at (w := (w.alloc (FC n x y)).alloc (FC m u v)) (by simp) false ⟨#[]⟩ ⟨#[]⟩
  have hb0 : Below w.heap.size w (((w.alloc (FC n x y)).alloc (FC m u v)).alloc (FC false ⟨#[]⟩ ⟨#[]⟩)) := (((Below.refl _ w).alloc (Nat.le_refl _) _).alloc (by simp) _).alloc (by simp; omega) _
  go_enter Tryz.func110, Tryz.ntmps110
  go_wp2_with fail
  generalize (((w.alloc (FC n x y)).alloc (FC m u v)).alloc (FC false ⟨#[]⟩ ⟨#[]⟩)) = W at b0 b1 b2 hb0 ⊢
  refine (HC.out _).mono ?_
  rintro e w1 ⟨rfl, hb1⟩
  have c0 := b0.below hb1 b0.lt
  have c1 := b1.below hb1 b1.lt
  have c2 := b2.below hb1 b2.lt
  have hB := hb0.trans (hb1.mono hb0.size)
  obtain ⟨k0, k1, k2, f0, f1, f2⟩ := c0.facts
  obtain ⟨j0, j1, j2, i0, i1, i2⟩ := c1.facts
  obtain ⟨l0, l1, l2, g0, g1, g2⟩ := c2.facts
  by_cases hk : k < 0
  · have HR : Hid (r = (m, u, v)) := by show _ = _; rw [HG.out, if_pos hk]
    clear HG
    go_wp2
    refine bodyPost_ret ((c2.put _ _ _).result rfl _ rfl) rfl ?_
    exact ⟨by rw [HR.out], below_put hB (by omega) _ _ _⟩
  · have HR : Hid (r = (n, x, y)) := by show _ = _; rw [HG.out, if_neg hk]
    have hk' : 0 ≤ k := by omega
    clear HG
    go_wp2
    refine bodyPost_ret ((c2.put _ _ _).result rfl _ rfl) rfl ?_
    exact ⟨by rw [HR.out], below_put hB (by omega) _ _ _⟩

set_option maxRecDepth 100000 in
set_option maxHeartbeats 400000 in
theorem sums_any (w : World) : Calls Tryz.prog 62 #[] w fun e w' => e = .returned (.agg #[.func (.func 109) #[] #[]]) ∧ Below w.heap.size w w' := by
  go_enter Tryz.func62, Tryz.ntmps62
  go_wp2
  refine bodyPost_ret (results_cell_row rfl _ _ w.heap.size _ _ _ _ rfl (Boxed.new w _ _) Tryz.underlying83 rfl (by kernel_rfl)) rfl ?_
  exact ⟨rfl, (Below.refl _ w).alloc (Nat.le_refl _) _⟩
set_option maxRecDepth 100000 in
set_option maxHeartbeats 400000 in
theorem greatest_any (w : World) : Calls Tryz.prog 63 #[] w fun e w' => e = .returned (.agg #[.func (.func 110) #[] #[]]) ∧ Below w.heap.size w w' := by
  go_enter Tryz.func63, Tryz.ntmps63
  go_wp2
  refine bodyPost_ret (results_cell_row rfl _ _ w.heap.size _ _ _ _ rfl (Boxed.new w _ _) Tryz.underlying83 rfl (by kernel_rfl)) rfl ?_
  exact ⟨rfl, (Below.refl _ w).alloc (Nat.le_refl _) _⟩
end Go.Proofs.YtknlhejhnopnaaaGreatDoor

/- Package table: join of places. -/
namespace Go.Proofs.YtknlhejhnopnaaaGreatDoor
open Go.RowKit Go.Shelf

structure JI (w V : World) (pv : Value) : Prop where
  how : Boxed V w.heap.size 93 pv
  below : Below w.heap.size w V
theorem JI.step {w V V' : World} {pv : Value} (h : JI w V pv) (hb : Below V.heap.size V V') : JI w V' pv := ⟨(hb.block _ h.how.lt).trans h.how, h.below.trans (hb.mono h.below.size)⟩
theorem JI.drew {w V : World} {pv : Value} (h : JI w V pv) : JI w V.drew pv := ⟨h.how, h.below.drew⟩
theorem JI.of {w V : World} {pv : Value} (h : JI w V pv) : V.cell? ⟨w.heap.size, 0, none⟩ = some pv ∧ Hid (JI w V pv) := ⟨h.how.cell, h⟩

set_option maxRecDepth 100000 in
set_option maxHeartbeats 400000 in
theorem joinI_any (pf tf : Nat) (plb tlb : Array Value) (ep : ∀ args w, (callFunc pf args).run Tryz.prog w = .ok (.enter pf args) w) (et : ∀ args w, (callFunc tf args).run Tryz.prog w = .ok (.enter tf args) w) (n : Nat) (T L : Nat → Nat) (w : World) (h1 : 1 ≤ n) (hn : n ≤ 65536)
    (ht : ∀ k, k < n → ∀ V, Below w.heap.size w V → Calls Tryz.prog tf (#[.int .i64 (k : Nat)] ++ tlb) V fun e w' => e = .returned (.int .i64 (T k : Nat)) ∧ Below V.heap.size V w')
    (hp : ∀ k, k + 1 < n → ∀ V, Below w.heap.size w V → Calls Tryz.prog pf (#[.int .i64 (L k : Nat), .int .i64 (T (k + 1) : Nat)] ++ plb) V fun e w' => e = .returned (.int .i64 (L (k + 1) : Nat)) ∧ Below V.heap.size V w')
    (h0 : L 0 = T 0) :
    Calls Tryz.prog 82 #[.agg #[.func (.func pf) #[] plb], .int .i64 (n : Nat), .func (.func tf) #[] tlb] w fun e w' => e = .returned (.int .i64 (L (n - 1) : Nat)) ∧ Below w.heap.size w w' := by
  have HT := hid ht
  have HP := hid hp
  have H00 := hid h0
  clear ht hp h0
  go_enter Tryz.func82, Tryz.ntmps82
  go_wp2_with fail
  have hJ : JI w (w.alloc (.cells #[.func (.func pf) #[] plb] 93)) (.func (.func pf) #[] plb) := ⟨Boxed.new w _ _, (Below.refl _ w).alloc (Nat.le_refl _) _⟩
  generalize (w.alloc (.cells #[.func (.func pf) #[] plb] 93)) = W at hJ ⊢
  refine (HT.out 0 (by omega) _ hJ.below).mono ?_
  rintro e w1 ⟨rfl, hb1⟩
  have HJ0 := hid (hJ.step hb1)
  clear hJ hb1
  go_wp2_with fail
  go_loopw [7, 13] (fun lv iv wr => ∃ i : Nat, i + 1 ≤ n ∧ iv = .int .i64 i ∧ lv = .int .i64 (L i : Nat) ∧ Hid (JI w wr (.func (.func pf) #[] plb))) (fun _ iv _ => n - (intOf iv).toNat)
  case atStart => exact ⟨0, h1, rfl, by rw [H00.out], HJ0⟩
  case round =>
    obtain ⟨i, hi, rfl, rfl, HJ⟩ := hrel
    clear HJ0 H00
    by_cases hlt : i + 1 < n
    · have HTi := HT.out (i + 1) hlt
      have HPI := hid (HP.out i hlt)
      rw [Int.natCast_succ] at HTi
      have HTI := hid HTi
      clear HTi
      have J0d := HJ.out.drew
      have hwi : IntKind.i64.wrap ((i : Int) + 1) = (i : Int) + 1 := by rw [IntKind.wrap_i64]; omega
      go_upto_region 5 with fail
      go_region_held3 (fun V => V.cell? ⟨w.heap.size, 0, none⟩ = some (.func (.func pf) #[] plb) ∧ Hid (JI w V (.func (.func pf) #[] plb)))
        (first | exact J2.of | exact J1.of | exact J0d.of)
        (first
          | (have JJ := J1; refine (HPI.out _ JJ.below).mono ?_; rintro e w3 ⟨rfl, hb3⟩; have J2 := JJ.step hb3)
          | (refine (HTI.out _ J0d.below).mono ?_; rintro e w2 ⟨rfl, hb2⟩; have J1 := J0d.step hb2))
      go_wp2
      go_roundw
      case rel => exact ⟨i + 1, by omega, by rw [Int.natCast_succ], rfl, J2⟩
      case measure => simp [intOf]; omega
    · have HE : Hid (L (n - 1) = L i) := by show _ = _; rw [show n - 1 = i by omega]
      go_wp2
      go_ret
      exact ⟨by rw [HE.out]; rfl, HJ.out.below⟩
end Go.Proofs.YtknlhejhnopnaaaGreatDoor

/- Package table: the first place that has the greatest number. -/
namespace Go.Proofs.YtknlhejhnopnaaaGreatDoor
open Go.RowKit Go.Shelf

theorem best1_any (k : Int) (w : World) : Calls Tryz.prog 84 #[.int .i64 k] w fun e w' => e = .returned (.int .i64 k) ∧ Below w.heap.size w w' := by
  go_enter Tryz.func84, Tryz.ntmps84
  go_wp2
  go_ret
  exact ⟨rfl, Below.refl _ _⟩

theorem heldF {w u : World} {Bc g o : Nat} {x : Value} {n m : Bool} {p q r s : ByteArray} {j k : Nat} (hb : Below w.heap.size w u) (hB : Bc < w.heap.size) (hg : g < w.heap.size) (h : w.cell? ⟨Bc, 0, none⟩ = some x)
    (a0 : w.cell? ⟨g, o + j * 3, none⟩ = some (.bool n)) (a1 : w.cell? ⟨g, o + j * 3 + 1, none⟩ = some (.string p)) (a2 : w.cell? ⟨g, o + j * 3 + 2, none⟩ = some (.string q)) (b0 : w.cell? ⟨g, o + k * 3, none⟩ = some (.bool m)) (b1 : w.cell? ⟨g, o + k * 3 + 1, none⟩ = some (.string r)) (b2 : w.cell? ⟨g, o + k * 3 + 2, none⟩ = some (.string s)) :
    (u.cell? ⟨Bc, 0, none⟩ = some x ∧ u.cell? ⟨g, o + j * 3, none⟩ = some (.bool n) ∧ u.cell? ⟨g, o + j * 3 + 1, none⟩ = some (.string p) ∧ u.cell? ⟨g, o + j * 3 + 2, none⟩ = some (.string q) ∧ u.cell? ⟨g, o + k * 3, none⟩ = some (.bool m) ∧ u.cell? ⟨g, o + k * 3 + 1, none⟩ = some (.string r) ∧ u.cell? ⟨g, o + k * 3 + 2, none⟩ = some (.string s)) ∧ Hid (Below w.heap.size w u) :=
  ⟨⟨(hb.cell (p := ⟨Bc, 0, none⟩) hB).trans h, (hb.cell (p := ⟨g, _, none⟩) hg).trans a0, (hb.cell (p := ⟨g, _, none⟩) hg).trans a1, (hb.cell (p := ⟨g, _, none⟩) hg).trans a2, (hb.cell (p := ⟨g, _, none⟩) hg).trans b0, (hb.cell (p := ⟨g, _, none⟩) hg).trans b1, (hb.cell (p := ⟨g, _, none⟩) hg).trans b2⟩, hb⟩

set_option maxRecDepth 100000 in
set_option maxHeartbeats 400000 in
theorem firstGreatest1_any (Bc : Nat) (a : Option Addr) (ca : Nat) (l : List Fr) (j k : Nat) (hj : j < l.length) (hk : k < l.length) (w : World) (hBc : Bc < w.heap.size) (xc : w.cell? ⟨Bc, 0, none⟩ = some (.slice a l.length ca)) (hf : FrS w a l) (s1 : l[j].2.1.size + l[j].2.2.size ≤ 100000) (s2 : l[k].2.1.size + l[k].2.2.size ≤ 100000) :
    Calls Tryz.prog 122 #[.int .i64 (j : Nat), .int .i64 (k : Nat), .pointer (some ⟨Bc, 0, none⟩)] w fun e w' => e = .returned (.int .i64 (if cmpQ (frQ l[j]) (frQ l[k]) < 0 then (k : Int) else (j : Int))) ∧ Below w.heap.size w w' := by
  obtain ⟨g, o, rfl, hg, a0, a1, a2⟩ := hf j hj
  obtain ⟨g', o', e, _, b0, b1, b2⟩ := hf k hk
  cases e
  have HC := hid (fun V : World => fCmp_q (w := V) (cmpQ (frQ l[j]) (frQ l[k])) rfl rfl rfl s1 s2)
  generalize cmpQ (frQ l[j]) (frQ l[k]) = c at *
  clear hf s1 s2
  obtain ⟨R, hR⟩ : ∃ R : Int, R = if c < 0 then (k : Int) else (j : Int) := ⟨_, rfl⟩
  rw [← hR]
  have HR := hid hR
  clear hR
  generalize l[j] = f at *
  generalize l[k] = f' at *
  obtain ⟨n, p, q⟩ := f
  obtain ⟨m, r, s⟩ := f'
  simp only at a0 a1 a2 b0 b1 b2 HC
  have hB0 : Below w.heap.size w w.drew := (Below.refl w.heap.size w).drew
  go_enter Tryz.func122, Tryz.ntmps122
  go_upto_region 1 with fail
  go_region_held3 (fun u => (u.cell? ⟨Bc, 0, none⟩ = some (.slice (some ⟨g, o, none⟩) l.length ca) ∧ u.cell? ⟨g, o + j * 3, none⟩ = some (.bool n) ∧ u.cell? ⟨g, o + j * 3 + 1, none⟩ = some (.string p) ∧ u.cell? ⟨g, o + j * 3 + 2, none⟩ = some (.string q) ∧ u.cell? ⟨g, o + k * 3, none⟩ = some (.bool m) ∧ u.cell? ⟨g, o + k * 3 + 1, none⟩ = some (.string r) ∧ u.cell? ⟨g, o + k * 3 + 2, none⟩ = some (.string s)) ∧ Hid (Below w.heap.size w u))
    (first | exact heldF hB1 hBc hg xc a0 a1 a2 b0 b1 b2 | exact heldF hB0 hBc hg xc a0 a1 a2 b0 b1 b2)
    (first
      | (go_at_call 123; refine (HC.out _).mono ?_; rintro e w1 ⟨rfl, hb1⟩; have hB1 := hB0.trans (hb1.mono hB0.size)))
  by_cases hc : c < 0
  · have HE : Hid (R = (k : Int)) := by show _ = _; rw [HR.out, if_pos hc]
    clear HR
    go_wp2
    go_ret
    exact ⟨by rw [HE.out]; rfl, hB1⟩
  · have hc' : 0 ≤ c := by omega
    have HE : Hid (R = (j : Int)) := by show _ = _; rw [HR.out, if_neg hc]
    clear HR
    go_wp2
    go_ret
    exact ⟨by rw [HE.out]; rfl, hB1⟩

set_option maxRecDepth 100000 in
set_option maxHeartbeats 400000 in
theorem firstGreatest_any (a : Option Addr) (len ca : Nat) (w : World) :
    Calls Tryz.prog 83 #[.slice a len ca] w fun e w' => e = .returned (.agg #[.func (.func 122) #[] #[.pointer (some ⟨w.heap.size, 0, none⟩)]]) ∧ w.heap.size < w'.heap.size ∧ w'.cell? ⟨w.heap.size, 0, none⟩ = some (.slice a len ca) ∧ Below w.heap.size w w' := by
  go_enter Tryz.func83, Tryz.ntmps83
  go_wp2
  have hx : Boxed ((w.alloc (.cells #[.slice a len ca] 23)).alloc (.cells #[.func (.func 122) #[] #[.pointer (some ⟨w.heap.size, 0, none⟩)]] 93)) (w.heap.size + 1) 93 (.func (.func 122) #[] #[.pointer (some ⟨w.heap.size, 0, none⟩)]) := by
    have h := Boxed.new (w.alloc (.cells #[.slice a len ca] 23)) 93 (.func (.func 122) #[] #[.pointer (some ⟨w.heap.size, 0, none⟩)])
    rwa [World.size_alloc] at h
  refine bodyPost_ret (results_cell_row rfl _ _ (w.heap.size + 1) _ _ _ _ rfl hx Tryz.underlying93 rfl (by kernel_rfl)) rfl ?_
  exact ⟨rfl, by simp; omega, ((Boxed.new w 23 (.slice a len ca)).alloc _).cell, ((Below.refl _ w).alloc (Nat.le_refl _) _).alloc (by simp) _⟩
end Go.Proofs.YtknlhejhnopnaaaGreatDoor

/- Rows of fractions. -/
namespace Go.Proofs.YtknlhejhnopnaaaGreatDoor
open Go.RowKit Go.Shelf

/-- The cells of fractions. -/
def frC : List Fr → List Value
  | [] => []
  | f :: l => .bool f.1 :: .string f.2.1 :: .string f.2.2 :: frC l
theorem frC_length : ∀ l : List Fr, (frC l).length = 3 * l.length
  | [] => rfl
  | f :: l => by simp only [frC, List.length_cons, frC_length l]; omega
theorem frC_get : ∀ (l : List Fr) (k : Nat) (h : k < l.length), (frC l)[k * 3]? = some (.bool l[k].1) ∧ (frC l)[k * 3 + 1]? = some (.string l[k].2.1) ∧ (frC l)[k * 3 + 2]? = some (.string l[k].2.2)
  | [], _, h => absurd h (by simp)
  | f :: l, 0, _ => ⟨rfl, rfl, rfl⟩
  | f :: l, k + 1, h => by
    have h' : k < l.length := by simpa using h
    obtain ⟨h1, h2, h3⟩ := frC_get l k h'
    have e : (k + 1) * 3 = k * 3 + 1 + 1 + 1 := by omega
    refine ⟨?_, ?_, ?_⟩
    · rw [e]; exact h1
    · rw [show (k + 1) * 3 + 1 = (k * 3 + 1) + 1 + 1 + 1 by omega]; exact h2
    · rw [show (k + 1) * 3 + 2 = (k * 3 + 2) + 1 + 1 + 1 by omega]; exact h3
theorem frC_set : ∀ (l : List Fr) (k : Nat) (f : Fr), (((frC l).set (k * 3) (.bool f.1)).set (k * 3 + 1) (.string f.2.1)).set (k * 3 + 2) (.string f.2.2) = frC (l.set k f)
  | [], k, f => by simp [frC]
  | x :: l, 0, f => by simp [frC]
  | x :: l, k + 1, f => by
    rw [show (k + 1) * 3 = k * 3 + 1 + 1 + 1 by omega, show k * 3 + 1 + 1 + 1 + 1 = (k * 3 + 1) + 1 + 1 + 1 by omega, show k * 3 + 1 + 1 + 1 + 2 = (k * 3 + 2) + 1 + 1 + 1 by omega]
    simp only [frC, List.set_cons_succ, frC_set l k f]
/-- A row of fractions in a block of its own. -/
def RowF (w : World) (g : Nat) (l : List Fr) : Prop := w.heap[g]? = some (.cells (frC l).toArray 44 (0, 0))
theorem RowF.lt {w : World} {g : Nat} {l : List Fr} (h : RowF w g l) : g < w.heap.size := (Array.getElem?_eq_some_iff.1 h).1
theorem RowF.fz {w : World} {g : Nat} {l : List Fr} (h : RowF w g l) (j : Nat) : w.frozen? ⟨g, j, none⟩ = false := frozen_of_row w g j _ _ h
theorem RowF.below {w w' : World} {g b : Nat} {l : List Fr} (h : RowF w g l) (hb : Below b w w') (hg : g < b) : RowF w' g l := (hb.block g hg).trans h
theorem RowF.cells {w : World} {g : Nat} {l : List Fr} (h : RowF w g l) (k : Nat) (hk : k < l.length) : w.cell? ⟨g, k * 3, none⟩ = some (.bool l[k].1) ∧ w.cell? ⟨g, k * 3 + 1, none⟩ = some (.string l[k].2.1) ∧ w.cell? ⟨g, k * 3 + 2, none⟩ = some (.string l[k].2.2) := by
  obtain ⟨h1, h2, h3⟩ := frC_get l k hk
  refine ⟨?_, ?_, ?_⟩ <;> rw [cell_of_row w g _ _ _ (0, 0) h] <;> simpa using (by assumption)
theorem RowF.fr {w : World} {g : Nat} {l : List Fr} (h : RowF w g l) : FrS w (some ⟨g, 0, none⟩) l := fun k hk => by
  obtain ⟨h1, h2, h3⟩ := h.cells k hk
  refine ⟨g, 0, rfl, h.lt, ?_, ?_, ?_⟩
  · rw [Nat.zero_add]; exact h1
  · rw [Nat.zero_add]; exact h2
  · rw [Nat.zero_add]; exact h3
theorem RowF.put {w : World} {g : Nat} {l : List Fr} (h : RowF w g l) (k : Nat) (f : Fr) : RowF (((w.setCell ⟨g, k * 3, none⟩ (.bool f.1)).setCell ⟨g, k * 3 + 1, none⟩ (.string f.2.1)).setCell ⟨g, k * 3 + 2, none⟩ (.string f.2.2)) g (l.set k f) := by
  have h1 := heap_setCell_same w g (k * 3) _ _ (.bool f.1) h
  have h2 := heap_setCell_same _ g (k * 3 + 1) _ _ (.string f.2.1) h1
  have h3 := heap_setCell_same _ g (k * 3 + 2) _ _ (.string f.2.2) h2
  rw [RowF, h3, ← frC_set]
  simp
end Go.Proofs.YtknlhejhnopnaaaGreatDoor

/- Package table: fill. -/
namespace Go.Proofs.YtknlhejhnopnaaaGreatDoor
open Go.RowKit Go.Shelf

/-- The fraction that no one wrote. -/
def frZ : Fr := (false, ⟨#[]⟩, ⟨#[]⟩)
/-- What is written when i are told. -/
def partF (l : List Fr) (i : Nat) : List Fr := l.take i ++ List.replicate (l.length - i) frZ
theorem partF_zero (l : List Fr) : partF l 0 = List.replicate l.length frZ := by simp [partF]
theorem partF_length (l : List Fr) {i : Nat} (h : i ≤ l.length) : (partF l i).length = l.length := by simp [partF]; omega
theorem partF_all (l : List Fr) : partF l l.length = l := by simp [partF]
theorem partF_set (l : List Fr) {i : Nat} (h : i < l.length) : (partF l i).set i l[i] = partF l (i + 1) := by
  rw [partF, partF, List.set_append_right _ _ (by simp; omega), List.take_succ_eq_append_getElem h]
  have e : l.length - i = (l.length - (i + 1)) + 1 := by omega
  rw [e, List.replicate_succ, List.length_take, Nat.min_eq_left (by omega), Nat.sub_self, List.set_cons_zero, List.append_assoc]
  rfl
theorem Tryz.infoFrac : (Tryz.prog.info? 44).map (fun i => (i.zero, i.size, i.bytes)) = some (some (.agg #[.bool false, .string ⟨#[]⟩, .string ⟨#[]⟩]), 3, 40) := by kernel_rfl

theorem TBox.put {w : World} {g : Nat} {u v : Value} (h : TBox w g u v) (x y : Value) : TBox ((w.setCell ⟨g, 0, none⟩ x).setCell ⟨g, 1, none⟩ y) g x y := by
  have h1 := heap_setCell_same w g 0 _ _ x h
  have h2 := heap_setCell_same _ g 1 _ _ y h1
  exact h2
theorem RowF.off {w : World} {g : Nat} {l : List Fr} (h : RowF w g l) (b j : Nat) (y : Value) (hne : g ≠ b) : RowF (w.setCell ⟨b, j, none⟩ y) g l := (Below.heap_setCell w ⟨b, j, none⟩ y g hne).trans h
theorem block_of_own3 {w : World} {base g n : Nat} {t : TypeId} {xs : List Value} (h : w.ownsRow base t 3 (.slice (some ⟨g, 0, none⟩) n n) n xs) : w.heap[g]? = some (.cells xs.toArray t (0, 0)) := by
  rcases h.2 with ⟨h', _⟩ | ⟨g', cap', cur, h', _, hg, hnc, _, hsz, htk⟩
  · cases h'
  · cases h'
    rw [hg, ← htk, List.take_of_length_le (by simp; omega)]
theorem frC_zero_at : ∀ (n j : Nat), j < 3 * n → (frC (List.replicate n frZ))[j]? = some (#[Value.bool false, Value.string ⟨#[]⟩, Value.string ⟨#[]⟩][j % 3]!)
  | 0, j, h => by omega
  | n + 1, 0, _ => rfl
  | n + 1, 1, _ => rfl
  | n + 1, 2, _ => rfl
  | n + 1, j + 3, h => by
    rw [show (j + 3) % 3 = j % 3 by omega, List.replicate_succ]
    exact frC_zero_at n j (by omega)
theorem made_frs (n : Nat) : (madeCells (Value.agg #[Value.bool false, Value.string ⟨#[]⟩, Value.string ⟨#[]⟩]).cells (n * 3)).toList = frC (List.replicate n frZ) := by
  apply List.ext_getElem?
  intro j
  by_cases h : j < 3 * n
  · rw [frC_zero_at n j h, madeCells]
    have h' : j < n * 3 := by omega
    simp [h', Value.cells]
  · rw [List.getElem?_eq_none (by rw [Array.length_toList, size_madeCells]; omega), List.getElem?_eq_none (by rw [frC_length, List.length_replicate]; omega)]

set_option maxRecDepth 100000 in
set_option maxHeartbeats 400000 in
theorem fill_any (a b : Option Addr) (ca cb : Nat) (sizes vars : List Int) (F : Nat) (lb : Array Value) (eF : ∀ args w, (callFunc F args).run Tryz.prog w = .ok (.enter F args) w) (l : List Fr) (w : World) (hs : IntS w a sizes) (hv : IntS w b vars) (hfi : Fine sizes) (hup : Up vars sizes.length) (hl : l.length = cnt (toN sizes) (toN vars))
    (ht : ∀ k (h : k < l.length), ∀ V, Below w.heap.size w V → Calls Tryz.prog F (#[.int .i64 (k : Nat)] ++ lb) V fun e w' => e = .returned (frV l[k]) ∧ Below V.heap.size V w') :
    Calls Tryz.prog 53 #[.slice a sizes.length ca, .slice b vars.length cb, .func (.func F) #[] lb] w fun e w' => ∃ g : Nat, e = .returned (.agg #[.slice b vars.length cb, .slice (some ⟨g, 0, none⟩) l.length l.length]) ∧ w.heap.size ≤ g ∧ RowF w' g l ∧ Below w.heap.size w w' := by
  obtain ⟨i0, hi0, hz0, hz1, hz2⟩ := info_parts Tryz.infoFrac
  have HS := hid hs
  have HV := hid hv
  have HT := hid ht
  have HC := hid (fun V h1 h2 => countOf_any a b ca cb sizes vars V h1 h2 hfi hup)
  have hl8 := hfi.eight
  have hvl := hup.length
  have hsm : cnt (toN sizes) (toN vars) ≤ 65536 := cnt_small hfi.sz_le (by rw [toN_length]; omega)
  rw [← hl] at hsm HC
  clear hs hv ht hl hfi hup
  go_enter Tryz.func53, Tryz.ntmps53
  go_wp2_with fail
  have b0 : (w.alloc (.cells #[.slice none 0 0, .slice none 0 0] 25)).heap[w.heap.size]? = some (.cells #[.slice none 0 0, .slice none 0 0] 25 (0, 0)) := heap_alloc_new _ _
  have hb0 : Below w.heap.size w (w.alloc (.cells #[.slice none 0 0, .slice none 0 0] 25)) := (Below.refl _ w).alloc (Nat.le_refl _) _
  have hs0 : (w.alloc (.cells #[.slice none 0 0, .slice none 0 0] 25)).heap.size = w.heap.size + 1 := by simp
  generalize (w.alloc (.cells #[.slice none 0 0, .slice none 0 0] 25)) = W at b0 hb0 hs0 ⊢
  refine (HC.out _ (HS.out.below hb0) (HV.out.below hb0)).mono ?_
  rintro e w1 ⟨rfl, hb1⟩
  have hs1 := hb1.size
  have b1 : w1.heap[w.heap.size]? = some (.cells #[.slice none 0 0, .slice none 0 0] 25 (0, 0)) := (hb1.block _ (by omega)).trans b0
  have hB1 := hb0.trans (hb1.mono hb0.size)
  go_wp2_with (first
    | (at_make; refine wpList_make_full _ rfl _ _ 23 rfl w1.heap.size 44 i0 (.agg #[.bool false, .string ⟨#[]⟩, .string ⟨#[]⟩]) 3 Tryz.underlying23 hi0 hz0 hz1 .i64 .i64 _ _ l.length rfl rfl (by go_num) (by go_num) (by rw [hz2]; omega) (by unfold maxLen; omega) (Nat.le_refl _) ?_; intro w2 hown2 hgrow2))
  have hr2 := block_of_own3 hown2
  rw [made_frs] at hr2
  have HR2 : Hid (RowF w2 w1.heap.size (List.replicate l.length frZ)) := hr2
  have hB2 : Below w1.heap.size w1 w2 := (Below.refl _ w1).grown hgrow2 (Nat.le_refl _) (fun k e => by cases e)
  have b2 : w2.heap[w.heap.size]? = some (.cells #[.slice none 0 0, .slice none 0 0] 25 (0, 0)) := (hB2.block _ (by omega)).trans b1
  have HB2 := hid (hB1.trans (hB2.mono hB1.size))
  have hlt1 : w.heap.size + 1 ≤ w1.heap.size := by omega
  generalize w1.heap.size = G at *
  clear hown2 hgrow2 hr2 hB2 b1 b0 hb0 hb1 hB1 hs1 hs0
  have HT2 : Hid (TBox w2 w.heap.size (.slice none 0 0) (.slice none 0 0)) := b2
  clear b2
  go_wp2_with fail
  go_loopw [15] (fun iv wr => ∃ i : Nat, i ≤ l.length ∧ iv = .int .i64 i ∧ Hid (RowF wr G (partF l i)) ∧ Hid (TBox wr w.heap.size (.slice none 0 0) (.slice none 0 0)) ∧ Hid (Below w.heap.size w wr)) (fun iv _ => l.length - (intOf iv).toNat)
  case atStart => exact ⟨0, Nat.zero_le _, rfl, by rw [partF_zero]; exact HR2, HT2, HB2⟩
  case round =>
    obtain ⟨i, hi, rfl, HR, HX, HB⟩ := hrel
    clear HR2 HT2 HB2
    by_cases hlt : i < l.length
    · have HST := hid (partF_set l hlt)
      have HTI := hid (HT.out i hlt)
      have hpl := partF_length l hi
      generalize l[i] = f at *
      obtain ⟨fn, fx, fy⟩ := f
      go_wp2_with fail
      refine (HTI.out _ HB.out).mono ?_
      rintro e w3 ⟨rfl, hb3⟩
      have HR3 := HR.out.below hb3 HR.out.lt
      have HX3 : TBox w3 w.heap.size (.slice none 0 0) (.slice none 0 0) := (hb3.block _ (Array.getElem?_eq_some_iff.1 HX.out).1).trans HX.out
      have HB3 := HB.out.trans (hb3.mono HB.out.size)
      obtain ⟨k0, k1, k2⟩ := HR3.cells i (by omega)
      have f0 := HR3.fz (i * 3)
      have f1 := HR3.fz (i * 3 + 1)
      have f2 := HR3.fz (i * 3 + 2)
      generalize (partF l i)[i] = z at *
      obtain ⟨zn, zx, zy⟩ := z
      simp only at k0 k1 k2
      have HP := hid (HR3.put i (fn, fx, fy))
      rw [HST.out] at HP
      have HXP : Hid (TBox (((w3.setCell ⟨G, i * 3, none⟩ (.bool fn)).setCell ⟨G, i * 3 + 1, none⟩ (.string fx)).setCell ⟨G, i * 3 + 2, none⟩ (.string fy)) w.heap.size (.slice none 0 0) (.slice none 0 0)) := (Below.heap_setCell _ ⟨G, i * 3 + 2, none⟩ _ w.heap.size (by show w.heap.size ≠ G; omega)).trans ((Below.heap_setCell _ ⟨G, i * 3 + 1, none⟩ _ w.heap.size (by show w.heap.size ≠ G; omega)).trans ((Below.heap_setCell _ ⟨G, i * 3, none⟩ _ w.heap.size (by show w.heap.size ≠ G; omega)).trans HX3))
      have HBP := hid (((HB3.setCell (p := ⟨G, i * 3, none⟩) (by show w.heap.size ≤ G; omega) (.bool fn)).setCell (p := ⟨G, i * 3 + 1, none⟩) (by show w.heap.size ≤ G; omega) (.string fx)).setCell (p := ⟨G, i * 3 + 2, none⟩) (by show w.heap.size ≤ G; omega) (.string fy))
      clear HR3 HX3 HB3 hb3 HTI
      go_wp2
      go_roundw
      case rel => exact ⟨i + 1, by omega, by go_num, HP, HXP, HBP⟩
      case measure => simp [intOf]; omega
    · obtain rfl : i = l.length := by omega
      have hfin := HR.out
      rw [partF_all] at hfin
      obtain ⟨t0, t1⟩ : wr.cell? ⟨w.heap.size, 0, none⟩ = some (.slice none 0 0) ∧ wr.cell? ⟨w.heap.size, 1, none⟩ = some (.slice none 0 0) := ⟨HX.out.c0, HX.out.c1⟩
      have g0 : wr.frozen? ⟨w.heap.size, 0, none⟩ = false := frozen_of_row wr w.heap.size 0 _ _ HX.out
      have g1 : wr.frozen? ⟨w.heap.size, 1, none⟩ = false := frozen_of_row wr w.heap.size 1 _ _ HX.out
      go_wp2
      refine bodyPost_ret (results_cell_row rfl _ _ w.heap.size _ _ _ _ rfl (HX.out.put _ _) Tryz.underlying25 rfl (by kernel_rfl)) rfl ?_
      exact ⟨G, rfl, by omega, (hfin.off _ 0 _ (by omega)).off _ 1 _ (by omega), (HB.out.setCell (p := ⟨w.heap.size, 0, none⟩) (Nat.le_refl _) _).setCell (p := ⟨w.heap.size, 1, none⟩) (Nat.le_refl _) _⟩
end Go.Proofs.YtknlhejhnopnaaaGreatDoor
