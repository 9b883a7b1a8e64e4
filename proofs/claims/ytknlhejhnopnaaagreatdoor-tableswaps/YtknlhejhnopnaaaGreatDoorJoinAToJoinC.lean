/- Package table: join. -/
import Derived.Test.YtknlhejhnopnaaaGreatDoorStandDOwn
namespace Go.Proofs.YtknlhejhnopnaaaGreatDoor
open Go.RowKit Go.Shelf

/-- A fraction as a value. -/
abbrev frV (f : Fr) : Value := .agg #[.bool f.1, .string f.2.1, .string f.2.2]

/-- What join holds while it runs: how, its result's block, what is left. -/
structure JF (w V : World) (pv : Value) (B : Nat) (n : Bool) (x y : ByteArray) : Prop where
  how : Boxed V w.heap.size 83 pv
  res : Box V (w.heap.size + 1) false ⟨#[]⟩ ⟨#[]⟩
  left : Box V B n x y
  below : Below w.heap.size w V
  lt : w.heap.size + 1 < B
theorem JF.step {w V V' : World} {pv : Value} {B : Nat} {n : Bool} {x y : ByteArray} (h : JF w V pv B n x y) (hb : Below V.heap.size V V') : JF w V' pv B n x y :=
  ⟨(hb.block _ h.how.lt).trans h.how, h.res.below hb h.res.lt, h.left.below hb h.left.lt, h.below.trans (hb.mono h.below.size), h.lt⟩
theorem JF.drew {w V : World} {pv : Value} {B : Nat} {n : Bool} {x y : ByteArray} (h : JF w V pv B n x y) : JF w V.drew pv B n x y := ⟨h.how, h.res, h.left, h.below.drew, h.lt⟩
theorem JF.put {w V : World} {pv : Value} {B : Nat} {n : Bool} {x y : ByteArray} (h : JF w V pv B n x y) (n' : Bool) (x' y' : ByteArray) : JF w (((V.setCell ⟨B, 0, none⟩ (.bool n')).setCell ⟨B, 1, none⟩ (.string x')).setCell ⟨B, 2, none⟩ (.string y')) pv B n' x' y' := by
  have h1 := h.lt
  exact ⟨boxed_off (boxed_off (boxed_off h.how B 0 _ (by omega)) B 1 _ (by omega)) B 2 _ (by omega), ((h.res.far (by omega) _).far (by omega) _).far (by omega) _, h.left.put n' x' y', below_put h.below (by omega) _ _ _, h.lt⟩
theorem JF.of {w V : World} {pv : Value} {B : Nat} {n : Bool} {x y : ByteArray} (h : JF w V pv B n x y) : (V.cell? ⟨w.heap.size, 0, none⟩ = some pv ∧ V.cell? ⟨B, 0, none⟩ = some (.bool n) ∧ V.cell? ⟨B, 1, none⟩ = some (.string x) ∧ V.cell? ⟨B, 2, none⟩ = some (.string y)) ∧ Hid (JF w V pv B n x y) := ⟨⟨h.how.cell, h.left.c0, h.left.c1, h.left.c2⟩, h⟩

set_option maxRecDepth 100000 in
set_option maxHeartbeats 400000 in
theorem joinF_any (pf tf : Nat) (plb tlb : Array Value) (ep : ∀ args w, (callFunc pf args).run Tryz.prog w = .ok (.enter pf args) w) (et : ∀ args w, (callFunc tf args).run Tryz.prog w = .ok (.enter tf args) w) (n : Nat) (T L : Nat → Fr) (w : World) (h1 : 1 ≤ n) (hn : n ≤ 65536)
    (ht : ∀ k, k < n → ∀ V, Below w.heap.size w V → Calls Tryz.prog tf (#[.int .i64 (k : Nat)] ++ tlb) V fun e w' => e = .returned (frV (T k)) ∧ Below V.heap.size V w')
    (hp : ∀ k, k + 1 < n → ∀ V, Below w.heap.size w V → Calls Tryz.prog pf (#[frV (L k), frV (T (k + 1))] ++ plb) V fun e w' => e = .returned (frV (L (k + 1))) ∧ Below V.heap.size V w')
    (h0 : L 0 = T 0) :
    Calls Tryz.prog 68 #[.agg #[.func (.func pf) #[] plb], .int .i64 (n : Nat), .func (.func tf) #[] tlb] w fun e w' => e = .returned (frV (L (n - 1))) ∧ Below w.heap.size w w' := by
  have HT := hid ht
  have HP := hid hp
  clear ht hp
  go_enter Tryz.func68, Tryz.ntmps68
  go_wp2_with fail
  have hb0 : Below w.heap.size w ((w.alloc (.cells #[.func (.func pf) #[] plb] 83)).alloc (.cells #[.bool false, .string ⟨#[]⟩, .string ⟨#[]⟩] 44)) := ((Below.refl _ w).alloc (Nat.le_refl _) _).alloc (by simp) _
  have b0 : Boxed ((w.alloc (.cells #[.func (.func pf) #[] plb] 83)).alloc (.cells #[.bool false, .string ⟨#[]⟩, .string ⟨#[]⟩] 44)) w.heap.size 83 (.func (.func pf) #[] plb) := (Boxed.new w _ _).alloc _
  have b1 : Box ((w.alloc (.cells #[.func (.func pf) #[] plb] 83)).alloc (.cells #[.bool false, .string ⟨#[]⟩, .string ⟨#[]⟩] 44)) (w.heap.size + 1) false ⟨#[]⟩ ⟨#[]⟩ := by
    have h := Box.new (w.alloc (.cells #[.func (.func pf) #[] plb] 83)) false ⟨#[]⟩ ⟨#[]⟩
    rwa [World.size_alloc] at h
  have hsz : ((w.alloc (.cells #[.func (.func pf) #[] plb] 83)).alloc (.cells #[.bool false, .string ⟨#[]⟩, .string ⟨#[]⟩] 44)).heap.size = w.heap.size + 1 + 1 := by simp
  generalize ((w.alloc (.cells #[.func (.func pf) #[] plb] 83)).alloc (.cells #[.bool false, .string ⟨#[]⟩, .string ⟨#[]⟩] 44)) = W at *
  have H00 := hid h0
  refine (HT.out 0 (by omega) _ hb0).mono ?_
  rcases hT0 : T 0 with ⟨n0, x0, y0⟩
  rintro e w1 ⟨rfl, hb1⟩
  rw [hT0] at h0
  have HL0 := hid h0
  clear h0 hT0 H00
  have hs1 := hb1.size
  have c0 := (boxed_keep b0 hb1)
  have c1 := b1.below hb1 b1.lt
  have cB := hb0.trans (hb1.mono hb0.size)
  go_wp2_with fail
  have HJ0 : Hid (JF w (w1.alloc (.cells #[.bool n0, .string x0, .string y0] 44)) (.func (.func pf) #[] plb) w1.heap.size n0 x0 y0) := ⟨c0.alloc _, c1.alloc _, Box.new w1 n0 x0 y0, cB.alloc cB.size _, by omega⟩
  generalize w1.heap.size = B at *
  clear b0 b1 hb0 hsz hb1 hs1 c0 c1 cB
  go_loopw [13] (fun iv wr => ∃ i : Nat, i + 1 ≤ n ∧ iv = .int .i64 i ∧ Hid (JF w wr (.func (.func pf) #[] plb) B (L i).1 (L i).2.1 (L i).2.2)) (fun iv _ => n - (intOf iv).toNat)
  case atStart => exact ⟨0, h1, rfl, by rw [HL0.out]; exact HJ0⟩
  case round =>
    obtain ⟨i, hi, rfl, HJ⟩ := hrel
    clear HJ0 HL0
    by_cases hlt : i + 1 < n
    · have HTi := HT.out (i + 1) hlt
      have HPi := HP.out i hlt
      rw [Int.natCast_succ] at HTi
      rcases hL : L i with ⟨ni, xi, yi⟩
      rcases hT : T (i + 1) with ⟨nt, xt, yt⟩
      rcases hL' : L (i + 1) with ⟨nl, xl, yl⟩
      rw [hL] at HJ HPi
      rw [hT] at HTi HPi
      rw [hL'] at HPi
      have HTI := hid HTi
      have HPI := hid HPi
      have HNX := hid hL'
      clear HTi HPi hL hT hL'
      have J0 := HJ.out
      simp only at J0
      obtain ⟨k0, k1, k2, f0, f1, f2⟩ := J0.left.facts
      have J0d := J0.drew
      have hwi : IntKind.i64.wrap ((i : Int) + 1) = (i : Int) + 1 := by rw [IntKind.wrap_i64]; omega
      go_upto_region 5 with fail
      refine wp_region_held_drew (S := fun V => V.cell? ⟨w.heap.size, 0, none⟩ = some (.func (.func pf) #[] plb)) (by kernel_rfl) J0d.how.cell (fun hSd => ?_)
      have d0 := J0d.left.c0
      have d1 := J0d.left.c1
      have d2 := J0d.left.c2
      refine wpAnyH_take (i := 0) (oi := _) (v := .pointer (some ⟨w.heap.size, 0, none⟩)) rfl (by kernel_rfl) (by kernel_rfl) (by kernel_rfl) (fun _ _ _ h => h) (Or.inl ⟨by rfl, ?_⟩) (by assumption) ?_
      · intro u' hSu
        (try simp only [List.getElem_toArray, List.getElem_cons_zero])
        go_simp
      (try simp only [List.getElem_toArray, List.getElem_cons_zero])
      (try simp only [Act.put, List.setIfInBounds_toArray, List.set_cons_zero, List.set_cons_succ])
      refine wpAnyH_take (i := 1) (oi := _) (v := .func (.func pf) #[] plb) rfl (by kernel_rfl) (by kernel_rfl) (by kernel_rfl) (fun _ _ _ h => h) (Or.inl ⟨by rfl, ?_⟩) (by assumption) ?_
      · intro u' hSu
        (try simp only [List.getElem_toArray, List.getElem_cons_zero, List.getElem_cons_succ])
        go_simp
      (try simp only [List.getElem_toArray, List.getElem_cons_zero, List.getElem_cons_succ])
      (try simp only [Act.put, List.setIfInBounds_toArray, List.set_cons_zero, List.set_cons_succ])
      refine wpAnyH_take (i := 3) (oi := _) (v := .func (.func tf) #[] tlb) rfl (by kernel_rfl) (by kernel_rfl) (by kernel_rfl) (fun _ _ _ h => h) (Or.inl ⟨by rfl, ?_⟩) (by assumption) ?_
      · intro u' hSu
        (try simp only [List.getElem_toArray, List.getElem_cons_zero, List.getElem_cons_succ])
        go_simp
      (try simp only [List.getElem_toArray, List.getElem_cons_zero, List.getElem_cons_succ])
      (try simp only [Act.put, List.setIfInBounds_toArray, List.set_cons_zero, List.set_cons_succ])
      refine wpAnyH_take (i := 4) (oi := _) (v := .int .i64 (i : Nat)) rfl (by kernel_rfl) (by kernel_rfl) (by kernel_rfl) (fun _ _ _ h => h) (Or.inl ⟨by rfl, ?_⟩) (by assumption) ?_
      · intro u' hSu
        (try simp only [List.getElem_toArray, List.getElem_cons_zero, List.getElem_cons_succ])
        go_simp
      (try simp only [List.getElem_toArray, List.getElem_cons_zero, List.getElem_cons_succ])
      (try simp only [Act.put, List.setIfInBounds_toArray, List.set_cons_zero, List.set_cons_succ])
      refine wpAnyH_take (i := 5) (oi := _) (v := .int .i64 ((i : Int) + 1)) rfl (by kernel_rfl) (by kernel_rfl) (by kernel_rfl) (fun _ _ _ h => h) (Or.inl ⟨by rfl, ?_⟩) (by assumption) ?_
      · intro u' hSu
        (try simp only [List.getElem_toArray, List.getElem_cons_zero, List.getElem_cons_succ])
        go_simp
      (try simp only [List.getElem_toArray, List.getElem_cons_zero, List.getElem_cons_succ])
      (try simp only [Act.put, List.setIfInBounds_toArray, List.set_cons_zero, List.set_cons_succ])
      refine wpAnyH_ready (rs := [2, 6]) (by kernel_rfl) (by simp) (AllReadyH.cons rfl ?_ (AllReadyH.cons rfl ?_ AllReadyH.nil))
      · intro K' hK'
        (try simp only [List.getElem_toArray, List.getElem_cons_zero, List.getElem_cons_succ])
        go_simp
        refine hK'.out _ _ J0d.how.cell (fun hSe => ?_)
        clear hK' K' hSd
        have hSd := hSe
        clear hSe
        (try simp only [List.getElem_toArray, List.getElem_cons_zero, List.getElem_cons_succ])
        (try simp only [Act.put, List.setIfInBounds_toArray, List.set_cons_zero, List.set_cons_succ])
        refine wpAnyH_ready (rs := [6]) (by kernel_rfl) (by simp) (AllReadyH.cons rfl ?_ AllReadyH.nil)
        intro K' hK'
        (try simp only [List.getElem_toArray, List.getElem_cons_zero, List.getElem_cons_succ])
        go_simp
        refine (HTI.out _ J0d.below).mono ?_
        rintro e w2 ⟨rfl, hb2⟩
        have J1 := J0d.step hb2
        obtain ⟨e0, e1, e2, _, _, _⟩ := J1.left.facts
        refine hK'.out _ _ J1.how.cell (fun hSe => ?_)
        clear hK' K' hSd
        have hSd := hSe
        clear hSe
        (try simp only [List.getElem_toArray, List.getElem_cons_zero, List.getElem_cons_succ])
        (try simp only [Act.put, List.setIfInBounds_toArray, List.set_cons_zero, List.set_cons_succ])
        refine wpAnyH_ready (rs := [7]) (by kernel_rfl) (by simp) (AllReadyH.cons rfl ?_ AllReadyH.nil)
        intro K' hK'
        (try simp only [List.getElem_toArray, List.getElem_cons_zero, List.getElem_cons_succ])
        go_simp
        refine (HPI.out _ J1.below).mono ?_
        rintro e w3 ⟨rfl, hb3⟩
        have J2 := J1.step hb3
        refine hK'.out _ _ J2.how.cell (fun hSe => ?_)
        clear hK' K' hSd
        have hSd := hSe
        clear hSe
        obtain ⟨q0, q1, q2, p0, p1, p2⟩ := J2.left.facts
        (try simp only [List.getElem_toArray, List.getElem_cons_zero, List.getElem_cons_succ])
        (try simp only [Act.put, List.setIfInBounds_toArray, List.set_cons_zero, List.set_cons_succ])
        refine wpAnyH_ready (rs := [8]) (by kernel_rfl) (by simp) (AllReadyH.cons rfl ?_ AllReadyH.nil)
        intro K' hK'
        (try simp only [List.getElem_toArray, List.getElem_cons_zero, List.getElem_cons_succ])
        go_simp
        have J3 := J2.put nl xl yl
        refine hK'.out _ _ J3.how.cell (fun _ => wpAnyH_done (by kernel_rfl) ?_ _)
        clear hK' K' hSd
        go_wp2
        go_roundw
        case rel => exact ⟨i + 1, by omega, by rw [Int.natCast_succ], by rw [HNX.out]; exact J3⟩
        case measure => simp [intOf]; omega
      · intro K' hK'
        (try simp only [List.getElem_toArray, List.getElem_cons_zero, List.getElem_cons_succ])
        go_simp
        refine (HTI.out _ J0d.below).mono ?_
        rintro e w2 ⟨rfl, hb2⟩
        have J1 := J0d.step hb2
        obtain ⟨e0, e1, e2, _, _, _⟩ := J1.left.facts
        refine hK'.out _ _ J1.how.cell (fun hSe => ?_)
        clear hK' K' hSd
        have hSd := hSe
        clear hSe
        (try simp only [List.getElem_toArray, List.getElem_cons_zero, List.getElem_cons_succ])
        (try simp only [Act.put, List.setIfInBounds_toArray, List.set_cons_zero, List.set_cons_succ])
        refine wpAnyH_ready (rs := [2]) (by kernel_rfl) (by simp) (AllReadyH.cons rfl ?_ AllReadyH.nil)
        intro K' hK'
        (try simp only [List.getElem_toArray, List.getElem_cons_zero, List.getElem_cons_succ])
        go_simp
        refine hK'.out _ _ J1.how.cell (fun hSe => ?_)
        clear hK' K' hSd
        have hSd := hSe
        clear hSe
        (try simp only [List.getElem_toArray, List.getElem_cons_zero, List.getElem_cons_succ])
        (try simp only [Act.put, List.setIfInBounds_toArray, List.set_cons_zero, List.set_cons_succ])
        refine wpAnyH_ready (rs := [7]) (by kernel_rfl) (by simp) (AllReadyH.cons rfl ?_ AllReadyH.nil)
        intro K' hK'
        (try simp only [List.getElem_toArray, List.getElem_cons_zero, List.getElem_cons_succ])
        go_simp
        refine (HPI.out _ J1.below).mono ?_
        rintro e w3 ⟨rfl, hb3⟩
        have J2 := J1.step hb3
        refine hK'.out _ _ J2.how.cell (fun hSe => ?_)
        clear hK' K' hSd
        have hSd := hSe
        clear hSe
        obtain ⟨q0, q1, q2, p0, p1, p2⟩ := J2.left.facts
        (try simp only [List.getElem_toArray, List.getElem_cons_zero, List.getElem_cons_succ])
        (try simp only [Act.put, List.setIfInBounds_toArray, List.set_cons_zero, List.set_cons_succ])
        refine wpAnyH_ready (rs := [8]) (by kernel_rfl) (by simp) (AllReadyH.cons rfl ?_ AllReadyH.nil)
        intro K' hK'
        (try simp only [List.getElem_toArray, List.getElem_cons_zero, List.getElem_cons_succ])
        go_simp
        have J3 := J2.put nl xl yl
        refine hK'.out _ _ J3.how.cell (fun _ => wpAnyH_done (by kernel_rfl) ?_ _)
        clear hK' K' hSd
        go_wp2
        go_roundw
        case rel => exact ⟨i + 1, by omega, by rw [Int.natCast_succ], by rw [HNX.out]; exact J3⟩
        case measure => simp [intOf]; omega
    · have hin : i + 1 = n := by omega
      have HE : Hid (L (n - 1) = L i) := by show _ = _; rw [show n - 1 = i by omega]
      have J0 := HJ.out
      obtain ⟨k0, k1, k2, f0, f1, f2⟩ := J0.left.facts
      obtain ⟨r0, r1, r2, t0, t1, t2⟩ := J0.res.facts
      go_wp2
      refine bodyPost_ret ((J0.res.put _ _ _).result rfl _ rfl) rfl ?_
      exact ⟨by rw [HE.out], below_put J0.below (by omega) _ _ _⟩
end Go.Proofs.YtknlhejhnopnaaaGreatDoor

/- Package table: the ways of joining. -/
namespace Go.Proofs.YtknlhejhnopnaaaGreatDoor
open Go.RowKit Go.Shelf

abbrev frQ (f : Fr) : Rat := val f.1 f.2.1 f.2.2
/-- The greater of two; of like ones the first. -/
def great (f g : Fr) : Fr := if cmpQ (frQ f) (frQ g) < 0 then g else f

set_option maxRecDepth 100000 in
set_option maxHeartbeats 400000 in
theorem greater_any (f g : Fr) (w : World) (s1 : f.2.1.size + f.2.2.size ≤ 100000) (s2 : g.2.1.size + g.2.2.size ≤ 100000) :
    Calls Tryz.prog 110 #[frV f, frV g] w fun e w' => e = .returned (frV (great f g)) ∧ Below w.heap.size w w' := by
  obtain ⟨n, x, y⟩ := f
  obtain ⟨m, u, v⟩ := g
  have HC := hid (fun V : World => fCmp_q (w := V) (cmpQ (val n x y) (val m u v)) rfl rfl rfl s1 s2)
  have HG : Hid (great (n, x, y) (m, u, v) = if cmpQ (val n x y) (val m u v) < 0 then (m, u, v) else (n, x, y)) := rfl
  generalize great (n, x, y) (m, u, v) = r at *
  generalize cmpQ (val n x y) (val m u v) = k at *
  have b0 : Box (((w.alloc (FC n x y)).alloc (FC m u v)).alloc (FC false ⟨#[]⟩ ⟨#[]⟩)) w.heap.size n x y := ((Box.new w n x y).alloc _).alloc _
  have b1 : Box (((w.alloc (FC n x y)).alloc (FC m u v)).alloc (FC false ⟨#[]⟩ ⟨#[]⟩)) (w.heap.size + 1) m u v := (Box.at (w := w.alloc (FC n x y)) (by simp) m u v).alloc _
  have b2 : Box (((w.alloc (FC n x y)).alloc (FC m u v)).alloc (FC false ⟨#[]⟩ ⟨#[]⟩)) (w.heap.size + 1 + 1) false ⟨#[]⟩ ⟨#[]⟩ := Box.at (w := (w.alloc (FC n x y)).alloc (FC m u v)) (by simp) false ⟨#[]⟩ ⟨#[]⟩
  have hb0 : Below w.heap.size w (((w.alloc (FC n x y)).alloc (FC m u v)).alloc (FC false ⟨#[]⟩ ⟨#[]⟩)) := (((Below.refl _ w).alloc (Nat.le_refl _) _).alloc (by simp) _).alloc (by simp; omega) _
  go_enter Tryz.func110, Tryz.ntmps110
  go_wp2_with fail
  generalize (((w.alloc (FC n x y)).alloc (FC m u v)).alloc (FC false ⟨#[]⟩ ⟨#[]⟩)) = W at b0 b1 b2 hb0 ⊢
  refine (HC.out _).mono ?_
  rintro e w1 ⟨rfl, hb1⟩
  have c0 := b0.below hb1 b0.lt
  have c1 := b1.below hb1 b1.lt
  have c2 := b2.below hb1 b2.lt
  have hB := hb0.trans (hb1.mono hb0.size)
  obtain ⟨k0, k1, k2, f0, f1, f2⟩ := c0.facts
  obtain ⟨j0, j1, j2, i0, i1, i2⟩ := c1.facts
  obtain ⟨l0, l1, l2, g0, g1, g2⟩ := c2.facts
  by_cases hk : k < 0
  · have HR : Hid (r = (m, u, v)) := by show _ = _; rw [HG.out, if_pos hk]
    clear HG
    go_wp2
    refine bodyPost_ret ((c2.put _ _ _).result rfl _ rfl) rfl ?_
    exact ⟨by rw [HR.out], below_put hB (by omega) _ _ _⟩
  · have HR : Hid (r = (n, x, y)) := by show _ = _; rw [HG.out, if_neg hk]
    have hk' : 0 ≤ k := by omega
    clear HG
    go_wp2
    refine bodyPost_ret ((c2.put _ _ _).result rfl _ rfl) rfl ?_
    exact ⟨by rw [HR.out], below_put hB (by omega) _ _ _⟩

set_option maxRecDepth 100000 in
set_option maxHeartbeats 400000 in
theorem sums_any (w : World) : Calls Tryz.prog 62 #[] w fun e w' => e = .returned (.agg #[.func (.func 109) #[] #[]]) ∧ Below w.heap.size w w' := by
  go_enter Tryz.func62, Tryz.ntmps62
  go_wp2
  refine bodyPost_ret (results_cell_row rfl _ _ w.heap.size _ _ _ _ rfl (Boxed.new w _ _) Tryz.underlying83 rfl (by kernel_rfl)) rfl ?_
  exact ⟨rfl, (Below.refl _ w).alloc (Nat.le_refl _) _⟩
set_option maxRecDepth 100000 in
set_option maxHeartbeats 400000 in
theorem greatest_any (w : World) : Calls Tryz.prog 63 #[] w fun e w' => e = .returned (.agg #[.func (.func 110) #[] #[]]) ∧ Below w.heap.size w w' := by
  go_enter Tryz.func63, Tryz.ntmps63
  go_wp2
  refine bodyPost_ret (results_cell_row rfl _ _ w.heap.size _ _ _ _ rfl (Boxed.new w _ _) Tryz.underlying83 rfl (by kernel_rfl)) rfl ?_
  exact ⟨rfl, (Below.refl _ w).alloc (Nat.le_refl _) _⟩
end Go.Proofs.YtknlhejhnopnaaaGreatDoor

/- Package table: join of places. -/
namespace Go.Proofs.YtknlhejhnopnaaaGreatDoor
open Go.RowKit Go.Shelf

structure JI (w V : World) (pv : Value) : Prop where
  how : Boxed V w.heap.size 93 pv
  below : Below w.heap.size w V
theorem JI.step {w V V' : World} {pv : Value} (h : JI w V pv) (hb : Below V.heap.size V V') : JI w V' pv := ⟨(hb.block _ h.how.lt).trans h.how, h.below.trans (hb.mono h.below.size)⟩
theorem JI.drew {w V : World} {pv : Value} (h : JI w V pv) : JI w V.drew pv := ⟨h.how, h.below.drew⟩
theorem JI.of {w V : World} {pv : Value} (h : JI w V pv) : V.cell? ⟨w.heap.size, 0, none⟩ = some pv ∧ Hid (JI w V pv) := ⟨h.how.cell, h⟩

set_option maxRecDepth 100000 in
set_option maxHeartbeats 400000 in
theorem joinI_any (pf tf : Nat) (plb tlb : Array Value) (ep : ∀ args w, (callFunc pf args).run Tryz.prog w = .ok (.enter pf args) w) (et : ∀ args w, (callFunc tf args).run Tryz.prog w = .ok (.enter tf args) w) (n : Nat) (T L : Nat → Nat) (w : World) (h1 : 1 ≤ n) (hn : n ≤ 65536)
    (ht : ∀ k, k < n → ∀ V, Below w.heap.size w V → Calls Tryz.prog tf (#[.int .i64 (k : Nat)] ++ tlb) V fun e w' => e = .returned (.int .i64 (T k : Nat)) ∧ Below V.heap.size V w')
    (hp : ∀ k, k + 1 < n → ∀ V, Below w.heap.size w V → Calls Tryz.prog pf (#[.int .i64 (L k : Nat), .int .i64 (T (k + 1) : Nat)] ++ plb) V fun e w' => e = .returned (.int .i64 (L (k + 1) : Nat)) ∧ Below V.heap.size V w')
    (h0 : L 0 = T 0) :
    Calls Tryz.prog 82 #[.agg #[.func (.func pf) #[] plb], .int .i64 (n : Nat), .func (.func tf) #[] tlb] w fun e w' => e = .returned (.int .i64 (L (n - 1) : Nat)) ∧ Below w.heap.size w w' := by
  have HT := hid ht
  have HP := hid hp
  have H00 := hid h0
  clear ht hp h0
  go_enter Tryz.func82, Tryz.ntmps82
  go_wp2_with fail
  have hJ : JI w (w.alloc (.cells #[.func (.func pf) #[] plb] 93)) (.func (.func pf) #[] plb) := ⟨Boxed.new w _ _, (Below.refl _ w).alloc (Nat.le_refl _) _⟩
  generalize (w.alloc (.cells #[.func (.func pf) #[] plb] 93)) = W at hJ ⊢
  refine (HT.out 0 (by omega) _ hJ.below).mono ?_
  rintro e w1 ⟨rfl, hb1⟩
  have HJ0 := hid (hJ.step hb1)
  clear hJ hb1
  go_wp2_with fail
  go_loopw [7, 13] (fun lv iv wr => ∃ i : Nat, i + 1 ≤ n ∧ iv = .int .i64 i ∧ lv = .int .i64 (L i : Nat) ∧ Hid (JI w wr (.func (.func pf) #[] plb))) (fun _ iv _ => n - (intOf iv).toNat)
  case atStart => exact ⟨0, h1, rfl, by rw [H00.out], HJ0⟩
  case round =>
    obtain ⟨i, hi, rfl, rfl, HJ⟩ := hrel
    clear HJ0 H00
    by_cases hlt : i + 1 < n
    · have HTi := HT.out (i + 1) hlt
      have HPI := hid (HP.out i hlt)
      rw [Int.natCast_succ] at HTi
      have HTI := hid HTi
      clear HTi
      have J0d := HJ.out.drew
      have hwi : IntKind.i64.wrap ((i : Int) + 1) = (i : Int) + 1 := by rw [IntKind.wrap_i64]; omega
      go_upto_region 5 with fail
      go_region_held3 (fun V => V.cell? ⟨w.heap.size, 0, none⟩ = some (.func (.func pf) #[] plb) ∧ Hid (JI w V (.func (.func pf) #[] plb)))
        (first | exact J2.of | exact J1.of | exact J0d.of)
        (first
          | (have JJ := J1; refine (HPI.out _ JJ.below).mono ?_; rintro e w3 ⟨rfl, hb3⟩; have J2 := JJ.step hb3)
          | (refine (HTI.out _ J0d.below).mono ?_; rintro e w2 ⟨rfl, hb2⟩; have J1 := J0d.step hb2))
      go_wp2
      go_roundw
      case rel => exact ⟨i + 1, by omega, by rw [Int.natCast_succ], rfl, J2⟩
      case measure => simp [intOf]; omega
    · have HE : Hid (L (n - 1) = L i) := by show _ = _; rw [show n - 1 = i by omega]
      go_wp2
      go_ret
      exact ⟨by rw [HE.out]; rfl, HJ.out.below⟩
end Go.Proofs.YtknlhejhnopnaaaGreatDoor
