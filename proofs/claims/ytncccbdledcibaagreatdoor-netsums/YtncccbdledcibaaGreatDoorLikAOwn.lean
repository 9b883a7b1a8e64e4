/- Nets: the number that a net has for a variable's value: likely of package net, rowAt of the document's answer. -/
import Derived.Test.YtncccbdledcibaaGreatDoorNetEOwn
import Derived.Test.YtncccbdledcibaaGreatDoorStandBToProdA
namespace Go.Proofs.YtncccbdledcibaaGreatDoor
open Go.RowKit Go.Shelf

/-- What a call holds: the net's box, and its result's. -/
def LK (w wr : World) (x y z : Value) : Prop := NK w wr x y z ∧ Box wr (w.heap.size + 1) false ⟨#[]⟩ ⟨#[]⟩
theorem LK.new (w : World) (x y z : Value) : LK w ((w.alloc (NC x y z)).alloc (FC false ⟨#[]⟩ ⟨#[]⟩)) x y z := ⟨(NK.new w x y z).step ((Below.refl _ _).alloc (Nat.le_refl _) _), Box.at (by simp) _ _ _⟩
theorem LK.drewN {w wr : World} {x y z : Value} (h : LK w wr x y z) (k : Nat) : LK w (wr.drewN k) x y z := ⟨⟨h.1.1, below_drewN h.1.2 k⟩, h.2⟩
theorem cnt_le_all {S : List Nat} (h : ∀ v, sz S v ≤ 4) {vs : List Nat} (hl : vs.length ≤ 8) : cnt S vs ≤ 65536 := cnt_small h hl
theorem pos_take_le {S : List Nat} (hp : ∀ v, sz S v ≤ 4) (f : Nat → Nat) (hf : ∀ u, f u < sz S u) {P : List Nat} (hl : P.length ≤ 8) (i : Nat) : pos S f (P.take i) ≤ 65536 := by
  have h1 := pos_lt f hf (P.take i)
  have h2 := cnt_small hp (vs := P.take i) (by rw [List.length_take]; omega)
  omega
/-- Where the number stands. -/
def likT (S : List Nat) (P : List Nat) (f : Nat → Nat) (v : Nat) : Nat := pos S f P * sz S v + f v
theorem likT_lt {S P : List Nat} {f : Nat → Nat} (hf : ∀ u, f u < sz S u) (v : Nat) : likT S P f v < cnt S P * sz S v := by
  have h1 := pos_lt f hf P
  have h2 := hf v
  rw [likT]
  calc pos S f P * sz S v + f v < pos S f P * sz S v + sz S v := by omega
    _ = (pos S f P + 1) * sz S v := by rw [Nat.add_mul, Nat.one_mul]
    _ ≤ cnt S P * sz S v := Nat.mul_le_mul_right _ h1

set_option maxRecDepth 100000 in
set_option maxHeartbeats 2000000 in
theorem likely_any (a b c d : Option Addr) (ca cb cc cd v : Nat) (V : List Vr) (L : List (List Int)) (R : List (List Fr)) (A : List Nat) (w : World) (h : NetI w a b c V L R) (hA : IntS w d (iL A)) (hAl : A.length = V.length) (hV8 : V.length ≤ 8) (hv : v < V.length) (hvL : v < L.length) (hvR : v < R.length) (hS : Fine (iL (sizesN V))) (hU : Up L[v] V.length) (hlen : R[v].length = cnt (sizesN V) (toN L[v]) * sz (sizesN V) v) (f : Nat → Nat) (hf : ∀ u, f u < sz (sizesN V) u) (hfA : ∀ u, u < V.length → A[u]? = some (f u)) :
    Calls Tryz.prog 29 #[.agg #[.slice a V.length ca, .slice b L.length cb, .slice c R.length cc], .int .i64 (v : Nat), .slice d A.length cd] w fun e w' => e = .returned (frV (celF R[v] (likT (sizesN V) (toN L[v]) f v))) ∧ Below w.heap.size w w' := by
  have hT := likT_lt (S := sizesN V) (P := toN L[v]) hf v
  rw [← hlen] at hT
  rw [celF_eq hT]
  have hs4 : ∀ u, sz (sizesN V) u ≤ 4 := fun u => by have := hS.sz_le u; rwa [toN_iL] at this
  have hpl : (toN L[v]).length ≤ 8 := by rw [toN_length]; have := hU.length; omega
  have hpl8 : L[v].length ≤ 8 := by have := hU.length; omega
  have HPL := hid (fun i => pos_take_le hs4 f hf hpl i)
  have HPS := hid (fun i (hi : i < (toN L[v]).length) => pos_take (sizesN V) f hi)
  have HPA : Hid (pos (sizesN V) f ((toN L[v]).take L[v].length) = pos (sizesN V) f (toN L[v])) := by
    show _ = _
    rw [List.take_of_length_le (by rw [toN_length]; omega)]
  have HF4 : Hid (∀ u, f u < 4) := fun u => Nat.lt_of_lt_of_le (hf u) (hs4 u)
  have HZ4 := hid hs4
  have HUP := hid hU
  have HSG := hid (fun u (hu : u < V.length) => sizesN_get hu)
  have HSZ : Hid (∀ u (hu : u < V.length), sz (sizesN V) u = V[u].2.length) := fun u hu => by rw [sz, sizesN_get hu]; rfl
  have HFA := hid hfA
  have HI := hid h
  have HA := hid hA
  have hTe : likT (sizesN V) (toN L[v]) f v = pos (sizesN V) f (toN L[v]) * sz (sizesN V) v + f v := rfl
  obtain ⟨gp, op_, bp, cp, rfl, hgp, p1, hpi⟩ := h.pars v hvL
  obtain ⟨gr, or_, br, cr, rfl, hgr, r1, hrf, hrc⟩ := h.rows v hvR
  obtain ⟨gf, of_, rfl, hgf, m0, m1, m2⟩ := hrf _ hT
  obtain ⟨gv, ov, bv, cv, rfl, hgv, -, n1, -, -⟩ := h.vars v hv
  obtain ⟨ga, oa, rfl, hga, a1⟩ := hA v (by rw [iL_length]; omega)
  have ea : (iL A)[v]'(by rw [iL_length]; omega) = ((f v : Nat) : Int) := by
    obtain ⟨h1, h2⟩ := List.getElem?_eq_some_iff.1 (hfA v hv)
    simp only [iL, List.getElem_map, h2]
  rw [ea] at a1
  rw [← HSZ.out v hv] at n1
  have HPI := hid hpi
  have HM := hid (show _ ∧ _ ∧ _ ∧ _ ∧ _ ∧ _ ∧ _ from ⟨p1, r1, n1, a1, m0, m1, m2⟩)
  have hf4 := HF4.out v
  have hz4 := HZ4.out v
  have hpa := HPL.out (toN L[v]).length
  rw [List.take_length] at hpa
  have hrl : R[v].length ≤ 262144 := by
    rw [hlen]
    have h1 := cnt_small hs4 hpl
    exact Nat.le_trans (Nat.mul_le_mul h1 hz4) (by decide)
  have HRC := hid hrc
  generalize hTT : likT (sizesN V) (toN L[v]) f v = T at *
  generalize hfr : R[v][T] = fr at *
  obtain ⟨fn, fx, fy⟩ := fr
  simp only at HM
  clear h hA hfA hpi hrf p1 r1 n1 a1 m0 m1 m2 hlen hf hs4 hS hU ea hTT hfr hrc
  generalize R[v] = rl at *
  generalize L[v] = pl at *
  have HK0 := hid (LK.new w (.slice (some ⟨gv, ov, none⟩) V.length ca) (.slice (some ⟨gp, op_, none⟩) L.length cb) (.slice (some ⟨gr, or_, none⟩) R.length cc))
  obtain ⟨c0, c1, c2⟩ := HK0.out.1.1.cells
  have p1 := (HK0.out.1.2.cell (p := ⟨gp, op_ + v, none⟩) hgp).trans HM.out.1
  go_enter Tryz.func29, Tryz.ntmps29
  go_wp2_with fail
  generalize ((w.alloc (NC (.slice (some ⟨gv, ov, none⟩) V.length ca) (.slice (some ⟨gp, op_, none⟩) L.length cb) (.slice (some ⟨gr, or_, none⟩) R.length cc))).alloc (FC false ⟨#[]⟩ ⟨#[]⟩)) = w1 at *
  clear c0 c1 c2 p1
  go_loopw [7, 16] (fun kv iv wr => ∃ i : Nat, i ≤ pl.length ∧ iv = .int .i64 i ∧ kv = .int .i64 (pos (sizesN V) f ((toN pl).take i) : Nat) ∧ Hid (LK w wr (.slice (some ⟨gv, ov, none⟩) V.length ca) (.slice (some ⟨gp, op_, none⟩) L.length cb) (.slice (some ⟨gr, or_, none⟩) R.length cc))) (fun _ iv _ => pl.length - (intOf iv).toNat)
  case atStart => exact ⟨0, Nat.zero_le _, rfl, rfl, HK0⟩
  case round =>
    obtain ⟨i, hi, rfl, rfl, HK⟩ := hrel
    clear HK0
    obtain ⟨c0, c1, c2⟩ := HK.out.1.1.cells
    have p1 := (HK.out.1.2.cell (p := ⟨gp, op_ + v, none⟩) hgp).trans HM.out.1
    by_cases hlt : i < pl.length
    · obtain ⟨gl, ol, rfl, hgl, l1⟩ := (HPI.out.below HK.out.1.2) i hlt
      obtain ⟨hvi, hvn⟩ := HUP.out.nat hlt
      have hil : i < (toN pl).length := by rw [toN_length]; exact hlt
      have hps := HPS.out i hil
      rw [toN_get hlt] at hps
      have hp0 := HPL.out i
      rw [← hvi] at l1
      generalize pl[i].toNat = u at *
      obtain ⟨gv', ov', bu, cu, ev, hgv2, -, n2, -, -⟩ := (HI.out.below HK.out.1.2).vars u hvn
      cases ev
      rw [← HSZ.out u hvn] at n2
      obtain ⟨ga', oa', ea', hga2, a2⟩ := (HA.out.below HK.out.1.2) u (by rw [iL_length]; omega)
      cases ea'
      have eu : (iL A)[u]'(by rw [iL_length]; omega) = ((f u : Nat) : Int) := by
        obtain ⟨h1, h2⟩ := List.getElem?_eq_some_iff.1 (HFA.out u hvn)
        simp only [iL, List.getElem_map, h2]
      rw [eu] at a2
      have hfu := HF4.out u
      have hzu := HZ4.out u
      have HPX : Hid (pos (sizesN V) f ((toN pl).take (i + 1)) = pos (sizesN V) f ((toN pl).take i) * sz (sizesN V) u + f u) := hps
      clear hps eu hil hvi
      generalize hP1 : pos (sizesN V) f ((toN pl).take (i + 1)) = P1 at *
      generalize pos (sizesN V) f ((toN pl).take i) = P0 at *
      generalize sz (sizesN V) u = su at *
      generalize f u = fu at *
      have h1 : P0 * su ≤ 65536 * 4 := Nat.mul_le_mul hp0 hzu
      have hm1 : IntKind.i64.wrap ((P0 : Int) * (su : Int)) = ((P0 * su : Nat) : Int) := by
        rw [IntKind.wrap_i64, ← Int.natCast_mul]
        omega
      have hm2 : IntKind.i64.wrap (((P0 * su : Nat) : Int) + (fu : Int)) = (P1 : Int) := by
        rw [IntKind.wrap_i64]
        have := HPX.out
        omega
      generalize P0 * su = Q0 at *
      have HP1 := hid hP1
      clear hP1 h1 HPX
      go_upto_region 5 with fail
      go_quiet (fail)
      have HKn := hid (HK.out.drewN nq)
      generalize wr.drewN nq = w2 at *
      go_wp2
      go_roundw
      case rel => exact ⟨i + 1, by omega, by go_num, by rw [HP1.out], HKn⟩
      case measure => simp [intOf]; omega
    · obtain rfl : i = pl.length := by omega
      rw [HPA.out]
      have r1 := (HK.out.1.2.cell (p := ⟨gr, or_ + v, none⟩) hgr).trans HM.out.2.1
      have n1 := (HK.out.1.2.cell (p := ⟨gv, ov + v * 2 + 1, none⟩) hgv).trans HM.out.2.2.1
      have a1 := (HK.out.1.2.cell (p := ⟨ga, oa + v, none⟩) hga).trans HM.out.2.2.2.1
      have m0 := (HK.out.1.2.cell (p := ⟨gf, of_ + T * 3, none⟩) hgf).trans HM.out.2.2.2.2.1
      have m1 := (HK.out.1.2.cell (p := ⟨gf, of_ + T * 3 + 1, none⟩) hgf).trans HM.out.2.2.2.2.2.1
      have m2 := (HK.out.1.2.cell (p := ⟨gf, of_ + T * 3 + 2, none⟩) hgf).trans HM.out.2.2.2.2.2.2
      have h1 : pos (sizesN V) f (toN pl) * sz (sizesN V) v ≤ 65536 * 4 := Nat.mul_le_mul hpa hz4
      generalize pos (sizesN V) f (toN pl) = p at *
      generalize sz (sizesN V) v = k at *
      generalize f v = x at *
      have hm1 : IntKind.i64.wrap ((p : Int) * (k : Int)) = ((p * k : Nat) : Int) := by
        rw [IntKind.wrap_i64, ← Int.natCast_mul]
        omega
      have hm2 : IntKind.i64.wrap (((p * k : Nat) : Int) + (x : Int)) = (T : Int) := by
        rw [IntKind.wrap_i64]
        omega
      generalize p * k = pk at *
      clear hTe h1
      go_upto_region 7 with fail
      have hKd := HK.out
      refine wp_region_held_drew (S := fun u => u.cell? ⟨w.heap.size, 2, none⟩ = some (.slice (some ⟨gr, or_, none⟩) R.length cc) ∧ u.cell? ⟨gr, or_ + v, none⟩ = some (.slice (some ⟨gf, of_, none⟩) rl.length cr) ∧ u.cell? ⟨w.heap.size, 0, none⟩ = some (.slice (some ⟨gv, ov, none⟩) V.length ca) ∧ u.cell? ⟨gv, ov + v * 2 + 1, none⟩ = some (.slice bv k cv) ∧ u.cell? ⟨ga, oa + v, none⟩ = some (.int .i64 (x : Nat)) ∧ u.cell? ⟨gf, of_ + T * 3, none⟩ = some (.bool fn) ∧ u.cell? ⟨gf, of_ + T * 3 + 1, none⟩ = some (.string fx) ∧ u.cell? ⟨gf, of_ + T * 3 + 2, none⟩ = some (.string fy)) (by kernel_rfl) ⟨c2, r1, c0, n1, a1, m0, m1, m2⟩ (fun hSd => ?_)
      have hKd : LK w wr.drew (.slice (some ⟨gv, ov, none⟩) V.length ca) (.slice (some ⟨gp, op_, none⟩) L.length cb) (.slice (some ⟨gr, or_, none⟩) R.length cc) := ⟨⟨HK.out.1.1, HK.out.1.2.drew⟩, HK.out.2⟩
      clear c0 c1 c2 p1 r1 n1 a1 m0 m1 m2
      generalize wr.drew = u0 at *
      (try simp only [List.getElem_toArray, List.getElem_cons_zero, List.getElem_cons_succ])
      (try simp only [Act.put, List.setIfInBounds_toArray, List.set_cons_zero, List.set_cons_succ])
      refine wpAnyH_take (i := 0) (oi := _) (v := .pointer (some ⟨w.heap.size, 2, none⟩)) rfl (by kernel_rfl) (by kernel_rfl) (by kernel_rfl) (fun _ _ _ h => h) (Or.inl ⟨by rfl, ?_⟩) (by assumption) ?_
      · intro u' hSu
        (try simp only [List.getElem_toArray, List.getElem_cons_zero])
        go_simp
      (try simp only [List.getElem_toArray, List.getElem_cons_zero])
      (try simp only [Act.put, List.setIfInBounds_toArray, List.set_cons_zero, List.set_cons_succ])
      refine wpAnyH_take (i := 1) (oi := _) (v := .slice (some ⟨gr, or_, none⟩) R.length cc) rfl (by kernel_rfl) (by kernel_rfl) (by kernel_rfl) (fun _ _ _ h => h) (Or.inl ⟨by rfl, ?_⟩) (by assumption) ?_
      · intro u' hSu
        (try simp only [List.getElem_toArray, List.getElem_cons_zero, List.getElem_cons_succ])
        obtain ⟨s0, s1, s2, s3, s4, s5, s6, s7⟩ := hSu
        go_simp
      (try simp only [List.getElem_toArray, List.getElem_cons_zero, List.getElem_cons_succ])
      (try simp only [Act.put, List.setIfInBounds_toArray, List.set_cons_zero, List.set_cons_succ])
      refine wpAnyH_take (i := 2) (oi := _) (v := .int .i64 (v : Nat)) rfl (by kernel_rfl) (by kernel_rfl) (by kernel_rfl) (fun _ _ _ h => h) (Or.inl ⟨by rfl, ?_⟩) (by assumption) ?_
      · intro u' hSu
        (try simp only [List.getElem_toArray, List.getElem_cons_zero, List.getElem_cons_succ])
        go_simp
      (try simp only [List.getElem_toArray, List.getElem_cons_zero, List.getElem_cons_succ])
      (try simp only [Act.put, List.setIfInBounds_toArray, List.set_cons_zero, List.set_cons_succ])
      refine wpAnyH_take (i := 3) (oi := _) (v := .pointer (some ⟨gr, or_ + v, none⟩)) rfl (by kernel_rfl) (by kernel_rfl) (by kernel_rfl) (fun _ _ _ h => h) (Or.inl ⟨by rfl, ?_⟩) (by assumption) ?_
      · intro u' hSu
        (try simp only [List.getElem_toArray, List.getElem_cons_zero, List.getElem_cons_succ])
        go_simp
      (try simp only [List.getElem_toArray, List.getElem_cons_zero, List.getElem_cons_succ])
      (try simp only [Act.put, List.setIfInBounds_toArray, List.set_cons_zero, List.set_cons_succ])
      refine wpAnyH_take (i := 4) (oi := _) (v := .slice (some ⟨gf, of_, none⟩) rl.length cr) rfl (by kernel_rfl) (by kernel_rfl) (by kernel_rfl) (fun _ _ _ h => h) (Or.inl ⟨by rfl, ?_⟩) (by assumption) ?_
      · intro u' hSu
        (try simp only [List.getElem_toArray, List.getElem_cons_zero, List.getElem_cons_succ])
        obtain ⟨s0, s1, s2, s3, s4, s5, s6, s7⟩ := hSu
        go_simp
      (try simp only [List.getElem_toArray, List.getElem_cons_zero, List.getElem_cons_succ])
      (try simp only [Act.put, List.setIfInBounds_toArray, List.set_cons_zero, List.set_cons_succ])
      refine wpAnyH_take (i := 5) (oi := _) (v := .int .i64 (p : Nat)) rfl (by kernel_rfl) (by kernel_rfl) (by kernel_rfl) (fun _ _ _ h => h) (Or.inl ⟨by rfl, ?_⟩) (by assumption) ?_
      · intro u' hSu
        (try simp only [List.getElem_toArray, List.getElem_cons_zero, List.getElem_cons_succ])
        go_simp
      (try simp only [List.getElem_toArray, List.getElem_cons_zero, List.getElem_cons_succ])
      (try simp only [Act.put, List.setIfInBounds_toArray, List.set_cons_zero, List.set_cons_succ])
      refine wpAnyH_take (i := 6) (oi := _) (v := .pointer (some ⟨w.heap.size, 0, none⟩)) rfl (by kernel_rfl) (by kernel_rfl) (by kernel_rfl) (fun _ _ _ h => h) (Or.inl ⟨by rfl, ?_⟩) (by assumption) ?_
      · intro u' hSu
        (try simp only [List.getElem_toArray, List.getElem_cons_zero, List.getElem_cons_succ])
        go_simp
      (try simp only [List.getElem_toArray, List.getElem_cons_zero, List.getElem_cons_succ])
      (try simp only [Act.put, List.setIfInBounds_toArray, List.set_cons_zero, List.set_cons_succ])
      refine wpAnyH_take (i := 7) (oi := _) (v := .slice (some ⟨gv, ov, none⟩) V.length ca) rfl (by kernel_rfl) (by kernel_rfl) (by kernel_rfl) (fun _ _ _ h => h) (Or.inl ⟨by rfl, ?_⟩) (by assumption) ?_
      · intro u' hSu
        (try simp only [List.getElem_toArray, List.getElem_cons_zero, List.getElem_cons_succ])
        obtain ⟨s0, s1, s2, s3, s4, s5, s6, s7⟩ := hSu
        go_simp
      (try simp only [List.getElem_toArray, List.getElem_cons_zero, List.getElem_cons_succ])
      (try simp only [Act.put, List.setIfInBounds_toArray, List.set_cons_zero, List.set_cons_succ])
      refine wpAnyH_take (i := 8) (oi := _) (v := .int .i64 (v : Nat)) rfl (by kernel_rfl) (by kernel_rfl) (by kernel_rfl) (fun _ _ _ h => h) (Or.inl ⟨by rfl, ?_⟩) (by assumption) ?_
      · intro u' hSu
        (try simp only [List.getElem_toArray, List.getElem_cons_zero, List.getElem_cons_succ])
        go_simp
      (try simp only [List.getElem_toArray, List.getElem_cons_zero, List.getElem_cons_succ])
      (try simp only [Act.put, List.setIfInBounds_toArray, List.set_cons_zero, List.set_cons_succ])
      refine wpAnyH_take (i := 9) (oi := _) (v := .pointer (some ⟨gv, ov + v * 2, none⟩)) rfl (by kernel_rfl) (by kernel_rfl) (by kernel_rfl) (fun _ _ _ h => h) (Or.inl ⟨by rfl, ?_⟩) (by assumption) ?_
      · intro u' hSu
        (try simp only [List.getElem_toArray, List.getElem_cons_zero, List.getElem_cons_succ])
        go_simp
      (try simp only [List.getElem_toArray, List.getElem_cons_zero, List.getElem_cons_succ])
      (try simp only [Act.put, List.setIfInBounds_toArray, List.set_cons_zero, List.set_cons_succ])
      refine wpAnyH_take (i := 10) (oi := _) (v := .pointer (some ⟨gv, ov + v * 2 + 1, none⟩)) rfl (by kernel_rfl) (by kernel_rfl) (by kernel_rfl) (fun _ _ _ h => h) (Or.inl ⟨by rfl, ?_⟩) (by assumption) ?_
      · intro u' hSu
        (try simp only [List.getElem_toArray, List.getElem_cons_zero, List.getElem_cons_succ])
        go_simp
      (try simp only [List.getElem_toArray, List.getElem_cons_zero, List.getElem_cons_succ])
      (try simp only [Act.put, List.setIfInBounds_toArray, List.set_cons_zero, List.set_cons_succ])
      refine wpAnyH_take (i := 11) (oi := _) (v := .slice bv k cv) rfl (by kernel_rfl) (by kernel_rfl) (by kernel_rfl) (fun _ _ _ h => h) (Or.inl ⟨by rfl, ?_⟩) (by assumption) ?_
      · intro u' hSu
        (try simp only [List.getElem_toArray, List.getElem_cons_zero, List.getElem_cons_succ])
        obtain ⟨s0, s1, s2, s3, s4, s5, s6, s7⟩ := hSu
        go_simp
      (try simp only [List.getElem_toArray, List.getElem_cons_zero, List.getElem_cons_succ])
      (try simp only [Act.put, List.setIfInBounds_toArray, List.set_cons_zero, List.set_cons_succ])
      refine wpAnyH_take (i := 12) (oi := _) (v := .int .i64 (k : Nat)) rfl (by kernel_rfl) (by kernel_rfl) (by kernel_rfl) (fun _ _ _ h => h) (Or.inl ⟨by rfl, ?_⟩) (by assumption) ?_
      · intro u' hSu
        (try simp only [List.getElem_toArray, List.getElem_cons_zero, List.getElem_cons_succ])
        go_simp
      (try simp only [List.getElem_toArray, List.getElem_cons_zero, List.getElem_cons_succ])
      (try simp only [Act.put, List.setIfInBounds_toArray, List.set_cons_zero, List.set_cons_succ])
      refine wpAnyH_take (i := 13) (oi := _) (v := .int .i64 (pk : Nat)) rfl (by kernel_rfl) (by kernel_rfl) (by kernel_rfl) (fun _ _ _ h => h) (Or.inl ⟨by rfl, ?_⟩) (by assumption) ?_
      · intro u' hSu
        (try simp only [List.getElem_toArray, List.getElem_cons_zero, List.getElem_cons_succ])
        go_simp
      (try simp only [List.getElem_toArray, List.getElem_cons_zero, List.getElem_cons_succ])
      (try simp only [Act.put, List.setIfInBounds_toArray, List.set_cons_zero, List.set_cons_succ])
      refine wpAnyH_take (i := 14) (oi := _) (v := .slice (some ⟨ga, oa, none⟩) A.length cd) rfl (by kernel_rfl) (by kernel_rfl) (by kernel_rfl) (fun _ _ _ h => h) (Or.inl ⟨by rfl, ?_⟩) (by assumption) ?_
      · intro u' hSu
        (try simp only [List.getElem_toArray, List.getElem_cons_zero, List.getElem_cons_succ])
        go_simp
      (try simp only [List.getElem_toArray, List.getElem_cons_zero, List.getElem_cons_succ])
      (try simp only [Act.put, List.setIfInBounds_toArray, List.set_cons_zero, List.set_cons_succ])
      refine wpAnyH_take (i := 15) (oi := _) (v := .int .i64 (v : Nat)) rfl (by kernel_rfl) (by kernel_rfl) (by kernel_rfl) (fun _ _ _ h => h) (Or.inl ⟨by rfl, ?_⟩) (by assumption) ?_
      · intro u' hSu
        (try simp only [List.getElem_toArray, List.getElem_cons_zero, List.getElem_cons_succ])
        go_simp
      (try simp only [List.getElem_toArray, List.getElem_cons_zero, List.getElem_cons_succ])
      (try simp only [Act.put, List.setIfInBounds_toArray, List.set_cons_zero, List.set_cons_succ])
      refine wpAnyH_take (i := 16) (oi := _) (v := .pointer (some ⟨ga, oa + v, none⟩)) rfl (by kernel_rfl) (by kernel_rfl) (by kernel_rfl) (fun _ _ _ h => h) (Or.inl ⟨by rfl, ?_⟩) (by assumption) ?_
      · intro u' hSu
        (try simp only [List.getElem_toArray, List.getElem_cons_zero, List.getElem_cons_succ])
        go_simp
      (try simp only [List.getElem_toArray, List.getElem_cons_zero, List.getElem_cons_succ])
      (try simp only [Act.put, List.setIfInBounds_toArray, List.set_cons_zero, List.set_cons_succ])
      refine wpAnyH_take (i := 17) (oi := _) (v := .int .i64 (x : Nat)) rfl (by kernel_rfl) (by kernel_rfl) (by kernel_rfl) (fun _ _ _ h => h) (Or.inl ⟨by rfl, ?_⟩) (by assumption) ?_
      · intro u' hSu
        (try simp only [List.getElem_toArray, List.getElem_cons_zero, List.getElem_cons_succ])
        obtain ⟨s0, s1, s2, s3, s4, s5, s6, s7⟩ := hSu
        go_simp
      (try simp only [List.getElem_toArray, List.getElem_cons_zero, List.getElem_cons_succ])
      (try simp only [Act.put, List.setIfInBounds_toArray, List.set_cons_zero, List.set_cons_succ])
      refine wpAnyH_take (i := 18) (oi := _) (v := .int .i64 (T : Nat)) rfl (by kernel_rfl) (by kernel_rfl) (by kernel_rfl) (fun _ _ _ h => h) (Or.inl ⟨by rfl, ?_⟩) (by assumption) ?_
      · intro u' hSu
        (try simp only [List.getElem_toArray, List.getElem_cons_zero, List.getElem_cons_succ])
        go_simp
      (try simp only [List.getElem_toArray, List.getElem_cons_zero, List.getElem_cons_succ])
      (try simp only [Act.put, List.setIfInBounds_toArray, List.set_cons_zero, List.set_cons_succ])
      refine wpAnyH_take (i := 19) (oi := _) (v := .pointer (some ⟨gf, of_ + T * 3, none⟩)) rfl (by kernel_rfl) (by kernel_rfl) (by kernel_rfl) (fun _ _ _ h => h) (Or.inl ⟨by rfl, ?_⟩) (by assumption) ?_
      · intro u' hSu
        (try simp only [List.getElem_toArray, List.getElem_cons_zero, List.getElem_cons_succ])
        go_simp
      (try simp only [List.getElem_toArray, List.getElem_cons_zero, List.getElem_cons_succ])
      (try simp only [Act.put, List.setIfInBounds_toArray, List.set_cons_zero, List.set_cons_succ])
      refine wpAnyH_take (i := 20) (oi := _) (v := .agg #[.bool fn, .string fx, .string fy]) rfl (by kernel_rfl) (by kernel_rfl) (by kernel_rfl) (fun _ _ _ h => h) (Or.inl ⟨by rfl, ?_⟩) (by assumption) ?_
      · intro u' hSu
        (try simp only [List.getElem_toArray, List.getElem_cons_zero, List.getElem_cons_succ])
        obtain ⟨s0, s1, s2, s3, s4, s5, s6, s7⟩ := hSu
        go_simp
      (try simp only [List.getElem_toArray, List.getElem_cons_zero, List.getElem_cons_succ])
      (try simp only [Act.put, List.setIfInBounds_toArray, List.set_cons_zero, List.set_cons_succ])
      obtain ⟨k0, k1, k2, f0, f1, f2⟩ := hKd.2.facts
      have hneB : w.heap.size ≠ w.heap.size + 1 := by omega
      have hneR : gr ≠ w.heap.size + 1 := by omega
      have hneV : gv ≠ w.heap.size + 1 := by omega
      have hneA : ga ≠ w.heap.size + 1 := by omega
      have hneF : gf ≠ w.heap.size + 1 := by omega
      refine wpAnyH_ready (rs := [21]) (by kernel_rfl) (by simp) (AllReadyH.cons rfl ?_ (AllReadyH.nil))
      · intro K' hK'
        (try simp only [List.getElem_toArray, List.getElem_cons_zero, List.getElem_cons_succ])
        go_simp
        have hfin := hKd.2.put fn fx fy
        have hbf := below_put hKd.1.2 (show w.heap.size ≤ w.heap.size + 1 by omega) (.bool fn) (.string fx) (.string fy)
        refine hK'.out _ _ ⟨((World.cell?_setCell_other _ _ _ _ (fun e => hneB (congrArg Addr.block e).symm)).trans ((World.cell?_setCell_other _ _ _ _ (fun e => hneB (congrArg Addr.block e).symm)).trans ((World.cell?_setCell_other _ _ _ _ (fun e => hneB (congrArg Addr.block e).symm)).trans hSd.1))), ((World.cell?_setCell_other _ _ _ _ (fun e => hneR (congrArg Addr.block e).symm)).trans ((World.cell?_setCell_other _ _ _ _ (fun e => hneR (congrArg Addr.block e).symm)).trans ((World.cell?_setCell_other _ _ _ _ (fun e => hneR (congrArg Addr.block e).symm)).trans hSd.2.1))), ((World.cell?_setCell_other _ _ _ _ (fun e => hneB (congrArg Addr.block e).symm)).trans ((World.cell?_setCell_other _ _ _ _ (fun e => hneB (congrArg Addr.block e).symm)).trans ((World.cell?_setCell_other _ _ _ _ (fun e => hneB (congrArg Addr.block e).symm)).trans hSd.2.2.1))), ((World.cell?_setCell_other _ _ _ _ (fun e => hneV (congrArg Addr.block e).symm)).trans ((World.cell?_setCell_other _ _ _ _ (fun e => hneV (congrArg Addr.block e).symm)).trans ((World.cell?_setCell_other _ _ _ _ (fun e => hneV (congrArg Addr.block e).symm)).trans hSd.2.2.2.1))), ((World.cell?_setCell_other _ _ _ _ (fun e => hneA (congrArg Addr.block e).symm)).trans ((World.cell?_setCell_other _ _ _ _ (fun e => hneA (congrArg Addr.block e).symm)).trans ((World.cell?_setCell_other _ _ _ _ (fun e => hneA (congrArg Addr.block e).symm)).trans hSd.2.2.2.2.1))), ((World.cell?_setCell_other _ _ _ _ (fun e => hneF (congrArg Addr.block e).symm)).trans ((World.cell?_setCell_other _ _ _ _ (fun e => hneF (congrArg Addr.block e).symm)).trans ((World.cell?_setCell_other _ _ _ _ (fun e => hneF (congrArg Addr.block e).symm)).trans hSd.2.2.2.2.2.1))), ((World.cell?_setCell_other _ _ _ _ (fun e => hneF (congrArg Addr.block e).symm)).trans ((World.cell?_setCell_other _ _ _ _ (fun e => hneF (congrArg Addr.block e).symm)).trans ((World.cell?_setCell_other _ _ _ _ (fun e => hneF (congrArg Addr.block e).symm)).trans hSd.2.2.2.2.2.2.1))), ((World.cell?_setCell_other _ _ _ _ (fun e => hneF (congrArg Addr.block e).symm)).trans ((World.cell?_setCell_other _ _ _ _ (fun e => hneF (congrArg Addr.block e).symm)).trans ((World.cell?_setCell_other _ _ _ _ (fun e => hneF (congrArg Addr.block e).symm)).trans hSd.2.2.2.2.2.2.2)))⟩ (fun hSe => ?_)
        clear hK' K' hSd hSe k0 k1 k2 f0 f1 f2
        generalize (((u0.setCell ⟨w.heap.size + 1, 0, none⟩ (.bool fn)).setCell ⟨w.heap.size + 1, 1, none⟩ (.string fx)).setCell ⟨w.heap.size + 1, 2, none⟩ (.string fy)) = u9 at *
        (try simp only [List.getElem_toArray, List.getElem_cons_zero, List.getElem_cons_succ])
        (try simp only [Act.put, List.setIfInBounds_toArray, List.set_cons_zero, List.set_cons_succ])
        refine wpAnyH_done (by kernel_rfl) ?_ _
        go_wp2
        refine bodyPost_ret (hfin.result rfl _ rfl) rfl ?_
        exact ⟨rfl, hbf⟩
set_option maxRecDepth 100000 in
set_option maxHeartbeats 2000000 in
theorem rRowAt_any (a b c d : Option Addr) (ca cb cc cd v : Nat) (V : List Vr) (L : List (List Int)) (R : List (List Fr)) (A : List Nat) (w : World) (h : NetI w a b c V L R) (hA : IntS w d (iL A)) (hAl : A.length = V.length) (hV8 : V.length ≤ 8) (hv : v < V.length) (hvL : v < L.length) (hvR : v < R.length) (hS : Fine (iL (sizesN V))) (hU : Up L[v] V.length) (hlen : R[v].length = cnt (sizesN V) (toN L[v]) * sz (sizesN V) v) (f : Nat → Nat) (hf : ∀ u, f u < sz (sizesN V) u) (hfA : ∀ u, u < V.length → A[u]? = some (f u)) :
    Calls Tryz.prog 32 #[.agg #[.slice a V.length ca, .slice b L.length cb, .slice c R.length cc], .int .i64 (v : Nat), .slice d A.length cd] w fun e w' => e = .returned (frV (celF R[v] (likT (sizesN V) (toN L[v]) f v))) ∧ Below w.heap.size w w' := by
  have hT := likT_lt (S := sizesN V) (P := toN L[v]) hf v
  rw [← hlen] at hT
  rw [celF_eq hT]
  have hs4 : ∀ u, sz (sizesN V) u ≤ 4 := fun u => by have := hS.sz_le u; rwa [toN_iL] at this
  have hpl : (toN L[v]).length ≤ 8 := by rw [toN_length]; have := hU.length; omega
  have hpl8 : L[v].length ≤ 8 := by have := hU.length; omega
  have HPL := hid (fun i => pos_take_le hs4 f hf hpl i)
  have HPS := hid (fun i (hi : i < (toN L[v]).length) => pos_take (sizesN V) f hi)
  have HPA : Hid (pos (sizesN V) f ((toN L[v]).take L[v].length) = pos (sizesN V) f (toN L[v])) := by
    show _ = _
    rw [List.take_of_length_le (by rw [toN_length]; omega)]
  have HF4 : Hid (∀ u, f u < 4) := fun u => Nat.lt_of_lt_of_le (hf u) (hs4 u)
  have HZ4 := hid hs4
  have HUP := hid hU
  have HSG := hid (fun u (hu : u < V.length) => sizesN_get hu)
  have HSZ : Hid (∀ u (hu : u < V.length), sz (sizesN V) u = V[u].2.length) := fun u hu => by rw [sz, sizesN_get hu]; rfl
  have HFA := hid hfA
  have HI := hid h
  have HA := hid hA
  have hTe : likT (sizesN V) (toN L[v]) f v = pos (sizesN V) f (toN L[v]) * sz (sizesN V) v + f v := rfl
  obtain ⟨gp, op_, bp, cp, rfl, hgp, p1, hpi⟩ := h.pars v hvL
  obtain ⟨gr, or_, br, cr, rfl, hgr, r1, hrf, hrc⟩ := h.rows v hvR
  obtain ⟨gf, of_, rfl, hgf, m0, m1, m2⟩ := hrf _ hT
  obtain ⟨gv, ov, bv, cv, rfl, hgv, -, n1, -, -⟩ := h.vars v hv
  obtain ⟨ga, oa, rfl, hga, a1⟩ := hA v (by rw [iL_length]; omega)
  have ea : (iL A)[v]'(by rw [iL_length]; omega) = ((f v : Nat) : Int) := by
    obtain ⟨h1, h2⟩ := List.getElem?_eq_some_iff.1 (hfA v hv)
    simp only [iL, List.getElem_map, h2]
  rw [ea] at a1
  rw [← HSZ.out v hv] at n1
  have HPI := hid hpi
  have HM := hid (show _ ∧ _ ∧ _ ∧ _ ∧ _ ∧ _ ∧ _ from ⟨p1, r1, n1, a1, m0, m1, m2⟩)
  have hf4 := HF4.out v
  have hz4 := HZ4.out v
  have hpa := HPL.out (toN L[v]).length
  rw [List.take_length] at hpa
  have hrl : R[v].length ≤ 262144 := by
    rw [hlen]
    have h1 := cnt_small hs4 hpl
    exact Nat.le_trans (Nat.mul_le_mul h1 hz4) (by decide)
  have HRC := hid hrc
  generalize hTT : likT (sizesN V) (toN L[v]) f v = T at *
  generalize hfr : R[v][T] = fr at *
  obtain ⟨fn, fx, fy⟩ := fr
  simp only at HM
  clear h hA hfA hpi hrf p1 r1 n1 a1 m0 m1 m2 hlen hf hs4 hS hU ea hTT hfr hrc
  generalize R[v] = rl at *
  generalize L[v] = pl at *
  have HK0 := hid (LK.new w (.slice (some ⟨gv, ov, none⟩) V.length ca) (.slice (some ⟨gp, op_, none⟩) L.length cb) (.slice (some ⟨gr, or_, none⟩) R.length cc))
  obtain ⟨c0, c1, c2⟩ := HK0.out.1.1.cells
  have p1 := (HK0.out.1.2.cell (p := ⟨gp, op_ + v, none⟩) hgp).trans HM.out.1
  go_enter Tryz.func32, Tryz.ntmps32
  go_wp2_with fail
  generalize ((w.alloc (NC (.slice (some ⟨gv, ov, none⟩) V.length ca) (.slice (some ⟨gp, op_, none⟩) L.length cb) (.slice (some ⟨gr, or_, none⟩) R.length cc))).alloc (FC false ⟨#[]⟩ ⟨#[]⟩)) = w1 at *
  clear c0 c1 c2 p1
  go_loopw [7, 8] (fun kv iv wr => ∃ i : Nat, i ≤ pl.length ∧ iv = .int .i64 i ∧ kv = .int .i64 (pos (sizesN V) f ((toN pl).take i) : Nat) ∧ Hid (LK w wr (.slice (some ⟨gv, ov, none⟩) V.length ca) (.slice (some ⟨gp, op_, none⟩) L.length cb) (.slice (some ⟨gr, or_, none⟩) R.length cc))) (fun _ iv _ => pl.length - (intOf iv).toNat)
  case atStart => exact ⟨0, Nat.zero_le _, rfl, rfl, HK0⟩
  case round =>
    obtain ⟨i, hi, rfl, rfl, HK⟩ := hrel
    clear HK0
    obtain ⟨c0, c1, c2⟩ := HK.out.1.1.cells
    have p1 := (HK.out.1.2.cell (p := ⟨gp, op_ + v, none⟩) hgp).trans HM.out.1
    by_cases hlt : i < pl.length
    · obtain ⟨gl, ol, rfl, hgl, l1⟩ := (HPI.out.below HK.out.1.2) i hlt
      obtain ⟨hvi, hvn⟩ := HUP.out.nat hlt
      have hil : i < (toN pl).length := by rw [toN_length]; exact hlt
      have hps := HPS.out i hil
      rw [toN_get hlt] at hps
      have hp0 := HPL.out i
      rw [← hvi] at l1
      generalize pl[i].toNat = u at *
      obtain ⟨gv', ov', bu, cu, ev, hgv2, -, n2, -, -⟩ := (HI.out.below HK.out.1.2).vars u hvn
      cases ev
      rw [← HSZ.out u hvn] at n2
      obtain ⟨ga', oa', ea', hga2, a2⟩ := (HA.out.below HK.out.1.2) u (by rw [iL_length]; omega)
      cases ea'
      have eu : (iL A)[u]'(by rw [iL_length]; omega) = ((f u : Nat) : Int) := by
        obtain ⟨h1, h2⟩ := List.getElem?_eq_some_iff.1 (HFA.out u hvn)
        simp only [iL, List.getElem_map, h2]
      rw [eu] at a2
      have hfu := HF4.out u
      have hzu := HZ4.out u
      have HPX : Hid (pos (sizesN V) f ((toN pl).take (i + 1)) = pos (sizesN V) f ((toN pl).take i) * sz (sizesN V) u + f u) := hps
      clear hps eu hil hvi
      generalize hP1 : pos (sizesN V) f ((toN pl).take (i + 1)) = P1 at *
      generalize pos (sizesN V) f ((toN pl).take i) = P0 at *
      generalize sz (sizesN V) u = su at *
      generalize f u = fu at *
      have h1 : P0 * su ≤ 65536 * 4 := Nat.mul_le_mul hp0 hzu
      have hm1 : IntKind.i64.wrap ((P0 : Int) * (su : Int)) = ((P0 * su : Nat) : Int) := by
        rw [IntKind.wrap_i64, ← Int.natCast_mul]
        omega
      have hm2 : IntKind.i64.wrap (((P0 * su : Nat) : Int) + (fu : Int)) = (P1 : Int) := by
        rw [IntKind.wrap_i64]
        have := HPX.out
        omega
      generalize P0 * su = Q0 at *
      have HP1 := hid hP1
      clear hP1 h1 HPX
      go_upto_region 6 with fail
      go_quiet (fail)
      have HKn := hid (HK.out.drewN nq)
      generalize wr.drewN nq = w2 at *
      go_wp2
      go_roundw
      case rel => exact ⟨i + 1, by omega, by go_num, by rw [HP1.out], HKn⟩
      case measure => simp [intOf]; omega
    · obtain rfl : i = pl.length := by omega
      rw [HPA.out]
      have r1 := (HK.out.1.2.cell (p := ⟨gr, or_ + v, none⟩) hgr).trans HM.out.2.1
      have n1 := (HK.out.1.2.cell (p := ⟨gv, ov + v * 2 + 1, none⟩) hgv).trans HM.out.2.2.1
      have a1 := (HK.out.1.2.cell (p := ⟨ga, oa + v, none⟩) hga).trans HM.out.2.2.2.1
      have m0 := (HK.out.1.2.cell (p := ⟨gf, of_ + T * 3, none⟩) hgf).trans HM.out.2.2.2.2.1
      have m1 := (HK.out.1.2.cell (p := ⟨gf, of_ + T * 3 + 1, none⟩) hgf).trans HM.out.2.2.2.2.2.1
      have m2 := (HK.out.1.2.cell (p := ⟨gf, of_ + T * 3 + 2, none⟩) hgf).trans HM.out.2.2.2.2.2.2
      have h1 : pos (sizesN V) f (toN pl) * sz (sizesN V) v ≤ 65536 * 4 := Nat.mul_le_mul hpa hz4
      generalize pos (sizesN V) f (toN pl) = p at *
      generalize sz (sizesN V) v = k at *
      generalize f v = x at *
      have hm1 : IntKind.i64.wrap ((p : Int) * (k : Int)) = ((p * k : Nat) : Int) := by
        rw [IntKind.wrap_i64, ← Int.natCast_mul]
        omega
      have hm2 : IntKind.i64.wrap (((p * k : Nat) : Int) + (x : Int)) = (T : Int) := by
        rw [IntKind.wrap_i64]
        omega
      generalize p * k = pk at *
      clear hTe h1
      go_upto_region 7 with fail
      have hKd := HK.out
      refine wp_region_held_drew (S := fun u => u.cell? ⟨w.heap.size, 2, none⟩ = some (.slice (some ⟨gr, or_, none⟩) R.length cc) ∧ u.cell? ⟨gr, or_ + v, none⟩ = some (.slice (some ⟨gf, of_, none⟩) rl.length cr) ∧ u.cell? ⟨w.heap.size, 0, none⟩ = some (.slice (some ⟨gv, ov, none⟩) V.length ca) ∧ u.cell? ⟨gv, ov + v * 2 + 1, none⟩ = some (.slice bv k cv) ∧ u.cell? ⟨ga, oa + v, none⟩ = some (.int .i64 (x : Nat)) ∧ u.cell? ⟨gf, of_ + T * 3, none⟩ = some (.bool fn) ∧ u.cell? ⟨gf, of_ + T * 3 + 1, none⟩ = some (.string fx) ∧ u.cell? ⟨gf, of_ + T * 3 + 2, none⟩ = some (.string fy)) (by kernel_rfl) ⟨c2, r1, c0, n1, a1, m0, m1, m2⟩ (fun hSd => ?_)
      have hKd : LK w wr.drew (.slice (some ⟨gv, ov, none⟩) V.length ca) (.slice (some ⟨gp, op_, none⟩) L.length cb) (.slice (some ⟨gr, or_, none⟩) R.length cc) := ⟨⟨HK.out.1.1, HK.out.1.2.drew⟩, HK.out.2⟩
      clear c0 c1 c2 p1 r1 n1 a1 m0 m1 m2
      generalize wr.drew = u0 at *
      (try simp only [List.getElem_toArray, List.getElem_cons_zero, List.getElem_cons_succ])
      (try simp only [Act.put, List.setIfInBounds_toArray, List.set_cons_zero, List.set_cons_succ])
      refine wpAnyH_take (i := 0) (oi := _) (v := .pointer (some ⟨w.heap.size, 2, none⟩)) rfl (by kernel_rfl) (by kernel_rfl) (by kernel_rfl) (fun _ _ _ h => h) (Or.inl ⟨by rfl, ?_⟩) (by assumption) ?_
      · intro u' hSu
        (try simp only [List.getElem_toArray, List.getElem_cons_zero])
        go_simp
      (try simp only [List.getElem_toArray, List.getElem_cons_zero])
      (try simp only [Act.put, List.setIfInBounds_toArray, List.set_cons_zero, List.set_cons_succ])
      refine wpAnyH_take (i := 1) (oi := _) (v := .slice (some ⟨gr, or_, none⟩) R.length cc) rfl (by kernel_rfl) (by kernel_rfl) (by kernel_rfl) (fun _ _ _ h => h) (Or.inl ⟨by rfl, ?_⟩) (by assumption) ?_
      · intro u' hSu
        (try simp only [List.getElem_toArray, List.getElem_cons_zero, List.getElem_cons_succ])
        obtain ⟨s0, s1, s2, s3, s4, s5, s6, s7⟩ := hSu
        go_simp
      (try simp only [List.getElem_toArray, List.getElem_cons_zero, List.getElem_cons_succ])
      (try simp only [Act.put, List.setIfInBounds_toArray, List.set_cons_zero, List.set_cons_succ])
      refine wpAnyH_take (i := 2) (oi := _) (v := .int .i64 (v : Nat)) rfl (by kernel_rfl) (by kernel_rfl) (by kernel_rfl) (fun _ _ _ h => h) (Or.inl ⟨by rfl, ?_⟩) (by assumption) ?_
      · intro u' hSu
        (try simp only [List.getElem_toArray, List.getElem_cons_zero, List.getElem_cons_succ])
        go_simp
      (try simp only [List.getElem_toArray, List.getElem_cons_zero, List.getElem_cons_succ])
      (try simp only [Act.put, List.setIfInBounds_toArray, List.set_cons_zero, List.set_cons_succ])
      refine wpAnyH_take (i := 3) (oi := _) (v := .pointer (some ⟨gr, or_ + v, none⟩)) rfl (by kernel_rfl) (by kernel_rfl) (by kernel_rfl) (fun _ _ _ h => h) (Or.inl ⟨by rfl, ?_⟩) (by assumption) ?_
      · intro u' hSu
        (try simp only [List.getElem_toArray, List.getElem_cons_zero, List.getElem_cons_succ])
        go_simp
      (try simp only [List.getElem_toArray, List.getElem_cons_zero, List.getElem_cons_succ])
      (try simp only [Act.put, List.setIfInBounds_toArray, List.set_cons_zero, List.set_cons_succ])
      refine wpAnyH_take (i := 4) (oi := _) (v := .slice (some ⟨gf, of_, none⟩) rl.length cr) rfl (by kernel_rfl) (by kernel_rfl) (by kernel_rfl) (fun _ _ _ h => h) (Or.inl ⟨by rfl, ?_⟩) (by assumption) ?_
      · intro u' hSu
        (try simp only [List.getElem_toArray, List.getElem_cons_zero, List.getElem_cons_succ])
        obtain ⟨s0, s1, s2, s3, s4, s5, s6, s7⟩ := hSu
        go_simp
      (try simp only [List.getElem_toArray, List.getElem_cons_zero, List.getElem_cons_succ])
      (try simp only [Act.put, List.setIfInBounds_toArray, List.set_cons_zero, List.set_cons_succ])
      refine wpAnyH_take (i := 5) (oi := _) (v := .int .i64 (p : Nat)) rfl (by kernel_rfl) (by kernel_rfl) (by kernel_rfl) (fun _ _ _ h => h) (Or.inl ⟨by rfl, ?_⟩) (by assumption) ?_
      · intro u' hSu
        (try simp only [List.getElem_toArray, List.getElem_cons_zero, List.getElem_cons_succ])
        go_simp
      (try simp only [List.getElem_toArray, List.getElem_cons_zero, List.getElem_cons_succ])
      (try simp only [Act.put, List.setIfInBounds_toArray, List.set_cons_zero, List.set_cons_succ])
      refine wpAnyH_take (i := 6) (oi := _) (v := .pointer (some ⟨w.heap.size, 0, none⟩)) rfl (by kernel_rfl) (by kernel_rfl) (by kernel_rfl) (fun _ _ _ h => h) (Or.inl ⟨by rfl, ?_⟩) (by assumption) ?_
      · intro u' hSu
        (try simp only [List.getElem_toArray, List.getElem_cons_zero, List.getElem_cons_succ])
        go_simp
      (try simp only [List.getElem_toArray, List.getElem_cons_zero, List.getElem_cons_succ])
      (try simp only [Act.put, List.setIfInBounds_toArray, List.set_cons_zero, List.set_cons_succ])
      refine wpAnyH_take (i := 7) (oi := _) (v := .slice (some ⟨gv, ov, none⟩) V.length ca) rfl (by kernel_rfl) (by kernel_rfl) (by kernel_rfl) (fun _ _ _ h => h) (Or.inl ⟨by rfl, ?_⟩) (by assumption) ?_
      · intro u' hSu
        (try simp only [List.getElem_toArray, List.getElem_cons_zero, List.getElem_cons_succ])
        obtain ⟨s0, s1, s2, s3, s4, s5, s6, s7⟩ := hSu
        go_simp
      (try simp only [List.getElem_toArray, List.getElem_cons_zero, List.getElem_cons_succ])
      (try simp only [Act.put, List.setIfInBounds_toArray, List.set_cons_zero, List.set_cons_succ])
      refine wpAnyH_take (i := 8) (oi := _) (v := .int .i64 (v : Nat)) rfl (by kernel_rfl) (by kernel_rfl) (by kernel_rfl) (fun _ _ _ h => h) (Or.inl ⟨by rfl, ?_⟩) (by assumption) ?_
      · intro u' hSu
        (try simp only [List.getElem_toArray, List.getElem_cons_zero, List.getElem_cons_succ])
        go_simp
      (try simp only [List.getElem_toArray, List.getElem_cons_zero, List.getElem_cons_succ])
      (try simp only [Act.put, List.setIfInBounds_toArray, List.set_cons_zero, List.set_cons_succ])
      refine wpAnyH_take (i := 9) (oi := _) (v := .pointer (some ⟨gv, ov + v * 2, none⟩)) rfl (by kernel_rfl) (by kernel_rfl) (by kernel_rfl) (fun _ _ _ h => h) (Or.inl ⟨by rfl, ?_⟩) (by assumption) ?_
      · intro u' hSu
        (try simp only [List.getElem_toArray, List.getElem_cons_zero, List.getElem_cons_succ])
        go_simp
      (try simp only [List.getElem_toArray, List.getElem_cons_zero, List.getElem_cons_succ])
      (try simp only [Act.put, List.setIfInBounds_toArray, List.set_cons_zero, List.set_cons_succ])
      refine wpAnyH_take (i := 10) (oi := _) (v := .pointer (some ⟨gv, ov + v * 2 + 1, none⟩)) rfl (by kernel_rfl) (by kernel_rfl) (by kernel_rfl) (fun _ _ _ h => h) (Or.inl ⟨by rfl, ?_⟩) (by assumption) ?_
      · intro u' hSu
        (try simp only [List.getElem_toArray, List.getElem_cons_zero, List.getElem_cons_succ])
        go_simp
      (try simp only [List.getElem_toArray, List.getElem_cons_zero, List.getElem_cons_succ])
      (try simp only [Act.put, List.setIfInBounds_toArray, List.set_cons_zero, List.set_cons_succ])
      refine wpAnyH_take (i := 11) (oi := _) (v := .slice bv k cv) rfl (by kernel_rfl) (by kernel_rfl) (by kernel_rfl) (fun _ _ _ h => h) (Or.inl ⟨by rfl, ?_⟩) (by assumption) ?_
      · intro u' hSu
        (try simp only [List.getElem_toArray, List.getElem_cons_zero, List.getElem_cons_succ])
        obtain ⟨s0, s1, s2, s3, s4, s5, s6, s7⟩ := hSu
        go_simp
      (try simp only [List.getElem_toArray, List.getElem_cons_zero, List.getElem_cons_succ])
      (try simp only [Act.put, List.setIfInBounds_toArray, List.set_cons_zero, List.set_cons_succ])
      refine wpAnyH_take (i := 12) (oi := _) (v := .int .i64 (k : Nat)) rfl (by kernel_rfl) (by kernel_rfl) (by kernel_rfl) (fun _ _ _ h => h) (Or.inl ⟨by rfl, ?_⟩) (by assumption) ?_
      · intro u' hSu
        (try simp only [List.getElem_toArray, List.getElem_cons_zero, List.getElem_cons_succ])
        go_simp
      (try simp only [List.getElem_toArray, List.getElem_cons_zero, List.getElem_cons_succ])
      (try simp only [Act.put, List.setIfInBounds_toArray, List.set_cons_zero, List.set_cons_succ])
      refine wpAnyH_take (i := 13) (oi := _) (v := .int .i64 (pk : Nat)) rfl (by kernel_rfl) (by kernel_rfl) (by kernel_rfl) (fun _ _ _ h => h) (Or.inl ⟨by rfl, ?_⟩) (by assumption) ?_
      · intro u' hSu
        (try simp only [List.getElem_toArray, List.getElem_cons_zero, List.getElem_cons_succ])
        go_simp
      (try simp only [List.getElem_toArray, List.getElem_cons_zero, List.getElem_cons_succ])
      (try simp only [Act.put, List.setIfInBounds_toArray, List.set_cons_zero, List.set_cons_succ])
      refine wpAnyH_take (i := 14) (oi := _) (v := .slice (some ⟨ga, oa, none⟩) A.length cd) rfl (by kernel_rfl) (by kernel_rfl) (by kernel_rfl) (fun _ _ _ h => h) (Or.inl ⟨by rfl, ?_⟩) (by assumption) ?_
      · intro u' hSu
        (try simp only [List.getElem_toArray, List.getElem_cons_zero, List.getElem_cons_succ])
        go_simp
      (try simp only [List.getElem_toArray, List.getElem_cons_zero, List.getElem_cons_succ])
      (try simp only [Act.put, List.setIfInBounds_toArray, List.set_cons_zero, List.set_cons_succ])
      refine wpAnyH_take (i := 15) (oi := _) (v := .int .i64 (v : Nat)) rfl (by kernel_rfl) (by kernel_rfl) (by kernel_rfl) (fun _ _ _ h => h) (Or.inl ⟨by rfl, ?_⟩) (by assumption) ?_
      · intro u' hSu
        (try simp only [List.getElem_toArray, List.getElem_cons_zero, List.getElem_cons_succ])
        go_simp
      (try simp only [List.getElem_toArray, List.getElem_cons_zero, List.getElem_cons_succ])
      (try simp only [Act.put, List.setIfInBounds_toArray, List.set_cons_zero, List.set_cons_succ])
      refine wpAnyH_take (i := 16) (oi := _) (v := .pointer (some ⟨ga, oa + v, none⟩)) rfl (by kernel_rfl) (by kernel_rfl) (by kernel_rfl) (fun _ _ _ h => h) (Or.inl ⟨by rfl, ?_⟩) (by assumption) ?_
      · intro u' hSu
        (try simp only [List.getElem_toArray, List.getElem_cons_zero, List.getElem_cons_succ])
        go_simp
      (try simp only [List.getElem_toArray, List.getElem_cons_zero, List.getElem_cons_succ])
      (try simp only [Act.put, List.setIfInBounds_toArray, List.set_cons_zero, List.set_cons_succ])
      refine wpAnyH_take (i := 17) (oi := _) (v := .int .i64 (x : Nat)) rfl (by kernel_rfl) (by kernel_rfl) (by kernel_rfl) (fun _ _ _ h => h) (Or.inl ⟨by rfl, ?_⟩) (by assumption) ?_
      · intro u' hSu
        (try simp only [List.getElem_toArray, List.getElem_cons_zero, List.getElem_cons_succ])
        obtain ⟨s0, s1, s2, s3, s4, s5, s6, s7⟩ := hSu
        go_simp
      (try simp only [List.getElem_toArray, List.getElem_cons_zero, List.getElem_cons_succ])
      (try simp only [Act.put, List.setIfInBounds_toArray, List.set_cons_zero, List.set_cons_succ])
      refine wpAnyH_take (i := 18) (oi := _) (v := .int .i64 (T : Nat)) rfl (by kernel_rfl) (by kernel_rfl) (by kernel_rfl) (fun _ _ _ h => h) (Or.inl ⟨by rfl, ?_⟩) (by assumption) ?_
      · intro u' hSu
        (try simp only [List.getElem_toArray, List.getElem_cons_zero, List.getElem_cons_succ])
        go_simp
      (try simp only [List.getElem_toArray, List.getElem_cons_zero, List.getElem_cons_succ])
      (try simp only [Act.put, List.setIfInBounds_toArray, List.set_cons_zero, List.set_cons_succ])
      refine wpAnyH_take (i := 19) (oi := _) (v := .pointer (some ⟨gf, of_ + T * 3, none⟩)) rfl (by kernel_rfl) (by kernel_rfl) (by kernel_rfl) (fun _ _ _ h => h) (Or.inl ⟨by rfl, ?_⟩) (by assumption) ?_
      · intro u' hSu
        (try simp only [List.getElem_toArray, List.getElem_cons_zero, List.getElem_cons_succ])
        go_simp
      (try simp only [List.getElem_toArray, List.getElem_cons_zero, List.getElem_cons_succ])
      (try simp only [Act.put, List.setIfInBounds_toArray, List.set_cons_zero, List.set_cons_succ])
      refine wpAnyH_take (i := 20) (oi := _) (v := .agg #[.bool fn, .string fx, .string fy]) rfl (by kernel_rfl) (by kernel_rfl) (by kernel_rfl) (fun _ _ _ h => h) (Or.inl ⟨by rfl, ?_⟩) (by assumption) ?_
      · intro u' hSu
        (try simp only [List.getElem_toArray, List.getElem_cons_zero, List.getElem_cons_succ])
        obtain ⟨s0, s1, s2, s3, s4, s5, s6, s7⟩ := hSu
        go_simp
      (try simp only [List.getElem_toArray, List.getElem_cons_zero, List.getElem_cons_succ])
      (try simp only [Act.put, List.setIfInBounds_toArray, List.set_cons_zero, List.set_cons_succ])
      obtain ⟨k0, k1, k2, f0, f1, f2⟩ := hKd.2.facts
      have hneB : w.heap.size ≠ w.heap.size + 1 := by omega
      have hneR : gr ≠ w.heap.size + 1 := by omega
      have hneV : gv ≠ w.heap.size + 1 := by omega
      have hneA : ga ≠ w.heap.size + 1 := by omega
      have hneF : gf ≠ w.heap.size + 1 := by omega
      refine wpAnyH_ready (rs := [21]) (by kernel_rfl) (by simp) (AllReadyH.cons rfl ?_ (AllReadyH.nil))
      · intro K' hK'
        (try simp only [List.getElem_toArray, List.getElem_cons_zero, List.getElem_cons_succ])
        go_simp
        have hfin := hKd.2.put fn fx fy
        have hbf := below_put hKd.1.2 (show w.heap.size ≤ w.heap.size + 1 by omega) (.bool fn) (.string fx) (.string fy)
        refine hK'.out _ _ ⟨((World.cell?_setCell_other _ _ _ _ (fun e => hneB (congrArg Addr.block e).symm)).trans ((World.cell?_setCell_other _ _ _ _ (fun e => hneB (congrArg Addr.block e).symm)).trans ((World.cell?_setCell_other _ _ _ _ (fun e => hneB (congrArg Addr.block e).symm)).trans hSd.1))), ((World.cell?_setCell_other _ _ _ _ (fun e => hneR (congrArg Addr.block e).symm)).trans ((World.cell?_setCell_other _ _ _ _ (fun e => hneR (congrArg Addr.block e).symm)).trans ((World.cell?_setCell_other _ _ _ _ (fun e => hneR (congrArg Addr.block e).symm)).trans hSd.2.1))), ((World.cell?_setCell_other _ _ _ _ (fun e => hneB (congrArg Addr.block e).symm)).trans ((World.cell?_setCell_other _ _ _ _ (fun e => hneB (congrArg Addr.block e).symm)).trans ((World.cell?_setCell_other _ _ _ _ (fun e => hneB (congrArg Addr.block e).symm)).trans hSd.2.2.1))), ((World.cell?_setCell_other _ _ _ _ (fun e => hneV (congrArg Addr.block e).symm)).trans ((World.cell?_setCell_other _ _ _ _ (fun e => hneV (congrArg Addr.block e).symm)).trans ((World.cell?_setCell_other _ _ _ _ (fun e => hneV (congrArg Addr.block e).symm)).trans hSd.2.2.2.1))), ((World.cell?_setCell_other _ _ _ _ (fun e => hneA (congrArg Addr.block e).symm)).trans ((World.cell?_setCell_other _ _ _ _ (fun e => hneA (congrArg Addr.block e).symm)).trans ((World.cell?_setCell_other _ _ _ _ (fun e => hneA (congrArg Addr.block e).symm)).trans hSd.2.2.2.2.1))), ((World.cell?_setCell_other _ _ _ _ (fun e => hneF (congrArg Addr.block e).symm)).trans ((World.cell?_setCell_other _ _ _ _ (fun e => hneF (congrArg Addr.block e).symm)).trans ((World.cell?_setCell_other _ _ _ _ (fun e => hneF (congrArg Addr.block e).symm)).trans hSd.2.2.2.2.2.1))), ((World.cell?_setCell_other _ _ _ _ (fun e => hneF (congrArg Addr.block e).symm)).trans ((World.cell?_setCell_other _ _ _ _ (fun e => hneF (congrArg Addr.block e).symm)).trans ((World.cell?_setCell_other _ _ _ _ (fun e => hneF (congrArg Addr.block e).symm)).trans hSd.2.2.2.2.2.2.1))), ((World.cell?_setCell_other _ _ _ _ (fun e => hneF (congrArg Addr.block e).symm)).trans ((World.cell?_setCell_other _ _ _ _ (fun e => hneF (congrArg Addr.block e).symm)).trans ((World.cell?_setCell_other _ _ _ _ (fun e => hneF (congrArg Addr.block e).symm)).trans hSd.2.2.2.2.2.2.2)))⟩ (fun hSe => ?_)
        clear hK' K' hSd hSe k0 k1 k2 f0 f1 f2
        generalize (((u0.setCell ⟨w.heap.size + 1, 0, none⟩ (.bool fn)).setCell ⟨w.heap.size + 1, 1, none⟩ (.string fx)).setCell ⟨w.heap.size + 1, 2, none⟩ (.string fy)) = u9 at *
        (try simp only [List.getElem_toArray, List.getElem_cons_zero, List.getElem_cons_succ])
        (try simp only [Act.put, List.setIfInBounds_toArray, List.set_cons_zero, List.set_cons_succ])
        refine wpAnyH_done (by kernel_rfl) ?_ _
        go_wp2
        refine bodyPost_ret (hfin.result rfl _ rfl) rfl ?_
        exact ⟨rfl, hbf⟩
end Go.Proofs.YtncccbdledcibaaGreatDoor
