/- The reader: a variable that has parents. -/
import Derived.Test.YtojidhnkpeiimaaGreatDoorBakVToBakF
namespace Go.Proofs.YtojidhnkpeiimaaGreatDoor
open Go.RowKit Go.Shelf Go.Lib Go.Sort
structure FamOK (Vs : List PV) (v cn : Nat) (P : List Nat) (rw_ : Nat → List Fr) : Prop where
  lt : ∀ u ∈ P, u < Vs.length
  nd : P.Nodup
  up : P.Pairwise (· ≤ ·)
  nv : ¬ v ∈ P
  one : 1 ≤ P.length
  few : P.length ≤ 8
  cnt : countA (iL (sizesN (vOf Vs))) (iL P) = ((cn : Int), 0)
  c1 : 1 ≤ cn
  c64 : cn ≤ 64
  dl : ∀ i, i < cn → (digs (sizesN (vOf Vs)) P i).length = P.length
  dlt : ∀ i, i < cn → ∀ j (h1 : j < P.length) (h2 : j < (digs (sizesN (vOf Vs)) P i).length), (digs (sizesN (vOf Vs)) P i)[j] < sz (sizesN (vOf Vs)) P[j]
  ix : ∀ i, i < cn → indexA (iL (sizesN (vOf Vs))) (iL P) (iL (digs (sizesN (vOf Vs)) P i)) = ((i : Int), 0)
  r1 : ∀ i, i < cn → 1 ≤ (rw_ i).length ∧ (rw_ i).length ≤ 4
  rl : ∀ i, i < cn → ∀ (h : v < Vs.length), (rw_ i).length = Vs[v].2.2.length
  nu : ∀ i, i < cn → ∀ f ∈ rw_ i, NuOK f
  rb : ∀ i, i < cn → rowB (rw_ i) = true
theorem owns_some {w : World} {B : Nat} {e : TypeId} {sz0 : Nat} {v : Value} {n : Nat} {xs : List Value} (h : w.ownsRow B e sz0 v n xs) (hn : 0 < n) : ∃ g c, v = .slice (some ⟨g, 0, none⟩) n c := by
  rcases h.2 with ⟨_, h2⟩ | ⟨g, cap, cur, e, _⟩
  · omega
  · exact ⟨g, cap, e⟩
def rstP (cn : Nat) (qv : Nat → Value) (rw_ : Nat → List Fr) (i : Nat) : List PR := (List.range cn).map fun j => if j < i then (qv j, (rw_ j).map lowF) else (.slice none 0 0, [])
theorem rstP_len (cn : Nat) (qv : Nat → Value) (rw_ : Nat → List Fr) (i : Nat) : (rstP cn qv rw_ i).length = cn := by simp [rstP]
theorem rstP_set {cn : Nat} (qv : Nat → Value) (rw_ : Nat → List Fr) (i : Nat) (q : Value) : (rstP cn qv rw_ i).set i (q, (rw_ i).map lowF) = rstP cn (fun j => if j = i then q else qv j) rw_ (i + 1) := by
  refine List.ext_getElem (by simp [rstP]) fun j h1 h2 => ?_
  rw [List.getElem_set]
  simp only [rstP, List.getElem_map, List.getElem_range]
  by_cases e : i = j
  · subst e
    rw [if_pos rfl, if_pos (by omega), if_pos rfl]
  · rw [if_neg e]
    by_cases h : j < i
    · rw [if_pos h, if_pos (by omega), if_neg (by omega)]
    · rw [if_neg h, if_neg (by omega)]
theorem made_nils (n : Nat) : (madeCells (Value.slice none 0 0).cells (n * 1)).toList = List.replicate n (Value.slice none 0 0) := by
  rw [show (Value.slice none 0 0).cells = #[Value.slice none 0 0] from rfl, toList_madeCells_one, Nat.mul_one]
theorem rst_made {u : World} {B G cn : Nat} {rw_ : Nat → List Fr} (h : u.ownsRow B 51 1 (.slice (some ⟨G, 0, none⟩) cn cn) cn (madeCells (Value.slice none 0 0).cells (cn * 1)).toList) : OwR u B (.slice (some ⟨G, 0, none⟩) cn cn) (rstP cn (fun _ => .slice none 0 0) rw_ 0) := by
  refine ⟨?_, fun p hp => ?_⟩
  · have e : (rstP cn (fun _ => .slice none 0 0) rw_ 0).map (·.1) = List.replicate cn (Value.slice none 0 0) := by
      refine List.ext_getElem (by simp [rstP]) fun j h1 h2 => ?_
      simp [rstP]
    rw [rstP_len, e, ← made_nils]
    exact h
  · obtain ⟨j, _, rfl⟩ := List.mem_map.1 hp
    simp
    exact RwF.empty _ _
theorem rst_all (cn : Nat) (qv : Nat → Value) (rw_ : Nat → List Fr) : rOf (rstP cn qv rw_ cn) = (List.range cn).map fun i => (rw_ i).map lowF := by
  refine List.ext_getElem (by simp [rstP, rOf]) fun j h1 h2 => ?_
  have hj : j < cn := by simpa [rstP, rOf] using h1
  simp [rstP, rOf, hj]
theorem else_not {s : ByteArray} (h : nameB s = true) : (s.toList == [101, 108, 115, 101]) = false := by
  simp only [nameB, Bool.and_eq_true] at h
  simpa [isElse] using h.1.2
theorem val_name {Vs : List PV} {P D : List Nat} (hV : ∀ p ∈ Vs, NmsOK p.2.2 ∧ p.2.2.length ≤ 4) (hP : ∀ u ∈ P, u < Vs.length) {j : Nat} (hj : j < P.length) (hD : D.length = P.length) (hd : ∀ i (h1 : i < P.length) (h2 : i < D.length), D[i] < sz (sizesN (vOf Vs)) P[i]) : nameB (vlV (vOf Vs) (P.getD j 0) (D.getD j 0)) = true := by
  have hjD : j < D.length := by omega
  have e1 : P.getD j 0 = P[j] := by rw [List.getD_eq_getElem?_getD, List.getElem?_eq_getElem hj]; rfl
  have e2 : D.getD j 0 = D[j] := by rw [List.getD_eq_getElem?_getD, List.getElem?_eq_getElem hjD]; rfl
  have hu := hP P[j] (List.getElem_mem hj)
  have huV : P[j] < (vOf Vs).length := by simpa [vOf] using hu
  rw [e1, e2]
  have h1 := vlV_mem huV (hd j hj hjD)
  have e3 : (vOf Vs)[P[j]].2 = Vs[P[j]].2.2 := by simp [vOf]
  rw [e3] at h1
  exact (hV Vs[P[j]] (List.getElem_mem hu)).1.name _ h1
theorem rst_cell {u : World} {B G cn : Nat} {qv : Nat → Value} {rw_ : Nat → List Fr} {i : Nat} (h : OwR u B (.slice (some ⟨G, 0, none⟩) cn cn) (rstP cn qv rw_ i)) (hi : i < cn) : u.cell? ⟨G, i, none⟩ = some (.slice none 0 0) := by
  have h1 := h.1
  rw [rstP_len] at h1
  obtain ⟨g, e, _, hc⟩ := owns_cell h1 (j := i) (by simpa [rstP] using hi)
  cases e
  rw [hc]
  simp [rstP]
theorem rst_set6 {u : World} {B G cn : Nat} {qv : Nat → Value} {rw_ : Nat → List Fr} {i : Nat} {q : Value} (h : OwR u B (.slice (some ⟨G, 0, none⟩) cn cn) (rstP cn qv rw_ i)) (hq : RwF u B q ((rw_ i).map lowF)) :
    OwR (u.setCell ⟨G, i, none⟩ q) B (.slice (some ⟨G, 0, none⟩) cn cn) (rstP cn (fun j => if j = i then q else qv j) rw_ (i + 1)) ∧ u.frozen? ⟨G, i, none⟩ = false := by
  have h1 : OwR u B (.slice (some ⟨G, 0, none⟩) (rstP cn qv rw_ i).length cn) (rstP cn qv rw_ i) := by rw [rstP_len]; exact h
  obtain ⟨h2, h3, _, _⟩ := h1.set (v := i) hq
  rw [rstP_len, rstP_set] at h2
  exact ⟨h2, h3⟩
theorem rst_fs {u : World} {B G cn : Nat} {qv : Nat → Value} {rw_ : Nat → List Fr} (h : OwR u B (.slice (some ⟨G, 0, none⟩) cn cn) (rstP cn qv rw_ cn)) : FsS u (some ⟨G, 0, none⟩) ((List.range cn).map fun k => (rw_ k).map lowF) := by
  obtain ⟨a, c, e, h1⟩ := h.rows
  injection e with e1 _ _
  rw [← e1, rst_all] at h1
  exact h1
def famT (Vs : List PV) (P : List Nat) (rw_ : Nat → List Fr) (i : Nat) : List ByteArray := valsL (vOf Vs) P (digs (sizesN (vOf Vs)) P i) P.length ++ (tCol :: (rw_ i).map ftF ++ [tSemi])
set_option maxRecDepth 100000 in
set_option maxHeartbeats 8000000 in
theorem family_tok {ts : List ByteArray} (g v cn : Nat) (m : Int) (s : List UInt8) (x y z : Value) (Vs : List PV) (Ls : List PL) (Rs : List PR) (P : List Nat) (rw_ : Nat → List Fr) (w : World) (h : RD w g s x y z Vs Ls Rs) (hN : NmsOK (namesV (vOf Vs))) (hV : ∀ p ∈ Vs, NmsOK p.2.2 ∧ p.2.2.length ≤ 4) (h8 : Vs.length ≤ 8)
    (hvV : v < Vs.length) (hv : v < Ls.length) (hvR : v < Rs.length) (hf : FamOK Vs v cn P rw_) (hr : Rst (P.map (nmV (vOf Vs)) ++ tOpen :: ((List.range cn).flatMap (famT Vs P rw_) ++ tShut :: ts)) s) (hm : w.cell? ⟨0, 0, none⟩ = some (.int .i64 m)) (hmg : 0 < g) :
    Calls Tryz.prog 89 #[.pointer (some ⟨g, 0, none⟩), .int .i64 v] w fun e w' => e = .returned (.tuple #[]) ∧ ∃ s' q q', RD w' g s' x y z Vs (Ls.set v (q, iL P)) (Rs.set v (q', ((List.range cn).map fun i => (rw_ i).map lowF).flatten)) ∧ Rst ts s' ∧ Below g w w' := by
  obtain ⟨i0, hi0, hz0, hz1, hz2⟩ := info_parts Tryz.infoFracs
  have hg := h.box.lt
  have h1P := hf.one
  have HPAR := hid (parents_tok g v s x y z Vs Ls Rs P w h hN h8 hr hf.lt hf.nv hf.nd hf.one hf.few)
  obtain ⟨gy, cb, rfl⟩ := owns_some h.ls.1 (by omega)
  obtain ⟨gz, cz, rfl⟩ := owns_some h.rs.1 (by omega)
  obtain ⟨a, c, rfl, -⟩ := h.vs.vars
  have hlv : (vOf Vs).length = Vs.length := by simp [vOf]
  have hsl : (sizesN (vOf Vs)).length = Vs.length := by rw [sizesN_length]; exact hlv
  have HSIZ : Hid (∀ (U : World) (s' : List UInt8) (L' : List PL), RD U g s' (.slice a (vOf Vs).length c) (.slice (some ⟨gy, 0, none⟩) Ls.length cb) (.slice (some ⟨gz, 0, none⟩) Rs.length cz) Vs L' Rs → Calls Tryz.prog 45 #[.agg #[.slice a (vOf Vs).length c, .slice (some ⟨gy, 0, none⟩) Ls.length cb, .slice (some ⟨gz, 0, none⟩) Rs.length cz]] U fun e w' => ∃ G, e = .returned (.slice (some ⟨G, 0, none⟩) (vOf Vs).length (vOf Vs).length) ∧ U.heap.size ≤ G ∧ RowI w' G (sizesN (vOf Vs)) ∧ Below U.heap.size U w') := fun U s' L' hU => by
    obtain ⟨a2, c2, e2, hv2⟩ := hU.vs.vars
    injection e2 with e3 e4 e5
    subst e3
    exact nSizes_any a (some ⟨gy, 0, none⟩) (some ⟨gz, 0, none⟩) c cb cz Ls.length Rs.length (vOf Vs) U hv2 (by omega)
  have HCNT : Hid (∀ (G : Nat) (p : Option Addr) (cp : Nat) (U : World), RowI U G (sizesN (vOf Vs)) → IntS U p (iL P) → Calls Tryz.prog 46 #[.slice (some ⟨G, 0, none⟩) (vOf Vs).length (vOf Vs).length, .slice p P.length cp] U fun e w' => e = .returned (.tuple #[.int .i64 (cn : Nat), .int .i64 0]) ∧ Below U.heap.size U w') := fun G p cp U h1 h2 => by
    have := tCount_any (some ⟨G, 0, none⟩) p (vOf Vs).length cp (iL (sizesN (vOf Vs))) (iL P) U h1.ints h2 (by rw [iL_length]; omega) (by rw [iL_length]; have := hf.few; omega)
    rw [hf.cnt, iL_length, iL_length, hsl, ← hlv] at this
    exact this
  have HRIS : Hid (∀ (g7 c7 : Nat) (U : World), Holds (Value.int .i64) U g7 0 (iL P).toArray → g7 < U.heap.size → Calls Tryz.prog 127 #[.slice (some ⟨g7, 0, none⟩) P.length c7] U fun e w' => e = .returned (.slice (some ⟨g7, 0, none⟩) P.length c7) ∧ Below U.heap.size U w') := fun g7 c7 U hh hgu => by
    have := rising_up g7 c7 (iL P) U hh hgu (by rw [iL_length]; have := hf.few; omega) (by
      rw [iL, List.pairwise_map]
      exact hf.up.imp fun h => by omega)
    rwa [iL_length] at this
  have HD := hid h
  have HF := hid hf
  have Hg := hid hg
  have T0 := hid hr
  have HM := hid hm
  have HV := hid hV
  have HN8 := hid h8
  obtain ⟨nv, hnv⟩ : ∃ nv, (vOf Vs).length = nv := ⟨_, rfl⟩
  rw [hnv] at HPAR HSIZ HCNT HD hlv
  have HLV := hid hlv
  have HNV := hid hnv
  clear h hr hf hg hm hnv hlv hsl
  go_enter Tryz.func89, Tryz.ntmps89
  go_wp2_with fail
  refine HPAR.out.mono ?_
  rintro e w0 ⟨qt, st, rfl, a1, a2, a3, a4, a5⟩
  obtain ⟨dq, nq, cq, rfl⟩ := (show SlV qt from by obtain ⟨a, c, e, -⟩ := owns_slice a1; exact ⟨a, _, c, e⟩)
  have hnq : P.length = nq := by
    obtain ⟨d2, c2, e, -⟩ := owns_slice a1
    injection e with _ e2 _
    rw [e2, iL_length]
  subst hnq
  have D1 := hid (HD.out.by a5 a2 a3)
  have B1 := hid (a5.low (Nat.le_of_lt Hg.out))
  have T1 := hid a1
  have TS := hid a4
  clear a1 a2 a3 a4 a5 HPAR T0 HD
  have HCLN : Hid (∀ U : World, RwI U w.heap.size (.slice dq P.length cq) (iL P) → Calls Tryz.prog 128 #[.slice dq P.length cq] U fun e w' => ∃ v, e = .returned v ∧ RwI w' U.heap.size v (iL P) ∧ Below U.heap.size U w') := fun U hU => by
    obtain ⟨d2, c2, e, h2⟩ := hU.ints
    injection e with e1 _ _
    have := slClone_any dq cq (iL P) U (by rw [e1]; exact h2) (by rw [iL_length]; have := HF.out.few; omega)
    rwa [iL_length] at this
  go_upto_region 1 with fail
  have hbD : Below w0.heap.size w0 w0.drew := (Below.refl _ w0).drew
  replace D1 := hid (D1.out.below hbD)
  replace B1 := hid B1.out.drew
  replace T1 := hid (T1.out.below hbD)
  clear hbD
  refine wp_region_held_drew (S := fun u => u.cell? ⟨g, 2, none⟩ = some (.slice (some ⟨gy, 0, none⟩) Ls.length cb)) (by kernel_rfl) D1.out.box.cells.2.2.1 (fun hSd => ?_)
  generalize w0.drew = u0 at *
  refine wpAnyH_take (i := 0) (oi := _) (v := (.pointer (some ⟨g, 0, none⟩))) rfl (by kernel_rfl) (by kernel_rfl) (by kernel_rfl) (fun _ _ _ h => h) (Or.inl ⟨by rfl, ?_⟩) (by assumption) ?_
  · intro u' hSu
    (try simp only [List.getElem_toArray, List.getElem_cons_zero])
    go_simp
  (try simp only [List.getElem_toArray, List.getElem_cons_zero])
  (try simp only [Act.put, List.setIfInBounds_toArray, List.set_cons_zero, List.set_cons_succ])
  refine wpAnyH_take (i := 1) (oi := _) (v := (.pointer (some ⟨g, 0, none⟩))) rfl (by kernel_rfl) (by kernel_rfl) (by kernel_rfl) (fun _ _ _ h => h) (Or.inl ⟨by rfl, ?_⟩) (by assumption) ?_
  · intro u' hSu
    (try simp only [List.getElem_toArray, List.getElem_cons_zero, List.getElem_cons_succ])
    go_simp
  (try simp only [List.getElem_toArray, List.getElem_cons_zero, List.getElem_cons_succ])
  (try simp only [Act.put, List.setIfInBounds_toArray, List.set_cons_zero, List.set_cons_succ])
  refine wpAnyH_take (i := 2) (oi := _) (v := (.pointer (some ⟨g, 1, none⟩))) rfl (by kernel_rfl) (by kernel_rfl) (by kernel_rfl) (fun _ _ _ h => h) (Or.inl ⟨by rfl, ?_⟩) (by assumption) ?_
  · intro u' hSu
    (try simp only [List.getElem_toArray, List.getElem_cons_zero, List.getElem_cons_succ])
    go_simp
  (try simp only [List.getElem_toArray, List.getElem_cons_zero, List.getElem_cons_succ])
  (try simp only [Act.put, List.setIfInBounds_toArray, List.set_cons_zero, List.set_cons_succ])
  refine wpAnyH_take (i := 3) (oi := _) (v := (.pointer (some ⟨g, 2, none⟩))) rfl (by kernel_rfl) (by kernel_rfl) (by kernel_rfl) (fun _ _ _ h => h) (Or.inl ⟨by rfl, ?_⟩) (by assumption) ?_
  · intro u' hSu
    (try simp only [List.getElem_toArray, List.getElem_cons_zero, List.getElem_cons_succ])
    go_simp
  (try simp only [List.getElem_toArray, List.getElem_cons_zero, List.getElem_cons_succ])
  (try simp only [Act.put, List.setIfInBounds_toArray, List.set_cons_zero, List.set_cons_succ])
  refine wpAnyH_take (i := 4) (oi := _) (v := (.slice (some ⟨gy, 0, none⟩) Ls.length cb)) rfl (by kernel_rfl) (by kernel_rfl) (by kernel_rfl) (fun _ _ _ h => h) (Or.inl ⟨by rfl, ?_⟩) (by assumption) ?_
  · intro u' hSu
    (try simp only [List.getElem_toArray, List.getElem_cons_zero, List.getElem_cons_succ])
    have k9 := hSu
    go_simp
  (try simp only [List.getElem_toArray, List.getElem_cons_zero, List.getElem_cons_succ])
  (try simp only [Act.put, List.setIfInBounds_toArray, List.set_cons_zero, List.set_cons_succ])
  refine wpAnyH_take (i := 5) (oi := _) (v := (.int .i64 (v : Nat))) rfl (by kernel_rfl) (by kernel_rfl) (by kernel_rfl) (fun _ _ _ h => h) (Or.inl ⟨by rfl, ?_⟩) (by assumption) ?_
  · intro u' hSu
    (try simp only [List.getElem_toArray, List.getElem_cons_zero, List.getElem_cons_succ])
    go_simp
  (try simp only [List.getElem_toArray, List.getElem_cons_zero, List.getElem_cons_succ])
  (try simp only [Act.put, List.setIfInBounds_toArray, List.set_cons_zero, List.set_cons_succ])
  refine wpAnyH_take (i := 6) (oi := _) (v := (.slice dq P.length cq)) rfl (by kernel_rfl) (by kernel_rfl) (by kernel_rfl) (fun _ _ _ h => h) (Or.inl ⟨by rfl, ?_⟩) (by assumption) ?_
  · intro u' hSu
    (try simp only [List.getElem_toArray, List.getElem_cons_zero, List.getElem_cons_succ])
    go_simp
  (try simp only [List.getElem_toArray, List.getElem_cons_zero, List.getElem_cons_succ])
  (try simp only [Act.put, List.setIfInBounds_toArray, List.set_cons_zero, List.set_cons_succ])
  refine wpAnyH_ready (rs := [7]) (by kernel_rfl) (by simp) (AllReadyH.cons rfl ?_ (AllReadyH.nil))
  · intro K' hK'
    (try simp only [List.getElem_toArray, List.getElem_cons_zero, List.getElem_cons_succ])
    go_simp
    refine (HCLN.out u0 T1.out).mono ?_
    rintro e u1 ⟨q7, rfl, a7, b7⟩
    obtain ⟨g7, c7, e7⟩ := owns_some a7 (by rw [iL_length]; exact h1P)
    rw [iL_length] at e7
    subst e7
    have E1 := hid (D1.out.below b7)
    have T7 := hid (show RwI u1 g (.slice (some ⟨g7, 0, none⟩) P.length c7) (iL P) from owns_lower a7 (Nat.le_of_lt D1.out.box.lt))
    have F1 := hid (B1.out.trans (b7.mono (Nat.le_of_lt D1.out.box.lt)))
    have T1b := hid (T1.out.below b7)
    clear a7 b7 D1 B1 T1
    refine hK'.out _ _ E1.out.box.cells.2.2.1 (fun hSe => ?_)
    clear hK' K' hSd
    have hh7 := T7.out.holds
    have HH7 := hid hh7
    clear hh7
    (try simp only [List.getElem_toArray, List.getElem_cons_zero, List.getElem_cons_succ])
    (try simp only [Act.put, List.setIfInBounds_toArray, List.set_cons_zero, List.set_cons_succ])
    refine wpAnyH_ready (rs := [8]) (by kernel_rfl) (by simp) (AllReadyH.cons rfl ?_ (AllReadyH.nil))
    · intro K' hK'
      (try simp only [List.getElem_toArray, List.getElem_cons_zero, List.getElem_cons_succ])
      go_simp
      refine (HRIS.out g7 c7 u1 HH7.out.1 HH7.out.2.1).mono ?_
      rintro e u2 ⟨rfl, b8⟩
      have E2 := hid (E1.out.below b8)
      have T8 := hid (show RwI u2 g (.slice (some ⟨g7, 0, none⟩) P.length c7) (iL P) from T7.out.below b8)
      have F2 := hid (F1.out.trans (b8.mono (Nat.le_of_lt E1.out.box.lt)))
      have T2 := hid (T1b.out.below b8)
      clear b8 E1 T7 F1 T1b HH7
      refine hK'.out _ _ E2.out.box.cells.2.2.1 (fun hSf => ?_)
      clear hK' K' hSe
      obtain ⟨gq, eq, hgq, k0⟩ := owns_cell E2.out.ls.1 (j := v) (by simpa using hv)
      obtain ⟨rD, rB, rz⟩ := E2.out.setL (v := v) T8.out
      have HRD := hid rD
      have HRB := hid (F2.out.trans rB)
      have T3 := hid (show RwI (u2.setCell ⟨gy, v, none⟩ (.slice (some ⟨g7, 0, none⟩) P.length c7)) w.heap.size (.slice dq P.length cq) (iL P) from by
        obtain ⟨c0, f0, hb⟩ := owns_typed E2.out.ls.1 gy rfl
        exact owns_keep T2.out (KeepT.set hb (by decide) v _))
      cases eq
      clear rD rB T8 F2 T2
      (try simp only [List.getElem_toArray, List.getElem_cons_zero, List.getElem_cons_succ])
      (try simp only [Act.put, List.setIfInBounds_toArray, List.set_cons_zero, List.set_cons_succ])
      refine wpAnyH_take (i := 9) (oi := _) (v := (.pointer (some ⟨gy, v, none⟩))) rfl (by kernel_rfl) (by kernel_rfl) (by kernel_rfl) (fun _ _ _ h => h) (Or.inl ⟨by rfl, ?_⟩) (by assumption) ?_
      · intro u' hSu
        (try simp only [List.getElem_toArray, List.getElem_cons_zero, List.getElem_cons_succ])
        go_simp
      (try simp only [List.getElem_toArray, List.getElem_cons_zero, List.getElem_cons_succ])
      (try simp only [Act.put, List.setIfInBounds_toArray, List.set_cons_zero, List.set_cons_succ])
      refine wpAnyH_ready (rs := [10]) (by kernel_rfl) (by simp) (AllReadyH.cons rfl ?_ (AllReadyH.nil))
      · intro K' hK'
        (try simp only [List.getElem_toArray, List.getElem_cons_zero, List.getElem_cons_succ])
        go_simp
        refine hK'.out _ _ HRD.out.box.cells.2.2.1 (fun hSg => ?_)
        clear hK' K' hSf k0 rz E2 hgq
        try simp only [List.getElem_toArray, List.getElem_cons_zero, List.getElem_cons_succ]
        try simp only [Act.put, List.setIfInBounds_toArray, List.set_cons_zero, List.set_cons_succ]
        refine wpAnyH_done (by kernel_rfl) ?_ _
        clear hSg
        generalize u2.setCell ⟨gy, v, none⟩ (.slice (some ⟨g7, 0, none⟩) P.length c7) = u3 at *
        go_upto_region 2 with fail
        have hbD : Below u3.heap.size u3 u3.drew := (Below.refl _ u3).drew
        replace HRD := hid (HRD.out.below hbD)
        replace HRB := hid HRB.out.drew
        replace T3 := hid (T3.out.below hbD)
        clear hbD
        have HLC : Hid (∀ (U : World) (s' : List UInt8), RD U g s' (.slice a nv c) (.slice (some ⟨gy, 0, none⟩) Ls.length cb) (.slice (some ⟨gz, 0, none⟩) Rs.length cz) Vs (Ls.set v (.slice (some ⟨g7, 0, none⟩) P.length c7, iL P)) Rs → U.cell? ⟨g, 1, none⟩ = some (.slice a nv c) ∧ U.cell? ⟨g, 2, none⟩ = some (.slice (some ⟨gy, 0, none⟩) Ls.length cb) ∧ U.cell? ⟨g, 3, none⟩ = some (.slice (some ⟨gz, 0, none⟩) Rs.length cz) ∧ U.cell? ⟨gy, v, none⟩ = some (.slice (some ⟨g7, 0, none⟩) P.length c7) ∧ IntS U (some ⟨g7, 0, none⟩) (iL P)) := fun U s' hU => by
          obtain ⟨-, c1, c2, c3⟩ := hU.box.cells
          have hls : (Ls.set v (.slice (some ⟨g7, 0, none⟩) P.length c7, iL P)).length = Ls.length := List.length_set
          have hvl : v < (Ls.set v (Value.slice (some ⟨g7, 0, none⟩) P.length c7, iL P)).length := by rw [hls]; exact hv
          have ho := hU.ls.1
          rw [hls] at ho
          obtain ⟨gq, eq, _, k0⟩ := owns_cell ho (j := v) (by simpa using hv)
          cases eq
          rw [List.getElem_map, List.getElem_set_self] at k0
          refine ⟨c1, c2, c3, k0, ?_⟩
          have hi := hU.ls.2 (.slice (some ⟨g7, 0, none⟩) P.length c7, iL P) (List.mem_iff_getElem.2 ⟨v, hvl, List.getElem_set_self hvl⟩)
          obtain ⟨d2, c2', e2, h2⟩ := hi.ints
          injection e2 with e3 _ _
          rw [e3]
          exact h2
        have X0 := HLC.out _ _ HRD.out
        refine wp_region_held_drew (S := fun u => u.cell? ⟨g, 1, none⟩ = some (.slice a nv c) ∧ u.cell? ⟨g, 2, none⟩ = some (.slice (some ⟨gy, 0, none⟩) Ls.length cb) ∧ u.cell? ⟨g, 3, none⟩ = some (.slice (some ⟨gz, 0, none⟩) Rs.length cz) ∧ u.cell? ⟨gy, v, none⟩ = some (.slice (some ⟨g7, 0, none⟩) P.length c7)) (by kernel_rfl) ⟨X0.1, X0.2.1, X0.2.2.1, X0.2.2.2.1⟩ (fun hSd => ?_)
        clear X0
        generalize u3.drew = u4 at *
        refine wpAnyH_take (i := 0) (oi := _) (v := (.pointer (some ⟨g, 0, none⟩))) rfl (by kernel_rfl) (by kernel_rfl) (by kernel_rfl) (fun _ _ _ h => h) (Or.inl ⟨by rfl, ?_⟩) (by assumption) ?_
        · intro u' hSu
          (try simp only [List.getElem_toArray, List.getElem_cons_zero])
          go_simp
        (try simp only [List.getElem_toArray, List.getElem_cons_zero])
        (try simp only [Act.put, List.setIfInBounds_toArray, List.set_cons_zero, List.set_cons_succ])
        refine wpAnyH_take (i := 1) (oi := _) (v := (.pointer (some ⟨g, 0, none⟩))) rfl (by kernel_rfl) (by kernel_rfl) (by kernel_rfl) (fun _ _ _ h => h) (Or.inl ⟨by rfl, ?_⟩) (by assumption) ?_
        · intro u' hSu
          (try simp only [List.getElem_toArray, List.getElem_cons_zero, List.getElem_cons_succ])
          go_simp
        (try simp only [List.getElem_toArray, List.getElem_cons_zero, List.getElem_cons_succ])
        (try simp only [Act.put, List.setIfInBounds_toArray, List.set_cons_zero, List.set_cons_succ])
        refine wpAnyH_take (i := 2) (oi := _) (v := (.pointer (some ⟨g, 1, none⟩))) rfl (by kernel_rfl) (by kernel_rfl) (by kernel_rfl) (fun _ _ _ h => h) (Or.inl ⟨by rfl, ?_⟩) (by assumption) ?_
        · intro u' hSu
          (try simp only [List.getElem_toArray, List.getElem_cons_zero, List.getElem_cons_succ])
          go_simp
        (try simp only [List.getElem_toArray, List.getElem_cons_zero, List.getElem_cons_succ])
        (try simp only [Act.put, List.setIfInBounds_toArray, List.set_cons_zero, List.set_cons_succ])
        refine wpAnyH_take (i := 3) (oi := _) (v := (.agg #[.slice a nv c, .slice (some ⟨gy, 0, none⟩) Ls.length cb, .slice (some ⟨gz, 0, none⟩) Rs.length cz])) rfl (by kernel_rfl) (by kernel_rfl) (by kernel_rfl) (fun _ _ _ h => h) (Or.inl ⟨by rfl, ?_⟩) (by assumption) ?_
        · intro u' hSu
          (try simp only [List.getElem_toArray, List.getElem_cons_zero, List.getElem_cons_succ])
          obtain ⟨s1, s2, s3, s4⟩ := hSu
          go_simp
        (try simp only [List.getElem_toArray, List.getElem_cons_zero, List.getElem_cons_succ])
        (try simp only [Act.put, List.setIfInBounds_toArray, List.set_cons_zero, List.set_cons_succ])
        refine wpAnyH_take (i := 5) (oi := _) (v := (.pointer (some ⟨g, 0, none⟩))) rfl (by kernel_rfl) (by kernel_rfl) (by kernel_rfl) (fun _ _ _ h => h) (Or.inl ⟨by rfl, ?_⟩) (by assumption) ?_
        · intro u' hSu
          (try simp only [List.getElem_toArray, List.getElem_cons_zero, List.getElem_cons_succ])
          go_simp
        (try simp only [List.getElem_toArray, List.getElem_cons_zero, List.getElem_cons_succ])
        (try simp only [Act.put, List.setIfInBounds_toArray, List.set_cons_zero, List.set_cons_succ])
        refine wpAnyH_take (i := 6) (oi := _) (v := (.pointer (some ⟨g, 0, none⟩))) rfl (by kernel_rfl) (by kernel_rfl) (by kernel_rfl) (fun _ _ _ h => h) (Or.inl ⟨by rfl, ?_⟩) (by assumption) ?_
        · intro u' hSu
          (try simp only [List.getElem_toArray, List.getElem_cons_zero, List.getElem_cons_succ])
          go_simp
        (try simp only [List.getElem_toArray, List.getElem_cons_zero, List.getElem_cons_succ])
        (try simp only [Act.put, List.setIfInBounds_toArray, List.set_cons_zero, List.set_cons_succ])
        refine wpAnyH_take (i := 7) (oi := _) (v := (.pointer (some ⟨g, 1, none⟩))) rfl (by kernel_rfl) (by kernel_rfl) (by kernel_rfl) (fun _ _ _ h => h) (Or.inl ⟨by rfl, ?_⟩) (by assumption) ?_
        · intro u' hSu
          (try simp only [List.getElem_toArray, List.getElem_cons_zero, List.getElem_cons_succ])
          go_simp
        (try simp only [List.getElem_toArray, List.getElem_cons_zero, List.getElem_cons_succ])
        (try simp only [Act.put, List.setIfInBounds_toArray, List.set_cons_zero, List.set_cons_succ])
        refine wpAnyH_take (i := 8) (oi := _) (v := (.pointer (some ⟨g, 2, none⟩))) rfl (by kernel_rfl) (by kernel_rfl) (by kernel_rfl) (fun _ _ _ h => h) (Or.inl ⟨by rfl, ?_⟩) (by assumption) ?_
        · intro u' hSu
          (try simp only [List.getElem_toArray, List.getElem_cons_zero, List.getElem_cons_succ])
          go_simp
        (try simp only [List.getElem_toArray, List.getElem_cons_zero, List.getElem_cons_succ])
        (try simp only [Act.put, List.setIfInBounds_toArray, List.set_cons_zero, List.set_cons_succ])
        refine wpAnyH_take (i := 9) (oi := _) (v := (.slice (some ⟨gy, 0, none⟩) Ls.length cb)) rfl (by kernel_rfl) (by kernel_rfl) (by kernel_rfl) (fun _ _ _ h => h) (Or.inl ⟨by rfl, ?_⟩) (by assumption) ?_
        · intro u' hSu
          (try simp only [List.getElem_toArray, List.getElem_cons_zero, List.getElem_cons_succ])
          obtain ⟨s1, s2, s3, s4⟩ := hSu
          go_simp
        (try simp only [List.getElem_toArray, List.getElem_cons_zero, List.getElem_cons_succ])
        (try simp only [Act.put, List.setIfInBounds_toArray, List.set_cons_zero, List.set_cons_succ])
        refine wpAnyH_take (i := 10) (oi := _) (v := (.int .i64 (v : Nat))) rfl (by kernel_rfl) (by kernel_rfl) (by kernel_rfl) (fun _ _ _ h => h) (Or.inl ⟨by rfl, ?_⟩) (by assumption) ?_
        · intro u' hSu
          (try simp only [List.getElem_toArray, List.getElem_cons_zero, List.getElem_cons_succ])
          go_simp
        (try simp only [List.getElem_toArray, List.getElem_cons_zero, List.getElem_cons_succ])
        (try simp only [Act.put, List.setIfInBounds_toArray, List.set_cons_zero, List.set_cons_succ])
        refine wpAnyH_take (i := 11) (oi := _) (v := (.pointer (some ⟨gy, v, none⟩))) rfl (by kernel_rfl) (by kernel_rfl) (by kernel_rfl) (fun _ _ _ h => h) (Or.inl ⟨by rfl, ?_⟩) (by assumption) ?_
        · intro u' hSu
          (try simp only [List.getElem_toArray, List.getElem_cons_zero, List.getElem_cons_succ])
          go_simp
        (try simp only [List.getElem_toArray, List.getElem_cons_zero, List.getElem_cons_succ])
        (try simp only [Act.put, List.setIfInBounds_toArray, List.set_cons_zero, List.set_cons_succ])
        refine wpAnyH_take (i := 12) (oi := _) (v := (.slice (some ⟨g7, 0, none⟩) P.length c7)) rfl (by kernel_rfl) (by kernel_rfl) (by kernel_rfl) (fun _ _ _ h => h) (Or.inl ⟨by rfl, ?_⟩) (by assumption) ?_
        · intro u' hSu
          (try simp only [List.getElem_toArray, List.getElem_cons_zero, List.getElem_cons_succ])
          obtain ⟨s1, s2, s3, s4⟩ := hSu
          go_simp
        (try simp only [List.getElem_toArray, List.getElem_cons_zero, List.getElem_cons_succ])
        (try simp only [Act.put, List.setIfInBounds_toArray, List.set_cons_zero, List.set_cons_succ])
        refine wpAnyH_ready (rs := [4]) (by kernel_rfl) (by simp) (AllReadyH.cons rfl ?_ (AllReadyH.nil))
        · intro K' hK'
          (try simp only [List.getElem_toArray, List.getElem_cons_zero, List.getElem_cons_succ])
          go_simp
          refine (HSIZ.out u4 _ _ HRD.out).mono ?_
          rintro e u5 ⟨G, rfl, hG, hR5, b5⟩
          have E5 := hid (HRD.out.below b5)
          have F5 := hid (HRB.out.trans (b5.mono (Nat.le_of_lt HRD.out.box.lt)))
          have T5 := hid (T3.out.below b5)
          have R5 := hid hR5
          clear b5 hR5 hG HRD HRB T3
          have X5 := hid (HLC.out _ _ E5.out)
          refine hK'.out _ _ ⟨X5.out.1, X5.out.2.1, X5.out.2.2.1, X5.out.2.2.2.1⟩ (fun hSe => ?_)
          clear hK' K' hSd
          (try simp only [List.getElem_toArray, List.getElem_cons_zero, List.getElem_cons_succ])
          (try simp only [Act.put, List.setIfInBounds_toArray, List.set_cons_zero, List.set_cons_succ])
          refine wpAnyH_ready (rs := [13]) (by kernel_rfl) (by simp) (AllReadyH.cons rfl ?_ (AllReadyH.nil))
          · intro K' hK'
            (try simp only [List.getElem_toArray, List.getElem_cons_zero, List.getElem_cons_succ])
            go_simp
            refine (HCNT.out G (some ⟨g7, 0, none⟩) c7 u5 R5.out X5.out.2.2.2.2).mono ?_
            rintro e u6 ⟨rfl, b6⟩
            have E6 := hid (E5.out.below b6)
            have F6 := hid (F5.out.trans (b6.mono (Nat.le_of_lt E5.out.box.lt)))
            have T6 := hid (T5.out.below b6)
            clear b6 E5 F5 T5 R5 X5
            have X6 := hid (HLC.out _ _ E6.out)
            refine hK'.out _ _ ⟨X6.out.1, X6.out.2.1, X6.out.2.2.1, X6.out.2.2.2.1⟩ (fun hSf => ?_)
            clear hK' K' hSe X6
            (try simp only [List.getElem_toArray, List.getElem_cons_zero, List.getElem_cons_succ])
            (try simp only [Act.put, List.setIfInBounds_toArray, List.set_cons_zero, List.set_cons_succ])
            refine wpAnyH_take (i := 14) (oi := _) (v := (.tuple #[.int .i64 (cn : Nat), .int .i64 0])) rfl (by kernel_rfl) (by kernel_rfl) (by kernel_rfl) (fun _ _ _ h => h) (Or.inl ⟨by rfl, ?_⟩) (by assumption) ?_
            · intro u' hSu
              (try simp only [List.getElem_toArray, List.getElem_cons_zero, List.getElem_cons_succ])
              go_simp
            (try simp only [List.getElem_toArray, List.getElem_cons_zero, List.getElem_cons_succ])
            (try simp only [Act.put, List.setIfInBounds_toArray, List.set_cons_zero, List.set_cons_succ])
            refine wpAnyH_take (i := 15) (oi := _) (v := (.int .i64 (cn : Nat))) rfl (by kernel_rfl) (by kernel_rfl) (by kernel_rfl) (fun _ _ _ h => h) (Or.inl ⟨by rfl, ?_⟩) (by assumption) ?_
            · intro u' hSu
              (try simp only [List.getElem_toArray, List.getElem_cons_zero, List.getElem_cons_succ])
              go_simp
            (try simp only [List.getElem_toArray, List.getElem_cons_zero, List.getElem_cons_succ])
            (try simp only [Act.put, List.setIfInBounds_toArray, List.set_cons_zero, List.set_cons_succ])
            refine wpAnyH_take (i := 16) (oi := _) (v := (.int .i64 0)) rfl (by kernel_rfl) (by kernel_rfl) (by kernel_rfl) (fun _ _ _ h => h) (Or.inl ⟨by rfl, ?_⟩) (by assumption) ?_
            · intro u' hSu
              (try simp only [List.getElem_toArray, List.getElem_cons_zero, List.getElem_cons_succ])
              go_simp
            (try simp only [List.getElem_toArray, List.getElem_cons_zero, List.getElem_cons_succ])
            (try simp only [Act.put, List.setIfInBounds_toArray, List.set_cons_zero, List.set_cons_succ])
            refine wpAnyH_take (i := 17) (oi := _) (v := (.int .i64 (cn : Nat))) rfl (by kernel_rfl) (by kernel_rfl) (by kernel_rfl) (fun _ _ _ h => h) (Or.inl ⟨by rfl, ?_⟩) (by assumption) ?_
            · intro u' hSu
              (try simp only [List.getElem_toArray, List.getElem_cons_zero, List.getElem_cons_succ])
              go_simp
            (try simp only [List.getElem_toArray, List.getElem_cons_zero, List.getElem_cons_succ])
            (try simp only [Act.put, List.setIfInBounds_toArray, List.set_cons_zero, List.set_cons_succ])
            refine wpAnyH_take (i := 18) (oi := _) (v := (.int .i64 0)) rfl (by kernel_rfl) (by kernel_rfl) (by kernel_rfl) (fun _ _ _ h => h) (Or.inl ⟨by rfl, ?_⟩) (by assumption) ?_
            · intro u' hSu
              (try simp only [List.getElem_toArray, List.getElem_cons_zero, List.getElem_cons_succ])
              go_simp
            (try simp only [List.getElem_toArray, List.getElem_cons_zero, List.getElem_cons_succ])
            (try simp only [Act.put, List.setIfInBounds_toArray, List.set_cons_zero, List.set_cons_succ])
            refine wpAnyH_done (by kernel_rfl) ?_ _
            clear hSf
            go_upto_region 3 with fail
            obtain ⟨L2, hL2⟩ : ∃ L2, Ls.set v (Value.slice (some ⟨g7, 0, none⟩) P.length c7, iL P) = L2 := ⟨_, rfl⟩
            rw [hL2] at E6
            have HL2 : Hid (∀ h : v < L2.length, (L2[v]'h).2 = iL P) := fun h => by
              subst hL2
              rw [List.getElem_set_self]
            have hls : L2.length = Ls.length := by rw [← hL2]; exact List.length_set
            have HVL : Hid (v < L2.length) := by show v < L2.length; omega
            have HEL2 := hid hL2
            clear hls hL2
            have hc64 := HF.out.c64
            go_wp2_with (at_make; refine wpList_make_full _ rfl _ _ 27 rfl u6.heap.size 51 i0 (.slice none 0 0) 1 Tryz.underlying27 hi0 hz0 hz1 .i64 .i64 _ _ cn rfl rfl (by go_num) (by go_num) (by rw [hz2]; omega) (by unfold maxLen; omega) (Nat.le_refl _) ?_; intro u7 hown7 hgrow7)
            have hg6 := E6.out.box.lt
            have O7 : Hid (OwR u7 u6.heap.size (.slice (some ⟨u6.heap.size, 0, none⟩) cn cn) (rstP cn (fun _ => .slice none 0 0) rw_ 0)) := rst_made hown7
            have K7 := hid (show RBx u7 g st (.slice a nv c) (.slice (some ⟨gy, 0, none⟩) Ls.length cb) (.slice (some ⟨gz, 0, none⟩) Rs.length cz) ∧ st.length ≤ 20000 ∧ Rst ((List.range cn).flatMap (famT Vs P rw_) ++ tShut :: ts) st ∧ ByS u6 g u7 from ⟨E6.out.box.grown hgrow7 (fun k e => by cases e) hg6, E6.out.short, TS.out, (ByS.refl u6 g).grown hgrow7 (fun k e => by cases e)⟩)
            clear hown7 hgrow7 TS
            obtain ⟨Gb, hGb⟩ : ∃ Gb, u6.heap.size = Gb := ⟨_, rfl⟩
            have HGB := hid hGb
            rw [hGb] at O7
            simp only [hGb]
            clear hGb
            go_wp2_with fail
            go_loopg [8] cn (fun r _ wr => ∃ (i : Nat) (s' : List UInt8) (qv : Nat → Value), r + i = cn ∧ Hid (OwR wr Gb (.slice (some ⟨Gb, 0, none⟩) cn cn) (rstP cn qv rw_ i)) ∧ Hid (RBx wr g s' (.slice a nv c) (.slice (some ⟨gy, 0, none⟩) Ls.length cb) (.slice (some ⟨gz, 0, none⟩) Rs.length cz) ∧ s'.length ≤ 20000 ∧ Rst (((List.range cn).drop i).flatMap (famT Vs P rw_) ++ tShut :: ts) s' ∧ ByS u6 g wr))
            case atStart => exact ⟨0, st, _, by omega, O7, K7⟩
            case round =>
              obtain ⟨i, s', qv, hri, HO, HK⟩ := hrel
              clear O7 K7
              by_cases hlt : i < cn
              · have hdr : (List.range cn).drop i = i :: (List.range cn).drop (i + 1) := by
                  rw [List.drop_eq_getElem_cons (by simpa using hlt)]
                  simp
                obtain ⟨rest, hrest⟩ : ∃ rest, ((List.range cn).drop (i + 1)).flatMap (famT Vs P rw_) ++ tShut :: ts = rest := ⟨_, rfl⟩
                have hdl := HF.out.dl i hlt
                have hdlt := HF.out.dlt i hlt
                obtain ⟨D, hDD⟩ : ∃ D, digs (sizesN (vOf Vs)) P i = D := ⟨_, rfl⟩
                have HIXD := hid (HF.out.ix i hlt)
                rw [hDD] at hdl hdlt HIXD
                have hval := valsL_drop (vOf Vs) P D P.length (i := 0) (by omega)
                rw [List.drop_zero] at hval
                have hnm0 : nameB (vlV (vOf Vs) (P.getD 0 0) (D.getD 0 0)) = true := val_name HV.out HF.out.lt (by omega) hdl hdlt
                obtain ⟨t0, ht0⟩ : ∃ t0, vlV (vOf Vs) (P.getD 0 0) (D.getD 0 0) = t0 := ⟨_, rfl⟩
                rw [ht0] at hval hnm0
                have HVAL := hid hval
                have hel := else_not hnm0
                have hbr := open_not hnm0 125 (by decide)
                have HR1 : Hid (((List.range cn).drop i).flatMap (famT Vs P rw_) ++ tShut :: ts = t0 :: ((valsL (vOf Vs) P D P.length).drop 1 ++ (tCol :: ((rw_ i).map ftF ++ tSemi :: rest)))) := by
                  show _ = _
                  rw [hdr, List.flatMap_cons, famT, hDD, ← hrest]
                  rw [HVAL.out]
                  simp
                have HR2 : Hid (t0 :: ((valsL (vOf Vs) P D P.length).drop 1 ++ (tCol :: ((rw_ i).map ftF ++ tSemi :: rest))) = valsL (vOf Vs) P D P.length ++ (tCol :: ((rw_ i).map ftF ++ tSemi :: rest))) := by
                  show _ = _
                  conv => rhs; rw [HVAL.out]
                  rfl
                have HREST := hid hrest
                have hk1 := HK.out.2.2.1
                rw [HR1.out] at hk1
                replace HK := hid (show RBx wr g s' (.slice a nv c) (.slice (some ⟨gy, 0, none⟩) Ls.length cb) (.slice (some ⟨gz, 0, none⟩) Rs.length cz) ∧ s'.length ≤ 20000 ∧ Rst (t0 :: ((valsL (vOf Vs) P D P.length).drop 1 ++ (tCol :: ((rw_ i).map ftF ++ tSemi :: rest)))) s' ∧ ByS u6 g wr from ⟨HK.out.1, HK.out.2.1, hk1, HK.out.2.2.2⟩)
                have hdl' := hid hdl
                have hdlt' := hid hdlt
                clear hdr hdl hdlt hDD hval hnm0 ht0 hk1 hrest HR1
                go_wp2_with fail
                refine (look_tok g s' _ _ _ wr HK.out.1 HK.out.2.1 HK.out.2.2.1).mono ?_
                rintro e z1 ⟨rfl, s1, a1, a2, a3, a4⟩
                replace HO := hid (HO.out.keep (a4.keep HK.out.1 (by decide)) (a4.keep HK.out.1 (by decide)))
                replace HK := hid (show RBx z1 g s1 (.slice a nv c) (.slice (some ⟨gy, 0, none⟩) Ls.length cb) (.slice (some ⟨gz, 0, none⟩) Rs.length cz) ∧ s1.length ≤ 20000 ∧ Rst (t0 :: ((valsL (vOf Vs) P D P.length).drop 1 ++ (tCol :: ((rw_ i).map ftF ++ tSemi :: rest)))) s1 ∧ ByS u6 g z1 from ⟨a1, a2, a3, HK.out.2.2.2.trans a4⟩)
                clear a1 a2 a3 a4
                go_wp2_with fail
                refine (look_tok g s1 _ _ _ z1 HK.out.1 HK.out.2.1 HK.out.2.2.1).mono ?_
                rintro e z2 ⟨rfl, s2, a1, a2, a3, a4⟩
                replace HO := hid (HO.out.keep (a4.keep HK.out.1 (by decide)) (a4.keep HK.out.1 (by decide)))
                rw [HR2.out] at a3
                replace HK := hid (show RBx z2 g s2 (.slice a nv c) (.slice (some ⟨gy, 0, none⟩) Ls.length cb) (.slice (some ⟨gz, 0, none⟩) Rs.length cz) ∧ s2.length ≤ 20000 ∧ Rst (valsL (vOf Vs) P D P.length ++ (tCol :: ((rw_ i).map ftF ++ tSemi :: rest))) s2 ∧ ByS u6 g z2 from ⟨a1, a2, a3, HK.out.2.2.2.trans a4⟩)
                have HTI : Hid (∀ U, ByS z2 g U → IntS U dq (iL P)) := fun U hU => by
                  have h2 : RwI U w.heap.size (.slice dq P.length cq) (iL P) := owns_keep T6.out ((HK.out.2.2.2.trans hU).keep E6.out.box (by decide))
                  obtain ⟨d2, c2, e2, h3⟩ := h2.ints
                  injection e2 with e3 _ _
                  rw [e3]
                  exact h3
                have HPLC := place_tok (ts := tCol :: ((rw_ i).map ftF ++ tSemi :: rest)) g v i s2 _ _ _ Vs L2 Rs P D dq cq z2 (E6.out.by HK.out.2.2.2 HK.out.1 HK.out.2.1) HV.out HN8.out HVL.out (HL2.out _) HTI.out HK.out.2.2.1 HF.out.lt HF.out.nd HF.out.few hdl'.out hdlt'.out HIXD.out
                have HPL := hid HPLC
                clear a1 a2 a3 a4 HPLC HTI HR2 HIXD hdl' hdlt'
                go_wp2_with fail
                clear hel hbr
                refine HPL.out.mono ?_
                rintro e z3 ⟨s3, rfl, a1, a2, a3, a4⟩
                replace HO := hid (HO.out.keep (a4.keep HK.out.1 (by decide)) (a4.keep HK.out.1 (by decide)))
                replace HK := hid (show RBx z3 g s3 (.slice a nv c) (.slice (some ⟨gy, 0, none⟩) Ls.length cb) (.slice (some ⟨gz, 0, none⟩) Rs.length cz) ∧ s3.length ≤ 20000 ∧ Rst (tCol :: ((rw_ i).map ftF ++ tSemi :: rest)) s3 ∧ ByS u6 g z3 from ⟨a1, a2, a3, HK.out.2.2.2.trans a4⟩)
                clear a1 a2 a3 a4 HPL
                go_wp2_with fail
                refine (sign_tok g s3 _ _ _ z3 HK.out.1 HK.out.2.1 HK.out.2.2.1).mono ?_
                rintro e z4 ⟨rfl, s4, a1, a2, a3, a4⟩
                replace HO := hid (HO.out.keep (a4.keep HK.out.1 (by decide)) (a4.keep HK.out.1 (by decide)))
                replace HK := hid (show RBx z4 g s4 (.slice a nv c) (.slice (some ⟨gy, 0, none⟩) Ls.length cb) (.slice (some ⟨gz, 0, none⟩) Rs.length cz) ∧ s4.length ≤ 20000 ∧ Rst ((rw_ i).map ftF ++ tSemi :: rest) s4 ∧ ByS u6 g z4 from ⟨a1, a2, a3, HK.out.2.2.2.trans a4⟩)
                clear a1 a2 a3 a4
                have k0 := rst_cell HO.out hlt
                have q0 : ∀ (w : World) (a : Option Addr) (n c n' c' : Nat), (binOp .neq 51 (.slice a n c) (.slice none n' c')).run Tryz.prog w = .ok (.bool (!a.isNone)) w := fun w a n c n' c' => run_neq_slice_nil_any w _ _ a n c n' c' Tryz.underlying51
                go_wp2_with fail
                refine (giveUpIf_no _ _ _).mono ?_
                rintro e z5 ⟨rfl, hw⟩
                obtain rfl := hw.symm
                clear k0 q0
                have hmz : z4.cell? ⟨0, 0, none⟩ = some (.int .i64 m) := by
                  have m6 := (F6.out.cell (p := ⟨0, 0, none⟩) hmg).trans HM.out
                  exact (HK.out.2.2.2.cell (p := ⟨0, 0, none⟩) (Nat.lt_trans hmg E6.out.box.lt) (Nat.ne_of_lt hmg)).trans m6
                have hrr := HF.out.r1 i hlt
                have HROW := hid (row_tok g v m s4 _ _ _ Vs L2 Rs (rw_ i) z4 (E6.out.by HK.out.2.2.2 HK.out.1 HK.out.2.1) hvV (HF.out.rl i hlt hvV) hrr.2 hrr.1 HK.out.2.2.1 (HF.out.nu i hlt) (HF.out.rb i hlt) hmz (Nat.ne_of_lt hmg))
                clear hmz hrr
                go_wp2_with fail
                refine HROW.out.mono ?_
                rintro e z6 ⟨q6, s6, rfl, a0, a1, a2, a3, a4⟩
                obtain ⟨dq6, cq6, e6, -⟩ := owns_slice a0
                rw [List.length_map] at e6
                subst e6
                have hgz : Gb ≤ z4.heap.size := by rw [← HGB.out]; exact HK.out.2.2.2.size
                replace HO := hid (HO.out.keep (a4.keep HK.out.1 (by decide)) (a4.keep HK.out.1 (by decide)))
                have HQ6 := hid (show RwF z6 Gb _ _ from owns_lower a0 hgz)
                replace HK := hid (show RBx z6 g s6 (.slice a nv c) (.slice (some ⟨gy, 0, none⟩) Ls.length cb) (.slice (some ⟨gz, 0, none⟩) Rs.length cz) ∧ s6.length ≤ 20000 ∧ Rst (rest) s6 ∧ ByS u6 g z6 from ⟨a1, a2, a3, HK.out.2.2.2.trans a4⟩)
                have hset := rst_set6 (qv := qv) HO.out HQ6.out
                have k1 := rst_cell HO.out hlt
                have f1 := hset.2
                have HO2 := hid hset.1
                have hne : g ≠ Gb := by have := HGB.out; have := E6.out.box.lt; omega
                have K6 := hid (show RBx (z6.setCell ⟨Gb, i, none⟩ (.slice dq6 (rw_ i).length cq6)) g s6 (.slice a nv c) (.slice (some ⟨gy, 0, none⟩) Ls.length cb) (.slice (some ⟨gz, 0, none⟩) Rs.length cz) ∧ s6.length ≤ 20000 ∧ Rst (((List.range cn).drop (i + 1)).flatMap (famT Vs P rw_) ++ tShut :: ts) s6 ∧ ByS u6 g (z6.setCell ⟨Gb, i, none⟩ (.slice dq6 (rw_ i).length cq6)) from ⟨HK.out.1.far hne i _, HK.out.2.1, by rw [HREST.out]; exact HK.out.2.2.1, HK.out.2.2.2.put Gb i _ (by rw [HGB.out]; exact Nat.le_refl _)⟩)
                clear a0 a1 a2 a3 a4 hgz hset hne HO HK HQ6 HROW HREST
                go_wp2
                go_roundg (cn - (i + 1))
                case measure => omega
                case rel => exact ⟨i + 1, s6, _, by omega, HO2, K6⟩
              · obtain rfl : i = cn := by omega
                have hk1 := HK.out.2.2.1
                rw [show (List.range i).drop i = [] from List.drop_eq_nil_of_le (by simp)] at hk1
                replace HK := hid (show RBx wr g s' (.slice a nv c) (.slice (some ⟨gy, 0, none⟩) Ls.length cb) (.slice (some ⟨gz, 0, none⟩) Rs.length cz) ∧ s'.length ≤ 20000 ∧ Rst (tShut :: ts) s' ∧ ByS u6 g wr from ⟨HK.out.1, HK.out.2.1, hk1, HK.out.2.2.2⟩)
                have hs1 : (tShut.toList == [101, 108, 115, 101]) = false := by rw [toList_data]; rfl
                have hs2 : (tShut.toList == [125]) = true := by rw [toList_data]; rfl
                clear hk1
                go_wp2_with fail
                refine (look_tok g s' _ _ _ wr HK.out.1 HK.out.2.1 HK.out.2.2.1).mono ?_
                rintro e z1 ⟨rfl, s1, a1, a2, a3, a4⟩
                replace HO := hid (HO.out.keep (a4.keep HK.out.1 (by decide)) (a4.keep HK.out.1 (by decide)))
                replace HK := hid (show RBx z1 g s1 (.slice a nv c) (.slice (some ⟨gy, 0, none⟩) Ls.length cb) (.slice (some ⟨gz, 0, none⟩) Rs.length cz) ∧ s1.length ≤ 20000 ∧ Rst (tShut :: ts) s1 ∧ ByS u6 g z1 from ⟨a1, a2, a3, HK.out.2.2.2.trans a4⟩)
                clear a1 a2 a3 a4
                go_wp2_with fail
                refine (look_tok g s1 _ _ _ z1 HK.out.1 HK.out.2.1 HK.out.2.2.1).mono ?_
                rintro e z2 ⟨rfl, s2, a1, a2, a3, a4⟩
                replace HO := hid (HO.out.keep (a4.keep HK.out.1 (by decide)) (a4.keep HK.out.1 (by decide)))
                replace HK := hid (show RBx z2 g s2 (.slice a nv c) (.slice (some ⟨gy, 0, none⟩) Ls.length cb) (.slice (some ⟨gz, 0, none⟩) Rs.length cz) ∧ s2.length ≤ 20000 ∧ Rst (tShut :: ts) s2 ∧ ByS u6 g z2 from ⟨a1, a2, a3, HK.out.2.2.2.trans a4⟩)
                clear a1 a2 a3 a4
                go_wp2_with fail
                refine (look_tok g s2 _ _ _ z2 HK.out.1 HK.out.2.1 HK.out.2.2.1).mono ?_
                rintro e z3 ⟨rfl, s3, a1, a2, a3, a4⟩
                replace HO := hid (HO.out.keep (a4.keep HK.out.1 (by decide)) (a4.keep HK.out.1 (by decide)))
                replace HK := hid (show RBx z3 g s3 (.slice a nv c) (.slice (some ⟨gy, 0, none⟩) Ls.length cb) (.slice (some ⟨gz, 0, none⟩) Rs.length cz) ∧ s3.length ≤ 20000 ∧ Rst (tShut :: ts) s3 ∧ ByS u6 g z3 from ⟨a1, a2, a3, HK.out.2.2.2.trans a4⟩)
                clear a1 a2 a3 a4
                go_wp2_with fail
                refine (sign_tok (t := tShut) g s3 _ _ _ z3 HK.out.1 HK.out.2.1 HK.out.2.2.1).mono ?_
                rintro e z4 ⟨rfl, s9, a1, a2, a3, a4⟩
                replace HO := hid (HO.out.keep (a4.keep HK.out.1 (by decide)) (a4.keep HK.out.1 (by decide)))
                replace HK := hid (show RBx z4 g s9 (.slice a nv c) (.slice (some ⟨gy, 0, none⟩) Ls.length cb) (.slice (some ⟨gz, 0, none⟩) Rs.length cz) ∧ s9.length ≤ 20000 ∧ Rst (ts) s9 ∧ ByS u6 g z4 from ⟨a1, a2, a3, HK.out.2.2.2.trans a4⟩)
                clear a1 a2 a3 a4 hs1 hs2
                have hrl : ∀ l ∈ (List.range i).map (fun k => (rw_ k).map lowF), 1 ≤ l.length ∧ l.length ≤ 4 := fun l hl => by
                  obtain ⟨k, hk, rfl⟩ := List.mem_map.1 hl
                  rw [List.length_map]
                  exact HF.out.r1 k (List.mem_range.1 hk)
                have hfs := rst_fs HO.out
                have HLK := hid (lacks_no Gb i i _ z4 hfs (by simp) (by omega) hrl)
                go_wp2_with fail
                refine HLK.out.mono ?_
                rintro e z5 ⟨rfl, hw⟩
                obtain rfl := hw.symm
                clear HLK
                go_wp2_with fail
                refine (giveUpIf_no _ _ _).mono ?_
                rintro e z5 ⟨rfl, hw⟩
                obtain rfl := hw.symm
                have hfc := HF.out.c1
                have HCON : Hid (∀ U, FsS U (some ⟨Gb, 0, none⟩) ((List.range i).map fun k => (rw_ k).map lowF) → Calls Tryz.prog 133 #[.slice (some ⟨Gb, 0, none⟩) i i] U fun e w' => ∃ v, e = .returned v ∧ RwF w' U.heap.size v ((List.range i).map fun k => (rw_ k).map lowF).flatten ∧ Below U.heap.size U w') := fun U hU => slConcatFr_any Gb i i _ U hU (by simp) (by omega) hfc hrl
                have HPOS : Hid (0 < ((List.range i).map fun k => (rw_ k).map lowF).flatten.length) := by
                  show 0 < _
                  have h1 := hrl ((rw_ 0).map lowF) (List.mem_map.2 ⟨0, List.mem_range.2 (by omega), rfl⟩)
                  have h2 : ((List.range i).map fun k => (rw_ k).map lowF) = ((rw_ 0).map lowF) :: ((List.range' 1 (i - 1)).map fun k => (rw_ k).map lowF) := by
                    rw [show i = (i - 1) + 1 by omega, List.range_eq_range', List.range'_succ]
                    simp
                  rw [h2, List.flatten_cons, List.length_append]
                  omega
                have E7a := hid (E6.out.by HK.out.2.2.2 HK.out.1 HK.out.2.1)
                have F7a := hid (F6.out.trans (HK.out.2.2.2.low (Nat.le_of_lt E6.out.box.lt)))
                have TS9 := hid HK.out.2.2.1
                have HFSa := hid hfs
                clear hfs hrl HK HO E6 F6 T6 hfc
                go_upto_region 13 with fail
                have hbD : Below z4.heap.size z4 z4.drew := (Below.refl _ z4).drew
                have E7 := hid (E7a.out.below hbD)
                have F7 : Hid (Below g w z4.drew) := F7a.out.drew
                have HFS := hid (HFSa.out.below hbD)
                clear hbD E7a F7a HFSa
                refine wp_region_held_drew (S := fun u => u.cell? ⟨g, 3, none⟩ = some (.slice (some ⟨gz, 0, none⟩) Rs.length cz)) (by kernel_rfl) E7.out.box.cells.2.2.2 (fun hSd => ?_)
                generalize z4.drew = z1b at *
                refine wpAnyH_take (i := 0) (oi := _) (v := (.pointer (some ⟨g, 0, none⟩))) rfl (by kernel_rfl) (by kernel_rfl) (by kernel_rfl) (fun _ _ _ h => h) (Or.inl ⟨by rfl, ?_⟩) (by assumption) ?_
                · intro u' hSu
                  (try simp only [List.getElem_toArray, List.getElem_cons_zero])
                  go_simp
                (try simp only [List.getElem_toArray, List.getElem_cons_zero])
                (try simp only [Act.put, List.setIfInBounds_toArray, List.set_cons_zero, List.set_cons_succ])
                refine wpAnyH_take (i := 1) (oi := _) (v := (.pointer (some ⟨g, 0, none⟩))) rfl (by kernel_rfl) (by kernel_rfl) (by kernel_rfl) (fun _ _ _ h => h) (Or.inl ⟨by rfl, ?_⟩) (by assumption) ?_
                · intro u' hSu
                  (try simp only [List.getElem_toArray, List.getElem_cons_zero, List.getElem_cons_succ])
                  go_simp
                (try simp only [List.getElem_toArray, List.getElem_cons_zero, List.getElem_cons_succ])
                (try simp only [Act.put, List.setIfInBounds_toArray, List.set_cons_zero, List.set_cons_succ])
                refine wpAnyH_take (i := 2) (oi := _) (v := (.pointer (some ⟨g, 1, none⟩))) rfl (by kernel_rfl) (by kernel_rfl) (by kernel_rfl) (fun _ _ _ h => h) (Or.inl ⟨by rfl, ?_⟩) (by assumption) ?_
                · intro u' hSu
                  (try simp only [List.getElem_toArray, List.getElem_cons_zero, List.getElem_cons_succ])
                  go_simp
                (try simp only [List.getElem_toArray, List.getElem_cons_zero, List.getElem_cons_succ])
                (try simp only [Act.put, List.setIfInBounds_toArray, List.set_cons_zero, List.set_cons_succ])
                refine wpAnyH_take (i := 3) (oi := _) (v := (.pointer (some ⟨g, 3, none⟩))) rfl (by kernel_rfl) (by kernel_rfl) (by kernel_rfl) (fun _ _ _ h => h) (Or.inl ⟨by rfl, ?_⟩) (by assumption) ?_
                · intro u' hSu
                  (try simp only [List.getElem_toArray, List.getElem_cons_zero, List.getElem_cons_succ])
                  go_simp
                (try simp only [List.getElem_toArray, List.getElem_cons_zero, List.getElem_cons_succ])
                (try simp only [Act.put, List.setIfInBounds_toArray, List.set_cons_zero, List.set_cons_succ])
                refine wpAnyH_take (i := 4) (oi := _) (v := (.slice (some ⟨gz, 0, none⟩) Rs.length cz)) rfl (by kernel_rfl) (by kernel_rfl) (by kernel_rfl) (fun _ _ _ h => h) (Or.inl ⟨by rfl, ?_⟩) (by assumption) ?_
                · intro u' hSu
                  (try simp only [List.getElem_toArray, List.getElem_cons_zero, List.getElem_cons_succ])
                  have k9 := hSu
                  go_simp
                (try simp only [List.getElem_toArray, List.getElem_cons_zero, List.getElem_cons_succ])
                (try simp only [Act.put, List.setIfInBounds_toArray, List.set_cons_zero, List.set_cons_succ])
                refine wpAnyH_take (i := 5) (oi := _) (v := (.int .i64 (v : Nat))) rfl (by kernel_rfl) (by kernel_rfl) (by kernel_rfl) (fun _ _ _ h => h) (Or.inl ⟨by rfl, ?_⟩) (by assumption) ?_
                · intro u' hSu
                  (try simp only [List.getElem_toArray, List.getElem_cons_zero, List.getElem_cons_succ])
                  go_simp
                (try simp only [List.getElem_toArray, List.getElem_cons_zero, List.getElem_cons_succ])
                (try simp only [Act.put, List.setIfInBounds_toArray, List.set_cons_zero, List.set_cons_succ])
                refine wpAnyH_take (i := 6) (oi := _) (v := (.slice (some ⟨Gb, 0, none⟩) i i)) rfl (by kernel_rfl) (by kernel_rfl) (by kernel_rfl) (fun _ _ _ h => h) (Or.inl ⟨by rfl, ?_⟩) (by assumption) ?_
                · intro u' hSu
                  (try simp only [List.getElem_toArray, List.getElem_cons_zero, List.getElem_cons_succ])
                  go_simp
                (try simp only [List.getElem_toArray, List.getElem_cons_zero, List.getElem_cons_succ])
                (try simp only [Act.put, List.setIfInBounds_toArray, List.set_cons_zero, List.set_cons_succ])
                refine wpAnyH_ready (rs := [7]) (by kernel_rfl) (by simp) (AllReadyH.cons rfl ?_ (AllReadyH.nil))
                · intro K' hK'
                  (try simp only [List.getElem_toArray, List.getElem_cons_zero, List.getElem_cons_succ])
                  go_simp
                  refine (HCON.out _ HFS.out).mono ?_
                  rintro e z2 ⟨qc, rfl, a7, b7⟩
                  have hp := HPOS.out
                  generalize hLF : ((List.range i).map fun k => (rw_ k).map lowF).flatten = LF at a7 hp
                  obtain ⟨gc, cc, e7⟩ := owns_some a7 hp
                  subst e7
                  have E8 := hid (E7.out.below b7)
                  have F8 := hid (F7.out.trans (b7.mono (Nat.le_of_lt E7.out.box.lt)))
                  have Q8 := hid (owns_lower a7 (Nat.le_of_lt E7.out.box.lt) : RwF z2 g (.slice (some ⟨gc, 0, none⟩) LF.length cc) LF)
                  have HLF := hid hLF
                  clear hLF hp
                  clear a7 b7 E7 F7
                  refine hK'.out _ _ E8.out.box.cells.2.2.2 (fun hSe => ?_)
                  clear hK' K' hSd
                  obtain ⟨gq, eq, hgq, k0⟩ := owns_cell E8.out.rs.1 (j := v) (by simpa using hvR)
                  obtain ⟨rD, rB, rz⟩ := E8.out.setR (v := v) Q8.out
                  have HRD9 := hid rD
                  have HRB9 := hid (F8.out.trans rB)
                  cases eq
                  clear rD rB Q8 F8
                  (try simp only [List.getElem_toArray, List.getElem_cons_zero, List.getElem_cons_succ])
                  (try simp only [Act.put, List.setIfInBounds_toArray, List.set_cons_zero, List.set_cons_succ])
                  refine wpAnyH_take (i := 8) (oi := _) (v := (.pointer (some ⟨gz, v, none⟩))) rfl (by kernel_rfl) (by kernel_rfl) (by kernel_rfl) (fun _ _ _ h => h) (Or.inl ⟨by rfl, ?_⟩) (by assumption) ?_
                  · intro u' hSu
                    (try simp only [List.getElem_toArray, List.getElem_cons_zero, List.getElem_cons_succ])
                    go_simp
                  (try simp only [List.getElem_toArray, List.getElem_cons_zero, List.getElem_cons_succ])
                  (try simp only [Act.put, List.setIfInBounds_toArray, List.set_cons_zero, List.set_cons_succ])
                  refine wpAnyH_ready (rs := [9]) (by kernel_rfl) (by simp) (AllReadyH.cons rfl ?_ (AllReadyH.nil))
                  · intro K' hK'
                    (try simp only [List.getElem_toArray, List.getElem_cons_zero, List.getElem_cons_succ])
                    go_simp
                    refine hK'.out _ _ HRD9.out.box.cells.2.2.2 (fun hSf => ?_)
                    clear hK' K' hSe k0 rz E8 hgq
                    try simp only [List.getElem_toArray, List.getElem_cons_zero, List.getElem_cons_succ]
                    try simp only [Act.put, List.setIfInBounds_toArray, List.set_cons_zero, List.set_cons_succ]
                    refine wpAnyH_done (by kernel_rfl) ?_ _
                    clear hSf
                    go_wp2
                    go_end0
                    have hr9 := HRD9.out
                    rw [← HNV.out] at hr9
                    rw [← HEL2.out] at hr9
                    rw [HLF.out]
                    exact ⟨rfl, s9, _, _, hr9, TS9.out, HRB9.out⟩
end Go.Proofs.YtojidhnkpeiimaaGreatDoor
