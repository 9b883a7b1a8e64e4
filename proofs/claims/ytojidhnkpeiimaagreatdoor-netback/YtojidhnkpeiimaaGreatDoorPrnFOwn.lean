/- familyText of package net. -/
import Derived.Test.YtojidhnkpeiimaaGreatDoorBakTToPrnD
import Derived.Test.YtojidhnkpeiimaaGreatDoorMadFToMarkA
import Derived.Shelf.Strings.BuilderK
namespace Go.Proofs.YtojidhnkpeiimaaGreatDoor
open Go.RowKit Go.Shelf
theorem builderF_below {T e : TypeId} {Bb b : Nat} {bs : List Value} {w w' : World} (h : Lib.IsBuilderF T e Bb b bs w) (hb : Below w.heap.size w w') : Lib.IsBuilderF T e Bb b bs w' := by
  have one : ∀ p, Lib.BuilderAtF T e Bb b p bs w → Lib.BuilderAtF T e Bb b p bs w' := by
    rintro p h
    have hlt := h.lt
    obtain ⟨hB, v, hbk, hown, hne⟩ := h
    refine ⟨hB, v, (hb.block b hlt).trans hbk, ?_, hne⟩
    refine ⟨hown.1, ?_⟩
    rcases hown.2 with h' | ⟨g, cap, cur, fz, r1, r2, r3, r4⟩
    · exact .inl h'
    · exact .inr ⟨g, cap, cur, fz, r1, r2, (hb.block g (Array.getElem?_eq_some_iff.1 r3).1).trans r3, r4⟩
  rcases h with h | h
  · exact .inl (one _ h)
  · exact .inr (one _ h)
theorem write_k (Bb b : Nat) (l : List UInt8) (s : ByteArray) (w : World) (h : Lib.IsBuilderF 103 5 Bb b (Lib.byteCells l) w) (hlen : l.length + s.size ≤ 140737488355328) (hBw : Bb ≤ w.heap.size) :
    Calls Tryz.prog 55 #[.pointer (some ⟨b, 0, none⟩), .string s] w fun e w' => e = .returned (.tuple #[.int .i64 s.size, .nilIface]) ∧ Lib.IsBuilderF 103 5 Bb b (Lib.byteCells (l ++ bl s)) w' ∧ Below Bb w w' ∧ Lib.OthersKept 5 (some b) w w' := by
  refine (Any.Builder_WriteString_k (ρ := Tryz.lays105_ren) { Tryz.lays105 with } Tryz.Builder_Extra_105 Bb b (Lib.byteCells l) s w h (by simpa [Lib.byteCells] using hlen) hBw).mono ?_
  rintro e w' ⟨rfl, h1, h2, h3⟩
  refine ⟨rfl, .inr ?_, h2, h3⟩
  have e1 : Lib.byteCells (l ++ bl s) = Lib.byteCells l ++ Lib.strCells s := by simp [Lib.byteCells, Lib.strCells, bl]
  rw [e1]; exact h1
theorem row_others {w w' : World} {b g : Nat} {l : List Nat} (h : RowI w g l) (hk : Lib.OthersKept 5 (some b) w w') (hg : g ≠ b) : RowI w' g l :=
  hk g _ h (fun e => hg (Option.some.inj e)) (fun c fz e => by
    injection e with _ e2 _
    exact absurd e2 (by decide))
theorem row_cell2 {w w' : World} {g j : Nat} {l : List Nat} (h : RowI w' g l) (h' : RowI w g l) : w'.cell? ⟨g, j, none⟩ = w.cell? ⟨g, j, none⟩ := by
  rw [cell_of_row w' g j _ _ (0, 0) h, cell_of_row w g j _ _ (0, 0) h']
def fmN (V : List Vr) (L : List (List Int)) (v j : Nat) : List UInt8 := bl (nmV V v) ++ [32, 124] ++ spL (((toN (L.getD v [])).take j).map (nmV V))
def fmR (V : List Vr) (L : List (List Int)) (R : List (List Fr)) (v i : Nat) : List UInt8 := headL V L v ++ (List.range i).flatMap (blockL V L R v)
def fmV (V : List Vr) (L : List (List Int)) (R : List (List Fr)) (v i j : Nat) : List UInt8 := fmR V L R v i ++ spL (valsL V (toN (L.getD v [])) (digs (sizesN V) (toN (L.getD v [])) i) j)
theorem fmN_zero (V : List Vr) (L : List (List Int)) (v : Nat) : [] ++ bl (nmV V v ++ ⟨#[32, 124]⟩) = fmN V L v 0 := by
  rw [bl_app, fmN, List.take_zero]
  simp [spL, bl]
theorem fmN_succ (V : List Vr) (L : List (List Int)) {v j : Nat} (h : j < (toN (L.getD v [])).length) : fmN V L v j ++ bl (⟨#[32]⟩ ++ nmV V (toN (L.getD v []))[j]) = fmN V L v (j + 1) := by
  rw [bl_app, fmN, fmN, List.take_succ_eq_append_getElem h, List.map_append, List.map_cons, List.map_nil, spL_snoc]
  simp [bl]
theorem fmR_zero (V : List Vr) (L : List (List Int)) (R : List (List Fr)) (v : Nat) : fmN V L v (L.getD v []).length ++ bl ⟨#[32, 123, 10]⟩ = fmR V L R v 0 := by
  rw [fmN, fmR, headL, List.take_of_length_le (by rw [toN_length]; exact Nat.le_refl _)]
  simp [bl]
theorem fmV_zero (V : List Vr) (L : List (List Int)) (R : List (List Fr)) (v i : Nat) : fmV V L R v i 0 = fmR V L R v i := by simp [fmV, valsL, spL]
theorem fmV_succ (V : List Vr) (L : List (List Int)) (R : List (List Fr)) (v i j : Nat) : fmV V L R v i j ++ bl (⟨#[32]⟩ ++ vlV V ((toN (L.getD v [])).getD j 0) ((digs (sizesN V) (toN (L.getD v [])) i).getD j 0)) = fmV V L R v i (j + 1) := by
  rw [bl_app, fmV, fmV, valsL_succ, spL_snoc]
  simp [bl]
theorem fmR_succ (V : List Vr) (L : List (List Int)) (R : List (List Fr)) (v i : Nat) (h : chunkF (R.getD v []) (sz (sizesN V) v) i ≠ []) : fmV V L R v i (L.getD v []).length ++ bl (⟨#[32, 58, 32]⟩ ++ tx (rowP (chunkF (R.getD v []) (sz (sizesN V) v) i))) = fmR V L R v (i + 1) := by
  have e := rowP_eq h
  rw [bl_app, bl_tx, show bl ⟨#[32, 58, 32]⟩ = [32, 58, 32] from rfl, e, fmV, fmR, fmR, flat_range, blockL]
  simp
theorem fam_end (V : List Vr) (L : List (List Int)) (R : List (List Fr)) {v : Nat} (h : (L.getD v []).length ≠ 0) : fmR V L R v (cnt (sizesN V) (toN (L.getD v []))) ++ bl ⟨#[125, 10]⟩ = varL V L R v := by
  rw [fmR, varL, if_neg h]
  simp [bl]
theorem fm_le {V : List Vr} {L : List (List Int)} {R : List (List Fr)} (hs : NSm V L R) (hok : NOK V L R) {v : Nat} (hv : v < V.length) : (∀ j, (fmN V L v j).length ≤ 60000) ∧ (∀ i, i ≤ cnt (sizesN V) (toN (L.getD v [])) → (fmR V L R v i).length ≤ 40000000000 ∧ ∀ j, j ≤ (L.getD v []).length → (fmV V L R v i j).length ≤ 40000100000) := by
  have hs4 : ∀ u, sz (sizesN V) u ≤ 4 := fun u => by have := hok.fine.sz_le u; rwa [toN_iL] at this
  have h8 := hok.n8
  have hvL : v < L.length := by rw [hok.len]; exact hv
  have hp8 : (L.getD v []).length ≤ 8 := by rw [getDI hvL]; have := (hok.up v hvL).length; omega
  have hc : cnt (sizesN V) (toN (L.getD v [])) ≤ 65536 := cnt_small hs4 (by rw [toN_length]; exact hp8)
  refine ⟨fun j => ?_, fun i hi => ?_⟩
  · have h2 := nm_size hs.vars v
    have h3 := nms_le hs.vars ((toN (L.getD v [])).take j)
    rw [List.length_take, toN_length] at h3
    simp only [fmN, List.length_append, List.length_cons, List.length_nil, bl_length]
    omega
  · have h1 := flat_le (l := List.range i) (f := blockL V L R v) (m := 500000) fun x _ => block_le hs (by rw [hok.lenR]; exact hv) hp8 (hs4 v)
    rw [List.length_range] at h1
    have h2 := head_le (R := R) hs (v := v) hp8
    have h3 : (fmR V L R v i).length ≤ 40000000000 := by rw [fmR, List.length_append]; omega
    refine ⟨h3, fun j hj => ?_⟩
    have h4 := vals_le hs.vars (toN (L.getD v [])) (digs (sizesN V) (toN (L.getD v [])) i) j
    rw [fmV, List.length_append]
    omega
set_option maxRecDepth 100000 in
set_option maxHeartbeats 8000000 in
theorem familyText_any (a b c : Option Addr) (ca cb cc v : Nat) (V : List Vr) (L : List (List Int)) (R : List (List Fr)) (w : World) (h : NetI w a b c V L R) (hs : NSm V L R) (h0 : netE V L R = 0) (hv : v < V.length) (hp : (L.getD v []).length ≠ 0) (htab : Lib.TabIs Tryz.prog w "internal/strconv.uint64pow10" .u64 Lib.pow10Tab) :
    Calls Tryz.prog 35 #[.agg #[.slice a V.length ca, .slice b L.length cb, .slice c R.length cc], .int .i64 (v : Nat)] w fun e w' => e = .returned (.string (tx (varL V L R v))) ∧ Below w.heap.size w w' := by
  have hok := netE_ok h0
  have hvL : v < L.length := by rw [hok.len]; exact hv
  have hvR : v < R.length := by rw [hok.lenR]; exact hv
  have eL := getDI hvL
  have eR := getDF hvR
  have hup := hok.up v hvL
  have hn8 := hok.n8
  have hV5 := hs.vars.1
  have hfi := hok.fine
  have hps : Pos (sizesN V) := by have := hfi.pos; rwa [toN_iL] at this
  have hs4 : ∀ u, sz (sizesN V) u ≤ 4 := fun u => by have := hfi.sz_le u; rwa [toN_iL] at this
  have hsl : (iL (sizesN V)).length = V.length := by rw [iL_length, sizesN_length]
  have hp8 : L[v].length ≤ 8 := by have := hup.length; omega
  obtain ⟨hfN, hfR⟩ := fm_le hs hok hv
  have HTB := hid htab
  have HI := hid h
  have HSM := hid hs
  have HUE : Hid (∀ j (h : j < L[v].length), ∃ u : Nat, L[v][j] = (u : Int) ∧ u < V.length ∧ (toN L[v])[j]? = some u ∧ fmN V L v j ++ bl (⟨#[32]⟩ ++ nmV V u) = fmN V L v (j + 1)) := fun j h => by
    have h1 := hup.each j h
    refine ⟨L[v][j].toNat, by omega, by omega, by simp [toN, h], ?_⟩
    have h2 := fmN_succ V L (v := v) (j := j) (by rw [eL, toN_length]; exact h)
    simp only [eL] at h2
    rwa [toN_get h] at h2
  have HWH : Hid (∀ (U : World) (G K : Nat) (bp : Option Addr) (cp : Nat), K < cnt (sizesN V) (toN L[v]) → RowI U G (sizesN V) → IntS U bp L[v] → Calls Tryz.prog 58 #[.slice (some ⟨G, 0, none⟩) V.length V.length, .slice bp L[v].length cp, .int .i64 (K : Nat)] U fun e w' => ∃ (g : Nat) (cc : Nat), e = .returned (.tuple #[.slice (some ⟨g, 0, none⟩) L[v].length cc, .int .i64 0]) ∧ U.heap.size ≤ g ∧ RowI w' g (digs (sizesN V) (toN L[v]) K) ∧ Below U.heap.size U w') := fun U G K bp cp hK h1 h2 => by
    have := tWhere_own (some ⟨G, 0, none⟩) bp V.length cp K (iL (sizesN V)) L[v] U h1.ints h2 hfi (by rw [hsl]; exact hup) (by rw [toN_iL]; exact hK)
    rwa [hsl, toN_iL] at this
  have hN : cnt (sizesN V) (toN L[v]) ≤ 65536 := cnt_small hs4 (by rw [toN_length]; exact hp8)
  have hsz := sizesN_get hv
  have hk : sz (sizesN V) v = V[v].2.length := by rw [sz, hsz]; rfl
  have hk4 := hs4 v
  have hk1 := sz_pos hps v
  have HLN : Hid (R[v].length = cnt (sizesN V) (toN L[v]) * sz (sizesN V) v) := hok.rows v hvL hvR
  have HDG : Hid (∀ K j (hK : K < cnt (sizesN V) (toN L[v])) (h : j < L[v].length) (u : Nat), (toN L[v])[j]? = some u → ∃ x : Nat, (digs (sizesN V) (toN L[v]) K)[j]? = some x ∧ x < sz (sizesN V) u ∧ fmV V L R v K j ++ bl (⟨#[32]⟩ ++ vlV V u x) = fmV V L R v K (j + 1)) := fun K j hK h u hu => by
    have hj : j < (toN L[v]).length := by rw [toN_length]; exact h
    have hd := digs_lt hps (toN L[v]) K j hK hj
    have hjd : j < (digs (sizesN V) (toN L[v]) K).length := by rw [digs_length]; exact hj
    rw [List.getElem?_eq_getElem hj] at hu
    have hu' := Option.some.inj hu
    rw [hu'] at hd
    refine ⟨(digs (sizesN V) (toN L[v]) K)[j], List.getElem?_eq_getElem hjd, hd, ?_⟩
    have h3 := fmV_succ V L R v K j
    rw [eL, List.getD_eq_getElem?_getD, List.getElem?_eq_getElem hj, List.getD_eq_getElem?_getD, List.getElem?_eq_getElem hjd] at h3
    simp only [Option.getD_some] at h3
    rwa [hu'] at h3
  have HDL : Hid (∀ K, (digs (sizesN V) (toN L[v]) K).length = L[v].length) := fun K => by rw [digs_length, toN_length]
  have HNZ : Hid ([] ++ bl (V[v].1 ++ ⟨#[32, 124]⟩) = fmN V L v 0) := by
    show _ = _
    rw [← nmV_at hv]
    exact fmN_zero V L v
  have HRZ : Hid (fmN V L v L[v].length ++ bl ⟨#[32, 123, 10]⟩ = fmR V L R v 0) := by
    show _ = _
    have := fmR_zero V L R v
    rwa [eL] at this
  have HRS : Hid (∀ i, chunkF R[v] (sz (sizesN V) v) i ≠ [] → fmV V L R v i L[v].length ++ bl (⟨#[32, 58, 32]⟩ ++ tx (rowP (chunkF R[v] (sz (sizesN V) v) i))) = fmR V L R v (i + 1)) := fun i hi => by
    have := fmR_succ V L R v i (by rw [eR]; exact hi)
    rwa [eL, eR] at this
  have HSF : Hid (fmR V L R v (cnt (sizesN V) (toN L[v])) ++ bl ⟨#[125, 10]⟩ = varL V L R v) := by
    show _ = _
    have := fam_end V L R (v := v) hp
    rwa [eL] at this
  have HFN := hid hfN
  have HFR0 : Hid (∀ i, i ≤ cnt (sizesN V) (toN L[v]) → (fmR V L R v i).length ≤ 40000000000 ∧ ∀ j, j ≤ L[v].length → (fmV V L R v i j).length ≤ 40000100000) := by
    show ∀ i, _
    have := hfR
    rwa [eL] at this
  have hrs := hs.rows.2 _ (List.getElem_mem hvR)
  have hns := (hs.vars.2 _ (List.getElem_mem hv)).1
  obtain ⟨g, o, b', c', rfl, hg, d0, d1, -, -⟩ := h.vars v hv
  obtain ⟨gp, op_, bp, cp, rfl, hgp, p0, hpi⟩ := h.pars v hvL
  obtain ⟨gr, or_, br, cr, rfl, hgr, r0, hrf, hrc⟩ := h.rows v hvR
  have HD0 := hid d0
  have HP0 := hid p0
  have HR0 := hid r0
  have HPI := hid hpi
  have HFR := hid hrf
  have hpn : L[v].length ≠ 0 := by rwa [eL] at hp
  rw [← hk] at d1
  have HSZ := hid (fun (U : World) (hU : NetI U (some ⟨g, o, none⟩) (some ⟨gp, op_, none⟩) (some ⟨gr, or_, none⟩) V L R) => nSizes_any (some ⟨g, o, none⟩) (some ⟨gp, op_, none⟩) (some ⟨gr, or_, none⟩) ca cb cc L.length R.length V U hU.vars hV5)
  generalize V[v].1 = nm at *
  generalize varL V L R v = res at *
  clear h hs h0 hok htab eL eR hup hfi hps hs4 hsl hsz hk hfN hfR hpi hrf d0 r0 hp
  generalize L[v] = pl at *
  generalize R[v] = rl at *
  generalize hkk : sz (sizesN V) v = k at *
  generalize hNN : cnt (sizesN V) (toN pl) = N at *
  clear hNN hkk
  have z1 : (⟨#[32, 124]⟩ : ByteArray).size = 2 := rfl
  have z2 : (⟨#[32]⟩ : ByteArray).size = 1 := rfl
  have z3 : (⟨#[32, 123, 10]⟩ : ByteArray).size = 3 := rfl
  have z4 : (⟨#[32, 58, 32]⟩ : ByteArray).size = 3 := rfl
  have z5 : (⟨#[125, 10]⟩ : ByteArray).size = 2 := rfl
  have HK0 := hid (NK.new w (.slice (some ⟨g, o, none⟩) V.length ca) (.slice (some ⟨gp, op_, none⟩) L.length cb) (.slice (some ⟨gr, or_, none⟩) R.length cc))
  obtain ⟨c0, c1, c2⟩ := HK0.out.1.cells
  have d2 := (HK0.out.2.cell (p := ⟨g, o + v * 2 + 1, none⟩) hg).trans d1
  have p2 := (HK0.out.2.cell (p := ⟨gp, op_ + v, none⟩) hgp).trans p0
  clear d1 p0
  go_enter Tryz.func35, Tryz.ntmps35
  go_upto_region 1 with fail
  generalize (w.alloc (NC (.slice (some ⟨g, o, none⟩) V.length ca) (.slice (some ⟨gp, op_, none⟩) L.length cb) (.slice (some ⟨gr, or_, none⟩) R.length cc))) = w1 at *
  refine wp_region_held_drew (S := fun u => u.cell? ⟨w.heap.size, 0, none⟩ = some (.slice (some ⟨g, o, none⟩) V.length ca) ∧ u.cell? ⟨w.heap.size, 1, none⟩ = some (.slice (some ⟨gp, op_, none⟩) L.length cb) ∧ u.cell? ⟨w.heap.size, 2, none⟩ = some (.slice (some ⟨gr, or_, none⟩) R.length cc) ∧ u.cell? ⟨gp, op_ + v, none⟩ = some (.slice bp pl.length cp) ∧ u.cell? ⟨g, o + v * 2 + 1, none⟩ = some (.slice b' k c')) (by kernel_rfl) ⟨c0, c1, c2, p2, d2⟩ (fun hSd => ?_)
  have HKd : Hid (NK w w1.drew (.slice (some ⟨g, o, none⟩) V.length ca) (.slice (some ⟨gp, op_, none⟩) L.length cb) (.slice (some ⟨gr, or_, none⟩) R.length cc)) := ⟨HK0.out.1, HK0.out.2.drew⟩
  clear c0 c1 c2 p2 d2 HK0
  generalize w1.drew = u0 at *
  (try simp only [List.getElem_toArray, List.getElem_cons_zero, List.getElem_cons_succ])
  (try simp only [Act.put, List.setIfInBounds_toArray, List.set_cons_zero, List.set_cons_succ])
  refine wpAnyH_take (i := 0) (oi := _) (v := .agg #[.slice (some ⟨g, o, none⟩) V.length ca, .slice (some ⟨gp, op_, none⟩) L.length cb, .slice (some ⟨gr, or_, none⟩) R.length cc]) rfl (by kernel_rfl) (by kernel_rfl) (by kernel_rfl) (fun _ _ _ h => h) (Or.inl ⟨by rfl, ?_⟩) (by assumption) ?_
  · intro u' hSu
    (try simp only [List.getElem_toArray, List.getElem_cons_zero])
    obtain ⟨s0, s1, s2, s3, s4⟩ := hSu
    go_simp
  (try simp only [List.getElem_toArray, List.getElem_cons_zero])
  (try simp only [Act.put, List.setIfInBounds_toArray, List.set_cons_zero, List.set_cons_succ])
  refine wpAnyH_take (i := 2) (oi := _) (v := .pointer (some ⟨w.heap.size, 1, none⟩)) rfl (by kernel_rfl) (by kernel_rfl) (by kernel_rfl) (fun _ _ _ h => h) (Or.inl ⟨by rfl, ?_⟩) (by assumption) ?_
  · intro u' hSu
    (try simp only [List.getElem_toArray, List.getElem_cons_zero, List.getElem_cons_succ])
    go_simp
  (try simp only [List.getElem_toArray, List.getElem_cons_zero, List.getElem_cons_succ])
  (try simp only [Act.put, List.setIfInBounds_toArray, List.set_cons_zero, List.set_cons_succ])
  refine wpAnyH_take (i := 3) (oi := _) (v := .slice (some ⟨gp, op_, none⟩) L.length cb) rfl (by kernel_rfl) (by kernel_rfl) (by kernel_rfl) (fun _ _ _ h => h) (Or.inl ⟨by rfl, ?_⟩) (by assumption) ?_
  · intro u' hSu
    (try simp only [List.getElem_toArray, List.getElem_cons_zero, List.getElem_cons_succ])
    obtain ⟨s0, s1, s2, s3, s4⟩ := hSu
    go_simp
  (try simp only [List.getElem_toArray, List.getElem_cons_zero, List.getElem_cons_succ])
  (try simp only [Act.put, List.setIfInBounds_toArray, List.set_cons_zero, List.set_cons_succ])
  refine wpAnyH_take (i := 4) (oi := _) (v := .int .i64 (v : Nat)) rfl (by kernel_rfl) (by kernel_rfl) (by kernel_rfl) (fun _ _ _ h => h) (Or.inl ⟨by rfl, ?_⟩) (by assumption) ?_
  · intro u' hSu
    (try simp only [List.getElem_toArray, List.getElem_cons_zero, List.getElem_cons_succ])
    go_simp
  (try simp only [List.getElem_toArray, List.getElem_cons_zero, List.getElem_cons_succ])
  (try simp only [Act.put, List.setIfInBounds_toArray, List.set_cons_zero, List.set_cons_succ])
  refine wpAnyH_take (i := 5) (oi := _) (v := .pointer (some ⟨gp, op_ + v, none⟩)) rfl (by kernel_rfl) (by kernel_rfl) (by kernel_rfl) (fun _ _ _ h => h) (Or.inl ⟨by rfl, ?_⟩) (by assumption) ?_
  · intro u' hSu
    (try simp only [List.getElem_toArray, List.getElem_cons_zero, List.getElem_cons_succ])
    go_simp
  (try simp only [List.getElem_toArray, List.getElem_cons_zero, List.getElem_cons_succ])
  (try simp only [Act.put, List.setIfInBounds_toArray, List.set_cons_zero, List.set_cons_succ])
  refine wpAnyH_take (i := 6) (oi := _) (v := .slice bp pl.length cp) rfl (by kernel_rfl) (by kernel_rfl) (by kernel_rfl) (fun _ _ _ h => h) (Or.inl ⟨by rfl, ?_⟩) (by assumption) ?_
  · intro u' hSu
    (try simp only [List.getElem_toArray, List.getElem_cons_zero, List.getElem_cons_succ])
    obtain ⟨s0, s1, s2, s3, s4⟩ := hSu
    go_simp
  (try simp only [List.getElem_toArray, List.getElem_cons_zero, List.getElem_cons_succ])
  (try simp only [Act.put, List.setIfInBounds_toArray, List.set_cons_zero, List.set_cons_succ])
  refine wpAnyH_take (i := 7) (oi := _) (v := .pointer (some ⟨w.heap.size, 0, none⟩)) rfl (by kernel_rfl) (by kernel_rfl) (by kernel_rfl) (fun _ _ _ h => h) (Or.inl ⟨by rfl, ?_⟩) (by assumption) ?_
  · intro u' hSu
    (try simp only [List.getElem_toArray, List.getElem_cons_zero, List.getElem_cons_succ])
    go_simp
  (try simp only [List.getElem_toArray, List.getElem_cons_zero, List.getElem_cons_succ])
  (try simp only [Act.put, List.setIfInBounds_toArray, List.set_cons_zero, List.set_cons_succ])
  refine wpAnyH_take (i := 8) (oi := _) (v := .slice (some ⟨g, o, none⟩) V.length ca) rfl (by kernel_rfl) (by kernel_rfl) (by kernel_rfl) (fun _ _ _ h => h) (Or.inl ⟨by rfl, ?_⟩) (by assumption) ?_
  · intro u' hSu
    (try simp only [List.getElem_toArray, List.getElem_cons_zero, List.getElem_cons_succ])
    obtain ⟨s0, s1, s2, s3, s4⟩ := hSu
    go_simp
  (try simp only [List.getElem_toArray, List.getElem_cons_zero, List.getElem_cons_succ])
  (try simp only [Act.put, List.setIfInBounds_toArray, List.set_cons_zero, List.set_cons_succ])
  refine wpAnyH_take (i := 9) (oi := _) (v := .int .i64 (v : Nat)) rfl (by kernel_rfl) (by kernel_rfl) (by kernel_rfl) (fun _ _ _ h => h) (Or.inl ⟨by rfl, ?_⟩) (by assumption) ?_
  · intro u' hSu
    (try simp only [List.getElem_toArray, List.getElem_cons_zero, List.getElem_cons_succ])
    go_simp
  (try simp only [List.getElem_toArray, List.getElem_cons_zero, List.getElem_cons_succ])
  (try simp only [Act.put, List.setIfInBounds_toArray, List.set_cons_zero, List.set_cons_succ])
  refine wpAnyH_take (i := 10) (oi := _) (v := .pointer (some ⟨g, o + v * 2, none⟩)) rfl (by kernel_rfl) (by kernel_rfl) (by kernel_rfl) (fun _ _ _ h => h) (Or.inl ⟨by rfl, ?_⟩) (by assumption) ?_
  · intro u' hSu
    (try simp only [List.getElem_toArray, List.getElem_cons_zero, List.getElem_cons_succ])
    go_simp
  (try simp only [List.getElem_toArray, List.getElem_cons_zero, List.getElem_cons_succ])
  (try simp only [Act.put, List.setIfInBounds_toArray, List.set_cons_zero, List.set_cons_succ])
  refine wpAnyH_take (i := 11) (oi := _) (v := .pointer (some ⟨g, o + v * 2 + 1, none⟩)) rfl (by kernel_rfl) (by kernel_rfl) (by kernel_rfl) (fun _ _ _ h => h) (Or.inl ⟨by rfl, ?_⟩) (by assumption) ?_
  · intro u' hSu
    (try simp only [List.getElem_toArray, List.getElem_cons_zero, List.getElem_cons_succ])
    go_simp
  (try simp only [List.getElem_toArray, List.getElem_cons_zero, List.getElem_cons_succ])
  (try simp only [Act.put, List.setIfInBounds_toArray, List.set_cons_zero, List.set_cons_succ])
  refine wpAnyH_take (i := 12) (oi := _) (v := .slice b' k c') rfl (by kernel_rfl) (by kernel_rfl) (by kernel_rfl) (fun _ _ _ h => h) (Or.inl ⟨by rfl, ?_⟩) (by assumption) ?_
  · intro u' hSu
    (try simp only [List.getElem_toArray, List.getElem_cons_zero, List.getElem_cons_succ])
    obtain ⟨s0, s1, s2, s3, s4⟩ := hSu
    go_simp
  (try simp only [List.getElem_toArray, List.getElem_cons_zero, List.getElem_cons_succ])
  (try simp only [Act.put, List.setIfInBounds_toArray, List.set_cons_zero, List.set_cons_succ])
  refine wpAnyH_take (i := 13) (oi := _) (v := .int .i64 (k : Nat)) rfl (by kernel_rfl) (by kernel_rfl) (by kernel_rfl) (fun _ _ _ h => h) (Or.inl ⟨by rfl, ?_⟩) (by assumption) ?_
  · intro u' hSu
    (try simp only [List.getElem_toArray, List.getElem_cons_zero, List.getElem_cons_succ])
    go_simp
  (try simp only [List.getElem_toArray, List.getElem_cons_zero, List.getElem_cons_succ])
  (try simp only [Act.put, List.setIfInBounds_toArray, List.set_cons_zero, List.set_cons_succ])
  refine wpAnyH_ready (rs := [1]) (by kernel_rfl) (by simp) (AllReadyH.cons rfl ?_ (AllReadyH.nil))
  · intro K' hK'
    (try simp only [List.getElem_toArray, List.getElem_cons_zero, List.getElem_cons_succ])
    go_simp
    refine (HSZ.out u0 (HI.out.below HKd.out.2)).mono ?_
    rintro e u1 ⟨G, rfl, hGe, hrow, hb⟩
    refine hK'.out _ _ ⟨(hb.cell (p := ⟨w.heap.size, 0, none⟩) HKd.out.1.lt).trans hSd.1, (hb.cell (p := ⟨w.heap.size, 1, none⟩) HKd.out.1.lt).trans hSd.2.1, (hb.cell (p := ⟨w.heap.size, 2, none⟩) HKd.out.1.lt).trans hSd.2.2.1, (hb.cell (p := ⟨gp, op_ + v, none⟩) (Nat.lt_of_lt_of_le hgp HKd.out.2.size)).trans hSd.2.2.2.1, (hb.cell (p := ⟨g, o + v * 2 + 1, none⟩) (Nat.lt_of_lt_of_le hg HKd.out.2.size)).trans hSd.2.2.2.2⟩ (fun hSe => ?_)
    have HK1 := hid (HKd.out.step hb)
    have HKlt := hid HK1.out.1.lt
    have HROW := hid hrow
    clear hK' K' hSd hb hrow HKd hGe HSZ
    have hSd := hSe
    clear hSe
    (try simp only [List.getElem_toArray, List.getElem_cons_zero, List.getElem_cons_succ])
    (try simp only [Act.put, List.setIfInBounds_toArray, List.set_cons_zero, List.set_cons_succ])
    refine wpAnyH_take (i := 14) (oi := _) (v := .slice (some ⟨G, 0, none⟩) V.length V.length) rfl (by kernel_rfl) (by kernel_rfl) (by kernel_rfl) (fun _ _ _ h => h) (Or.inl ⟨by rfl, ?_⟩) (by assumption) ?_
    · intro u' hSu
      (try simp only [List.getElem_toArray, List.getElem_cons_zero, List.getElem_cons_succ])
      go_simp
    (try simp only [List.getElem_toArray, List.getElem_cons_zero, List.getElem_cons_succ])
    (try simp only [Act.put, List.setIfInBounds_toArray, List.set_cons_zero, List.set_cons_succ])
    refine wpAnyH_take (i := 15) (oi := _) (v := .slice bp pl.length cp) rfl (by kernel_rfl) (by kernel_rfl) (by kernel_rfl) (fun _ _ _ h => h) (Or.inl ⟨by rfl, ?_⟩) (by assumption) ?_
    · intro u' hSu
      (try simp only [List.getElem_toArray, List.getElem_cons_zero, List.getElem_cons_succ])
      go_simp
    (try simp only [List.getElem_toArray, List.getElem_cons_zero, List.getElem_cons_succ])
    (try simp only [Act.put, List.setIfInBounds_toArray, List.set_cons_zero, List.set_cons_succ])
    refine wpAnyH_take (i := 16) (oi := _) (v := .int .i64 (k : Nat)) rfl (by kernel_rfl) (by kernel_rfl) (by kernel_rfl) (fun _ _ _ h => h) (Or.inl ⟨by rfl, ?_⟩) (by assumption) ?_
    · intro u' hSu
      (try simp only [List.getElem_toArray, List.getElem_cons_zero, List.getElem_cons_succ])
      go_simp
    (try simp only [List.getElem_toArray, List.getElem_cons_zero, List.getElem_cons_succ])
    (try simp only [Act.put, List.setIfInBounds_toArray, List.set_cons_zero, List.set_cons_succ])
    refine wpAnyH_done (by kernel_rfl) ?_ _
    clear hSd
    have hn1 : nm.size ≤ 5000 := hns
    obtain ⟨c0, c1, c2⟩ := HK1.out.1.cells
    have hbA : Below u1.heap.size u1 (u1.alloc (.cells #[.pointer none, .slice none 0 0] 103)) := (Below.refl _ u1).alloc (Nat.le_refl _) _
    have hKA := HK1.out.step hbA
    have d3 := (hKA.2.cell (p := ⟨g, o + v * 2, none⟩) hg).trans HD0.out
    obtain ⟨c0, c1, c2⟩ := hKA.1.cells
    have hf0 := Lib.IsBuilderF.of (Lib.fresh_isBuilder 103 5 u1)
    have HF0 : Hid (Lib.IsBuilderF 103 5 u1.heap.size u1.heap.size (Lib.byteCells []) (u1.alloc (.cells #[.pointer none, .slice none 0 0] 103))) := hf0
    have HBA := hid hbA
    clear hf0 hbA hKA
    go_wp2_with fail
    generalize (u1.alloc (.cells #[.pointer none, .slice none 0 0] 103)) = u2 at *
    refine (write_k u1.heap.size u1.heap.size [] _ u2 HF0.out (by rw [ByteArray.size_append]; simp; omega) HBA.out.size).mono ?_
    rintro e u3 ⟨rfl, hbl, hb3, -⟩
    rw [HNZ.out] at hbl
    have HBL := hid hbl
    have HB3 := hid (HBA.out.trans hb3)
    clear hbl hb3 c0 c1 c2 d3 HF0 HBA
    go_wp2_with fail
    go_loopw [40] (fun jv wr => ∃ j : Nat, j ≤ pl.length ∧ jv = .int .i64 j ∧ Hid (Lib.IsBuilderF 103 5 u1.heap.size u1.heap.size (Lib.byteCells (fmN V L v j)) wr) ∧ Hid (Below u1.heap.size u1 wr)) (fun jv _ => pl.length - (intOf jv).toNat)
    case atStart => exact ⟨0, Nat.zero_le _, rfl, HBL, HB3⟩
    case round =>
      obtain ⟨j, hj, rfl, HBr, HB⟩ := hrel
      clear HBL HB3
      have hK := HK1.out.step HB.out
      obtain ⟨c0, c1, c2⟩ := hK.1.cells
      have HBW := hid hK.2
      clear hK
      have hfl := HFN.out j
      by_cases hl4 : j < pl.length
      · obtain ⟨u, hu1, hu2, -, hX⟩ := HUE.out j hl4
        obtain ⟨gi, oi, rfl, hgi, q0⟩ := HPI.out j hl4
        have q1 := (HBW.out.cell (p := ⟨gi, oi + j, none⟩) hgi).trans q0
        rw [hu1] at q1
        obtain ⟨g', o', b'', c'', e, hg', n0, -, -, -⟩ := HI.out.vars u hu2
        cases e
        have n1 := (HBW.out.cell (p := ⟨g, o + u * 2, none⟩) hg').trans n0
        have hns2 := (HSM.out.vars.2 _ (List.getElem_mem hu2)).1
        rw [nmV_at hu2] at hX
        have HX := hid hX
        generalize V[u].1 = nm2 at *
        clear q0 n0 hX
        go_wp2_with fail
        refine (write_k u1.heap.size u1.heap.size _ _ wr HBr.out (by rw [ByteArray.size_append, z2]; omega) HB.out.size).mono ?_
        rintro e u4 ⟨rfl, hbl, hb4, -⟩
        rw [HX.out] at hbl
        have HB4 := hid (HB.out.trans hb4)
        clear hb4 c0 c1 c2 q1 n1
        go_wp2
        go_roundw
        case rel => exact ⟨j + 1, by omega, by go_num, hbl, HB4⟩
        case measure => simp [intOf]; omega
      · obtain rfl : j = pl.length := by omega
        clear c0 c1 c2
        go_wp2_with fail
        refine (write_k u1.heap.size u1.heap.size _ _ wr HBr.out (by rw [z3]; omega) HB.out.size).mono ?_
        rintro e u4 ⟨rfl, hbl, hb4, -⟩
        rw [HRZ.out] at hbl
        have HBL := hid hbl
        have HB4 := hid (HB.out.trans hb4)
        clear hbl hb4 HBr HB HBW
        have hK := HK1.out.step HB4.out
        obtain ⟨c0, c1, c2⟩ := hK.1.cells
        have r1 := (hK.2.cell (p := ⟨gr, or_ + v, none⟩) hgr).trans HR0.out
        clear hK
        have hquo : (rl.length : Int).tdiv (k : Int) = (N : Int) := by
          rw [HLN.out, Int.natCast_mul, Int.mul_tdiv_cancel _ (by omega)]
        have hk0 : ((k : Int) == 0) = false := beq_eq_false_iff_ne.2 (by omega)
        go_wp2_with fail
        clear c0 c1 c2 r1
        go_loopw [62] (fun iv wr => ∃ i : Nat, i ≤ N ∧ iv = .int .i64 i ∧ Hid (Lib.IsBuilderF 103 5 u1.heap.size u1.heap.size (Lib.byteCells (fmR V L R v i)) wr) ∧ Hid (Below u1.heap.size u1 wr)) (fun iv _ => N - (intOf iv).toNat)
        case atStart => exact ⟨0, Nat.zero_le _, rfl, HBL, HB4⟩
        case round =>
          obtain ⟨i, hi, rfl, HBr, HB⟩ := hrel
          clear HBL HB4
          obtain ⟨hrl, hvl⟩ := HFR0.out i hi
          have HVL := hid hvl
          clear hvl
          by_cases hl5 : i < N
          · have HBW := hid (HK1.out.step HB.out).2
            have hrow := HROW.out.below HB.out HROW.out.lt
            go_wp2_with fail
            refine (HWH.out wr G i bp cp hl5 hrow (HPI.out.below HBW.out)).mono ?_
            rintro e u5 ⟨ga, cga, rfl, hga, hra, hb5⟩
            have HBr5 := hid (builderF_below HBr.out hb5)
            rw [← fmV_zero V L R v i] at HBr5
            have HB5 := hid (HB.out.trans (hb5.mono HB.out.size))
            have HRA := hid hra
            have hgu : u1.heap.size < ga := Nat.lt_of_lt_of_le (by rcases HBr.out with h | h <;> exact h.lt) hga
            clear hb5 hra hrow HBr HB HBW
            go_wp2_with fail
            go_loopw [74] (fun jv wr => ∃ j : Nat, j ≤ pl.length ∧ jv = .int .i64 j ∧ Hid (Lib.IsBuilderF 103 5 u1.heap.size u1.heap.size (Lib.byteCells (fmV V L R v i j)) wr) ∧ Hid (Below u1.heap.size u1 wr) ∧ Hid (RowI wr ga (digs (sizesN V) (toN pl) i))) (fun jv _ => pl.length - (intOf jv).toNat)
            case atStart => exact ⟨0, Nat.zero_le _, rfl, HBr5, HB5, HRA⟩
            case round =>
              obtain ⟨j, hj, rfl, HBr, HB, HAR⟩ := hrel
              clear HBr5 HB5 HRA
              have hK := HK1.out.step HB.out
              obtain ⟨c0, c1, c2⟩ := hK.1.cells
              have hlk := hK.1.lt
              have HBW := hid hK.2
              clear hK
              have hfl := HVL.out j hj
              by_cases hl4 : j < pl.length
              · obtain ⟨u, hu1, hu2, hu3, -⟩ := HUE.out j hl4
                obtain ⟨gi, oi, rfl, hgi, q0⟩ := HPI.out j hl4
                have q1 := (HBW.out.cell (p := ⟨gi, oi + j, none⟩) hgi).trans q0
                rw [hu1] at q1
                obtain ⟨x, hx1, hx2, hX⟩ := HDG.out i j hl5 hl4 u hu3
                obtain ⟨hx3, hx4⟩ := List.getElem?_eq_some_iff.1 hx1
                have a1 := HAR.out.cell j hx3
                rw [hx4] at a1
                obtain ⟨g', o', b'', c'', e, hg', -, n0, hst, -⟩ := HI.out.vars u hu2
                cases e
                have n1 := (HBW.out.cell (p := ⟨g, o + u * 2 + 1, none⟩) hg').trans n0
                have hx5 : x < V[u].2.length := by
                  have e1 : sz (sizesN V) u = V[u].2.length := by rw [sz, sizesN_get hu2]; rfl
                  omega
                obtain ⟨gs, os, rfl, hgs, s0⟩ := hst x hx5
                have s1 := (HBW.out.cell (p := ⟨gs, os + x, none⟩) hgs).trans s0
                have e2 : vlV V u x = V[u].2[x] := by rw [vlV, getV hu2, List.getD_eq_getElem?_getD, List.getElem?_eq_getElem hx5]; rfl
                have hys := vl_size HSM.out.vars u x
                rw [e2] at hX hys
                have HX := hid hX
                generalize V[u].2[x] = y at *
                generalize V[u].2.length = nu2 at *
                clear q0 n0 hX s0 hst hx1 hx2 hx3 hx4 hu3 e2
                go_upto_region 16 with fail
                go_upto_region 17 with fail
                refine wp_region_held_drew (S := fun u' => u'.cell? ⟨w.heap.size, 0, none⟩ = some (.slice (some ⟨g, o, none⟩) V.length ca) ∧ u'.cell? ⟨g, o + u * 2 + 1, none⟩ = some (.slice (some ⟨gs, os, none⟩) nu2 c'') ∧ u'.cell? ⟨ga, j, none⟩ = some (.int .i64 (x : Nat)) ∧ u'.cell? ⟨gs, os + x, none⟩ = some (.string y)) (by kernel_rfl) ⟨c0, n1, a1, s1⟩ (fun hSd => ?_)
                have HBd := hid HB.out.drew
                have HBrd : Hid (Lib.IsBuilderF 103 5 u1.heap.size u1.heap.size (Lib.byteCells (fmV V L R v i j)) wr.drew) := HBr.out
                have HARd : Hid (RowI wr.drew ga (digs (sizesN V) (toN pl) i)) := HAR.out
                clear c0 c1 c2 q1 n1 a1 s1 HB HBr HAR HBW hlk
                generalize wr.drew = u6 at *
                (try simp only [List.getElem_toArray, List.getElem_cons_zero, List.getElem_cons_succ])
                (try simp only [Act.put, List.setIfInBounds_toArray, List.set_cons_zero, List.set_cons_succ])
                refine wpAnyH_take (i := 0) (oi := _) (v := .pointer (some ⟨w.heap.size, 0, none⟩)) rfl (by kernel_rfl) (by kernel_rfl) (by kernel_rfl) (fun _ _ _ h => h) (Or.inl ⟨by rfl, ?_⟩) (by assumption) ?_
                · intro u' hSu
                  (try simp only [List.getElem_toArray, List.getElem_cons_zero])
                  go_simp
                (try simp only [List.getElem_toArray, List.getElem_cons_zero])
                (try simp only [Act.put, List.setIfInBounds_toArray, List.set_cons_zero, List.set_cons_succ])
                refine wpAnyH_take (i := 1) (oi := _) (v := .slice (some ⟨g, o, none⟩) V.length ca) rfl (by kernel_rfl) (by kernel_rfl) (by kernel_rfl) (fun _ _ _ h => h) (Or.inl ⟨by rfl, ?_⟩) (by assumption) ?_
                · intro u' hSu
                  (try simp only [List.getElem_toArray, List.getElem_cons_zero, List.getElem_cons_succ])
                  obtain ⟨s0, s1, s2, s3⟩ := hSu
                  go_simp
                (try simp only [List.getElem_toArray, List.getElem_cons_zero, List.getElem_cons_succ])
                (try simp only [Act.put, List.setIfInBounds_toArray, List.set_cons_zero, List.set_cons_succ])
                refine wpAnyH_take (i := 2) (oi := _) (v := .int .i64 (u : Nat)) rfl (by kernel_rfl) (by kernel_rfl) (by kernel_rfl) (fun _ _ _ h => h) (Or.inl ⟨by rfl, ?_⟩) (by assumption) ?_
                · intro u' hSu
                  (try simp only [List.getElem_toArray, List.getElem_cons_zero, List.getElem_cons_succ])
                  go_simp
                (try simp only [List.getElem_toArray, List.getElem_cons_zero, List.getElem_cons_succ])
                (try simp only [Act.put, List.setIfInBounds_toArray, List.set_cons_zero, List.set_cons_succ])
                refine wpAnyH_take (i := 3) (oi := _) (v := .pointer (some ⟨g, o + u * 2, none⟩)) rfl (by kernel_rfl) (by kernel_rfl) (by kernel_rfl) (fun _ _ _ h => h) (Or.inl ⟨by rfl, ?_⟩) (by assumption) ?_
                · intro u' hSu
                  (try simp only [List.getElem_toArray, List.getElem_cons_zero, List.getElem_cons_succ])
                  go_simp
                (try simp only [List.getElem_toArray, List.getElem_cons_zero, List.getElem_cons_succ])
                (try simp only [Act.put, List.setIfInBounds_toArray, List.set_cons_zero, List.set_cons_succ])
                refine wpAnyH_take (i := 4) (oi := _) (v := .pointer (some ⟨g, o + u * 2 + 1, none⟩)) rfl (by kernel_rfl) (by kernel_rfl) (by kernel_rfl) (fun _ _ _ h => h) (Or.inl ⟨by rfl, ?_⟩) (by assumption) ?_
                · intro u' hSu
                  (try simp only [List.getElem_toArray, List.getElem_cons_zero, List.getElem_cons_succ])
                  go_simp
                (try simp only [List.getElem_toArray, List.getElem_cons_zero, List.getElem_cons_succ])
                (try simp only [Act.put, List.setIfInBounds_toArray, List.set_cons_zero, List.set_cons_succ])
                refine wpAnyH_take (i := 5) (oi := _) (v := .slice (some ⟨gs, os, none⟩) nu2 c'') rfl (by kernel_rfl) (by kernel_rfl) (by kernel_rfl) (fun _ _ _ h => h) (Or.inl ⟨by rfl, ?_⟩) (by assumption) ?_
                · intro u' hSu
                  (try simp only [List.getElem_toArray, List.getElem_cons_zero, List.getElem_cons_succ])
                  obtain ⟨s0, s1, s2, s3⟩ := hSu
                  go_simp
                (try simp only [List.getElem_toArray, List.getElem_cons_zero, List.getElem_cons_succ])
                (try simp only [Act.put, List.setIfInBounds_toArray, List.set_cons_zero, List.set_cons_succ])
                refine wpAnyH_take (i := 6) (oi := _) (v := .slice (some ⟨ga, 0, none⟩) pl.length cga) rfl (by kernel_rfl) (by kernel_rfl) (by kernel_rfl) (fun _ _ _ h => h) (Or.inl ⟨by rfl, ?_⟩) (by assumption) ?_
                · intro u' hSu
                  (try simp only [List.getElem_toArray, List.getElem_cons_zero, List.getElem_cons_succ])
                  go_simp
                (try simp only [List.getElem_toArray, List.getElem_cons_zero, List.getElem_cons_succ])
                (try simp only [Act.put, List.setIfInBounds_toArray, List.set_cons_zero, List.set_cons_succ])
                refine wpAnyH_take (i := 7) (oi := _) (v := .int .i64 (j : Nat)) rfl (by kernel_rfl) (by kernel_rfl) (by kernel_rfl) (fun _ _ _ h => h) (Or.inl ⟨by rfl, ?_⟩) (by assumption) ?_
                · intro u' hSu
                  (try simp only [List.getElem_toArray, List.getElem_cons_zero, List.getElem_cons_succ])
                  go_simp
                (try simp only [List.getElem_toArray, List.getElem_cons_zero, List.getElem_cons_succ])
                (try simp only [Act.put, List.setIfInBounds_toArray, List.set_cons_zero, List.set_cons_succ])
                refine wpAnyH_take (i := 8) (oi := _) (v := .pointer (some ⟨ga, j, none⟩)) rfl (by kernel_rfl) (by kernel_rfl) (by kernel_rfl) (fun _ _ _ h => h) (Or.inl ⟨by rfl, ?_⟩) (by assumption) ?_
                · intro u' hSu
                  (try simp only [List.getElem_toArray, List.getElem_cons_zero, List.getElem_cons_succ])
                  go_simp
                (try simp only [List.getElem_toArray, List.getElem_cons_zero, List.getElem_cons_succ])
                (try simp only [Act.put, List.setIfInBounds_toArray, List.set_cons_zero, List.set_cons_succ])
                refine wpAnyH_take (i := 9) (oi := _) (v := .int .i64 (x : Nat)) rfl (by kernel_rfl) (by kernel_rfl) (by kernel_rfl) (fun _ _ _ h => h) (Or.inl ⟨by rfl, ?_⟩) (by assumption) ?_
                · intro u' hSu
                  (try simp only [List.getElem_toArray, List.getElem_cons_zero, List.getElem_cons_succ])
                  obtain ⟨s0, s1, s2, s3⟩ := hSu
                  go_simp
                (try simp only [List.getElem_toArray, List.getElem_cons_zero, List.getElem_cons_succ])
                (try simp only [Act.put, List.setIfInBounds_toArray, List.set_cons_zero, List.set_cons_succ])
                refine wpAnyH_take (i := 10) (oi := _) (v := .pointer (some ⟨gs, os + x, none⟩)) rfl (by kernel_rfl) (by kernel_rfl) (by kernel_rfl) (fun _ _ _ h => h) (Or.inl ⟨by rfl, ?_⟩) (by assumption) ?_
                · intro u' hSu
                  (try simp only [List.getElem_toArray, List.getElem_cons_zero, List.getElem_cons_succ])
                  go_simp
                (try simp only [List.getElem_toArray, List.getElem_cons_zero, List.getElem_cons_succ])
                (try simp only [Act.put, List.setIfInBounds_toArray, List.set_cons_zero, List.set_cons_succ])
                refine wpAnyH_take (i := 11) (oi := _) (v := .string y) rfl (by kernel_rfl) (by kernel_rfl) (by kernel_rfl) (fun _ _ _ h => h) (Or.inl ⟨by rfl, ?_⟩) (by assumption) ?_
                · intro u' hSu
                  (try simp only [List.getElem_toArray, List.getElem_cons_zero, List.getElem_cons_succ])
                  obtain ⟨s0, s1, s2, s3⟩ := hSu
                  go_simp
                (try simp only [List.getElem_toArray, List.getElem_cons_zero, List.getElem_cons_succ])
                (try simp only [Act.put, List.setIfInBounds_toArray, List.set_cons_zero, List.set_cons_succ])
                refine wpAnyH_take (i := 12) (oi := _) (v := .string (⟨#[32]⟩ ++ y)) rfl (by kernel_rfl) (by kernel_rfl) (by kernel_rfl) (fun _ _ _ h => h) (Or.inl ⟨by rfl, ?_⟩) (by assumption) ?_
                · intro u' hSu
                  (try simp only [List.getElem_toArray, List.getElem_cons_zero, List.getElem_cons_succ])
                  go_simp
                  all_goals omega
                (try simp only [List.getElem_toArray, List.getElem_cons_zero, List.getElem_cons_succ])
                (try simp only [Act.put, List.setIfInBounds_toArray, List.set_cons_zero, List.set_cons_succ])
                refine wpAnyH_ready (rs := [13]) (by kernel_rfl) (by simp) (AllReadyH.cons rfl ?_ (AllReadyH.nil))
                · intro K' hK'
                  (try simp only [List.getElem_toArray, List.getElem_cons_zero, List.getElem_cons_succ])
                  go_simp
                  refine (write_k u1.heap.size u1.heap.size _ _ u6 HBrd.out (by rw [ByteArray.size_append, z2]; omega) HBd.out.size).mono ?_
                  rintro e u7 ⟨rfl, hbl, hb7, hk7⟩
                  rw [HX.out] at hbl
                  have HBl7 := hid hbl
                  have HB7 := hid (HBd.out.trans hb7)
                  have HAR7 := hid (row_others HARd.out hk7 (by omega))
                  refine hK'.out _ _ (by
                    refine ⟨(hb7.cell (p := ⟨w.heap.size, 0, none⟩) HKlt.out).trans hSd.1, (hb7.cell (p := ⟨g, o + u * 2 + 1, none⟩) (Nat.lt_of_lt_of_le hg' HK1.out.2.size)).trans hSd.2.1, ?_, (hb7.cell (p := ⟨gs, os + x, none⟩) (Nat.lt_of_lt_of_le hgs HK1.out.2.size)).trans hSd.2.2.2⟩
                    have := row_others HARd.out hk7 (by omega)
                    rw [row_cell2 this HARd.out]
                    exact hSd.2.2.1) (fun hSe => ?_)
                  clear hK' K' hSd hSe hbl hb7 hk7 HBd HBrd HARd
                  (try simp only [List.getElem_toArray, List.getElem_cons_zero, List.getElem_cons_succ])
                  (try simp only [Act.put, List.setIfInBounds_toArray, List.set_cons_zero, List.set_cons_succ])
                  refine wpAnyH_done (by kernel_rfl) ?_ _
                  go_wp2
                  go_roundw
                  case rel => exact ⟨j + 1, by omega, by go_num, HBl7, HB7, HAR7⟩
                  case measure => simp [intOf]; omega
              · obtain rfl : j = pl.length := by omega
                have r1 := (HBW.out.cell (p := ⟨gr, or_ + v, none⟩) hgr).trans HR0.out
                have hik : (i + 1) * k ≤ rl.length := by rw [HLN.out]; exact Nat.mul_le_mul_right k hl5
                have eik : (i + 1) * k = i * k + k := by rw [Nat.add_mul, Nat.one_mul]
                have hpos : 0 < rl.length := by omega
                obtain ⟨gf, of_, rfl, hgf, -⟩ := HFR.out 0 hpos
                obtain ⟨hck, hcl⟩ := (HFR.out.below HBW.out).chunk (i := i) (m := k) hik rfl
                have hfw := fw_chunk rl k i
                have HX := hid (HRS.out i (fun e => by rw [e] at hcl; simp at hcl; omega))
                have HRT0 : Hid (Calls Tryz.prog 34 #[.slice (some ⟨gf, of_ + i * k * 3, none⟩) k (cr - i * k)] wr fun e w' => e = .returned (.string (tx (rowP (chunkF rl k i)))) ∧ Below wr.heap.size wr w') := by
                  have h4 := rowText_any (some ⟨gf, of_ + i * k * 3, none⟩) (cr - i * k) (chunkF rl k i) wr hck (by omega) (by omega) (tab_below HTB.out HBW.out)
                  rwa [hcl] at h4
                have hrw : (tx (rowP (chunkF rl k i))).size ≤ 600000003 := by
                  rw [tx_size, rowP, List.length_append]
                  have := join_le (l := chunkF rl k i) (by omega) (by omega)
                  simp only [List.length_cons, List.length_nil]
                  omega
                clear hck hcl hfw
                generalize tx (rowP (chunkF rl k i)) = T at *
                generalize hlo : i * k = lo at *
                generalize hhi : (i + 1) * k = hi_ at *
                have hwm : IntKind.i64.wrap ((i : Int) * (k : Int)) = ((lo : Nat) : Int) := by rw [IntKind.wrap_i64, ← Int.natCast_mul, hlo]; omega
                obtain ⟨i1, hi1⟩ : ∃ i1 : Nat, i1 = i + 1 := ⟨_, rfl⟩
                have hwa : IntKind.i64.wrap ((i : Int) + 1) = ((i1 : Nat) : Int) := by rw [IntKind.wrap_i64]; omega
                have hwn : IntKind.i64.wrap (((i1 : Nat) : Int) * (k : Int)) = ((hi_ : Nat) : Int) := by rw [IntKind.wrap_i64, ← Int.natCast_mul, hi1, hhi]; omega
                have HI1 := hid hi1
                clear hi1
                have hc1 : ¬ cr = lo := by omega
                have hl1 : lo ≤ hi_ := by omega
                have hl2 : hi_ ≤ cr := by omega
                have hl3 : hi_ - lo = k := by omega
                have hl6 : ((hi_ : Nat) : Int) ≤ (cr : Int) := by omega
                clear hlo hhi
                go_wp2_with fail
                refine HRT0.out.mono ?_
                rintro e u7 ⟨rfl, hb7⟩
                have HBr7 := hid (builderF_below HBr.out hb7)
                have HB7 := hid (HB.out.trans (hb7.mono HB.out.size))
                clear hb7 c0 c1 c2 r1 HBr HB HAR HBW hlk
                go_wp2_with fail
                refine (write_k u1.heap.size u1.heap.size _ _ u7 HBr7.out (by rw [ByteArray.size_append, z4]; omega) HB7.out.size).mono ?_
                rintro e u8 ⟨rfl, hbl, hb8, -⟩
                rw [HX.out] at hbl
                have HB8 := hid (HB7.out.trans hb8)
                clear hb8
                go_wp2
                go_roundw
                case rel => exact ⟨i + 1, by omega, by rw [HI1.out], hbl, HB8⟩
                case measure => have := HI1.out; simp [intOf]; omega
          · obtain rfl : i = N := by omega
            go_wp2_with fail
            refine (write_k u1.heap.size u1.heap.size _ _ wr HBr.out (by rw [z5]; omega) HB.out.size).mono ?_
            rintro e u5 ⟨rfl, hbl, hb5, -⟩
            rw [HSF.out] at hbl
            have HBL := hid hbl
            have HB5 := hid (HB.out.trans hb5)
            clear hb5 hbl HBr HB
            go_wp2_with fail
            refine (Tryz.Builder_String_any_f u1.heap.size u1.heap.size res u5 HBL.out HB5.out.size).mono ?_
            rintro e u6 ⟨rfl, -, hb6⟩
            have HB6 := hid (HB5.out.trans hb6)
            clear hb6
            go_wp2
            go_ret
            exact ⟨rfl, HK1.out.2.trans (HB6.out.mono HK1.out.2.size)⟩
end Go.Proofs.YtojidhnkpeiimaaGreatDoor
