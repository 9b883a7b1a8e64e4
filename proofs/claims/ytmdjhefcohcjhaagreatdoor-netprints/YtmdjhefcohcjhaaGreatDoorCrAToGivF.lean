/- Nets: checkRows of package net. -/
import Derived.Test.YtmdjhefcohcjhaaGreatDoorGivAToMarkA
import Derived.RangeFuncCalls
import Derived.Test.YtmdjhefcohcjhaaGreatDoorPrnCToHvyA
namespace Go.Proofs.YtmdjhefcohcjhaaGreatDoor
open Go.RowKit Go.Shelf

attribute [local go_sem] Oper.semAt_some

theorem results_cell_err {w : World} {g : Nat} {k : Int} (h : Boxed w g 28 (.int .i64 k)) {fn : Func} {p : Tmp} (hr : fn.results = #[.cell p 28]) (tmps : Array Value) (hp : tmps.getD p undef = .pointer (some ⟨g, 0, none⟩)) : (results fn tmps).run Tryz.prog w = .ok (.int .i64 k) w := by
  have hp' : tmps[p]?.getD undef = .pointer (some ⟨g, 0, none⟩) := by simpa using hp
  have hc := h.cell
  simp only [results, hr]
  simp [hp', asAddr]
  go_simp
theorem below_others {V V' : World} (h : Below V.heap.size V V') : KeepsOthers V V' := ⟨h.size, fun k _ hk _ => (h.block k (Array.getElem?_eq_some_iff.1 hk).1).trans hk⟩
/-- What is so of the blocks below n0 stays so. -/
theorem ownFrom_held {β : Type} {n0 B : Nat} {Q : β → World → Prop} (hB : n0 ≤ B) : OwnFrom B (fun (s : β) W => ∃ V, Q s V ∧ n0 ≤ V.heap.size ∧ Below n0 V W) := fun s W W' row hs hg hr => by
  obtain ⟨V, h1, h2, h3⟩ := hs
  exact ⟨V, h1, h2, h3.grown hg (Nat.le_trans h2 h3.size) (fun k e => Nat.le_trans hB (hr k e).1)⟩
/-- What a call of checkRows leaves with. -/
def CrL (w : World) (k : Int) (W : World) : Prop := Boxed W (w.heap.size + 1) 28 (.int .i64 k) ∧ Below w.heap.size w W
theorem CrL.shut {w : World} {k : Int} {lo : Nat} (hlo : w.heap.size + 1 < lo) (W : World) (r : Nat) (h : CrL w k W) (hr : lo ≤ r) (hd : W.heap[r]? = some (.deferred (some []))) : CrL w k (W.putObj r (.deferred none)) :=
  ⟨(World.putObj_heap_other (by omega)).trans h.1, h.2.trans (belowK_b (w := w) (Nat.le_refl _) W r _ _ (by omega) hd rfl rfl)⟩
theorem CrL.put {w W : World} {k : Int} (h : CrL w k W) (j : Int) : CrL w j (W.setCell ⟨w.heap.size + 1, 0, none⟩ (.int .i64 j)) := ⟨h.1.set _, h.2.setCell (p := ⟨w.heap.size + 1, 0, none⟩) (by simp) _⟩
theorem Shut.put {lo B : Nat} {ds : List Deferred} {W : World} (h : Shut lo B ds W) {g : Nat} (hg : g < lo) (v : Value) : Shut lo B ds (W.setCell ⟨g, 0, none⟩ v) := by
  induction ds generalizing B with
  | nil => trivial
  | cons d ds ih =>
    obtain ⟨r, h1, h2, h3, h4, h5⟩ := h
    exact ⟨r, h1, h2, h3, (Below.heap_setCell W ⟨g, 0, none⟩ v r (by show r ≠ g; omega)).trans h4, ih h5⟩

set_option maxRecDepth 100000 in
set_option maxHeartbeats 4000000 in
theorem checkRows_any (a b c : Option Addr) (ca cb cc : Nat) (V : List Vr) (L : List (List Int)) (R : List (List Fr)) (w : World) (h : NetI w a b c V L R) (hs : NSm V L R) (hLV : L.length = V.length) (hRV : R.length = V.length) (hg : gcE L = 0) (hv : varsE V = 0) :
    Calls Tryz.prog 17 #[.agg #[.slice a V.length ca, .slice b L.length cb, .slice c R.length cc]] w fun e w' => e = .returned (.int .i64 (firstE (rowE (sizesN V) L R) V.length)) ∧ Below w.heap.size w w' := by
  refine (callsIn_wide (n := 6)).1 ?_
  obtain ⟨hfi, hn8, hup⟩ := fine_sizes hLV hg hv
  have HI := hid h
  have hV5 := hs.vars.1
  have HRS := hid hs.rows.2
  have HFI := hid hfi
  have HUP := hid hup
  have HSZ := hid (fun (U : World) (hU : VsS U a V) => nSizes_any a b c ca cb cc L.length R.length V U hU hV5)
  have HA : Hid (∀ i, i < V.length → (∀ j, j < i → rowE (sizesN V) L R j = 0) → ∀ k, rowE (sizesN V) L R i = k → k ≠ 0 → firstE (rowE (sizesN V) L R) V.length = k) := fun i hi hz k hk hk0 => by rw [firstE_at hz (by rw [hk]; exact hk0) hi, hk]
  have HZ : Hid ((∀ j, j < V.length → rowE (sizesN V) L R j = 0) → firstE (rowE (sizesN V) L R) V.length = 0) := fun h => firstE_none h
  have HLV := hid hLV
  have HRV := hid hRV
  generalize firstE (rowE (sizesN V) L R) V.length = fe at *
  clear h hs hfi hup hLV hRV hg hv
  have hK0 : NK w ((w.alloc (NC (.slice a V.length ca) (.slice b L.length cb) (.slice c R.length cc))).alloc (.cells #[.int .i64 0] 28)) (.slice a V.length ca) (.slice b L.length cb) (.slice c R.length cc) := (NK.new w (.slice a V.length ca) (.slice b L.length cb) (.slice c R.length cc)).step ((Below.refl _ _).alloc (Nat.le_refl _) _)
  have hE0 : Boxed ((w.alloc (NC (.slice a V.length ca) (.slice b L.length cb) (.slice c R.length cc))).alloc (.cells #[.int .i64 0] 28)) (w.heap.size + 1) 28 (.int .i64 0) := by
    have h := Boxed.new (w.alloc (NC (.slice a V.length ca) (.slice b L.length cb) (.slice c R.length cc))) 28 (.int .i64 0)
    rwa [World.size_alloc] at h
  have HK0 := hid hK0
  have HE0 := hid hE0
  obtain ⟨c0, c1, c2⟩ := hK0.1.cells
  clear hK0 hE0
  refine callsIn_of_wp_marks Tryz.func17 rfl trivial ?_ rfl
  simp only [Tryz.ntmps17, List.size_toArray, List.length_cons, List.length_nil, Nat.reduceAdd, Nat.reduceSub, Array.replicate_succ, Array.replicate_zero, List.push_toArray, List.append_toArray, List.nil_append, List.cons_append]
  gi_wp2_with (refine ⟨trivial, ?_⟩; gi_at_call 30; refine (callsIn_wide.2 (HSZ.out _ (HI.out.below HK0.out.2).vars)).mono ?_; rintro e W2 ⟨G, rfl, hGe, hrow, hb⟩; have hK2 := HK0.out.step hb; have hE2 := (hb.block (w.heap.size + 1) (Array.getElem?_eq_some_iff.1 HE0.out).1).trans HE0.out; clear c0 c1 c2; obtain ⟨c0, c1, c2⟩ := hK2.1.cells)
  clear hb
  have HK2 := hid hK2
  have HE2 : Hid (Boxed W2 (w.heap.size + 1) 28 (.int .i64 0)) := hE2
  have HROW := hid hrow
  have hE1 : w.heap.size + 1 < W2.heap.size := (Array.getElem?_eq_some_iff.1 hE2).1
  clear hK2 hE2 hrow c0 c1 c2 HK0 HE0 HSZ hGe
  refine wpIn_loop (fun a' w' => ∃ (v : Nat) (ds : List Deferred) (u4 u5 u6 u7 u15 u16 u17 u18 u19 u20 u21 u22 u23 u24 u25 u26 u27 u28 u29 u30 u31 u32 u33 u34 u35 u36 u37 u38 u39 u40 u41 u42 u43 u48 : Value), a' = { tmps := #[.agg #[.slice a V.length ca, .slice b L.length cb, .slice c R.length cc], .pointer (some ⟨w.heap.size, 0, none⟩), .pointer (some ⟨w.heap.size + 1, 0, none⟩), .slice (some ⟨G, 0, none⟩) V.length V.length, u4, u5, u6, u7, undef, .agg #[.slice a V.length ca, .slice b L.length cb, .slice c R.length cc], .slice (some ⟨G, 0, none⟩) V.length V.length, .pointer (some ⟨w.heap.size, 2, none⟩), .slice c R.length cc, .int .i64 (R.length : Nat), .int .i64 (v : Nat), u15, u16, u17, u18, u19, u20, u21, u22, u23, u24, u25, u26, u27, u28, u29, u30, u31, u32, u33, u34, u35, u36, u37, u38, u39, u40, u41, u42, u43, undef, undef, undef, undef, u48], defers := ds } ∧ v ≤ R.length ∧ Hid (∀ j, j < v → rowE (sizesN V) L R j = 0) ∧ Hid (Below W2.heap.size W2 w') ∧ Hid (Shut W2.heap.size w'.heap.size ds w')) (fun a' _ => R.length - (intOf (a'.tmps.getD 14 undef)).toNat) ?_ ?_
  · exact ⟨0, [], _, _, _, _, _, _, _, _, _, _, _, _, _, _, _, _, _, _, _, _, _, _, _, _, _, _, _, _, _, _, _, _, _, _, rfl, Nat.zero_le _, (fun j hj => absurd hj (by omega)), Below.refl _ _, trivial⟩
  intro a' wr hinv
  obtain ⟨v, ds, u4, u5, u6, u7, u15, u16, u17, u18, u19, u20, u21, u22, u23, u24, u25, u26, u27, u28, u29, u30, u31, u32, u33, u34, u35, u36, u37, u38, u39, u40, u41, u42, u43, u48, rfl, hv, HZ0, HB, HSH⟩ := hinv
  have hlo : W2.heap.size ≤ wr.heap.size := HB.out.size
  by_cases hlt : v < R.length
  · have hKr := HK2.out.step HB.out
    have hrR := HROW.out.below HB.out HROW.out.lt
    have hvL : v < L.length := by rw [HLV.out, ← HRV.out]; exact hlt
    have hvV : v < V.length := by rw [← HRV.out]; exact hlt
    obtain ⟨gr, or_, bf, cf, rfl, hgr, r1, hrf, hrc⟩ := HI.out.rows v hlt
    obtain ⟨gp, op_, bp, cp, rfl, hgp, p1, hpi⟩ := HI.out.pars v hvL
    obtain ⟨c0, c1, c2⟩ := hKr.1.cells
    have r2 := (hKr.2.cell (p := ⟨gr, or_ + v, none⟩) hgr).trans r1
    have p2 := (hKr.2.cell (p := ⟨gp, op_ + v, none⟩) hgp).trans p1
    have hsl : (sizesN V).length = V.length := sizesN_length V
    have hup : Up L[v] V.length := by rw [← HLV.out]; exact HUP.out v hvL
    have hs4 : ∀ u, sz (sizesN V) u ≤ 4 := fun u => by have := HFI.out.sz_le u; rwa [toN_iL] at this
    have hps : Pos (sizesN V) := by have := HFI.out.pos; rwa [toN_iL] at this
    have hN : cnt (sizesN V) (toN L[v]) ≤ 65536 := cnt_small hs4 (by rw [toN_length]; have := hup.length; have := HLV.out; omega)
    have hN1 : 1 ≤ cnt (sizesN V) (toN L[v]) := cnt_pos hps _
    have hk4 := hs4 v
    have hk1 := sz_pos hps v
    have hsv := hrR.cell v (by rw [hsl]; exact hvV)
    have hse : (sizesN V)[v]'(by rw [hsl]; exact hvV) = sz (sizesN V) v := by rw [sz, List.getElem?_eq_getElem (by rw [hsl]; exact hvV)]; rfl
    rw [hse] at hsv
    have hpl := hup.length
    have HCT : Hid (CallsIn Fence.wide 5 Tryz.prog 31 #[.slice (some ⟨G, 0, none⟩) V.length V.length, .slice bp L[v].length cp] wr fun e w' => e = .returned (.tuple #[.int .i64 (cnt (sizesN V) (toN L[v]) : Nat), .int .i64 0]) ∧ Below wr.heap.size wr w') := by
      have hcb : countB (iL (sizesN V)) L[v] = true := countB_of HFI.out (by rw [iL_length, hsl]; exact hup)
      have hc := tCount_any (some ⟨G, 0, none⟩) bp V.length cp (iL (sizesN V)) L[v] wr hrR.ints (hpi.below hKr.2) (by rw [iL_length, hsl]; have := HLV.out; omega) (by have := HLV.out; omega)
      rw [countA_yes hcb, toN_iL, iL_length, hsl] at hc
      exact callsIn_wide.2 hc
    have HRE : Hid (rowE (sizesN V) L R v = if R[v].length = cnt (sizesN V) (toN L[v]) * sz (sizesN V) v then (if ((List.range (cnt (sizesN V) (toN L[v]))).all fun i => rowB (chunkF R[v] (sz (sizesN V) v) i)) = true then 0 else 9) else 8) := by
      show _ = _
      rw [rowE, List.getD_eq_getElem?_getD, List.getElem?_eq_getElem hlt, List.getD_eq_getElem?_getD, List.getElem?_eq_getElem hvL]
      rfl
    have HRF := hid (hrf.below hKr.2)
    have hrs := HRS.out R[v] (List.getElem_mem hlt)
    have HAV := hid (HA.out v hvV HZ0.out)
    generalize L[v] = pl at *
    generalize R[v] = rv at *
    have hlp : pl.length ≤ 8 := by have := HLV.out; omega
    clear hrf r1 p1 hpi hup hs4 hps hse hsl
    generalize hkk : sz (sizesN V) v = k at *
    generalize cnt (sizesN V) (toN pl) = N at *
    clear hkk
    have hNk : N * k ≤ 262144 := Nat.le_trans (Nat.mul_le_mul hN hk4) (by decide)
    have hcm : (N : Int) * (k : Int) = ((N * k : Nat) : Int) := (Int.natCast_mul _ _).symm
    have hw1 : IntKind.i64.wrap ((N : Int) * (k : Int)) = ((N * k : Nat) : Int) := by rw [hcm, IntKind.wrap_i64]; omega
    have HCM := hid hcm
    clear hcm
    by_cases hT : rv.length = N * k
    · rw [if_pos hT] at HRE
      rw [← hT] at hw1
      have hkT : k ≤ N * k := Nat.le_mul_of_pos_left k hN1
      have hpos : 0 < rv.length := by omega
      obtain ⟨gf, of_, rfl, hgf, -⟩ := HRF.out 0 hpos
      have HTT := hid hT
      clear hT hNk hkT
      have hT5 : rv.length ≤ 5000 := hrs.1
      have hne : ((rv.length : Int) != (rv.length : Int)) = false := by simp
      gi_wp2_with (first
        | (refine ⟨trivial, ?_⟩; gi_at_call 31; refine HCT.out.mono ?_; rintro e W4 ⟨rfl, hb⟩; have hK4 := hKr.step hb; have hr4 := hrR.below hb hrR.lt; have hsv4 := (hb.cell (p := ⟨G, v, none⟩) hrR.lt).trans hsv; clear c0 c1 c2 r2 p2 hsv)
        | (refine ⟨trivial, ?_⟩; gi_at_call 32; refine (chunk_in _ _ _ _ k hk1 _).mono ?_; rintro e W5 ⟨rfl, rfl⟩))
      have hsz5 : ((W4.alloc (.cells #[.slice (some ⟨gf, of_, none⟩) rv.length cf] 36)).alloc (.cells #[.int .i64 (k : Nat)] 3)).heap.size = W4.heap.size + 1 + 1 := by simp
      have hc1 : ((W4.alloc (.cells #[.slice (some ⟨gf, of_, none⟩) rv.length cf] 36)).alloc (.cells #[.int .i64 (k : Nat)] 3)).cell? ⟨W4.heap.size, 0, none⟩ = some (.slice (some ⟨gf, of_, none⟩) rv.length cf) := ((Boxed.new W4 36 (.slice (some ⟨gf, of_, none⟩) rv.length cf)).alloc _).cell
      have hc2 : ((W4.alloc (.cells #[.slice (some ⟨gf, of_, none⟩) rv.length cf] 36)).alloc (.cells #[.int .i64 (k : Nat)] 3)).cell? ⟨W4.heap.size + 1, 0, none⟩ = some (.int .i64 (k : Nat)) := by
        have h := (Boxed.new (W4.alloc (.cells #[.slice (some ⟨gf, of_, none⟩) rv.length cf] 36)) 3 (.int .i64 (k : Nat))).cell
        rwa [World.size_alloc] at h
      have hb45 : Below W4.heap.size W4 ((W4.alloc (.cells #[.slice (some ⟨gf, of_, none⟩) rv.length cf] 36)).alloc (.cells #[.int .i64 (k : Nat)] 3)) := ((Below.refl _ W4).alloc (Nat.le_refl _) _).alloc (by simp) _
      generalize ((W4.alloc (.cells #[.slice (some ⟨gf, of_, none⟩) rv.length cf] 36)).alloc (.cells #[.int .i64 (k : Nat)] 3)) = W5 at *
      have hs4 := hb.size
      have hK5 := hK4.step hb45
      have hr5 : Below wr.heap.size wr W5 := hb.trans (hb45.mono hs4)
      have HF5 := hid (HRF.out.below hr5)
      have HSH5 := hid ((HSH.out.below hr5).mono (show wr.heap.size ≤ W5.heap.size by omega))
      have HCL : Hid (CrL w 0 W5) := ⟨(hr5.block (w.heap.size + 1) (by omega)).trans ((HB.out.block (w.heap.size + 1) hE1).trans HE2.out), hK5.2⟩
      have HK5 := hid hK5
      have HB5 := hid (HB.out.trans (hr5.mono hlo))
      clear hb hK4 hr4 hsv4 hb45 hKr hrR hK5 HCT HROW HB HSH HRF hr5
      refine wpIn_rangeFunc_ownG (α := CAt N) rfl (by omega) (gf := 54) (lb := #[.pointer (some ⟨W4.heap.size, 0, none⟩), .pointer (some ⟨W4.heap.size + 1, 0, none⟩)]) rfl trivial (enters_of Tryz.func54 (by kernel_rfl) rfl)
        (chunk_stops 5 (by omega) W4.heap.size (W4.heap.size + 1) W5.heap.size gf of_ cf k N rv.length HTT.out hk1 hk4 hN hrc W5 (by omega) (by omega) hc1 hc2) KeepsC.t (KeepsC.b (by omega) (by omega) (Nat.le_refl _)) (Below.refl _ _) (fun _ => rfl)
        (fun (pre : List (CAt N)) X => Below W5.heap.size W5 X ∧ ∀ x ∈ pre, rowB (chunkF rv k x.1) = true)
        (fun cd (pre : List (CAt N)) X => ∃ Y, (cd = Code.ret ∧ (∃ x ∈ pre, rowB (chunkF rv k x.1) = false) ∧ CrL w 9 Y ∧ Shut W2.heap.size W5.heap.size ds Y) ∧ W5.heap.size ≤ Y.heap.size ∧ Below W5.heap.size Y X)
        (OwnFrom.and (ownFrom_below (Nat.le_refl _) (Nat.le_refl _)) (fun _ _ _ _ hs _ _ => hs))
        (fun cd => ownFrom_held (Q := fun (pre : List (CAt N)) Y => cd = Code.ret ∧ (∃ x ∈ pre, rowB (chunkF rv k x.1) = false) ∧ CrL w 9 Y ∧ Shut W2.heap.size W5.heap.size ds Y) (Nat.le_refl _))
        ⟨Below.refl _ _, fun x hx => absurd hx (by simp)⟩
        (fun x => { tmps := #[.agg #[.slice a V.length ca, .slice (some ⟨gp, op_, none⟩) L.length cb, .slice (some ⟨gr, or_, none⟩) R.length cc], .pointer (some ⟨w.heap.size, 0, none⟩), .pointer (some ⟨w.heap.size + 1, 0, none⟩), .slice (some ⟨G, 0, none⟩) V.length V.length, .int .i64 (v : Nat), .slice (some ⟨gf, of_, none⟩) rv.length cf, .int .i64 (N : Nat), .int .i64 0, .slice (some ⟨gf, of_ + x.1 * k * 3, none⟩) k k, .agg #[.slice a V.length ca, .slice (some ⟨gp, op_, none⟩) L.length cb, .slice (some ⟨gr, or_, none⟩) R.length cc], .slice (some ⟨G, 0, none⟩) V.length V.length, .pointer (some ⟨w.heap.size, 2, none⟩), .slice (some ⟨gr, or_, none⟩) R.length cc, .int .i64 (R.length : Nat), .int .i64 (v : Nat), .bool true, .int .i64 (v : Nat), .pointer (some ⟨gr, or_ + v, none⟩), .slice (some ⟨gf, of_, none⟩) rv.length cf, .tuple #[.int .i64 (N : Nat), .int .i64 0], .slice (some ⟨G, 0, none⟩) V.length V.length, .pointer (some ⟨w.heap.size, 1, none⟩), .slice (some ⟨gp, op_, none⟩) L.length cb, .int .i64 (v : Nat), .pointer (some ⟨gp, op_ + v, none⟩), .slice bp pl.length cp, .tuple #[.int .i64 (N : Nat), .int .i64 0], .int .i64 (N : Nat), .int .i64 0, .slice (some ⟨gf, of_, none⟩) rv.length cf, .int .i64 (rv.length : Nat), .int .i64 (N : Nat), .slice (some ⟨G, 0, none⟩) V.length V.length, .int .i64 (v : Nat), .pointer (some ⟨G, v, none⟩), .int .i64 (k : Nat), .int .i64 (rv.length : Nat), .bool false, .slice (some ⟨gf, of_, none⟩) rv.length cf, .slice (some ⟨G, 0, none⟩) V.length V.length, .int .i64 (v : Nat), .pointer (some ⟨G, v, none⟩), .int .i64 (k : Nat), .func (.func 54) #[] #[.pointer (some ⟨W4.heap.size, 0, none⟩), .pointer (some ⟨W4.heap.size + 1, 0, none⟩)], .slice (some ⟨gf, of_ + x.1 * k * 3, none⟩) k k, undef, undef, undef, u48], defers := [] }) ?assign ?body ?done ?stop
      case assign =>
        intro l x X K hK
        gi_wp2
        exact hK
      case body =>
        rintro l pre ⟨i, hi⟩ X ⟨hBX, hall⟩ hpre
        have hmul : (i + 1) * k ≤ rv.length := by rw [HTT.out]; exact Nat.mul_le_mul_right k hi
        obtain ⟨hfc, hlc⟩ := FrS.chunk (m := k) (HF5.out.below hBX) hmul rfl
        have hir := isRow_any (some ⟨gf, of_ + i * k * 3, none⟩) k (chunkF rv k i) X hfc (Nat.le_trans (fw_chunk rv k i) hrs.2) (by omega)
        rw [hlc] at hir
        have hXs := hBX.size
        have HIR := hid hir
        have HBX := hid hBX
        have HALL := hid hall
        clear hir hfc hlc hmul hBX hall hc1 hc2 hpre
        cases hrb : rowB (chunkF rv k i)
        case true =>
          rw [hrb] at HIR
          have HRB := hid hrb
          clear hrb
          gi_wp2_with (refine ⟨trivial, ?_⟩; gi_at_call 33; refine (CallsIn.inRound l (callsIn_wide.2 HIR.out)).mono ?_; rintro e X2 ⟨rfl, hbX⟩)
          refine ⟨(below_others hbX).from _, ⟨hbX.cell (p := ⟨W4.heap.size, 0, none⟩) (by show W4.heap.size < X.heap.size; omega), hbX.cell (p := ⟨W4.heap.size + 1, 0, none⟩) (by show W4.heap.size + 1 < X.heap.size; omega), hbX.mono hXs⟩, HBX.out.trans (hbX.mono hXs), fun x hx => ?_⟩
          rcases List.mem_append.1 hx with hx | hx
          · exact HALL.out x hx
          · rw [List.mem_singleton.1 hx]
            exact HRB.out
        case false =>
          rw [hrb] at HIR
          have HRB := hid hrb
          clear hrb
          gi_wp2_with (refine ⟨trivial, ?_⟩; gi_at_call 33; refine (CallsIn.inRound l (callsIn_wide.2 HIR.out)).mono ?_; rintro e X2 ⟨rfl, hbX⟩; have hB2 := HBX.out.trans (hbX.mono hXs); have hbx := (hB2.block (w.heap.size + 1) (by omega)).trans HCL.out.1; have hcx := Boxed.cell hbx; have hfx := Boxed.frozen hbx)
          have hL9 : CrL w 9 (X2.setCell ⟨w.heap.size + 1, 0, none⟩ (.int .i64 9)) := CrL.put (k := 0) ⟨hbx, HCL.out.2.trans (hB2.mono (by omega))⟩ 9
          refine ⟨((below_others hbX).trans (KeepsOthers.setCell X2 _ _)).from _, _, ⟨rfl, ⟨⟨i, hi⟩, by simp, HRB.out⟩, hL9, (HSH5.out.below hB2).put (by omega) _⟩, ?_, Below.refl _ _⟩
          have hX2s := hbX.size
          simp
          omega
      case done =>
        rintro D ys X hD hys ⟨hBX, hall⟩ hK
        have HRZ : Hid (rowE (sizesN V) L R v = 0) := by
          show _ = _
          rw [HRE.out, if_pos]
          rw [List.all_eq_true]
          intro i hi
          rw [← hys] at hi
          obtain ⟨x, hx, rfl⟩ := List.mem_map.1 hi
          exact hall x hx
        have hDX : D < X.heap.size := (Array.getElem?_eq_some_iff.1 hK).1
        have hB2 := HB5.out.trans (hBX.mono (by omega))
        have hSX : Shut W2.heap.size X.heap.size ({ target := .collected D, args := #[] } :: ds) X := ⟨D, by omega, hDX, rfl, hK, (HSH5.out.below hBX).mono hD⟩
        have HBX := hid hB2
        have HSX := hid hSX
        clear hK hall hys hB2 hSX hc1 hc2 hBX
        gi_wp2
        refine ⟨⟨v + 1, _, _, _, _, _, _, _, _, _, _, _, _, _, _, _, _, _, _, _, _, _, _, _, _, _, _, _, _, _, _, _, _, _, _, _, rfl, by omega, (fun j hj => ?_), HBX, HSX⟩, ?_⟩
        · rcases Nat.lt_or_ge j v with h | h
          · exact HZ0.out j h
          · rw [show j = v by omega]
            exact HRZ.out
        · simp [intOf]
          omega
      case stop =>
        rintro D cd pre X hD hSp ⟨Y, ⟨rfl, ⟨x, hx, hxb⟩, hcr, hsh⟩, hYs, hBX⟩ hK
        have hfe : fe = 9 := HAV.out 9 (by
          rw [HRE.out, if_neg]
          intro h
          rw [List.all_eq_true] at h
          have := h x.1 (List.mem_range.2 x.2)
          rw [hxb] at this
          cases this) (by decide)
        have hDX : D < X.heap.size := (Array.getElem?_eq_some_iff.1 hK).1
        have hCX : CrL w 9 X := ⟨(hBX.block (w.heap.size + 1) (by omega)).trans hcr.1, hcr.2.trans (hBX.mono (by omega))⟩
        gi_wp2
        refine leaves_shut (lo := W2.heap.size) (K := CrL w 9) (CrL.shut (by omega)) (fun Z hZ => ⟨_, results_cell_err hZ.1 rfl _ rfl, ?_, hZ.2⟩) _ X.heap.size X ⟨D, by omega, hDX, rfl, hK, (hsh.below hBX).mono hD⟩ hCX
        rw [hfe]
    · rw [if_neg hT] at HRE
      have hfe : fe = 8 := HAV.out 8 HRE.out (by decide)
      have hne : ((rv.length : Int) != ((N * k : Nat) : Int)) = true := by
        have : ¬ (rv.length : Int) = ((N * k : Nat) : Int) := by omega
        simpa using this
      clear hT
      have HB' := HB.out
      gi_wp2_with (refine ⟨trivial, ?_⟩; gi_at_call 31; refine HCT.out.mono ?_; rintro e W4 ⟨rfl, hb⟩; have hK4 := hKr.step hb; have hsv4 := (hb.cell (p := ⟨G, v, none⟩) hrR.lt).trans hsv; have hbx : Boxed W4 (w.heap.size + 1) 28 (.int .i64 0) := (hb.block (w.heap.size + 1) (by omega)).trans ((HB.out.block (w.heap.size + 1) hE1).trans HE2.out); have hcx := Boxed.cell hbx; have hfx := Boxed.frozen hbx; clear c0 c1 c2 r2 p2 hsv)
      refine leaves_shut (lo := W2.heap.size) (K := CrL w 8) (CrL.shut (by omega)) (fun Z hZ => ⟨_, results_cell_err hZ.1 rfl _ rfl, ?_, hZ.2⟩) _ wr.heap.size _ ((HSH.out.below hb).put (by omega) _) (CrL.put (k := 0) ⟨hbx, hK4.2⟩ 8)
      rw [hfe]
  · obtain rfl : v = R.length := by omega
    have hfe : fe = 0 := HZ.out (fun j hj => HZ0.out j (by rw [HRV.out]; exact hj))
    have hbx : Boxed wr (w.heap.size + 1) 28 (.int .i64 0) := (HB.out.block (w.heap.size + 1) hE1).trans HE2.out
    have hcx := Boxed.cell hbx
    have hfx := Boxed.frozen hbx
    have hKr := HK2.out.step HB.out
    gi_wp2
    refine leaves_shut (lo := W2.heap.size) (K := CrL w 0) (CrL.shut (by omega)) (fun Z hZ => ⟨_, results_cell_err hZ.1 rfl _ rfl, ?_, hZ.2⟩) _ wr.heap.size _ (HSH.out.put (by omega) _) (CrL.put (k := 0) ⟨hbx, hKr.2⟩ 0)
    rw [hfe]
end Go.Proofs.YtmdjhefcohcjhaaGreatDoor


/- Nets: Given on both sides, whatever is asked. -/
namespace Go.Proofs.YtmdjhefcohcjhaaGreatDoor
open Go.RowKit Go.Shelf

theorem check_any (a b c : Option Addr) (ca cb cc : Nat) (V : List Vr) (L : List (List Int)) (R : List (List Fr)) (w : World) (h : NetI w a b c V L R) (hs : NSm V L R) :
    Calls Tryz.prog 8 #[.agg #[.slice a V.length ca, .slice b L.length cb, .slice c R.length cc]] w fun e w' => e = .returned (.int .i64 (netE V L R)) ∧ Below w.heap.size w w' :=
  nCheck_any a b c ca cb cc V L R w h hs fun h1 h2 h3 h4 U hU => checkRows_any a b c ca cb cc V L R U hU hs h1 h2 h3 h4
theorem nsm_of {V : List Vr} {L : List (List Int)} {R : List (List Fr)} (h : NLi V L R) : NSm V L R ∧ ∀ l ∈ R, fw l ≤ 4200 := by
  have ha := h.all
  have h3 : ∀ l ∈ R, l.length + sw l ≤ 2048 := fun l hl => by
    obtain ⟨j, hj, rfl⟩ := List.getElem_of_mem hl
    exact h.rows (by omega) j hj hj
  refine ⟨⟨⟨by omega, fun x hx => ?_⟩, ⟨by omega, fun l hl => ?_⟩, ⟨by omega, fun l hl => ?_⟩⟩, fun l hl => ?_⟩
  · obtain ⟨j, hj, rfl⟩ := List.getElem_of_mem hx
    obtain ⟨h1, h2, h4⟩ := h.vars (by omega) j hj hj
    exact ⟨by omega, by omega, fun s hs => by have := h4 s hs; omega⟩
  · obtain ⟨j, hj, rfl⟩ := List.getElem_of_mem hl
    have := h.pars (by omega) j hj hj
    omega
  · have h5 := h3 l hl
    have h6 := fw_sw l
    omega
  · have h5 := h3 l hl
    have h6 := fw_sw l
    omega
end Go.Proofs.YtmdjhefcohcjhaaGreatDoor

