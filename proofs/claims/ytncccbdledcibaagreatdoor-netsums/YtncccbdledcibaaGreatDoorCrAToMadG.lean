/- Nets: checkRows of package net. -/
import Derived.Test.YtncccbdledcibaaGreatDoorGivEToMarkA
import Derived.RangeFuncCalls
import Derived.Test.YtncccbdledcibaaGreatDoorNetEOwn
import Derived.Test.YtncccbdledcibaaGreatDoorStandBToProdA
import Derived.Test.YtncccbdledcibaaGreatDoorMadEOwn
import Derived.Test.YtncccbdledcibaaGreatDoorMadFToGivD
namespace Go.Proofs.YtncccbdledcibaaGreatDoor
open Go.RowKit Go.Shelf

attribute [local go_sem] Oper.semAt_some

theorem results_cell_err {w : World} {g : Nat} {k : Int} (h : Boxed w g 32 (.int .i64 k)) {fn : Func} {p : Tmp} (hr : fn.results = #[.cell p 32]) (tmps : Array Value) (hp : tmps.getD p undef = .pointer (some ⟨g, 0, none⟩)) : (results fn tmps).run Tryz.prog w = .ok (.int .i64 k) w := by
  have hp' : tmps[p]?.getD undef = .pointer (some ⟨g, 0, none⟩) := by simpa using hp
  have hc := h.cell
  simp only [results, hr]
  simp [hp', asAddr]
  go_simp
theorem below_others {V V' : World} (h : Below V.heap.size V V') : KeepsOthers V V' := ⟨h.size, fun k _ hk _ => (h.block k (Array.getElem?_eq_some_iff.1 hk).1).trans hk⟩
/-- What is so of the blocks below n0 stays so. -/
theorem ownFrom_held {β : Type} {n0 B : Nat} {Q : β → World → Prop} (hB : n0 ≤ B) : OwnFrom B (fun (s : β) W => ∃ V, Q s V ∧ n0 ≤ V.heap.size ∧ Below n0 V W) := fun s W W' row hs hg hr => by
  obtain ⟨V, h1, h2, h3⟩ := hs
  exact ⟨V, h1, h2, h3.grown hg (Nat.le_trans h2 h3.size) (fun k e => Nat.le_trans hB (hr k e).1)⟩
/-- What a call of checkRows leaves with. -/
def CrL (w : World) (k : Int) (W : World) : Prop := Boxed W (w.heap.size + 1) 32 (.int .i64 k) ∧ Below w.heap.size w W
theorem CrL.shut {w : World} {k : Int} {lo : Nat} (hlo : w.heap.size + 1 < lo) (W : World) (r : Nat) (h : CrL w k W) (hr : lo ≤ r) (hd : W.heap[r]? = some (.deferred (some []))) : CrL w k (W.putObj r (.deferred none)) :=
  ⟨(World.putObj_heap_other (by omega)).trans h.1, h.2.trans (belowK_b (w := w) (Nat.le_refl _) W r _ _ (by omega) hd rfl rfl)⟩
theorem CrL.put {w W : World} {k : Int} (h : CrL w k W) (j : Int) : CrL w j (W.setCell ⟨w.heap.size + 1, 0, none⟩ (.int .i64 j)) := ⟨h.1.set _, h.2.setCell (p := ⟨w.heap.size + 1, 0, none⟩) (by simp) _⟩
theorem Shut.put {lo B : Nat} {ds : List Deferred} {W : World} (h : Shut lo B ds W) {g : Nat} (hg : g < lo) (v : Value) : Shut lo B ds (W.setCell ⟨g, 0, none⟩ v) := by
  induction ds generalizing B with
  | nil => trivial
  | cons d ds ih =>
    obtain ⟨r, h1, h2, h3, h4, h5⟩ := h
    exact ⟨r, h1, h2, h3, (Below.heap_setCell W ⟨g, 0, none⟩ v r (by show r ≠ g; omega)).trans h4, ih h5⟩

set_option maxRecDepth 100000 in
set_option maxHeartbeats 4000000 in
theorem checkRows_any (a b c : Option Addr) (ca cb cc : Nat) (V : List Vr) (L : List (List Int)) (R : List (List Fr)) (w : World) (h : NetI w a b c V L R) (hs : NSm V L R) (hLV : L.length = V.length) (hRV : R.length = V.length) (hg : gcE L = 0) (hv : varsE V = 0) :
    Calls Tryz.prog 42 #[.agg #[.slice a V.length ca, .slice b L.length cb, .slice c R.length cc]] w fun e w' => e = .returned (.int .i64 (firstE (rowE (sizesN V) L R) V.length)) ∧ Below w.heap.size w w' := by
  refine (callsIn_wide (n := 6)).1 ?_
  obtain ⟨hfi, hn8, hup⟩ := fine_sizes hLV hg hv
  have HI := hid h
  have hV5 := hs.vars.1
  have HRS := hid hs.rows.2
  have HFI := hid hfi
  have HUP := hid hup
  have HSZ := hid (fun (U : World) (hU : VsS U a V) => nSizes_any a b c ca cb cc L.length R.length V U hU hV5)
  have HA : Hid (∀ i, i < V.length → (∀ j, j < i → rowE (sizesN V) L R j = 0) → ∀ k, rowE (sizesN V) L R i = k → k ≠ 0 → firstE (rowE (sizesN V) L R) V.length = k) := fun i hi hz k hk hk0 => by rw [firstE_at hz (by rw [hk]; exact hk0) hi, hk]
  have HZ : Hid ((∀ j, j < V.length → rowE (sizesN V) L R j = 0) → firstE (rowE (sizesN V) L R) V.length = 0) := fun h => firstE_none h
  have HLV := hid hLV
  have HRV := hid hRV
  generalize firstE (rowE (sizesN V) L R) V.length = fe at *
  clear h hs hfi hup hLV hRV hg hv
  have hK0 : NK w ((w.alloc (NC (.slice a V.length ca) (.slice b L.length cb) (.slice c R.length cc))).alloc (.cells #[.int .i64 0] 32)) (.slice a V.length ca) (.slice b L.length cb) (.slice c R.length cc) := (NK.new w (.slice a V.length ca) (.slice b L.length cb) (.slice c R.length cc)).step ((Below.refl _ _).alloc (Nat.le_refl _) _)
  have hE0 : Boxed ((w.alloc (NC (.slice a V.length ca) (.slice b L.length cb) (.slice c R.length cc))).alloc (.cells #[.int .i64 0] 32)) (w.heap.size + 1) 32 (.int .i64 0) := by
    have h := Boxed.new (w.alloc (NC (.slice a V.length ca) (.slice b L.length cb) (.slice c R.length cc))) 32 (.int .i64 0)
    rwa [World.size_alloc] at h
  have HK0 := hid hK0
  have HE0 := hid hE0
  obtain ⟨c0, c1, c2⟩ := hK0.1.cells
  clear hK0 hE0
  refine callsIn_of_wp_marks Tryz.func42 rfl trivial ?_ rfl
  simp only [Tryz.ntmps42, List.size_toArray, List.length_cons, List.length_nil, Nat.reduceAdd, Nat.reduceSub, Array.replicate_succ, Array.replicate_zero, List.push_toArray, List.append_toArray, List.nil_append, List.cons_append]
  gi_wp2_with (refine ⟨trivial, ?_⟩; gi_at_call 13; refine (callsIn_wide.2 (HSZ.out _ (HI.out.below HK0.out.2).vars)).mono ?_; rintro e W2 ⟨G, rfl, hGe, hrow, hb⟩; have hK2 := HK0.out.step hb; have hE2 := (hb.block (w.heap.size + 1) (Array.getElem?_eq_some_iff.1 HE0.out).1).trans HE0.out; clear c0 c1 c2; obtain ⟨c0, c1, c2⟩ := hK2.1.cells)
  clear hb
  have HK2 := hid hK2
  have HE2 : Hid (Boxed W2 (w.heap.size + 1) 32 (.int .i64 0)) := hE2
  have HROW := hid hrow
  have hE1 : w.heap.size + 1 < W2.heap.size := (Array.getElem?_eq_some_iff.1 hE2).1
  clear hK2 hE2 hrow c0 c1 c2 HK0 HE0 HSZ hGe
  refine wpIn_loop (fun a' w' => ∃ (v : Nat) (ds : List Deferred) (u4 u5 u6 u7 u15 u16 u17 u18 u19 u20 u21 u22 u23 u24 u25 u26 u27 u28 u29 u30 u31 u32 u33 u34 u35 u36 u37 u38 u39 u40 u41 u42 u43 u48 : Value), a' = { tmps := #[.agg #[.slice a V.length ca, .slice b L.length cb, .slice c R.length cc], .pointer (some ⟨w.heap.size, 0, none⟩), .pointer (some ⟨w.heap.size + 1, 0, none⟩), .slice (some ⟨G, 0, none⟩) V.length V.length, u4, u5, u6, u7, undef, .agg #[.slice a V.length ca, .slice b L.length cb, .slice c R.length cc], .slice (some ⟨G, 0, none⟩) V.length V.length, .pointer (some ⟨w.heap.size, 2, none⟩), .slice c R.length cc, .int .i64 (R.length : Nat), .int .i64 (v : Nat), u15, u16, u17, u18, u19, u20, u21, u22, u23, u24, u25, u26, u27, u28, u29, u30, u31, u32, u33, u34, u35, u36, u37, u38, u39, u40, u41, u42, u43, undef, undef, undef, undef, u48], defers := ds } ∧ v ≤ R.length ∧ Hid (∀ j, j < v → rowE (sizesN V) L R j = 0) ∧ Hid (Below W2.heap.size W2 w') ∧ Hid (Shut W2.heap.size w'.heap.size ds w')) (fun a' _ => R.length - (intOf (a'.tmps.getD 14 undef)).toNat) ?_ ?_
  · exact ⟨0, [], _, _, _, _, _, _, _, _, _, _, _, _, _, _, _, _, _, _, _, _, _, _, _, _, _, _, _, _, _, _, _, _, _, _, rfl, Nat.zero_le _, (fun j hj => absurd hj (by omega)), Below.refl _ _, trivial⟩
  intro a' wr hinv
  obtain ⟨v, ds, u4, u5, u6, u7, u15, u16, u17, u18, u19, u20, u21, u22, u23, u24, u25, u26, u27, u28, u29, u30, u31, u32, u33, u34, u35, u36, u37, u38, u39, u40, u41, u42, u43, u48, rfl, hv, HZ0, HB, HSH⟩ := hinv
  have hlo : W2.heap.size ≤ wr.heap.size := HB.out.size
  by_cases hlt : v < R.length
  · have hKr := HK2.out.step HB.out
    have hrR := HROW.out.below HB.out HROW.out.lt
    have hvL : v < L.length := by rw [HLV.out, ← HRV.out]; exact hlt
    have hvV : v < V.length := by rw [← HRV.out]; exact hlt
    obtain ⟨gr, or_, bf, cf, rfl, hgr, r1, hrf, hrc⟩ := HI.out.rows v hlt
    obtain ⟨gp, op_, bp, cp, rfl, hgp, p1, hpi⟩ := HI.out.pars v hvL
    obtain ⟨c0, c1, c2⟩ := hKr.1.cells
    have r2 := (hKr.2.cell (p := ⟨gr, or_ + v, none⟩) hgr).trans r1
    have p2 := (hKr.2.cell (p := ⟨gp, op_ + v, none⟩) hgp).trans p1
    have hsl : (sizesN V).length = V.length := sizesN_length V
    have hup : Up L[v] V.length := by rw [← HLV.out]; exact HUP.out v hvL
    have hs4 : ∀ u, sz (sizesN V) u ≤ 4 := fun u => by have := HFI.out.sz_le u; rwa [toN_iL] at this
    have hps : Pos (sizesN V) := by have := HFI.out.pos; rwa [toN_iL] at this
    have hN : cnt (sizesN V) (toN L[v]) ≤ 65536 := cnt_small hs4 (by rw [toN_length]; have := hup.length; have := HLV.out; omega)
    have hN1 : 1 ≤ cnt (sizesN V) (toN L[v]) := cnt_pos hps _
    have hk4 := hs4 v
    have hk1 := sz_pos hps v
    have hsv := hrR.cell v (by rw [hsl]; exact hvV)
    have hse : (sizesN V)[v]'(by rw [hsl]; exact hvV) = sz (sizesN V) v := by rw [sz, List.getElem?_eq_getElem (by rw [hsl]; exact hvV)]; rfl
    rw [hse] at hsv
    have hpl := hup.length
    have HCT : Hid (CallsIn Fence.wide 5 Tryz.prog 64 #[.slice (some ⟨G, 0, none⟩) V.length V.length, .slice bp L[v].length cp] wr fun e w' => e = .returned (.tuple #[.int .i64 (cnt (sizesN V) (toN L[v]) : Nat), .int .i64 0]) ∧ Below wr.heap.size wr w') := by
      have hcb : countB (iL (sizesN V)) L[v] = true := countB_of HFI.out (by rw [iL_length, hsl]; exact hup)
      have hc := tCount_any (some ⟨G, 0, none⟩) bp V.length cp (iL (sizesN V)) L[v] wr hrR.ints (hpi.below hKr.2) (by rw [iL_length, hsl]; have := HLV.out; omega) (by have := HLV.out; omega)
      rw [countA_yes hcb, toN_iL, iL_length, hsl] at hc
      exact callsIn_wide.2 hc
    have HRE : Hid (rowE (sizesN V) L R v = if R[v].length = cnt (sizesN V) (toN L[v]) * sz (sizesN V) v then (if ((List.range (cnt (sizesN V) (toN L[v]))).all fun i => rowB (chunkF R[v] (sz (sizesN V) v) i)) = true then 0 else 9) else 8) := by
      show _ = _
      rw [rowE, List.getD_eq_getElem?_getD, List.getElem?_eq_getElem hlt, List.getD_eq_getElem?_getD, List.getElem?_eq_getElem hvL]
      rfl
    have HRF := hid (hrf.below hKr.2)
    have hrs := HRS.out R[v] (List.getElem_mem hlt)
    have HAV := hid (HA.out v hvV HZ0.out)
    generalize L[v] = pl at *
    generalize R[v] = rv at *
    have hlp : pl.length ≤ 8 := by have := HLV.out; omega
    clear hrf r1 p1 hpi hup hs4 hps hse hsl
    generalize hkk : sz (sizesN V) v = k at *
    generalize cnt (sizesN V) (toN pl) = N at *
    clear hkk
    have hNk : N * k ≤ 262144 := Nat.le_trans (Nat.mul_le_mul hN hk4) (by decide)
    have hcm : (N : Int) * (k : Int) = ((N * k : Nat) : Int) := (Int.natCast_mul _ _).symm
    have hw1 : IntKind.i64.wrap ((N : Int) * (k : Int)) = ((N * k : Nat) : Int) := by rw [hcm, IntKind.wrap_i64]; omega
    have HCM := hid hcm
    clear hcm
    by_cases hT : rv.length = N * k
    · rw [if_pos hT] at HRE
      rw [← hT] at hw1
      have hkT : k ≤ N * k := Nat.le_mul_of_pos_left k hN1
      have hpos : 0 < rv.length := by omega
      obtain ⟨gf, of_, rfl, hgf, -⟩ := HRF.out 0 hpos
      have HTT := hid hT
      clear hT hNk hkT
      have hT5 : rv.length ≤ 5000 := hrs.1
      have hne : ((rv.length : Int) != (rv.length : Int)) = false := by simp
      gi_wp2_with (first
        | (refine ⟨trivial, ?_⟩; gi_at_call 64; refine HCT.out.mono ?_; rintro e W4 ⟨rfl, hb⟩; have hK4 := hKr.step hb; have hr4 := hrR.below hb hrR.lt; have hsv4 := (hb.cell (p := ⟨G, v, none⟩) hrR.lt).trans hsv; clear c0 c1 c2 r2 p2 hsv)
        | (refine ⟨trivial, ?_⟩; gi_at_call 76; refine (chunk_in _ _ _ _ k hk1 _).mono ?_; rintro e W5 ⟨rfl, rfl⟩))
      have hsz5 : ((W4.alloc (.cells #[.slice (some ⟨gf, of_, none⟩) rv.length cf] 29)).alloc (.cells #[.int .i64 (k : Nat)] 3)).heap.size = W4.heap.size + 1 + 1 := by simp
      have hc1 : ((W4.alloc (.cells #[.slice (some ⟨gf, of_, none⟩) rv.length cf] 29)).alloc (.cells #[.int .i64 (k : Nat)] 3)).cell? ⟨W4.heap.size, 0, none⟩ = some (.slice (some ⟨gf, of_, none⟩) rv.length cf) := ((Boxed.new W4 29 (.slice (some ⟨gf, of_, none⟩) rv.length cf)).alloc _).cell
      have hc2 : ((W4.alloc (.cells #[.slice (some ⟨gf, of_, none⟩) rv.length cf] 29)).alloc (.cells #[.int .i64 (k : Nat)] 3)).cell? ⟨W4.heap.size + 1, 0, none⟩ = some (.int .i64 (k : Nat)) := by
        have h := (Boxed.new (W4.alloc (.cells #[.slice (some ⟨gf, of_, none⟩) rv.length cf] 29)) 3 (.int .i64 (k : Nat))).cell
        rwa [World.size_alloc] at h
      have hb45 : Below W4.heap.size W4 ((W4.alloc (.cells #[.slice (some ⟨gf, of_, none⟩) rv.length cf] 29)).alloc (.cells #[.int .i64 (k : Nat)] 3)) := ((Below.refl _ W4).alloc (Nat.le_refl _) _).alloc (by simp) _
      generalize ((W4.alloc (.cells #[.slice (some ⟨gf, of_, none⟩) rv.length cf] 29)).alloc (.cells #[.int .i64 (k : Nat)] 3)) = W5 at *
      have hs4 := hb.size
      have hK5 := hK4.step hb45
      have hr5 : Below wr.heap.size wr W5 := hb.trans (hb45.mono hs4)
      have HF5 := hid (HRF.out.below hr5)
      have HSH5 := hid ((HSH.out.below hr5).mono (show wr.heap.size ≤ W5.heap.size by omega))
      have HCL : Hid (CrL w 0 W5) := ⟨(hr5.block (w.heap.size + 1) (by omega)).trans ((HB.out.block (w.heap.size + 1) hE1).trans HE2.out), hK5.2⟩
      have HK5 := hid hK5
      have HB5 := hid (HB.out.trans (hr5.mono hlo))
      clear hb hK4 hr4 hsv4 hb45 hKr hrR hK5 HCT HROW HB HSH HRF hr5
      refine wpIn_rangeFunc_ownG (α := CAt N) rfl (by omega) (gf := 109) (lb := #[.pointer (some ⟨W4.heap.size, 0, none⟩), .pointer (some ⟨W4.heap.size + 1, 0, none⟩)]) rfl trivial (enters_of Tryz.func109 (by kernel_rfl) rfl)
        (chunk_stops 5 (by omega) W4.heap.size (W4.heap.size + 1) W5.heap.size gf of_ cf k N rv.length HTT.out hk1 hk4 hN hrc W5 (by omega) (by omega) hc1 hc2) KeepsC.t (KeepsC.b (by omega) (by omega) (Nat.le_refl _)) (Below.refl _ _) (fun _ => rfl)
        (fun (pre : List (CAt N)) X => Below W5.heap.size W5 X ∧ ∀ x ∈ pre, rowB (chunkF rv k x.1) = true)
        (fun cd (pre : List (CAt N)) X => ∃ Y, (cd = Code.ret ∧ (∃ x ∈ pre, rowB (chunkF rv k x.1) = false) ∧ CrL w 9 Y ∧ Shut W2.heap.size W5.heap.size ds Y) ∧ W5.heap.size ≤ Y.heap.size ∧ Below W5.heap.size Y X)
        (OwnFrom.and (ownFrom_below (Nat.le_refl _) (Nat.le_refl _)) (fun _ _ _ _ hs _ _ => hs))
        (fun cd => ownFrom_held (Q := fun (pre : List (CAt N)) Y => cd = Code.ret ∧ (∃ x ∈ pre, rowB (chunkF rv k x.1) = false) ∧ CrL w 9 Y ∧ Shut W2.heap.size W5.heap.size ds Y) (Nat.le_refl _))
        ⟨Below.refl _ _, fun x hx => absurd hx (by simp)⟩
        (fun x => { tmps := #[.agg #[.slice a V.length ca, .slice (some ⟨gp, op_, none⟩) L.length cb, .slice (some ⟨gr, or_, none⟩) R.length cc], .pointer (some ⟨w.heap.size, 0, none⟩), .pointer (some ⟨w.heap.size + 1, 0, none⟩), .slice (some ⟨G, 0, none⟩) V.length V.length, .int .i64 (v : Nat), .slice (some ⟨gf, of_, none⟩) rv.length cf, .int .i64 (N : Nat), .int .i64 0, .slice (some ⟨gf, of_ + x.1 * k * 3, none⟩) k k, .agg #[.slice a V.length ca, .slice (some ⟨gp, op_, none⟩) L.length cb, .slice (some ⟨gr, or_, none⟩) R.length cc], .slice (some ⟨G, 0, none⟩) V.length V.length, .pointer (some ⟨w.heap.size, 2, none⟩), .slice (some ⟨gr, or_, none⟩) R.length cc, .int .i64 (R.length : Nat), .int .i64 (v : Nat), .bool true, .int .i64 (v : Nat), .pointer (some ⟨gr, or_ + v, none⟩), .slice (some ⟨gf, of_, none⟩) rv.length cf, .tuple #[.int .i64 (N : Nat), .int .i64 0], .slice (some ⟨G, 0, none⟩) V.length V.length, .pointer (some ⟨w.heap.size, 1, none⟩), .slice (some ⟨gp, op_, none⟩) L.length cb, .int .i64 (v : Nat), .pointer (some ⟨gp, op_ + v, none⟩), .slice bp pl.length cp, .tuple #[.int .i64 (N : Nat), .int .i64 0], .int .i64 (N : Nat), .int .i64 0, .slice (some ⟨gf, of_, none⟩) rv.length cf, .int .i64 (rv.length : Nat), .int .i64 (N : Nat), .slice (some ⟨G, 0, none⟩) V.length V.length, .int .i64 (v : Nat), .pointer (some ⟨G, v, none⟩), .int .i64 (k : Nat), .int .i64 (rv.length : Nat), .bool false, .slice (some ⟨gf, of_, none⟩) rv.length cf, .slice (some ⟨G, 0, none⟩) V.length V.length, .int .i64 (v : Nat), .pointer (some ⟨G, v, none⟩), .int .i64 (k : Nat), .func (.func 109) #[] #[.pointer (some ⟨W4.heap.size, 0, none⟩), .pointer (some ⟨W4.heap.size + 1, 0, none⟩)], .slice (some ⟨gf, of_ + x.1 * k * 3, none⟩) k k, undef, undef, undef, u48], defers := [] }) ?assign ?body ?done ?stop
      case assign =>
        intro l x X K hK
        gi_wp2
        exact hK
      case body =>
        rintro l pre ⟨i, hi⟩ X ⟨hBX, hall⟩ hpre
        have hmul : (i + 1) * k ≤ rv.length := by rw [HTT.out]; exact Nat.mul_le_mul_right k hi
        obtain ⟨hfc, hlc⟩ := FrS.chunk (m := k) (HF5.out.below hBX) hmul rfl
        have hir := isRow_any (some ⟨gf, of_ + i * k * 3, none⟩) k (chunkF rv k i) X hfc (Nat.le_trans (fw_chunk rv k i) hrs.2) (by omega)
        rw [hlc] at hir
        have hXs := hBX.size
        have HIR := hid hir
        have HBX := hid hBX
        have HALL := hid hall
        clear hir hfc hlc hmul hBX hall hc1 hc2 hpre
        cases hrb : rowB (chunkF rv k i)
        case true =>
          rw [hrb] at HIR
          have HRB := hid hrb
          clear hrb
          gi_wp2_with (refine ⟨trivial, ?_⟩; gi_at_call 77; refine (CallsIn.inRound l (callsIn_wide.2 HIR.out)).mono ?_; rintro e X2 ⟨rfl, hbX⟩)
          refine ⟨(below_others hbX).from _, ⟨hbX.cell (p := ⟨W4.heap.size, 0, none⟩) (by show W4.heap.size < X.heap.size; omega), hbX.cell (p := ⟨W4.heap.size + 1, 0, none⟩) (by show W4.heap.size + 1 < X.heap.size; omega), hbX.mono hXs⟩, HBX.out.trans (hbX.mono hXs), fun x hx => ?_⟩
          rcases List.mem_append.1 hx with hx | hx
          · exact HALL.out x hx
          · rw [List.mem_singleton.1 hx]
            exact HRB.out
        case false =>
          rw [hrb] at HIR
          have HRB := hid hrb
          clear hrb
          gi_wp2_with (refine ⟨trivial, ?_⟩; gi_at_call 77; refine (CallsIn.inRound l (callsIn_wide.2 HIR.out)).mono ?_; rintro e X2 ⟨rfl, hbX⟩; have hB2 := HBX.out.trans (hbX.mono hXs); have hbx := (hB2.block (w.heap.size + 1) (by omega)).trans HCL.out.1; have hcx := Boxed.cell hbx; have hfx := Boxed.frozen hbx)
          have hL9 : CrL w 9 (X2.setCell ⟨w.heap.size + 1, 0, none⟩ (.int .i64 9)) := CrL.put (k := 0) ⟨hbx, HCL.out.2.trans (hB2.mono (by omega))⟩ 9
          refine ⟨((below_others hbX).trans (KeepsOthers.setCell X2 _ _)).from _, _, ⟨rfl, ⟨⟨i, hi⟩, by simp, HRB.out⟩, hL9, (HSH5.out.below hB2).put (by omega) _⟩, ?_, Below.refl _ _⟩
          have hX2s := hbX.size
          simp
          omega
      case done =>
        rintro D ys X hD hys ⟨hBX, hall⟩ hK
        have HRZ : Hid (rowE (sizesN V) L R v = 0) := by
          show _ = _
          rw [HRE.out, if_pos]
          rw [List.all_eq_true]
          intro i hi
          rw [← hys] at hi
          obtain ⟨x, hx, rfl⟩ := List.mem_map.1 hi
          exact hall x hx
        have hDX : D < X.heap.size := (Array.getElem?_eq_some_iff.1 hK).1
        have hB2 := HB5.out.trans (hBX.mono (by omega))
        have hSX : Shut W2.heap.size X.heap.size ({ target := .collected D, args := #[] } :: ds) X := ⟨D, by omega, hDX, rfl, hK, (HSH5.out.below hBX).mono hD⟩
        have HBX := hid hB2
        have HSX := hid hSX
        clear hK hall hys hB2 hSX hc1 hc2 hBX
        gi_wp2
        refine ⟨⟨v + 1, _, _, _, _, _, _, _, _, _, _, _, _, _, _, _, _, _, _, _, _, _, _, _, _, _, _, _, _, _, _, _, _, _, _, _, rfl, by omega, (fun j hj => ?_), HBX, HSX⟩, ?_⟩
        · rcases Nat.lt_or_ge j v with h | h
          · exact HZ0.out j h
          · rw [show j = v by omega]
            exact HRZ.out
        · simp [intOf]
          omega
      case stop =>
        rintro D cd pre X hD hSp ⟨Y, ⟨rfl, ⟨x, hx, hxb⟩, hcr, hsh⟩, hYs, hBX⟩ hK
        have hfe : fe = 9 := HAV.out 9 (by
          rw [HRE.out, if_neg]
          intro h
          rw [List.all_eq_true] at h
          have := h x.1 (List.mem_range.2 x.2)
          rw [hxb] at this
          cases this) (by decide)
        have hDX : D < X.heap.size := (Array.getElem?_eq_some_iff.1 hK).1
        have hCX : CrL w 9 X := ⟨(hBX.block (w.heap.size + 1) (by omega)).trans hcr.1, hcr.2.trans (hBX.mono (by omega))⟩
        gi_wp2
        refine leaves_shut (lo := W2.heap.size) (K := CrL w 9) (CrL.shut (by omega)) (fun Z hZ => ⟨_, results_cell_err hZ.1 rfl _ rfl, ?_, hZ.2⟩) _ X.heap.size X ⟨D, by omega, hDX, rfl, hK, (hsh.below hBX).mono hD⟩ hCX
        rw [hfe]
    · rw [if_neg hT] at HRE
      have hfe : fe = 8 := HAV.out 8 HRE.out (by decide)
      have hne : ((rv.length : Int) != ((N * k : Nat) : Int)) = true := by
        have : ¬ (rv.length : Int) = ((N * k : Nat) : Int) := by omega
        simpa using this
      clear hT
      have HB' := HB.out
      gi_wp2_with (refine ⟨trivial, ?_⟩; gi_at_call 64; refine HCT.out.mono ?_; rintro e W4 ⟨rfl, hb⟩; have hK4 := hKr.step hb; have hsv4 := (hb.cell (p := ⟨G, v, none⟩) hrR.lt).trans hsv; have hbx : Boxed W4 (w.heap.size + 1) 32 (.int .i64 0) := (hb.block (w.heap.size + 1) (by omega)).trans ((HB.out.block (w.heap.size + 1) hE1).trans HE2.out); have hcx := Boxed.cell hbx; have hfx := Boxed.frozen hbx; clear c0 c1 c2 r2 p2 hsv)
      refine leaves_shut (lo := W2.heap.size) (K := CrL w 8) (CrL.shut (by omega)) (fun Z hZ => ⟨_, results_cell_err hZ.1 rfl _ rfl, ?_, hZ.2⟩) _ wr.heap.size _ ((HSH.out.below hb).put (by omega) _) (CrL.put (k := 0) ⟨hbx, hK4.2⟩ 8)
      rw [hfe]
  · obtain rfl : v = R.length := by omega
    have hfe : fe = 0 := HZ.out (fun j hj => HZ0.out j (by rw [HRV.out]; exact hj))
    have hbx : Boxed wr (w.heap.size + 1) 32 (.int .i64 0) := (HB.out.block (w.heap.size + 1) hE1).trans HE2.out
    have hcx := Boxed.cell hbx
    have hfx := Boxed.frozen hbx
    have hKr := HK2.out.step HB.out
    gi_wp2
    refine leaves_shut (lo := W2.heap.size) (K := CrL w 0) (CrL.shut (by omega)) (fun Z hZ => ⟨_, results_cell_err hZ.1 rfl _ rfl, ?_, hZ.2⟩) _ wr.heap.size _ (HSH.out.put (by omega) _) (CrL.put (k := 0) ⟨hbx, hKr.2⟩ 0)
    rw [hfe]
end Go.Proofs.YtncccbdledcibaaGreatDoor


/- The law: heavyNet: what it lets through is not too great. -/
namespace Go.Proofs.YtncccbdledcibaaGreatDoor
open Go.RowKit Go.Shelf

/-- Lengths that memory allows. -/
structure NHu (V : List Vr) (L : List (List Int)) (R : List (List Fr)) : Prop where
  vars : V.length ≤ 140737488355328 ∧ ∀ x ∈ V, x.1.size ≤ 140737488355328 ∧ x.2.length ≤ 140737488355328 ∧ ∀ s ∈ x.2, s.size ≤ 140737488355328
  pars : L.length ≤ 140737488355328 ∧ ∀ l ∈ L, l.length ≤ 140737488355328
  rows : R.length ≤ 140737488355328 ∧ ∀ l ∈ R, l.length ≤ 140737488355328 ∧ ∀ f ∈ l, f.2.1.size ≤ 140737488355328 ∧ f.2.2.size ≤ 140737488355328
theorem NK.drewN {w wr : World} {x y z : Value} (h : NK w wr x y z) (k : Nat) : NK w (wr.drewN k) x y z := ⟨h.1, below_drewN h.2 k⟩
/-- Looked at so far, and light. -/
def Lit1 (V : List Vr) (v k : Nat) : Prop := k ≤ 2048 → ∀ j (h : j < V.length), j < v → V[j].1.size ≤ 2048 ∧ V[j].2.length ≤ 2048 ∧ ∀ s ∈ V[j].2, s.size ≤ 2048
def Lit2 (L : List (List Int)) (v k : Nat) : Prop := k ≤ 2048 → ∀ j (h : j < L.length), j < v → L[j].length ≤ 2048
def Lit3 (R : List (List Fr)) (v k : Nat) : Prop := k ≤ 2048 → ∀ j (h : j < R.length), j < v → R[j].length + sw R[j] ≤ 2048
/-- What heavyNet lets through. -/
structure NLi (V : List Vr) (L : List (List Int)) (R : List (List Fr)) : Prop where
  all : V.length + L.length + R.length ≤ 2048
  vars : Lit1 V V.length 0
  pars : Lit2 L L.length 0
  rows : Lit3 R R.length 0

/-- What heavyNet returns. -/
def HvR (V : List Vr) (L : List (List Int)) (R : List (List Fr)) (e : Ending) : Prop := ∃ r : Bool, e = .returned (.bool r) ∧ (r = false → NLi V L R)

set_option maxRecDepth 100000 in
set_option maxHeartbeats 4000000 in
theorem heavyNet_any (a b c : Option Addr) (ca cb cc : Nat) (V : List Vr) (L : List (List Int)) (R : List (List Fr)) (w : World) (h : NetI w a b c V L R) (hs : NHu V L R) :
    Calls Tryz.prog 5 #[.agg #[.slice a V.length ca, .slice b L.length cb, .slice c R.length cc]] w fun e w' => HvR V L R e ∧ Below w.heap.size w w' := by
  have HI := hid h
  have hV := hs.vars.1
  have hL := hs.pars.1
  have hR := hs.rows.1
  have HHU := hid hs
  clear h hs
  have HK0 := hid (NK.new w (.slice a V.length ca) (.slice b L.length cb) (.slice c R.length cc))
  obtain ⟨c0, c1, c2⟩ := HK0.out.1.cells
  have e1 : IntKind.i64.wrap ((V.length : Int) + (L.length : Int)) = (V.length : Int) + (L.length : Int) := by rw [IntKind.wrap_i64]; omega
  have e2 : IntKind.i64.wrap ((V.length : Int) + (L.length : Int) + (R.length : Int)) = (V.length : Int) + (L.length : Int) + (R.length : Int) := by rw [IntKind.wrap_i64]; omega
  go_enter Tryz.func5, Tryz.ntmps5
  go_wp2_with fail
  generalize (w.alloc (NC (.slice a V.length ca) (.slice b L.length cb) (.slice c R.length cc))) = w1 at *
  clear c0 c1 c2 e1 e2
  go_loopw [3, 4, 5] (fun kv cv iv wr => ∃ v k q : Nat, v ≤ V.length ∧ iv = .int .i64 v ∧ kv = .int .i64 k ∧ cv = .int .i64 q ∧ k ≤ 2000000000000000 ∧ q ≤ 200000000000000000 ∧ V.length + L.length + R.length ≤ k ∧ Hid (Lit1 V v k) ∧ Hid (NK w wr (.slice a V.length ca) (.slice b L.length cb) (.slice c R.length cc))) (fun _ _ iv _ => V.length - (intOf iv).toNat)
  case atStart => exact ⟨0, V.length + L.length + R.length, 1, Nat.zero_le _, rfl, by rw [Int.natCast_add, Int.natCast_add], rfl, by omega, by omega, Nat.le_refl _, fun _ j _ h => absurd h (by omega), HK0⟩
  case round =>
    obtain ⟨v, k, q, hv, rfl, rfl, rfl, hk, hq, hkk, HP, HK⟩ := hrel
    clear HK0
    obtain ⟨c0, c1, c2⟩ := HK.out.1.cells
    by_cases hgo : v < V.length ∧ k ≤ 2048 ∧ q ≤ 800
    · obtain ⟨hlt, hk2, hq8⟩ := hgo
      obtain ⟨g, o, b', c', rfl, hg, d0, d1, hSt, -⟩ := (HI.out.below HK.out.2).vars v hlt
      have hsm := HHU.out.vars.2 V[v] (List.getElem_mem hlt)
      have HNX : Hid (∀ k', k ≤ k' → (k' ≤ 2048 → V[v].1.size ≤ 2048 ∧ V[v].2.length ≤ 2048 ∧ ∀ s ∈ V[v].2, s.size ≤ 2048) → Lit1 V (v + 1) k') := fun k' h1 h2 h3 j hj hji => by
        rcases Nat.lt_or_ge j v with h4 | h4
        · exact HP.out (by omega) j hj h4
        · obtain rfl : j = v := by omega
          exact h2 h3
      have HST := hid hSt
      clear hSt
      generalize V[v] = x at *
      obtain ⟨nm, vs⟩ := x
      simp only at d0 d1 hsm HNX HST
      have hn47 := hsm.1
      have hv47 := hsm.2.1
      have HVS := hid hsm.2.2
      clear hsm
      have hw1 : IntKind.i64.wrap ((k : Int) + (nm.size : Int)) = (k : Int) + (nm.size : Int) := by rw [IntKind.wrap_i64]; omega
      have hw2 : IntKind.i64.wrap ((k : Int) + (nm.size : Int) + (vs.length : Int)) = (k : Int) + (nm.size : Int) + (vs.length : Int) := by rw [IntKind.wrap_i64]; omega
      go_upto_region 6 with fail
      go_quiet (fail)
      have HKn := hid (HK.out.drewN nq)
      have HSn : Hid (StS (wr.drewN nq) b' vs) := HST.out
      have d1' : (wr.drewN nq).cell? ⟨g, o + v * 2 + 1, none⟩ = some (.slice b' vs.length c') := d1
      clear c0 c1 c2 d0 d1 hw1 hw2 HK HST
      generalize wr.drewN nq = w2 at *
      obtain ⟨c0, c1, c2⟩ := HKn.out.1.cells
      go_wp2_with fail
      clear c0 c1 c2
      go_loopw [3, 6] (fun kv iv wq => ∃ i k' : Nat, i ≤ vs.length ∧ iv = .int .i64 i ∧ kv = .int .i64 k' ∧ k + nm.size + vs.length ≤ k' ∧ k' ≤ 1000000000000000 ∧ Hid (k' ≤ 2048 → ∀ s ∈ vs.take i, s.size ≤ 2048) ∧ wq = w2) (fun _ iv _ => vs.length - (intOf iv).toNat)
      case atStart => exact ⟨0, k + nm.size + vs.length, Nat.zero_le _, rfl, by rw [Int.natCast_add, Int.natCast_add], Nat.le_refl _, by omega, fun _ s hs' => by simp at hs', rfl⟩
      case round =>
        obtain ⟨i, k', hi, rfl, rfl, hkm, hkb, HQ, rfl⟩ := hrel
        obtain ⟨c0, c1, c2⟩ := HKn.out.1.cells
        by_cases hgo2 : i < vs.length ∧ k' ≤ 2048
        · obtain ⟨hil, hk3⟩ := hgo2
          obtain ⟨g2, o2, rfl, hg2, t1⟩ := HSn.out i hil
          have hss := HVS.out vs[i] (List.getElem_mem hil)
          have HQX : Hid (∀ k'', k' ≤ k'' → (k'' ≤ 2048 → vs[i].size ≤ 2048) → k'' ≤ 2048 → ∀ s ∈ vs.take (i + 1), s.size ≤ 2048) := fun k'' h1 h2 h3 s hs' => by
            rw [List.take_succ_eq_append_getElem hil] at hs'
            rcases List.mem_append.1 hs' with h4 | h4
            · exact HQ.out (by omega) s h4
            · rw [List.mem_singleton.1 h4]; exact h2 h3
          generalize vs[i] = s at *
          have hw3 : IntKind.i64.wrap ((k' : Int) + (s.size : Int)) = (k' : Int) + (s.size : Int) := by rw [IntKind.wrap_i64]; omega
          have HX := hid (HQX.out (k' + s.size) (by omega) (fun h => by omega))
          go_wp2
          go_roundw
          case rel => exact ⟨i + 1, k' + s.size, by omega, by go_num, by rw [Int.natCast_add], by omega, by omega, HX, trivial⟩
          case measure => simp [intOf]; omega
        · have HL1 : Hid (Lit1 V (v + 1) k') := HNX.out k' (by omega) fun h3 => ⟨by omega, by omega, fun s hs' => by
            have hil : i = vs.length := by omega
            have := HQ.out h3
            rw [hil, List.take_length] at this
            exact this s hs'⟩
          have hb1 : q * vs.length ≤ 800 * 140737488355328 := Nat.mul_le_mul hq8 hv47
          have hw4 : IntKind.i64.wrap ((q : Int) * (vs.length : Int)) = ((q * vs.length : Nat) : Int) := by
            rw [IntKind.wrap_i64, ← Int.natCast_mul]
            omega
          rcases (show vs.length ≤ i ∨ (i < vs.length ∧ 2048 < k') by omega) with h5 | ⟨h5, h6⟩
          all_goals
            clear hgo2
            by_cases hl1 : 1 < vs.length
            · generalize q * vs.length = q' at *
              go_wp2
              go_roundw
              case rel => exact ⟨v + 1, k', q', by omega, by go_num, rfl, rfl, by omega, by omega, by omega, HL1, HKn⟩
              case measure => simp [intOf]; omega
            · clear hb1 hw4
              go_wp2
              go_roundw
              case rel => exact ⟨v + 1, k', q, by omega, by go_num, rfl, rfl, by omega, by omega, by omega, HL1, HKn⟩
              case measure => simp [intOf]; omega
    · have HLX : Hid (k ≤ 2048 → q ≤ 800 → Lit1 V V.length 0) := fun h1 h2 _ j hj _ => HP.out h1 j hj (by omega)
      rcases (show V.length ≤ v ∨ (v < V.length ∧ 2048 < k) ∨ (v < V.length ∧ k ≤ 2048 ∧ 800 < q) by omega) with h5 | ⟨h5, h6⟩ | ⟨h5, h6, h7⟩
      all_goals
        clear hgo
        go_wp2_with fail
        clear c0 c1 c2
        go_loopw [3, 7] (fun kv iv wq => ∃ j k2 : Nat, j ≤ L.length ∧ iv = .int .i64 j ∧ kv = .int .i64 k2 ∧ k ≤ k2 ∧ k2 ≤ 3000000000000000 ∧ Hid (Lit2 L j k2) ∧ wq = wr) (fun _ iv _ => L.length - (intOf iv).toNat)
        case atStart => exact ⟨0, k, Nat.zero_le _, rfl, rfl, Nat.le_refl _, by omega, fun _ j _ h => absurd h (by omega), rfl⟩
        case round =>
          obtain ⟨j, k2, hj, rfl, rfl, hkm, hkb, HP2, rfl⟩ := hrel
          obtain ⟨c0, c1, c2⟩ := HK.out.1.cells
          by_cases hgo2 : j < L.length ∧ k2 ≤ 2048
          · try (exfalso; omega)
            all_goals
              obtain ⟨hjl, hk3⟩ := hgo2
              obtain ⟨g, o, b', c', rfl, hg, d1, -⟩ := (HI.out.below HK.out.2).pars j hjl
              have hll := HHU.out.pars.2 L[j] (List.getElem_mem hjl)
              have HNX : Hid (∀ k', k2 ≤ k' → (k' ≤ 2048 → L[j].length ≤ 2048) → Lit2 L (j + 1) k') := fun k' h1 h2 h3 i hi hji => by
                rcases Nat.lt_or_ge i j with h4 | h4
                · exact HP2.out (by omega) i hi h4
                · obtain rfl : i = j := by omega
                  exact h2 h3
              generalize L[j] = l at *
              have hw3 : IntKind.i64.wrap ((k2 : Int) + (l.length : Int)) = (k2 : Int) + (l.length : Int) := by rw [IntKind.wrap_i64]; omega
              have HX := hid (HNX.out (k2 + l.length) (by omega) (fun h => by omega))
              go_wp2
              go_roundw
              case rel => exact ⟨j + 1, k2 + l.length, by omega, by go_num, by rw [Int.natCast_add], by omega, by omega, HX, trivial⟩
              case measure => simp [intOf]; omega
          · have HLX2 : Hid (k2 ≤ 2048 → Lit2 L L.length 0) := fun h1 _ i hi _ => HP2.out h1 i hi (by omega)
            rcases (show L.length ≤ j ∨ (j < L.length ∧ 2048 < k2) by omega) with g5 | ⟨g5, g6⟩
            all_goals
              clear hgo2
              go_wp2_with fail
              clear c0 c1 c2
              go_loopw [3, 8] (fun kv iv wq => ∃ j3 k3 : Nat, j3 ≤ R.length ∧ iv = .int .i64 j3 ∧ kv = .int .i64 k3 ∧ k2 ≤ k3 ∧ k3 ≤ 5000000000000000 ∧ Hid (Lit3 R j3 k3) ∧ Hid (NK w wq (.slice a V.length ca) (.slice b L.length cb) (.slice c R.length cc))) (fun _ iv _ => R.length - (intOf iv).toNat)
              case atStart => exact ⟨0, k2, Nat.zero_le _, rfl, rfl, Nat.le_refl _, by omega, fun _ j _ h => absurd h (by omega), HK⟩
              case round =>
                obtain ⟨j3, k3, hj3, rfl, rfl, hkm3, hkb3, HP3, HK3⟩ := hrel
                obtain ⟨c0, c1, c2⟩ := HK3.out.1.cells
                by_cases hgo3 : j3 < R.length ∧ k3 ≤ 2048
                · try (exfalso; omega)
                  all_goals
                    obtain ⟨hjl, hk3⟩ := hgo3
                    obtain ⟨g, o, b', c', rfl, hg, d1, hrf, -⟩ := (HI.out.below HK3.out.2).rows j3 hjl
                    have hll := HHU.out.rows.2 R[j3] (List.getElem_mem hjl)
                    have HNX : Hid (∀ k', k3 ≤ k' → (k' ≤ 2048 → R[j3].length + sw R[j3] ≤ 2048) → Lit3 R (j3 + 1) k') := fun k' h1 h2 h3 i hi hji => by
                      rcases Nat.lt_or_ge i j3 with h4 | h4
                      · exact HP3.out (by omega) i hi h4
                      · obtain rfl : i = j3 := by omega
                        exact h2 h3
                    have HRF := hid hrf
                    have HLL := hid hll
                    clear hrf hll
                    generalize R[j3] = l at *
                    go_wp2_with fail
                    refine (fracBytes_any b' c' l _ HRF.out HLL.out.1 HLL.out.2).mono ?_
                    rintro e w5 ⟨⟨r, rfl, hr1, hr2⟩, hb5⟩
                    have HK5 := hid (HK3.out.step hb5)
                    have hw3 : IntKind.i64.wrap ((k3 : Int) + (r : Int)) = (k3 : Int) + (r : Int) := by rw [IntKind.wrap_i64]; omega
                    have HX := hid (HNX.out (k3 + r) (by omega) (fun h => by have := hr2 (by omega); omega))
                    clear hb5 c0 c1 c2 d1 hr2
                    go_wp2
                    go_roundw
                    case rel => exact ⟨j3 + 1, k3 + r, by omega, by go_num, by rw [Int.natCast_add], by omega, by omega, HX, HK5⟩
                    case measure => simp [intOf]; omega
                · have HLX3 : Hid (k3 ≤ 2048 → Lit3 R R.length 0) := fun h1 _ i hi _ => HP3.out h1 i hi (by omega)
                  have HFIN : Hid (k3 ≤ 2048 → q ≤ 800 → NLi V L R) := fun h1 h2 => ⟨by omega, HLX.out (by omega) h2, HLX2.out (by omega), HLX3.out h1⟩
                  rcases (show R.length ≤ j3 ∨ (j3 < R.length ∧ 2048 < k3) by omega) with f5 | ⟨f5, f6⟩
                  all_goals
                    clear hgo3
                    by_cases hk9 : 2048 < k3
                    · try (exfalso; omega)
                      all_goals
                        go_wp2
                        go_ret
                        exact ⟨⟨true, rfl, fun h => by cases h⟩, HK3.out.2⟩
                    · by_cases hq9 : 800 < q
                      · try (exfalso; omega)
                        all_goals
                          have hq10 : (800 : Int) < (q : Int) := by omega
                          have hk10 : (k3 : Int) ≤ 2048 := by omega
                          clear hk9
                          go_wp2
                          go_ret
                          exact ⟨⟨_, rfl, fun h => absurd h (by simp)⟩, HK3.out.2⟩
                      · try (exfalso; omega)
                        all_goals
                          have HN := hid (HFIN.out (by omega) (by omega))
                          have hk10 : (k3 : Int) ≤ 2048 := by omega
                          clear hk9
                          go_wp2
                          go_ret
                          exact ⟨⟨_, rfl, fun _ => HN.out⟩, HK3.out.2⟩
end Go.Proofs.YtncccbdledcibaaGreatDoor

/- Nets: Given on both sides, whatever is asked. -/
namespace Go.Proofs.YtncccbdledcibaaGreatDoor
open Go.RowKit Go.Shelf

theorem check_any (a b c : Option Addr) (ca cb cc : Nat) (V : List Vr) (L : List (List Int)) (R : List (List Fr)) (w : World) (h : NetI w a b c V L R) (hs : NSm V L R) :
    Calls Tryz.prog 10 #[.agg #[.slice a V.length ca, .slice b L.length cb, .slice c R.length cc]] w fun e w' => e = .returned (.int .i64 (netE V L R)) ∧ Below w.heap.size w w' :=
  nCheck_any a b c ca cb cc V L R w h hs fun h1 h2 h3 h4 U hU => checkRows_any a b c ca cb cc V L R U hU hs h1 h2 h3 h4
set_option maxRecDepth 100000 in
set_option maxHeartbeats 1000000 in
theorem nGiven_no (a b c : Option Addr) (ca cb cc : Nat) (v : Int) (V : List Vr) (L : List (List Int)) (R : List (List Fr)) (w : World) (h : NetI w a b c V L R) (hs : NSm V L R) (h0 : netE V L R ≠ 0) :
    Calls Tryz.prog 6 #[.agg #[.slice a V.length ca, .slice b L.length cb, .slice c R.length cc], .int .i64 v] w fun e w' => TabA [] [] (netE V L R) e w' ∧ Below w.heap.size w w' := by
  have HNC := hid (fun (U : World) (hU : NetI U a b c V L R) => check_any a b c ca cb cc V L R U hU hs)
  have HI := hid h
  generalize netE V L R = ne at *
  clear h hs
  have HK0 := hid (GK.new w (.slice a V.length ca) (.slice b L.length cb) (.slice c R.length cc))
  obtain ⟨c0, c1, c2⟩ := HK0.out.1.1.cells
  go_enter Tryz.func6, Tryz.ntmps6
  go_wp2_with fail
  generalize ((w.alloc (NC (.slice a V.length ca) (.slice b L.length cb) (.slice c R.length cc))).alloc (TC (.slice none 0 0) (.slice none 0 0))) = w1 at *
  refine (HNC.out _ (HI.out.below HK0.out.1.2)).mono ?_
  rintro e w2 ⟨rfl, hb⟩
  have hK := HK0.out.step hb
  clear hb HK0 c0 c1 c2 HNC
  have hnb : (ne == 0) = false := by simpa using h0
  obtain ⟨k0, k1, f0, f1⟩ := hK.2.facts
  clear h0
  go_wp2
  refine bodyPost_ret ((hK.2.put _ _).result2 rfl _ rfl) rfl ?_
  exact ⟨TabA.empty _ _, below_put2 hK.1.2 (by omega) _ _⟩
set_option maxRecDepth 100000 in
set_option maxHeartbeats 1000000 in
theorem nGiven_var (a b c : Option Addr) (ca cb cc : Nat) (v : Int) (V : List Vr) (L : List (List Int)) (R : List (List Fr)) (w : World) (h : NetI w a b c V L R) (hs : NSm V L R) (h0 : netE V L R = 0) (hv : ¬ (0 ≤ v ∧ v < (V.length : Int))) :
    Calls Tryz.prog 6 #[.agg #[.slice a V.length ca, .slice b L.length cb, .slice c R.length cc], .int .i64 v] w fun e w' => TabA [] [] 11 e w' ∧ Below w.heap.size w w' := by
  have HNC := hid (fun (U : World) (hU : NetI U a b c V L R) => check_any a b c ca cb cc V L R U hU hs)
  rw [h0] at HNC
  have HI := hid h
  clear h hs h0
  have HK0 := hid (GK.new w (.slice a V.length ca) (.slice b L.length cb) (.slice c R.length cc))
  obtain ⟨c0, c1, c2⟩ := HK0.out.1.1.cells
  go_enter Tryz.func6, Tryz.ntmps6
  go_wp2_with fail
  generalize ((w.alloc (NC (.slice a V.length ca) (.slice b L.length cb) (.slice c R.length cc))).alloc (TC (.slice none 0 0) (.slice none 0 0))) = w1 at *
  refine (HNC.out _ (HI.out.below HK0.out.1.2)).mono ?_
  rintro e w2 ⟨rfl, hb⟩
  have hK := HK0.out.step hb
  clear hb HK0 c0 c1 c2 HNC
  obtain ⟨c0, c1, c2⟩ := hK.1.1.cells
  obtain ⟨k0, k1, f0, f1⟩ := hK.2.facts
  by_cases h1 : v < 0
  · clear hv
    go_wp2
    refine bodyPost_ret ((hK.2.put _ _).result2 rfl _ rfl) rfl ?_
    exact ⟨TabA.empty _ _, below_put2 hK.1.2 (by omega) _ _⟩
  · have h2 : (0 : Int) ≤ v := by omega
    have h3 : (V.length : Int) ≤ v := by omega
    clear hv h1
    go_wp2
    refine bodyPost_ret ((hK.2.put _ _).result2 rfl _ rfl) rfl ?_
    exact ⟨TabA.empty _ _, below_put2 hK.1.2 (by omega) _ _⟩
/-- What both sides answer to Given. -/
theorem both_Given (a b c : Option Addr) (ca cb cc : Nat) (v : Int) (V : List Vr) (L : List (List Int)) (R : List (List Fr)) (w : World) (h : NetI w a b c V L R) (hN : LsN w b L) (hs : NSm V L R) (hw : ∀ l ∈ R, fw l ≤ 4200) :
    ∃ (T : List Int) (F : List Fr) (k : Int), T.length ≤ 100000 ∧ F.length ≤ 100000 ∧ (∀ U, Below w.heap.size w U → Calls Tryz.prog 6 #[.agg #[.slice a V.length ca, .slice b L.length cb, .slice c R.length cc], .int .i64 v] U fun e w' => TabA T F k e w' ∧ Below U.heap.size U w') ∧
      (∀ U, Below w.heap.size w U → Calls Tryz.prog 7 #[.agg #[.slice a V.length ca, .slice b L.length cb, .slice c R.length cc], .int .i64 v] U fun e w' => TabA T F k e w' ∧ Below U.heap.size U w') := by
  by_cases h0 : netE V L R = 0
  · by_cases hv : 0 ≤ v ∧ v < (V.length : Int)
    · obtain ⟨n, rfl⟩ : ∃ n : Nat, v = n := ⟨v.toNat, by omega⟩
      have hn : n < V.length := by omega
      have hok := netE_ok h0
      have hs4 : ∀ u, sz (sizesN V) u ≤ 4 := fun u => by have := hok.fine.sz_le u; rwa [toN_iL] at this
      have hnL : n < L.length := by rw [hok.len]; exact hn
      have hup : Up (gU L n) V.length := by
        rw [gU, List.getD_eq_getElem?_getD, List.getElem?_eq_getElem hnL]
        exact togL_up (hok.up n hnL) (up_one hn)
      have h8 := hok.n8
      have hul := hup.length
      have hcn : cnt (sizesN V) (toN (gU L n)) ≤ 65536 := cnt_small hs4 (by rw [toN_length]; omega)
      refine ⟨gU L n, gL V L R n, 0, by omega, by simp [gL]; omega, fun U hU => ?_, fun U hU => ?_⟩
      · exact nGiven_yes a b c ca cb cc n V L R U (h.below hU) (hN.below h.pars hU) hs hw h0 hn fun U' hU' => check_any a b c ca cb cc V L R U' hU' hs
      · exact rGiven_yes a b c ca cb cc n V L R U (h.below hU) hs hw h0 hn
    · exact ⟨[], [], 11, by simp, by simp, fun U hU => nGiven_var a b c ca cb cc v V L R U (h.below hU) hs h0 hv, fun U hU => rGiven_var a b c ca cb cc v V L R U (h.below hU) hs h0 hv⟩
  · exact ⟨[], [], netE V L R, by simp, by simp, fun U hU => nGiven_no a b c ca cb cc v V L R U (h.below hU) hs h0, fun U hU => rGiven_no a b c ca cb cc v V L R U (h.below hU) hs h0⟩
theorem nsm_of {V : List Vr} {L : List (List Int)} {R : List (List Fr)} (h : NLi V L R) : NSm V L R ∧ ∀ l ∈ R, fw l ≤ 4200 := by
  have ha := h.all
  have h3 : ∀ l ∈ R, l.length + sw l ≤ 2048 := fun l hl => by
    obtain ⟨j, hj, rfl⟩ := List.getElem_of_mem hl
    exact h.rows (by omega) j hj hj
  refine ⟨⟨⟨by omega, fun x hx => ?_⟩, ⟨by omega, fun l hl => ?_⟩, ⟨by omega, fun l hl => ?_⟩⟩, fun l hl => ?_⟩
  · obtain ⟨j, hj, rfl⟩ := List.getElem_of_mem hx
    obtain ⟨h1, h2, h4⟩ := h.vars (by omega) j hj hj
    exact ⟨by omega, by omega, fun s hs => by have := h4 s hs; omega⟩
  · obtain ⟨j, hj, rfl⟩ := List.getElem_of_mem hl
    have := h.pars (by omega) j hj hj
    omega
  · have h5 := h3 l hl
    have h6 := fw_sw l
    omega
  · have h5 := h3 l hl
    have h6 := fw_sw l
    omega
end Go.Proofs.YtncccbdledcibaaGreatDoor


/- The document's answer: Made's contract; sizes of sums. -/
namespace Go.Proofs.YtncccbdledcibaaGreatDoor
open Go.RowKit Go.Shelf Go.Lib

/-- A net that is made. -/
structure NM (V : List Vr) (L : List (List Int)) (R : List (List Fr)) : Prop where
  ok : netE V L R = 0
  one : 1 ≤ V.length
  six : V.length ≤ 6
  szs : ∀ u, sz (sizesN V) u ≤ 3
  few : ∀ l ∈ L, l.length ≤ 3
  tiny : ∀ l ∈ R, ∀ f ∈ l, f.2.1.size + f.2.2.size ≤ 2
  small : NSm V L R
  light : ∀ l ∈ R, fw l ≤ 400
theorem fw_tiny : ∀ {l : List Fr}, (∀ f ∈ l, f.2.1.size + f.2.2.size ≤ 2) → fw l ≤ 4 * l.length
  | [], _ => Nat.le_refl _
  | f :: l, h => by
    have h1 := h f List.mem_cons_self
    have h2 := fw_tiny fun g hg => h g (List.mem_cons_of_mem _ hg)
    simp only [fw, List.length_cons]
    omega
theorem made_nm {bk : Bool} {n : Nat} {Vs : List PV} {Ls : List PL} {Rs : List PR} (hV : VK n Vs) (h : LK2 bk n n (sizesN (vOf Vs)) Ls Rs) (h1 : 1 ≤ n) (h6 : n ≤ 6) : NM (vOf Vs) (lOf Ls) (rOf Rs) := by
  have hv : (vOf Vs).length = n := by simp [vOf, hV.len]
  have hl : (lOf Ls).length = n := by simp [lOf, h.len]
  have hr : (rOf Rs).length = n := by simp [rOf, h.lenR]
  have hsk := hV.sizes
  have htiny : ∀ l ∈ rOf Rs, ∀ f ∈ l, f.2.1.size + f.2.2.size ≤ 2 := fun l hlm => by
    obtain ⟨p, hp, rfl⟩ := List.mem_map.1 hlm
    obtain ⟨j, hj, rfl⟩ := List.getElem_of_mem hp
    exact (h.rows j (by have := h.len; have := h.lenR; omega) hj).small
  have hlenR : ∀ l ∈ rOf Rs, l.length ≤ 81 := fun l hlm => by
    obtain ⟨p, hp, rfl⟩ := List.mem_map.1 hlm
    obtain ⟨j, hj, rfl⟩ := List.getElem_of_mem hp
    have hjL : j < Ls.length := by have := h.len; have := h.lenR; omega
    rw [(h.rows j hjL hj).len]
    have h2 := (cnt_27 hsk (l := toN Ls[j].2) (by rw [toN_length]; exact (h.pars j hjL).few)).2
    have h3 := (hsk.sz j).2
    exact Nat.le_trans (Nat.mul_le_mul h2 h3) (by decide)
  have hfew : ∀ l ∈ lOf Ls, l.length ≤ 3 := fun l hlm => by
    obtain ⟨p, hp, rfl⟩ := List.mem_map.1 hlm
    obtain ⟨j, hj, rfl⟩ := List.getElem_of_mem hp
    exact (h.pars j hj).few
  have hlight : ∀ l ∈ rOf Rs, fw l ≤ 400 := fun l hlm => by
    have := fw_tiny (htiny l hlm)
    have := hlenR l hlm
    omega
  have hnm : ∀ c i, i < 10 → (nmB c i).size ≤ 5000 := fun c i hi => by
    have h1 : (nmB c i).size = 1 + (dgB i).size := by rw [nmB, ByteArray.size_append]; rfl
    rw [h1, dgB_size hi]
    omega
  refine ⟨made_netE hV h h1 h6, by omega, by omega, fun u => (hsk.sz u).2, hfew, htiny, ⟨⟨by omega, fun x hx => ?_⟩, ⟨by omega, fun l hlm => by have := hfew l hlm; omega⟩, ⟨by omega, fun l hlm => ⟨by have := hlenR l hlm; omega, by have := hlight l hlm; omega⟩⟩⟩, hlight⟩
  obtain ⟨p, hp, rfl⟩ := List.mem_map.1 hx
  obtain ⟨j, hj, rfl⟩ := List.getElem_of_mem hp
  obtain ⟨e1, k, _, h3, e2⟩ := hV.each j hj
  have hj6 : j < 10 := by have := hV.len; omega
  refine ⟨by rw [show (Vs[j].1, Vs[j].2.2).1 = Vs[j].1 from rfl, e1]; exact hnm 110 j hj6, ?_, ?_⟩
  · rw [show (Vs[j].1, Vs[j].2.2).2 = Vs[j].2.2 from rfl, e2, valsN_length]; omega
  · rw [show (Vs[j].1, Vs[j].2.2).2 = Vs[j].2.2 from rfl, e2]
    intro s hs
    obtain ⟨i, hi, rfl⟩ := List.mem_map.1 hs
    have := List.mem_range.1 hi
    exact hnm 118 i (by omega)
/-- Made's contract. -/
theorem made_net (a1 a2 a3 : Option Addr) (c1 c2 c3 : Nat) (L1 L2 L3 : List Int) (bk : Bool) (w : World) (h1 : IntS w a1 L1) (h2 : IntS w a2 L2) (h3 : IntS w a3 L3) (r1 : Rng L1) (r2 : Rng L2) (r3 : Rng L3) :
    Calls Tryz.prog 17 #[.agg #[.slice a1 L1.length c1, .slice a2 L2.length c2, .slice a3 L3.length c3, .bool bk]] w fun e w' => ∃ (a b c : Option Addr) (ca cb cc : Nat) (V : List Vr) (L : List (List Int)) (R : List (List Fr)), e = .returned (.agg #[.slice a V.length ca, .slice b L.length cb, .slice c R.length cc]) ∧ NetI w' a b c V L R ∧ LsN w' b L ∧ NM V L R ∧ Below w.heap.size w w' := by
  refine (made_any a1 a2 a3 c1 c2 c3 L1 L2 L3 bk w h1 h2 h3 r1 r2 r3).mono ?_
  rintro e w' ⟨bk', n, x, y, z, Vs, Ls, Rs, rfl, ⟨hn1, hn6⟩, hV, hL, oV, oL, oR, hb⟩
  obtain ⟨a, ca, rfl, hvs⟩ := oV.vars
  obtain ⟨b, cb, rfl, hls, hln⟩ := oL.pars
  obtain ⟨c, cc, rfl, hrs⟩ := oR.rows
  exact ⟨a, b, c, ca, cb, cc, _, _, _, rfl, ⟨hvs, hls, hrs⟩, hln, made_nm hV hL hn1 hn6, hb⟩
/-- Sizes of products and sums. -/
theorem fits_mul {m k : Nat} {p q : Rat} (hp : Fits m p) (hq : Fits k q) : Fits (m + k) (p * q) := by
  obtain ⟨A, D, h1, rfl, h3, h4⟩ := hp
  obtain ⟨A', D', h1', rfl, h3', h4'⟩ := hq
  refine ⟨A * A', D * D', Nat.mul_ne_zero h1 h1', by rw [Rat.mkRat_mul_mkRat], ?_, ?_⟩
  · rw [Nat.pow_add]
    exact Nat.mul_lt_mul'' h3 h3'
  · rw [Int.natAbs_mul, Nat.pow_add]
    exact Nat.mul_lt_mul'' h4 h4'
theorem prodV_fits {V : List Vr} {L : List (List Int)} {R : List (List Fr)} (h : NM V L R) {f : Nat → Nat} (hf : ∀ u, f u < sz (sizesN V) u) : ∀ k, k ≤ V.length → Fits (1 + 3 * k) (prodV V L R f k)
  | 0, _ => ⟨1, 1, by decide, rfl, by decide, by decide⟩
  | k + 1, hk => by
    have hok := netE_ok h.ok
    have hL : k < L.length := by rw [hok.len]; omega
    have hR : k < R.length := by rw [hok.lenR]; omega
    have ih := prodV_fits h hf k (by omega)
    have hT := likT_lt (S := sizesN V) (P := toN L[k]) hf k
    rw [← hok.rows k hL hR] at hT
    have hlk : Fits 3 (frQ (likF V L R f k)) := by
      rw [likF_eq hL hR, celF_eq hT]
      have h1 := fits_val (R[k][likT (sizesN V) (toN L[k]) f k]).1 (R[k][likT (sizesN V) (toN L[k]) f k]).2.1 (R[k][likT (sizesN V) (toN L[k]) f k]).2.2
      have h2 := h.tiny R[k] (List.getElem_mem hR) _ (List.getElem_mem hT)
      obtain ⟨A, D, e1, e2, e3, e4⟩ := h1
      have hp : (256 : Nat) ^ ((R[k][likT (sizesN V) (toN L[k]) f k]).2.1.size + (R[k][likT (sizesN V) (toN L[k]) f k]).2.2.size + 1) ≤ 256 ^ 3 := Nat.pow_le_pow_right (by decide) (by omega)
      exact ⟨A, D, e1, e2, Nat.lt_of_lt_of_le e3 hp, Nat.lt_of_lt_of_le e4 hp⟩
    have := fits_mul ih hlk
    rw [prodV]
    rwa [show 1 + 3 * k + 3 = 1 + 3 * (k + 1) by omega] at this
theorem sumQ_fits' {g : Nat → Rat} {m c : Nat} (h : ∀ k, k < c → Fits m (g k)) : ∀ n, n ≤ c → Fits (1 + (m + 1) * n) (sumQ g n)
  | 0, _ => ⟨0, 1, by decide, rfl, by rw [Nat.mul_zero]; decide, by rw [Nat.mul_zero]; decide⟩
  | n + 1, hn => by
    have := fits_add (sumQ_fits' h n (by omega)) (h n (by omega))
    rw [sumQ]
    rwa [show 1 + (m + 1) * n + m + 1 = 1 + (m + 1) * (n + 1) by rw [Nat.mul_add]; omega] at this
end Go.Proofs.YtncccbdledcibaaGreatDoor

