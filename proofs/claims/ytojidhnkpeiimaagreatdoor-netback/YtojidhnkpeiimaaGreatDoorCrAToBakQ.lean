/- Nets: checkRows of package net. -/
import Derived.Test.YtojidhnkpeiimaaGreatDoorMadFToMarkA
import Derived.RangeFuncCalls
import Derived.Test.YtojidhnkpeiimaaGreatDoorRowAToTextC
import Derived.Laws.EntriesVeiled
import Derived.Test.YtojidhnkpeiimaaGreatDoorSumAToNameD
import Derived.Test.YtojidhnkpeiimaaGreatDoorMadEOwn
import Derived.Test.YtojidhnkpeiimaaGreatDoorBakPToMadC
namespace Go.Proofs.YtojidhnkpeiimaaGreatDoor
open Go.RowKit Go.Shelf
attribute [local go_sem] Oper.semAt_some
theorem results_cell_err {w : World} {g : Nat} {k : Int} (h : Boxed w g 31 (.int .i64 k)) {fn : Func} {p : Tmp} (hr : fn.results = #[.cell p 31]) (tmps : Array Value) (hp : tmps.getD p undef = .pointer (some ⟨g, 0, none⟩)) : (results fn tmps).run Tryz.prog w = .ok (.int .i64 k) w := by
  have hp' : tmps[p]?.getD undef = .pointer (some ⟨g, 0, none⟩) := by simpa using hp
  have hc := h.cell
  simp only [results, hr]
  simp [hp', asAddr]
  go_simp
theorem below_others {V V' : World} (h : Below V.heap.size V V') : KeepsOthers V V' := ⟨h.size, fun k _ hk _ => (h.block k (Array.getElem?_eq_some_iff.1 hk).1).trans hk⟩
theorem ownFrom_held {β : Type} {n0 B : Nat} {Q : β → World → Prop} (hB : n0 ≤ B) : OwnFrom B (fun (s : β) W => ∃ V, Q s V ∧ n0 ≤ V.heap.size ∧ Below n0 V W) := fun s W W' row hs hg hr => by
  obtain ⟨V, h1, h2, h3⟩ := hs
  exact ⟨V, h1, h2, h3.grown hg (Nat.le_trans h2 h3.size) (fun k e => Nat.le_trans hB (hr k e).1)⟩
def CrL (w : World) (k : Int) (W : World) : Prop := Boxed W (w.heap.size + 1) 31 (.int .i64 k) ∧ Below w.heap.size w W
theorem CrL.shut {w : World} {k : Int} {lo : Nat} (hlo : w.heap.size + 1 < lo) (W : World) (r : Nat) (h : CrL w k W) (hr : lo ≤ r) (hd : W.heap[r]? = some (.deferred (some []))) : CrL w k (W.putObj r (.deferred none)) :=
  ⟨(World.putObj_heap_other (by omega)).trans h.1, h.2.trans (belowK_b (w := w) (Nat.le_refl _) W r _ _ (by omega) hd rfl rfl)⟩
theorem CrL.put {w W : World} {k : Int} (h : CrL w k W) (j : Int) : CrL w j (W.setCell ⟨w.heap.size + 1, 0, none⟩ (.int .i64 j)) := ⟨h.1.set _, h.2.setCell (p := ⟨w.heap.size + 1, 0, none⟩) (by simp) _⟩
theorem Shut.put {lo B : Nat} {ds : List Deferred} {W : World} (h : Shut lo B ds W) {g : Nat} (hg : g < lo) (v : Value) : Shut lo B ds (W.setCell ⟨g, 0, none⟩ v) := by
  induction ds generalizing B with
  | nil => trivial
  | cons d ds ih =>
    obtain ⟨r, h1, h2, h3, h4, h5⟩ := h
    exact ⟨r, h1, h2, h3, (Below.heap_setCell W ⟨g, 0, none⟩ v r (by show r ≠ g; omega)).trans h4, ih h5⟩
set_option maxRecDepth 100000 in
set_option maxHeartbeats 4000000 in
theorem checkRows_any (a b c : Option Addr) (ca cb cc : Nat) (V : List Vr) (L : List (List Int)) (R : List (List Fr)) (w : World) (h : NetI w a b c V L R) (hs : NSm V L R) (hLV : L.length = V.length) (hRV : R.length = V.length) (hg : gcE L = 0) (hv : varsE V = 0) :
    Calls Tryz.prog 25 #[.agg #[.slice a V.length ca, .slice b L.length cb, .slice c R.length cc]] w fun e w' => e = .returned (.int .i64 (firstE (rowE (sizesN V) L R) V.length)) ∧ Below w.heap.size w w' := by
  refine (callsIn_wide (n := 6)).1 ?_
  obtain ⟨hfi, hn8, hup⟩ := fine_sizes hLV hg hv
  have HI := hid h
  have hV5 := hs.vars.1
  have HRS := hid hs.rows.2
  have HFI := hid hfi
  have HUP := hid hup
  have HSZ := hid (fun (U : World) (hU : VsS U a V) => nSizes_any a b c ca cb cc L.length R.length V U hU hV5)
  have HA : Hid (∀ i, i < V.length → (∀ j, j < i → rowE (sizesN V) L R j = 0) → ∀ k, rowE (sizesN V) L R i = k → k ≠ 0 → firstE (rowE (sizesN V) L R) V.length = k) := fun i hi hz k hk hk0 => by rw [firstE_at hz (by rw [hk]; exact hk0) hi, hk]
  have HZ : Hid ((∀ j, j < V.length → rowE (sizesN V) L R j = 0) → firstE (rowE (sizesN V) L R) V.length = 0) := fun h => firstE_none h
  have HLV := hid hLV
  have HRV := hid hRV
  generalize firstE (rowE (sizesN V) L R) V.length = fe at *
  clear h hs hfi hup hLV hRV hg hv
  have hK0 : NK w ((w.alloc (NC (.slice a V.length ca) (.slice b L.length cb) (.slice c R.length cc))).alloc (.cells #[.int .i64 0] 31)) (.slice a V.length ca) (.slice b L.length cb) (.slice c R.length cc) := (NK.new w (.slice a V.length ca) (.slice b L.length cb) (.slice c R.length cc)).step ((Below.refl _ _).alloc (Nat.le_refl _) _)
  have hE0 : Boxed ((w.alloc (NC (.slice a V.length ca) (.slice b L.length cb) (.slice c R.length cc))).alloc (.cells #[.int .i64 0] 31)) (w.heap.size + 1) 31 (.int .i64 0) := by
    have h := Boxed.new (w.alloc (NC (.slice a V.length ca) (.slice b L.length cb) (.slice c R.length cc))) 31 (.int .i64 0)
    rwa [World.size_alloc] at h
  have HK0 := hid hK0
  have HE0 := hid hE0
  obtain ⟨c0, c1, c2⟩ := hK0.1.cells
  clear hK0 hE0
  refine callsIn_of_wp_marks Tryz.func25 rfl trivial ?_ rfl
  simp only [Tryz.ntmps25, List.size_toArray, List.length_cons, List.length_nil, Nat.reduceAdd, Nat.reduceSub, Array.replicate_succ, Array.replicate_zero, List.push_toArray, List.append_toArray, List.nil_append, List.cons_append]
  gi_wp2_with (refine ⟨trivial, ?_⟩; gi_at_call 45; refine (callsIn_wide.2 (HSZ.out _ (HI.out.below HK0.out.2).vars)).mono ?_; rintro e W2 ⟨G, rfl, hGe, hrow, hb⟩; have hK2 := HK0.out.step hb; have hE2 := (hb.block (w.heap.size + 1) (Array.getElem?_eq_some_iff.1 HE0.out).1).trans HE0.out; clear c0 c1 c2; obtain ⟨c0, c1, c2⟩ := hK2.1.cells)
  clear hb
  have HK2 := hid hK2
  have HE2 : Hid (Boxed W2 (w.heap.size + 1) 31 (.int .i64 0)) := hE2
  have HROW := hid hrow
  have hE1 : w.heap.size + 1 < W2.heap.size := (Array.getElem?_eq_some_iff.1 hE2).1
  clear hK2 hE2 hrow c0 c1 c2 HK0 HE0 HSZ hGe
  refine wpIn_loop (fun a' w' => ∃ (v : Nat) (ds : List Deferred) (u4 u5 u6 u7 u15 u16 u17 u18 u19 u20 u21 u22 u23 u24 u25 u26 u27 u28 u29 u30 u31 u32 u33 u34 u35 u36 u37 u38 u39 u40 u41 u42 u43 u48 : Value), a' = { tmps := #[.agg #[.slice a V.length ca, .slice b L.length cb, .slice c R.length cc], .pointer (some ⟨w.heap.size, 0, none⟩), .pointer (some ⟨w.heap.size + 1, 0, none⟩), .slice (some ⟨G, 0, none⟩) V.length V.length, u4, u5, u6, u7, undef, .agg #[.slice a V.length ca, .slice b L.length cb, .slice c R.length cc], .slice (some ⟨G, 0, none⟩) V.length V.length, .pointer (some ⟨w.heap.size, 2, none⟩), .slice c R.length cc, .int .i64 (R.length : Nat), .int .i64 (v : Nat), u15, u16, u17, u18, u19, u20, u21, u22, u23, u24, u25, u26, u27, u28, u29, u30, u31, u32, u33, u34, u35, u36, u37, u38, u39, u40, u41, u42, u43, undef, undef, undef, undef, u48], defers := ds } ∧ v ≤ R.length ∧ Hid (∀ j, j < v → rowE (sizesN V) L R j = 0) ∧ Hid (Below W2.heap.size W2 w') ∧ Hid (Shut W2.heap.size w'.heap.size ds w')) (fun a' _ => R.length - (intOf (a'.tmps.getD 14 undef)).toNat) ?_ ?_
  · exact ⟨0, [], _, _, _, _, _, _, _, _, _, _, _, _, _, _, _, _, _, _, _, _, _, _, _, _, _, _, _, _, _, _, _, _, _, _, rfl, Nat.zero_le _, (fun j hj => absurd hj (by omega)), Below.refl _ _, trivial⟩
  intro a' wr hinv
  obtain ⟨v, ds, u4, u5, u6, u7, u15, u16, u17, u18, u19, u20, u21, u22, u23, u24, u25, u26, u27, u28, u29, u30, u31, u32, u33, u34, u35, u36, u37, u38, u39, u40, u41, u42, u43, u48, rfl, hv, HZ0, HB, HSH⟩ := hinv
  have hlo : W2.heap.size ≤ wr.heap.size := HB.out.size
  by_cases hlt : v < R.length
  · have hKr := HK2.out.step HB.out
    have hrR := HROW.out.below HB.out HROW.out.lt
    have hvL : v < L.length := by rw [HLV.out, ← HRV.out]; exact hlt
    have hvV : v < V.length := by rw [← HRV.out]; exact hlt
    obtain ⟨gr, or_, bf, cf, rfl, hgr, r1, hrf, hrc⟩ := HI.out.rows v hlt
    obtain ⟨gp, op_, bp, cp, rfl, hgp, p1, hpi⟩ := HI.out.pars v hvL
    obtain ⟨c0, c1, c2⟩ := hKr.1.cells
    have r2 := (hKr.2.cell (p := ⟨gr, or_ + v, none⟩) hgr).trans r1
    have p2 := (hKr.2.cell (p := ⟨gp, op_ + v, none⟩) hgp).trans p1
    have hsl : (sizesN V).length = V.length := sizesN_length V
    have hup : Up L[v] V.length := by rw [← HLV.out]; exact HUP.out v hvL
    have hs4 : ∀ u, sz (sizesN V) u ≤ 4 := fun u => by have := HFI.out.sz_le u; rwa [toN_iL] at this
    have hps : Pos (sizesN V) := by have := HFI.out.pos; rwa [toN_iL] at this
    have hN : cnt (sizesN V) (toN L[v]) ≤ 65536 := cnt_small hs4 (by rw [toN_length]; have := hup.length; have := HLV.out; omega)
    have hN1 : 1 ≤ cnt (sizesN V) (toN L[v]) := cnt_pos hps _
    have hk4 := hs4 v
    have hk1 := sz_pos hps v
    have hsv := hrR.cell v (by rw [hsl]; exact hvV)
    have hse : (sizesN V)[v]'(by rw [hsl]; exact hvV) = sz (sizesN V) v := by rw [sz, List.getElem?_eq_getElem (by rw [hsl]; exact hvV)]; rfl
    rw [hse] at hsv
    have hpl := hup.length
    have HCT : Hid (CallsIn Fence.wide 5 Tryz.prog 46 #[.slice (some ⟨G, 0, none⟩) V.length V.length, .slice bp L[v].length cp] wr fun e w' => e = .returned (.tuple #[.int .i64 (cnt (sizesN V) (toN L[v]) : Nat), .int .i64 0]) ∧ Below wr.heap.size wr w') := by
      have hcb : countB (iL (sizesN V)) L[v] = true := countB_of HFI.out (by rw [iL_length, hsl]; exact hup)
      have hc := tCount_any (some ⟨G, 0, none⟩) bp V.length cp (iL (sizesN V)) L[v] wr hrR.ints (hpi.below hKr.2) (by rw [iL_length, hsl]; have := HLV.out; omega) (by have := HLV.out; omega)
      rw [countA_yes hcb, toN_iL, iL_length, hsl] at hc
      exact callsIn_wide.2 hc
    have HRE : Hid (rowE (sizesN V) L R v = if R[v].length = cnt (sizesN V) (toN L[v]) * sz (sizesN V) v then (if ((List.range (cnt (sizesN V) (toN L[v]))).all fun i => rowB (chunkF R[v] (sz (sizesN V) v) i)) = true then 0 else 9) else 8) := by
      show _ = _
      rw [rowE, List.getD_eq_getElem?_getD, List.getElem?_eq_getElem hlt, List.getD_eq_getElem?_getD, List.getElem?_eq_getElem hvL]
      rfl
    have HRF := hid (hrf.below hKr.2)
    have hrs := HRS.out R[v] (List.getElem_mem hlt)
    have HAV := hid (HA.out v hvV HZ0.out)
    generalize L[v] = pl at *
    generalize R[v] = rv at *
    have hlp : pl.length ≤ 8 := by have := HLV.out; omega
    clear hrf r1 p1 hpi hup hs4 hps hse hsl
    generalize hkk : sz (sizesN V) v = k at *
    generalize cnt (sizesN V) (toN pl) = N at *
    clear hkk
    have hNk : N * k ≤ 262144 := Nat.le_trans (Nat.mul_le_mul hN hk4) (by decide)
    have hcm : (N : Int) * (k : Int) = ((N * k : Nat) : Int) := (Int.natCast_mul _ _).symm
    have hw1 : IntKind.i64.wrap ((N : Int) * (k : Int)) = ((N * k : Nat) : Int) := by rw [hcm, IntKind.wrap_i64]; omega
    have HCM := hid hcm
    clear hcm
    by_cases hT : rv.length = N * k
    · rw [if_pos hT] at HRE
      rw [← hT] at hw1
      have hkT : k ≤ N * k := Nat.le_mul_of_pos_left k hN1
      have hpos : 0 < rv.length := by omega
      obtain ⟨gf, of_, rfl, hgf, -⟩ := HRF.out 0 hpos
      have HTT := hid hT
      clear hT hNk hkT
      have hT5 : rv.length ≤ 5000 := hrs.1
      have hne : ((rv.length : Int) != (rv.length : Int)) = false := by simp
      gi_wp2_with (first
        | (refine ⟨trivial, ?_⟩; gi_at_call 46; refine HCT.out.mono ?_; rintro e W4 ⟨rfl, hb⟩; have hK4 := hKr.step hb; have hr4 := hrR.below hb hrR.lt; have hsv4 := (hb.cell (p := ⟨G, v, none⟩) hrR.lt).trans hsv; clear c0 c1 c2 r2 p2 hsv)
        | (refine ⟨trivial, ?_⟩; gi_at_call 47; refine (chunk_in _ _ _ _ k hk1 _).mono ?_; rintro e W5 ⟨rfl, rfl⟩))
      have hsz5 : ((W4.alloc (.cells #[.slice (some ⟨gf, of_, none⟩) rv.length cf] 51)).alloc (.cells #[.int .i64 (k : Nat)] 3)).heap.size = W4.heap.size + 1 + 1 := by simp
      have hc1 : ((W4.alloc (.cells #[.slice (some ⟨gf, of_, none⟩) rv.length cf] 51)).alloc (.cells #[.int .i64 (k : Nat)] 3)).cell? ⟨W4.heap.size, 0, none⟩ = some (.slice (some ⟨gf, of_, none⟩) rv.length cf) := ((Boxed.new W4 51 (.slice (some ⟨gf, of_, none⟩) rv.length cf)).alloc _).cell
      have hc2 : ((W4.alloc (.cells #[.slice (some ⟨gf, of_, none⟩) rv.length cf] 51)).alloc (.cells #[.int .i64 (k : Nat)] 3)).cell? ⟨W4.heap.size + 1, 0, none⟩ = some (.int .i64 (k : Nat)) := by
        have h := (Boxed.new (W4.alloc (.cells #[.slice (some ⟨gf, of_, none⟩) rv.length cf] 51)) 3 (.int .i64 (k : Nat))).cell
        rwa [World.size_alloc] at h
      have hb45 : Below W4.heap.size W4 ((W4.alloc (.cells #[.slice (some ⟨gf, of_, none⟩) rv.length cf] 51)).alloc (.cells #[.int .i64 (k : Nat)] 3)) := ((Below.refl _ W4).alloc (Nat.le_refl _) _).alloc (by simp) _
      generalize ((W4.alloc (.cells #[.slice (some ⟨gf, of_, none⟩) rv.length cf] 51)).alloc (.cells #[.int .i64 (k : Nat)] 3)) = W5 at *
      have hs4 := hb.size
      have hK5 := hK4.step hb45
      have hr5 : Below wr.heap.size wr W5 := hb.trans (hb45.mono hs4)
      have HF5 := hid (HRF.out.below hr5)
      have HSH5 := hid ((HSH.out.below hr5).mono (show wr.heap.size ≤ W5.heap.size by omega))
      have HCL : Hid (CrL w 0 W5) := ⟨(hr5.block (w.heap.size + 1) (by omega)).trans ((HB.out.block (w.heap.size + 1) hE1).trans HE2.out), hK5.2⟩
      have HK5 := hid hK5
      have HB5 := hid (HB.out.trans (hr5.mono hlo))
      clear hb hK4 hr4 hsv4 hb45 hKr hrR hK5 HCT HROW HB HSH HRF hr5
      refine wpIn_rangeFunc_ownG (α := CAt N) rfl (by omega) (gf := 71) (lb := #[.pointer (some ⟨W4.heap.size, 0, none⟩), .pointer (some ⟨W4.heap.size + 1, 0, none⟩)]) rfl trivial (enters_of Tryz.func71 (by kernel_rfl) rfl)
        (chunk_stops 5 (by omega) W4.heap.size (W4.heap.size + 1) W5.heap.size gf of_ cf k N rv.length HTT.out hk1 hk4 hN hrc W5 (by omega) (by omega) hc1 hc2) KeepsC.t (KeepsC.b (by omega) (by omega) (Nat.le_refl _)) (Below.refl _ _) (fun _ => rfl)
        (fun (pre : List (CAt N)) X => Below W5.heap.size W5 X ∧ ∀ x ∈ pre, rowB (chunkF rv k x.1) = true)
        (fun cd (pre : List (CAt N)) X => ∃ Y, (cd = Code.ret ∧ (∃ x ∈ pre, rowB (chunkF rv k x.1) = false) ∧ CrL w 9 Y ∧ Shut W2.heap.size W5.heap.size ds Y) ∧ W5.heap.size ≤ Y.heap.size ∧ Below W5.heap.size Y X)
        (OwnFrom.and (ownFrom_below (Nat.le_refl _) (Nat.le_refl _)) (fun _ _ _ _ hs _ _ => hs))
        (fun cd => ownFrom_held (Q := fun (pre : List (CAt N)) Y => cd = Code.ret ∧ (∃ x ∈ pre, rowB (chunkF rv k x.1) = false) ∧ CrL w 9 Y ∧ Shut W2.heap.size W5.heap.size ds Y) (Nat.le_refl _))
        ⟨Below.refl _ _, fun x hx => absurd hx (by simp)⟩
        (fun x => { tmps := #[.agg #[.slice a V.length ca, .slice (some ⟨gp, op_, none⟩) L.length cb, .slice (some ⟨gr, or_, none⟩) R.length cc], .pointer (some ⟨w.heap.size, 0, none⟩), .pointer (some ⟨w.heap.size + 1, 0, none⟩), .slice (some ⟨G, 0, none⟩) V.length V.length, .int .i64 (v : Nat), .slice (some ⟨gf, of_, none⟩) rv.length cf, .int .i64 (N : Nat), .int .i64 0, .slice (some ⟨gf, of_ + x.1 * k * 3, none⟩) k k, .agg #[.slice a V.length ca, .slice (some ⟨gp, op_, none⟩) L.length cb, .slice (some ⟨gr, or_, none⟩) R.length cc], .slice (some ⟨G, 0, none⟩) V.length V.length, .pointer (some ⟨w.heap.size, 2, none⟩), .slice (some ⟨gr, or_, none⟩) R.length cc, .int .i64 (R.length : Nat), .int .i64 (v : Nat), .bool true, .int .i64 (v : Nat), .pointer (some ⟨gr, or_ + v, none⟩), .slice (some ⟨gf, of_, none⟩) rv.length cf, .tuple #[.int .i64 (N : Nat), .int .i64 0], .slice (some ⟨G, 0, none⟩) V.length V.length, .pointer (some ⟨w.heap.size, 1, none⟩), .slice (some ⟨gp, op_, none⟩) L.length cb, .int .i64 (v : Nat), .pointer (some ⟨gp, op_ + v, none⟩), .slice bp pl.length cp, .tuple #[.int .i64 (N : Nat), .int .i64 0], .int .i64 (N : Nat), .int .i64 0, .slice (some ⟨gf, of_, none⟩) rv.length cf, .int .i64 (rv.length : Nat), .int .i64 (N : Nat), .slice (some ⟨G, 0, none⟩) V.length V.length, .int .i64 (v : Nat), .pointer (some ⟨G, v, none⟩), .int .i64 (k : Nat), .int .i64 (rv.length : Nat), .bool false, .slice (some ⟨gf, of_, none⟩) rv.length cf, .slice (some ⟨G, 0, none⟩) V.length V.length, .int .i64 (v : Nat), .pointer (some ⟨G, v, none⟩), .int .i64 (k : Nat), .func (.func 71) #[] #[.pointer (some ⟨W4.heap.size, 0, none⟩), .pointer (some ⟨W4.heap.size + 1, 0, none⟩)], .slice (some ⟨gf, of_ + x.1 * k * 3, none⟩) k k, undef, undef, undef, u48], defers := [] }) ?assign ?body ?done ?stop
      case assign =>
        intro l x X K hK
        gi_wp2
        exact hK
      case body =>
        rintro l pre ⟨i, hi⟩ X ⟨hBX, hall⟩ hpre
        have hmul : (i + 1) * k ≤ rv.length := by rw [HTT.out]; exact Nat.mul_le_mul_right k hi
        obtain ⟨hfc, hlc⟩ := FrS.chunk (m := k) (HF5.out.below hBX) hmul rfl
        have hir := isRow_any (some ⟨gf, of_ + i * k * 3, none⟩) k (chunkF rv k i) X hfc (Nat.le_trans (fw_chunk rv k i) hrs.2) (by omega)
        rw [hlc] at hir
        have hXs := hBX.size
        have HIR := hid hir
        have HBX := hid hBX
        have HALL := hid hall
        clear hir hfc hlc hmul hBX hall hc1 hc2 hpre
        cases hrb : rowB (chunkF rv k i)
        case true =>
          rw [hrb] at HIR
          have HRB := hid hrb
          clear hrb
          gi_wp2_with (refine ⟨trivial, ?_⟩; gi_at_call 48; refine (CallsIn.inRound l (callsIn_wide.2 HIR.out)).mono ?_; rintro e X2 ⟨rfl, hbX⟩)
          refine ⟨(below_others hbX).from _, ⟨hbX.cell (p := ⟨W4.heap.size, 0, none⟩) (by show W4.heap.size < X.heap.size; omega), hbX.cell (p := ⟨W4.heap.size + 1, 0, none⟩) (by show W4.heap.size + 1 < X.heap.size; omega), hbX.mono hXs⟩, HBX.out.trans (hbX.mono hXs), fun x hx => ?_⟩
          rcases List.mem_append.1 hx with hx | hx
          · exact HALL.out x hx
          · rw [List.mem_singleton.1 hx]
            exact HRB.out
        case false =>
          rw [hrb] at HIR
          have HRB := hid hrb
          clear hrb
          gi_wp2_with (refine ⟨trivial, ?_⟩; gi_at_call 48; refine (CallsIn.inRound l (callsIn_wide.2 HIR.out)).mono ?_; rintro e X2 ⟨rfl, hbX⟩; have hB2 := HBX.out.trans (hbX.mono hXs); have hbx := (hB2.block (w.heap.size + 1) (by omega)).trans HCL.out.1; have hcx := Boxed.cell hbx; have hfx := Boxed.frozen hbx)
          have hL9 : CrL w 9 (X2.setCell ⟨w.heap.size + 1, 0, none⟩ (.int .i64 9)) := CrL.put (k := 0) ⟨hbx, HCL.out.2.trans (hB2.mono (by omega))⟩ 9
          refine ⟨((below_others hbX).trans (KeepsOthers.setCell X2 _ _)).from _, _, ⟨rfl, ⟨⟨i, hi⟩, by simp, HRB.out⟩, hL9, (HSH5.out.below hB2).put (by omega) _⟩, ?_, Below.refl _ _⟩
          have hX2s := hbX.size
          simp
          omega
      case done =>
        rintro D ys X hD hys ⟨hBX, hall⟩ hK
        have HRZ : Hid (rowE (sizesN V) L R v = 0) := by
          show _ = _
          rw [HRE.out, if_pos]
          rw [List.all_eq_true]
          intro i hi
          rw [← hys] at hi
          obtain ⟨x, hx, rfl⟩ := List.mem_map.1 hi
          exact hall x hx
        have hDX : D < X.heap.size := (Array.getElem?_eq_some_iff.1 hK).1
        have hB2 := HB5.out.trans (hBX.mono (by omega))
        have hSX : Shut W2.heap.size X.heap.size ({ target := .collected D, args := #[] } :: ds) X := ⟨D, by omega, hDX, rfl, hK, (HSH5.out.below hBX).mono hD⟩
        have HBX := hid hB2
        have HSX := hid hSX
        clear hK hall hys hB2 hSX hc1 hc2 hBX
        gi_wp2
        refine ⟨⟨v + 1, _, _, _, _, _, _, _, _, _, _, _, _, _, _, _, _, _, _, _, _, _, _, _, _, _, _, _, _, _, _, _, _, _, _, _, rfl, by omega, (fun j hj => ?_), HBX, HSX⟩, ?_⟩
        · rcases Nat.lt_or_ge j v with h | h
          · exact HZ0.out j h
          · rw [show j = v by omega]
            exact HRZ.out
        · simp [intOf]
          omega
      case stop =>
        rintro D cd pre X hD hSp ⟨Y, ⟨rfl, ⟨x, hx, hxb⟩, hcr, hsh⟩, hYs, hBX⟩ hK
        have hfe : fe = 9 := HAV.out 9 (by
          rw [HRE.out, if_neg]
          intro h
          rw [List.all_eq_true] at h
          have := h x.1 (List.mem_range.2 x.2)
          rw [hxb] at this
          cases this) (by decide)
        have hDX : D < X.heap.size := (Array.getElem?_eq_some_iff.1 hK).1
        have hCX : CrL w 9 X := ⟨(hBX.block (w.heap.size + 1) (by omega)).trans hcr.1, hcr.2.trans (hBX.mono (by omega))⟩
        gi_wp2
        refine leaves_shut (lo := W2.heap.size) (K := CrL w 9) (CrL.shut (by omega)) (fun Z hZ => ⟨_, results_cell_err hZ.1 rfl _ rfl, ?_, hZ.2⟩) _ X.heap.size X ⟨D, by omega, hDX, rfl, hK, (hsh.below hBX).mono hD⟩ hCX
        rw [hfe]
    · rw [if_neg hT] at HRE
      have hfe : fe = 8 := HAV.out 8 HRE.out (by decide)
      have hne : ((rv.length : Int) != ((N * k : Nat) : Int)) = true := by
        have : ¬ (rv.length : Int) = ((N * k : Nat) : Int) := by omega
        simpa using this
      clear hT
      have HB' := HB.out
      gi_wp2_with (refine ⟨trivial, ?_⟩; gi_at_call 46; refine HCT.out.mono ?_; rintro e W4 ⟨rfl, hb⟩; have hK4 := hKr.step hb; have hsv4 := (hb.cell (p := ⟨G, v, none⟩) hrR.lt).trans hsv; have hbx : Boxed W4 (w.heap.size + 1) 31 (.int .i64 0) := (hb.block (w.heap.size + 1) (by omega)).trans ((HB.out.block (w.heap.size + 1) hE1).trans HE2.out); have hcx := Boxed.cell hbx; have hfx := Boxed.frozen hbx; clear c0 c1 c2 r2 p2 hsv)
      refine leaves_shut (lo := W2.heap.size) (K := CrL w 8) (CrL.shut (by omega)) (fun Z hZ => ⟨_, results_cell_err hZ.1 rfl _ rfl, ?_, hZ.2⟩) _ wr.heap.size _ ((HSH.out.below hb).put (by omega) _) (CrL.put (k := 0) ⟨hbx, hK4.2⟩ 8)
      rw [hfe]
  · obtain rfl : v = R.length := by omega
    have hfe : fe = 0 := HZ.out (fun j hj => HZ0.out j (by rw [HRV.out]; exact hj))
    have hbx : Boxed wr (w.heap.size + 1) 31 (.int .i64 0) := (HB.out.block (w.heap.size + 1) hE1).trans HE2.out
    have hcx := Boxed.cell hbx
    have hfx := Boxed.frozen hbx
    have hKr := HK2.out.step HB.out
    gi_wp2
    refine leaves_shut (lo := W2.heap.size) (K := CrL w 0) (CrL.shut (by omega)) (fun Z hZ => ⟨_, results_cell_err hZ.1 rfl _ rfl, ?_, hZ.2⟩) _ wr.heap.size _ (HSH.out.put (by omega) _) (CrL.put (k := 0) ⟨hbx, hKr.2⟩ 0)
    rw [hfe]
end Go.Proofs.YtojidhnkpeiimaaGreatDoor

/- Nets: Given on both sides, whatever is asked. -/
namespace Go.Proofs.YtojidhnkpeiimaaGreatDoor
open Go.RowKit Go.Shelf
theorem check_any (a b c : Option Addr) (ca cb cc : Nat) (V : List Vr) (L : List (List Int)) (R : List (List Fr)) (w : World) (h : NetI w a b c V L R) (hs : NSm V L R) :
    Calls Tryz.prog 9 #[.agg #[.slice a V.length ca, .slice b L.length cb, .slice c R.length cc]] w fun e w' => e = .returned (.int .i64 (netE V L R)) ∧ Below w.heap.size w w' :=
  nCheck_any a b c ca cb cc V L R w h hs fun h1 h2 h3 h4 U hU => checkRows_any a b c ca cb cc V L R U hU hs h1 h2 h3 h4
end Go.Proofs.YtojidhnkpeiimaaGreatDoor

/- The document's answer: Made's contract; sizes of sums. -/
namespace Go.Proofs.YtojidhnkpeiimaaGreatDoor
open Go.RowKit Go.Shelf Go.Lib
structure NM (V : List Vr) (L : List (List Int)) (R : List (List Fr)) : Prop where
  ok : netE V L R = 0
  one : 1 ≤ V.length
  six : V.length ≤ 6
  szs : ∀ u, sz (sizesN V) u ≤ 3
  few : ∀ l ∈ L, l.length ≤ 3
  tiny : ∀ l ∈ R, ∀ f ∈ l, f.2.1.size + f.2.2.size ≤ 2
  small : NSm V L R
  light : ∀ l ∈ R, fw l ≤ 400
theorem fw_tiny : ∀ {l : List Fr}, (∀ f ∈ l, f.2.1.size + f.2.2.size ≤ 2) → fw l ≤ 4 * l.length
  | [], _ => Nat.le_refl _
  | f :: l, h => by
    have h1 := h f List.mem_cons_self
    have h2 := fw_tiny fun g hg => h g (List.mem_cons_of_mem _ hg)
    simp only [fw, List.length_cons]
    omega
theorem made_nm {bk : Bool} {n : Nat} {Vs : List PV} {Ls : List PL} {Rs : List PR} (hV : VK n Vs) (h : LK2 bk n n (sizesN (vOf Vs)) Ls Rs) (h1 : 1 ≤ n) (h6 : n ≤ 6) : NM (vOf Vs) (lOf Ls) (rOf Rs) := by
  have hv : (vOf Vs).length = n := by simp [vOf, hV.len]
  have hl : (lOf Ls).length = n := by simp [lOf, h.len]
  have hr : (rOf Rs).length = n := by simp [rOf, h.lenR]
  have hsk := hV.sizes
  have htiny : ∀ l ∈ rOf Rs, ∀ f ∈ l, f.2.1.size + f.2.2.size ≤ 2 := fun l hlm => by
    obtain ⟨p, hp, rfl⟩ := List.mem_map.1 hlm
    obtain ⟨j, hj, rfl⟩ := List.getElem_of_mem hp
    exact (h.rows j (by have := h.len; have := h.lenR; omega) hj).small
  have hlenR : ∀ l ∈ rOf Rs, l.length ≤ 81 := fun l hlm => by
    obtain ⟨p, hp, rfl⟩ := List.mem_map.1 hlm
    obtain ⟨j, hj, rfl⟩ := List.getElem_of_mem hp
    have hjL : j < Ls.length := by have := h.len; have := h.lenR; omega
    rw [(h.rows j hjL hj).len]
    have h2 := (cnt_27 hsk (l := toN Ls[j].2) (by rw [toN_length]; exact (h.pars j hjL).few)).2
    have h3 := (hsk.sz j).2
    exact Nat.le_trans (Nat.mul_le_mul h2 h3) (by decide)
  have hfew : ∀ l ∈ lOf Ls, l.length ≤ 3 := fun l hlm => by
    obtain ⟨p, hp, rfl⟩ := List.mem_map.1 hlm
    obtain ⟨j, hj, rfl⟩ := List.getElem_of_mem hp
    exact (h.pars j hj).few
  have hlight : ∀ l ∈ rOf Rs, fw l ≤ 400 := fun l hlm => by
    have := fw_tiny (htiny l hlm)
    have := hlenR l hlm
    omega
  have hnm : ∀ c i, i < 10 → (nmB c i).size ≤ 5000 := fun c i hi => by
    have h1 : (nmB c i).size = 1 + (dgB i).size := by rw [nmB, ByteArray.size_append]; rfl
    rw [h1, dgB_size hi]
    omega
  refine ⟨made_netE hV h h1 h6, by omega, by omega, fun u => (hsk.sz u).2, hfew, htiny, ⟨⟨by omega, fun x hx => ?_⟩, ⟨by omega, fun l hlm => by have := hfew l hlm; omega⟩, ⟨by omega, fun l hlm => ⟨by have := hlenR l hlm; omega, by have := hlight l hlm; omega⟩⟩⟩, hlight⟩
  obtain ⟨p, hp, rfl⟩ := List.mem_map.1 hx
  obtain ⟨j, hj, rfl⟩ := List.getElem_of_mem hp
  obtain ⟨e1, k, _, h3, e2⟩ := hV.each j hj
  have hj6 : j < 10 := by have := hV.len; omega
  refine ⟨by rw [show (Vs[j].1, Vs[j].2.2).1 = Vs[j].1 from rfl, e1]; exact hnm 110 j hj6, ?_, ?_⟩
  · rw [show (Vs[j].1, Vs[j].2.2).2 = Vs[j].2.2 from rfl, e2, valsN_length]; omega
  · rw [show (Vs[j].1, Vs[j].2.2).2 = Vs[j].2.2 from rfl, e2]
    intro s hs
    obtain ⟨i, hi, rfl⟩ := List.mem_map.1 hs
    have := List.mem_range.1 hi
    exact hnm 118 i (by omega)
theorem made_net (a1 a2 a3 : Option Addr) (c1 c2 c3 : Nat) (L1 L2 L3 : List Int) (bk : Bool) (w : World) (h1 : IntS w a1 L1) (h2 : IntS w a2 L2) (h3 : IntS w a3 L3) (r1 : Rng L1) (r2 : Rng L2) (r3 : Rng L3) :
    Calls Tryz.prog 4 #[.agg #[.slice a1 L1.length c1, .slice a2 L2.length c2, .slice a3 L3.length c3, .bool bk]] w fun e w' => ∃ (a b c : Option Addr) (ca cb cc : Nat) (V : List Vr) (L : List (List Int)) (R : List (List Fr)), e = .returned (.agg #[.slice a V.length ca, .slice b L.length cb, .slice c R.length cc]) ∧ NetI w' a b c V L R ∧ LsN w' b L ∧ NM V L R ∧ Below w.heap.size w w' := by
  refine (made_any a1 a2 a3 c1 c2 c3 L1 L2 L3 bk w h1 h2 h3 r1 r2 r3).mono ?_
  rintro e w' ⟨bk', n, x, y, z, Vs, Ls, Rs, rfl, ⟨hn1, hn6⟩, hV, hL, oV, oL, oR, hb⟩
  obtain ⟨a, ca, rfl, hvs⟩ := oV.vars
  obtain ⟨b, cb, rfl, hls, hln⟩ := oL.pars
  obtain ⟨c, cc, rfl, hrs⟩ := oR.rows
  exact ⟨a, b, c, ca, cb, cc, _, _, _, rfl, ⟨hvs, hls, hrs⟩, hln, made_nm hV hL hn1 hn6, hb⟩
end Go.Proofs.YtojidhnkpeiimaaGreatDoor

/- What a net's names, values and rows are, plainly; how long its text is; how its numbers are read back. -/
namespace Go.Proofs.YtojidhnkpeiimaaGreatDoor
open Go.RowKit Go.Lib
def NmsOK (l : List ByteArray) : Prop := ∀ i (h : i < l.length), nameB l[i] = true ∧ memS (l.take i) l[i] = false
theorem nms_ok {l : List ByteArray} (h : namesE l = 0) : NmsOK l := fun i hi => by
  have h1 := firstE_zero h i hi
  rw [nameE, getS hi] at h1
  by_cases e : nameB l[i] = true
  · rw [if_pos e] at h1
    refine ⟨e, ?_⟩
    cases hm : memS (l.take i) l[i] with
    | false => rfl
    | true => rw [hm, if_pos rfl] at h1; exact absurd h1 (by decide)
  · rw [if_neg e] at h1
    exact absurd h1 (by decide)
structure VOK (V : List Vr) : Prop where
  nm : NmsOK (namesV V)
  len : ∀ i (h : i < V.length), 1 ≤ V[i].2.length ∧ V[i].2.length ≤ 4
  vl : ∀ i (h : i < V.length), NmsOK V[i].2
theorem vars_ok {V : List Vr} (h : varsE V = 0) : VOK V := by
  rw [varsE] at h
  by_cases h1 : namesE (namesV V) = 0
  · rw [if_pos h1] at h
    have h2 := firstE_zero h
    have h3 : ∀ i (hi : i < V.length), 1 ≤ V[i].2.length ∧ V[i].2.length ≤ 4 := fun i hi => by
      have h4 := h2 i hi
      by_cases e : 1 ≤ V[i].2.length ∧ V[i].2.length ≤ 4
      · exact e
      · rw [varE_lim hi e] at h4
        exact absurd h4 (by decide)
    exact ⟨nms_ok h1, h3, fun i hi => nms_ok (by rw [← varE_names hi (h3 i hi)]; exact h2 i hi)⟩
  · rw [if_neg h1] at h
    exact absurd h h1
theorem net_parts {V : List Vr} {L : List (List Int)} {R : List (List Fr)} (h : netE V L R = 0) : VOK V ∧ gcE L = 0 ∧ ∀ v, v < V.length → ∀ i, i < cnt (sizesN V) (toN (L.getD v [])) → rowB (chunkF (R.getD v []) (sz (sizesN V) v) i) = true := by
  rw [netE] at h
  by_cases h1 : L.length = V.length ∧ R.length = V.length
  · rw [if_pos h1] at h
    by_cases h2 : gcE L = 0
    · rw [if_pos h2] at h
      by_cases h3 : varsE V = 0
      · rw [if_pos h3] at h
        refine ⟨vars_ok h3, h2, fun v hv i hi => ?_⟩
        have h4 := firstE_zero h v hv
        rw [rowE] at h4
        by_cases h5 : (R.getD v []).length = cnt (sizesN V) (toN (L.getD v [])) * sz (sizesN V) v
        · rw [if_pos h5] at h4
          by_cases h6 : ((List.range (cnt (sizesN V) (toN (L.getD v [])))).all fun i => rowB (chunkF (R.getD v []) (sz (sizesN V) v) i)) = true
          · exact List.all_eq_true.1 h6 i (List.mem_range.2 hi)
          · rw [if_neg h6] at h4
            exact absurd h4 (by decide)
        · rw [if_neg h5] at h4
          exact absurd h4 (by decide)
      · rw [if_neg h3] at h
        exact absurd h h3
    · rw [if_neg h2] at h
      exact absurd h h2
  · rw [if_neg h1] at h
    exact absurd h (by decide)
theorem NmsOK.tk {l : List ByteArray} (h : NmsOK l) : ∀ s ∈ l, Tk s := fun s hs => by
  obtain ⟨i, hi, rfl⟩ := List.getElem_of_mem hs
  exact tk_name (h i hi).1
theorem NmsOK.name {l : List ByteArray} (h : NmsOK l) : ∀ s ∈ l, nameB s = true := fun s hs => by
  obtain ⟨i, hi, rfl⟩ := List.getElem_of_mem hs
  exact (h i hi).1
theorem vOK_nm {V : List Vr} (h : VOK V) : ∀ x ∈ V, nameB x.1 = true := fun x hx => h.nm.name x.1 (List.mem_map.2 ⟨x, hx, rfl⟩)
theorem vOK_vl {V : List Vr} (h : VOK V) : ∀ x ∈ V, NmsOK x.2 := fun x hx => by
  obtain ⟨i, hi, rfl⟩ := List.getElem_of_mem hx
  exact h.vl i hi
theorem row_sgn {l : List Fr} (h : rowB l = true) : ∀ f ∈ l, ¬ frQ f < 0 := fun f hf => by
  rw [rowB, Bool.and_eq_true] at h
  exact of_decide_eq_true (List.all_eq_true.1 h.1 f hf)
theorem sgn_no {q : Rat} (h : ¬ q < 0) : sgn q = false := by
  have h1 : 0 ≤ q.num := Rat.num_nonneg.2 (Rat.not_lt.1 h)
  exact decide_eq_false (by omega)
theorem chunk_all {l : List Fr} {c s : Nat} (hl : l.length = c * s) {f : Fr} (hf : f ∈ l) : ∃ i, i < c ∧ f ∈ chunkF l s i := by
  obtain ⟨j, hj, rfl⟩ := List.getElem_of_mem hf
  have hs : 0 < s := by
    rcases Nat.eq_zero_or_pos s with h | h
    · subst h; omega
    · exact h
  have h1 : j / s < c := by rw [Nat.div_lt_iff_lt_mul hs]; omega
  have h3 : j % s < s := Nat.mod_lt _ hs
  have h4 := Nat.div_add_mod' j s
  refine ⟨j / s, h1, ?_⟩
  rw [chunkF, List.mem_iff_getElem]
  have h5 : j % s < ((l.drop (j / s * s)).take s).length := by
    rw [List.length_take, List.length_drop]
    omega
  refine ⟨j % s, h5, ?_⟩
  rw [List.getElem_take, List.getElem_drop]
  congr 1
theorem pars_lt {V : List Vr} {L : List (List Int)} {R : List (List Fr)} (h : NOK V L R) {v : Nat} (hv : v < V.length) : ∀ u ∈ toN (L.getD v []), u < V.length := fun u hu => by
  have hL : v < L.length := by rw [h.len]; exact hv
  rw [List.getD_eq_getElem?_getD, List.getElem?_eq_getElem hL] at hu
  obtain ⟨x, hx, rfl⟩ := List.mem_map.1 hu
  have h1 := (up_iff.1 (h.up v hL)).1 x hx
  omega
theorem szV {V : List Vr} {u : Nat} (h : u < V.length) : sz (sizesN V) u = V[u].2.length := by rw [sz, sizesN_get h]; rfl
theorem vlV_mem {V : List Vr} {u k : Nat} (hu : u < V.length) (hk : k < sz (sizesN V) u) : vlV V u k ∈ V[u].2 := by
  rw [szV hu] at hk
  rw [vlV, getV hu, List.getD_eq_getElem?_getD, List.getElem?_eq_getElem hk]
  exact List.getElem_mem hk
theorem val_pos {V : List Vr} {L : List (List Int)} {R : List (List Fr)} (h : NOK V L R) : Pos (sizesN V) := by
  have := h.fine.pos
  rwa [toN_iL] at this
theorem tkn_of {V : List Vr} {L : List (List Int)} {R : List (List Fr)} (h : netE V L R = 0) : TkN V L R := by
  obtain ⟨hv, hg, hr⟩ := net_parts h
  have hk := netE_ok h
  refine ⟨fun x hx => tk_name (vOK_nm hv x hx), fun x hx => (vOK_vl hv x hx).tk, fun v hvl => pars_lt hk hvl, fun v i hvl hi s hs => ?_, fun l hl f hf => ?_⟩
  · obtain ⟨j, hj, rfl⟩ := List.mem_map.1 hs
    have hjl := List.mem_range.1 hj
    have hpl : (toN (L.getD v [])).length = (L.getD v []).length := toN_length _
    have hjp : j < (toN (L.getD v [])).length := by omega
    have hu := pars_lt hk hvl _ (List.getElem_mem hjp)
    have hd := digs_lt (val_pos hk) (toN (L.getD v [])) i j hi hjp
    have e1 : (toN (L.getD v [])).getD j 0 = (toN (L.getD v []))[j] := by rw [List.getD_eq_getElem?_getD, List.getElem?_eq_getElem hjp]; rfl
    have e2 : (digs (sizesN V) (toN (L.getD v [])) i).getD j 0 = (digs (sizesN V) (toN (L.getD v [])) i)[j]'(by rw [digs_length]; exact hjp) := by rw [List.getD_eq_getElem?_getD, List.getElem?_eq_getElem]; rfl
    rw [e1, e2]
    exact (vOK_vl hv _ (List.getElem_mem hu)).tk _ (vlV_mem hu hd)
  · obtain ⟨v, hvl, rfl⟩ := List.getElem_of_mem hl
    have hvV : v < V.length := by rw [← hk.lenR]; exact hvl
    have hL : v < L.length := by rw [hk.len]; exact hvV
    obtain ⟨i, hi, hm⟩ := chunk_all (hk.rows v hL hvl) hf
    have h1 := hr v hvV i (by rw [List.getD_eq_getElem?_getD, List.getElem?_eq_getElem hL]; exact hi)
    rw [List.getD_eq_getElem?_getD, List.getElem?_eq_getElem hvl] at h1
    exact tk_frac (sgn_no (row_sgn h1 f hm))
def lowF (f : Fr) : Fr := qF (frQ f)
def lowR (R : List (List Fr)) : List (List Fr) := R.map fun l => l.map lowF
theorem frQ_low (f : Fr) : frQ (lowF f) = frQ f := val_own _
theorem fsum_low (l : List Fr) : fsum (l.map lowF) = fsum l := by
  have key : ∀ (l : List Fr) (s : Rat), (l.map lowF).foldl (fun s f => s + frv f) s = l.foldl (fun s f => s + frv f) s := by
    intro l
    induction l with
    | nil => intro s; rfl
    | cons f l ih =>
      intro s
      rw [List.map_cons, List.foldl_cons, List.foldl_cons, ih]
      congr 1
      exact congrArg (s + ·) (frQ_low f)
  exact key l 0
theorem rowB_low (l : List Fr) : rowB (l.map lowF) = rowB l := by
  rw [rowB, rowB, fsum_low, List.all_map]
  congr 1
  exact congrArg (fun p => l.all p) (funext fun f => by simp only [Function.comp, frQ_low])
theorem chunk_low (l : List Fr) (s i : Nat) : chunkF (l.map lowF) s i = (chunkF l s i).map lowF := by rw [chunkF, chunkF, List.map_take, List.map_drop]
theorem getR_low (R : List (List Fr)) (v : Nat) : (lowR R).getD v [] = (R.getD v []).map lowF := by
  rw [List.getD_eq_getElem?_getD, List.getD_eq_getElem?_getD, lowR, List.getElem?_map]
  cases R[v]? <;> rfl
theorem netE_low (V : List Vr) (L : List (List Int)) (R : List (List Fr)) : netE V L (lowR R) = netE V L R := by
  have e1 : (lowR R).length = R.length := by simp [lowR]
  have e2 : ∀ v, rowE (sizesN V) L (lowR R) v = rowE (sizesN V) L R v := fun v => by
    rw [rowE, rowE, getR_low, List.length_map]
    simp only [chunk_low, rowB_low]
  have e3 : rowE (sizesN V) L (lowR R) = rowE (sizesN V) L R := funext e2
  rw [netE, netE, e1, e3]
theorem name_12 {s : ByteArray} (h : nameB s = true) : s.size ≤ 12 := by
  simp only [nameB, Bool.and_eq_true] at h
  exact of_decide_eq_true h.1.1.1
theorem dec_3 {n : Nat} (h : n < 256) : (decDigits n).length ≤ 3 := dec_len 2 n (by omega)
theorem ftF_7 {f : Fr} (h : f.2.1.size + f.2.2.size ≤ 2) : (ftF f).size ≤ 8 := by
  have a1 : (⟨#[45]⟩ : ByteArray).size = 1 := rfl
  have a2 : (⟨#[47]⟩ : ByteArray).size = 1 := rfl
  have a3 : (⟨#[]⟩ : ByteArray).size = 0 := rfl
  have key : ∀ q : Rat, q.num.natAbs < 256 → q.den < 256 → (ftxt q).size ≤ 8 := fun q h1 h2 => by
    have d1 : (dtx q.num.natAbs).size ≤ 3 := by show (decDigits _).toArray.size ≤ _; simpa using dec_3 h1
    have d2 : (dtx q.den).size ≤ 3 := by show (decDigits _).toArray.size ≤ _; simpa using dec_3 h2
    rw [ftxt, ByteArray.size_append]
    split <;> split <;> (try simp only [ByteArray.size_append]) <;> omega
  by_cases h0 : N f.2.1 = 0 ∨ N f.2.2 = 0
  · rw [ftF, val_zero_iff.2 h0]
    exact key 0 (by decide) (by decide)
  · have hx0 : N f.2.1 ≠ 0 := fun e => h0 (.inl e)
    have hy0 : N f.2.2 ≠ 0 := fun e => h0 (.inr e)
    have s1 : 1 ≤ f.2.1.size := by
      rcases Nat.eq_zero_or_pos f.2.1.size with h | h
      · have := N_lt f.2.1
        rw [h] at this
        simp at this
        exact absurd this hx0
      · exact h
    have s2 : 1 ≤ f.2.2.size := by
      rcases Nat.eq_zero_or_pos f.2.2.size with h | h
      · have := N_lt f.2.2
        rw [h] at this
        simp at this
        exact absurd this hy0
      · exact h
    obtain ⟨_, p2, p3⟩ := mk_parts f.1 (N f.2.1) (N f.2.2) hx0 hy0
    have l1 := N_lt f.2.1
    have l2 := N_lt f.2.2
    rw [show f.2.1.size = 1 by omega] at l1
    rw [show f.2.2.size = 1 by omega] at l2
    refine key _ ?_ ?_
    · show (mkRat _ _).num.natAbs < 256
      rw [p2]
      exact Nat.lt_of_le_of_lt (Nat.div_le_self _ _) l1
    · show (mkRat _ _).den < 256
      rw [p3]
      exact Nat.lt_of_le_of_lt (Nat.div_le_self _ _) l2
theorem spL_few {xs : List ByteArray} {m n : Nat} (h : ∀ s ∈ xs, s.size ≤ m) (hn : xs.length ≤ n) : (spL xs).length ≤ (m + 1) * n := Nat.le_trans (spL_le h) (Nat.mul_le_mul_left _ hn)
theorem chunk_len (l : List Fr) (s i : Nat) : (chunkF l s i).length ≤ s := by rw [chunkF, List.length_take]; exact Nat.min_le_left _ _
theorem row_30 {l : List Fr} (h : ∀ f ∈ l, f.2.1.size + f.2.2.size ≤ 2) (h3 : l.length ≤ 3) : (rowL l).length ≤ 31 := by
  have h1 := spL_few (xs := l.map ftF) (m := 8) (n := 3) (fun s hs => by obtain ⟨f, hf, rfl⟩ := List.mem_map.1 hs; exact ftF_7 (h f hf)) (by rw [List.length_map]; exact h3)
  rw [rowL]
  simp only [List.length_append, List.length_cons, List.length_nil]
  omega
theorem net_short {V : List Vr} {L : List (List Int)} {R : List (List Fr)} (h : NM V L R) : (netL V L R).length ≤ 20000 := by
  have hk := netE_ok h.ok
  obtain ⟨hv, -, -⟩ := net_parts h.ok
  have hsz : ∀ u, sz (sizesN V) u ≤ 3 := h.szs
  have hR : ∀ v, ∀ f ∈ R.getD v [], f.2.1.size + f.2.2.size ≤ 2 := fun v f hf => by
    rw [List.getD_eq_getElem?_getD] at hf
    rcases Nat.lt_or_ge v R.length with hl | hl
    · rw [List.getElem?_eq_getElem hl] at hf
      exact h.tiny _ (List.getElem_mem hl) f hf
    · rw [List.getElem?_eq_none hl] at hf
      cases hf
  have hP : ∀ v, (L.getD v []).length ≤ 3 := fun v => by
    rw [List.getD_eq_getElem?_getD]
    rcases Nat.lt_or_ge v L.length with hl | hl
    · rw [List.getElem?_eq_getElem hl]
      exact h.few _ (List.getElem_mem hl)
    · rw [List.getElem?_eq_none hl]
      exact Nat.zero_le _
  have hnm : ∀ v, (nmV V v).size ≤ 12 := fun v => by
    by_cases hl : v < V.length
    · rw [nmV, getV hl]
      exact name_12 (vOK_nm hv _ (List.getElem_mem hl))
    · rw [nmV, List.getD_eq_getElem?_getD, List.getElem?_eq_none (by omega)]
      exact Nat.zero_le _
  have hvl : ∀ v k, (vlV V v k).size ≤ 12 := fun v k => by
    by_cases hl : v < V.length
    · rw [vlV, getV hl, List.getD_eq_getElem?_getD]
      by_cases hk : k < V[v].2.length
      · rw [List.getElem?_eq_getElem hk]
        exact name_12 ((vOK_vl hv _ (List.getElem_mem hl)).name _ (List.getElem_mem hk))
      · rw [List.getElem?_eq_none (by omega)]
        exact Nat.zero_le _
    · have e0 : V.getD v (⟨#[]⟩, []) = (⟨#[]⟩, []) := by rw [List.getD_eq_getElem?_getD, List.getElem?_eq_none (by omega)]; rfl
      rw [vlV, e0]
      exact Nat.zero_le _
  have h1 : (V.flatMap lineL).length ≤ 100 * V.length := flat_le fun x hx => by
    have a1 := name_12 (vOK_nm hv x hx)
    obtain ⟨i, hi, rfl⟩ := List.getElem_of_mem hx
    have a2 := hsz i
    rw [szV hi] at a2
    have a3 := spL_few (m := 12) (n := 3) (fun s hs => name_12 ((vOK_vl hv _ (List.getElem_mem hi)).name s hs)) a2
    rw [lineL]
    simp only [List.length_append, List.length_cons, List.length_nil, bl_length]
    omega
  have h2 : ((List.range V.length).flatMap (varL V L R)).length ≤ 2100 * V.length := by
    have := flat_le (l := List.range V.length) (f := varL V L R) (m := 2100) (fun v hvm => ?_)
    · rwa [List.length_range] at this
    · have hvV := List.mem_range.1 hvm
      rw [varL]
      have b0 := hnm v
      by_cases hp : (L.getD v []).length = 0
      · rw [if_pos hp]
        have hLl : v < L.length := by rw [hk.len]; exact hvV
        have hRl : v < R.length := by rw [hk.lenR]; exact hvV
        have e1 : L.getD v [] = L[v] := by rw [List.getD_eq_getElem?_getD, List.getElem?_eq_getElem hLl]; rfl
        have e2 : R.getD v [] = R[v] := by rw [List.getD_eq_getElem?_getD, List.getElem?_eq_getElem hRl]; rfl
        have e3 := hk.rows v hLl hRl
        rw [e1] at hp
        rw [List.length_eq_zero_iff.1 hp] at e3
        have e4 := hsz v
        have e5 : R[v].length ≤ 3 := by rw [e3]; simpa [toN, cnt] using e4
        have b1 := row_30 (hR v) (by rw [e2]; exact e5)
        simp only [List.length_append, List.length_cons, List.length_nil, bl_length]
        omega
      · rw [if_neg hp]
        have c0 := hP v
        have c1 := spL_few (xs := (toN (L.getD v [])).map (nmV V)) (m := 12) (n := 3) (fun s hs => by obtain ⟨u, _, rfl⟩ := List.mem_map.1 hs; exact hnm u) (by rw [List.length_map, toN_length]; exact c0)
        have c2 : (headL V L v).length ≤ 58 := by
          rw [headL]
          simp only [List.length_append, List.length_cons, List.length_nil, bl_length]
          omega
        have c3 : ((List.range (cnt (sizesN V) (toN (L.getD v [])))).flatMap (blockL V L R v)).length ≤ 71 * 27 := by
          have hc : cnt (sizesN V) (toN (L.getD v [])) ≤ 27 := by
            have key : ∀ l : List Nat, cnt (sizesN V) l ≤ 3 ^ l.length := by
              intro l
              induction l with
              | nil => exact Nat.le_refl _
              | cons u l ih =>
                rw [cnt, List.length_cons, Nat.pow_succ, Nat.mul_comm]
                exact Nat.mul_le_mul ih (hsz u)
            refine Nat.le_trans (key _) ?_
            rw [toN_length]
            exact Nat.le_trans (Nat.pow_le_pow_right (by decide) c0) (by decide)
          have d := flat_le (l := List.range (cnt (sizesN V) (toN (L.getD v [])))) (f := blockL V L R v) (m := 71) (fun i _ => ?_)
          · rw [List.length_range] at d
            exact Nat.le_trans d (Nat.mul_le_mul_left _ hc)
          · have d1 := spL_few (xs := valsL V (toN (L.getD v [])) (digs (sizesN V) (toN (L.getD v [])) i) (L.getD v []).length) (m := 12) (n := 3) (fun s hs => by obtain ⟨j, _, rfl⟩ := List.mem_map.1 hs; exact hvl _ _) (by rw [valsL, List.length_map, List.length_range]; exact c0)
            have d2 := row_30 (l := chunkF (R.getD v []) (sz (sizesN V) v) i) (fun f hf => hR v f (chunk_mem hf)) (Nat.le_trans (chunk_len _ _ _) (hsz v))
            rw [blockL]
            simp only [List.length_append, List.length_cons, List.length_nil]
            omega
        simp only [List.length_append, List.length_cons, List.length_nil]
        omega
  have h6 := h.six
  rw [netL, List.length_append]
  omega
end Go.Proofs.YtojidhnkpeiimaaGreatDoor
