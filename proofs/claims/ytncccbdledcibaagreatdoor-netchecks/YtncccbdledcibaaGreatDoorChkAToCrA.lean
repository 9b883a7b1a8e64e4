/- Nets: Check of package net (of a contract of checkRows). -/
import Derived.Test.YtncccbdledcibaaGreatDoorNetEOwn
import Derived.Test.YtncccbdledcibaaGreatDoorIterBToAsgA
import Derived.Test.YtncccbdledcibaaGreatDoorRtBToNetD
import Derived.RangeFuncCalls
namespace Go.Proofs.YtncccbdledcibaaGreatDoor
open Go.RowKit Go.Shelf

set_option maxRecDepth 100000 in
set_option maxHeartbeats 1000000 in
theorem nCheck_any (a b c : Option Addr) (ca cb cc : Nat) (V : List Vr) (L : List (List Int)) (R : List (List Fr)) (w : World) (h : NetI w a b c V L R) (hs : NSm V L R)
    (hCR : L.length = V.length → R.length = V.length → gcE L = 0 → varsE V = 0 → ∀ U : World, NetI U a b c V L R → Calls Tryz.prog 42 #[.agg #[.slice a V.length ca, .slice b L.length cb, .slice c R.length cc]] U fun e w' => e = .returned (.int .i64 (firstE (rowE (sizesN V) L R) V.length)) ∧ Below U.heap.size U w') :
    Calls Tryz.prog 10 #[.agg #[.slice a V.length ca, .slice b L.length cb, .slice c R.length cc]] w fun e w' => e = .returned (.int .i64 (netE V L R)) ∧ Below w.heap.size w w' := by
  have HI := hid h
  have hV5 := hs.vars.1
  have hL5 := hs.pars.1
  have hR5 := hs.rows.1
  have HN8 : Hid (¬ (L.length = V.length ∧ R.length = V.length) → netE V L R = 8) := fun h => if_neg h
  have HNG : Hid (L.length = V.length → R.length = V.length → gcE L ≠ 0 → netE V L R = gcE L) := fun h1 h2 h3 => by rw [netE, if_pos ⟨h1, h2⟩, if_neg h3]
  have HNV : Hid (L.length = V.length → R.length = V.length → gcE L = 0 → varsE V ≠ 0 → netE V L R = varsE V) := fun h1 h2 h3 h4 => by rw [netE, if_pos ⟨h1, h2⟩, if_pos h3, if_neg h4]
  have HNR : Hid (L.length = V.length → R.length = V.length → gcE L = 0 → varsE V = 0 → netE V L R = firstE (rowE (sizesN V) L R) V.length) := fun h1 h2 h3 h4 => by rw [netE, if_pos ⟨h1, h2⟩, if_pos h3, if_pos h4]
  have HGC := hid (fun (U : World) (hU : LsS U b L) => gCheck_any b cb L U hU (fun l hl => by have := hs.pars.2 l hl; omega))
  have HVC := hid (fun (U : World) (hU : VsS U a V) => checkVars_any a ca V U hU hs.vars)
  have HCR := hid hCR
  generalize netE V L R = ne at *
  clear h hs hCR
  have HK0 := hid (NK.new w (.slice a V.length ca) (.slice b L.length cb) (.slice c R.length cc))
  obtain ⟨c0, c1, c2⟩ := HK0.out.1.cells
  by_cases hLV : L.length = V.length
  · by_cases hRV : R.length = V.length
    · have hlv : ((L.length : Int) != (V.length : Int)) = false := by rw [hLV]; simp
      have hrv : ((R.length : Int) != (V.length : Int)) = false := by rw [hRV]; simp
      have HNG' := hid (HNG.out hLV hRV)
      have HNV' := hid (HNV.out hLV hRV)
      have HNR' := hid (HNR.out hLV hRV)
      have HCR' := hid (HCR.out hLV hRV)
      clear hLV hRV HN8 HNG HNV HNR HCR
      generalize firstE (rowE (sizesN V) L R) V.length = fe at *
      generalize gcE L = ge at *
      generalize varsE V = ve at *
      go_enter Tryz.func10, Tryz.ntmps10
      go_wp2_with fail
      generalize (w.alloc (NC (.slice a V.length ca) (.slice b L.length cb) (.slice c R.length cc))) = w1 at *
      refine (HGC.out _ (HI.out.below HK0.out.2).pars).mono ?_
      rintro e w2 ⟨rfl, hb⟩
      have hK := HK0.out.step hb
      clear hb HK0 c0 c1 c2 hlv hrv HGC
      obtain ⟨c0, c1, c2⟩ := hK.1.cells
      by_cases hg : ge = 0
      · subst hg
        have HNV2 := hid (HNV'.out rfl)
        have HNR2 := hid (HNR'.out rfl)
        have HCR2 := hid (HCR'.out rfl)
        have HK := hid hK
        clear HNG' HNV' HNR' HCR' hK
        go_wp2_with fail
        refine (HVC.out _ (HI.out.below HK.out.2).vars).mono ?_
        rintro e w3 ⟨rfl, hb⟩
        have hK := HK.out.step hb
        clear hb HK c0 c1 c2 HVC
        obtain ⟨c0, c1, c2⟩ := hK.1.cells
        by_cases hv : ve = 0
        · subst hv
          have HQ := hid (HNR2.out rfl)
          have HCR3 := hid (HCR2.out rfl)
          have HK := hid hK
          clear HNV2 HNR2 HCR2 hK
          go_wp2_with fail
          refine (HCR3.out _ (HI.out.below HK.out.2)).mono ?_
          rintro e w4 ⟨rfl, hb⟩
          have hK := HK.out.step hb
          clear c0 c1 c2 hb
          go_wp2
          go_ret
          exact ⟨by rw [HQ.out]; rfl, hK.2⟩
        · have HQ := hid (HNV2.out hv)
          have hvb : (ve == 0) = false := by simpa using hv
          clear hv HNV2 HNR2 HCR2 c0 c1 c2
          go_wp2
          go_ret
          exact ⟨by rw [HQ.out]; rfl, hK.2⟩
      · have HQ := hid (HNG'.out hg)
        have hgb : (ge == 0) = false := by simpa using hg
        clear hg HNG' HNV' HNR' HCR' c0 c1 c2
        go_wp2
        go_ret
        exact ⟨by rw [HQ.out]; rfl, hK.2⟩
    · have HQ := hid (HN8.out fun h => hRV h.2)
      have hlv : ((L.length : Int) != (V.length : Int)) = false := by rw [hLV]; simp
      have hrv : ((R.length : Int) != (V.length : Int)) = true := by
        have : ¬ (R.length : Int) = (V.length : Int) := by omega
        simpa using this
      clear hLV hRV HN8 HCR
      go_enter Tryz.func10, Tryz.ntmps10
      go_wp2
      go_ret
      exact ⟨by rw [HQ.out]; rfl, HK0.out.2⟩
  · have HQ := hid (HN8.out fun h => hLV h.1)
    have hlv : ((L.length : Int) != (V.length : Int)) = true := by
      have : ¬ (L.length : Int) = (V.length : Int) := by omega
      simpa using this
    clear hLV HN8 HCR
    go_enter Tryz.func10, Tryz.ntmps10
    go_wp2
    go_ret
    exact ⟨by rw [HQ.out]; rfl, HK0.out.2⟩
end Go.Proofs.YtncccbdledcibaaGreatDoor

/- slices.Chunk over a slice of fractions: what a loop over it may lean on. -/
namespace Go.Proofs.YtncccbdledcibaaGreatDoor
open Go.RowKit Go.Shelf

attribute [local go_sem] Oper.semAt_some

/-- What a round must keep: the iterator's two boxes, and all that lay below B. -/
def KeepsC (Bs Bk B : Nat) (V V' : World) : Prop := KeepsBox Bs V V' ∧ KeepsBox Bk V V' ∧ Below B V V'
theorem KeepsC.t {Bs Bk B : Nat} {X Y Z : World} (h : KeepsC Bs Bk B X Y) (k : KeepsC Bs Bk B Y Z) : KeepsC Bs Bk B X Z := ⟨h.1.t k.1, h.2.1.t k.2.1, h.2.2.trans k.2.2⟩
theorem KeepsC.b {Bs Bk B : Nat} {w : World} (hs : Bs < w.heap.size) (hk : Bk < w.heap.size) (hB : B ≤ w.heap.size) (V : World) (l : Nat) (o o' : Obj) (hl : w.heap.size ≤ l) (h1 : V.heap[l]? = some o) (h2 : o.isCells = false) (h3 : o.isWalk = false) : KeepsC Bs Bk B V (V.putObj l o') :=
  ⟨KeepsBox.b hs V l o o' hl h1 h2 h3, KeepsBox.b hk V l o o' hl h1 h2 h3, belowK_b hB V l o o' hl h1 h2 h3⟩
theorem grown_drew (w : World) : w.grownBy w.drew none := ⟨rfl, rfl, rfl, Nat.le_refl _, fun _ _ _ => rfl⟩
abbrev CAt (N : Nat) : Type := { i : Nat // i < N }
abbrev chV (gf of_ k N : Nat) (x : CAt N) : Array Value := #[.slice (some ⟨gf, of_ + x.1 * k * 3, none⟩) k k]

set_option maxRecDepth 100000 in
set_option maxHeartbeats 1000000 in
theorem chunk1_in (n : Nat) (hn : 1 ≤ n) (l Bs Bk B gf of_ cap k N T : Nat) (hT : T = N * k) (hk : 1 ≤ k) (hk4 : k ≤ 4) (hN : N ≤ 65536) (hcap : T ≤ cap) (J Jx : List (CAt N) → World → Prop) (hD : ∀ pre V, J pre V → J pre V.drew)
    (hY : ∀ pre x V, J pre V → pre.length < N → YieldAt Fence.wide (n - 1) Tryz.prog l (chV gf of_ k N x) V fun e V' =>
      (e = .returned (.bool true) ∧ J (pre ++ [x]) V' ∧ KeepsC Bs Bk B V V') ∨ (e = .returned (.bool false) ∧ Jx (pre ++ [x]) V'))
    (V : World) (hBs : V.cell? ⟨Bs, 0, none⟩ = some (.slice (some ⟨gf, of_, none⟩) T cap)) (hBk : V.cell? ⟨Bk, 0, none⟩ = some (.int .i64 (k : Nat))) (h0 : J [] V) :
    CallsIn Fence.wide n Tryz.prog 109 #[.func (.yield l) #[] #[], .pointer (some ⟨Bs, 0, none⟩), .pointer (some ⟨Bk, 0, none⟩)] V fun e V' => (∃ v, e = .returned v) ∧
      ((∃ ys : List (CAt N), ys.map (·.1) = List.range N ∧ J ys V') ∨ (∃ pre : List (CAt N), (∃ j, j ≤ N ∧ pre.map (·.1) = List.range j) ∧ Jx pre V')) := by
  refine callsIn_of_wp Tryz.func109 rfl trivial ?_ rfl
  simp only [Tryz.ntmps109, List.size_toArray, List.length_cons, List.length_nil, Nat.reduceAdd, Nat.reduceSub, Array.replicate_succ, Array.replicate_zero, List.push_toArray, List.append_toArray, List.nil_append, List.cons_append]
  have HTT := hid hT
  have hT4 : T ≤ 262144 := by rw [hT]; exact Nat.le_trans (Nat.mul_le_mul hN hk4) (by decide)
  clear hT
  gi_wp2
  gi_loopw [4] (fun i wr => ∃ (j : Nat) (pre : List (CAt N)), j ≤ N ∧ i = .int .i64 (j * k : Nat) ∧ Hid (pre.map (·.1) = List.range j) ∧ J pre wr ∧ wr.cell? ⟨Bs, 0, none⟩ = some (.slice (some ⟨gf, of_, none⟩) T cap) ∧ wr.cell? ⟨Bk, 0, none⟩ = some (.int .i64 (k : Nat)))
    (fun i _ => T - (intOf i).toNat)
  case atStart => exact ⟨0, [], Nat.zero_le _, by rw [Nat.zero_mul]; rfl, rfl, h0, hBs, hBk⟩
  case round =>
    obtain ⟨j, pre, hj, rfl, HP, hJs, hbs, hbk⟩ := hrel
    by_cases hlt : j < N
    · have hpl : pre.length = j := by have := congrArg List.length HP.out; rwa [List.length_map, List.length_range] at this
      have HS : Hid ((pre ++ [(⟨j, hlt⟩ : CAt N)]).map (·.1) = List.range (j + 1)) := by show _ = _; rw [List.map_append, HP.out, List.range_succ]; rfl
      have hj1 : (j + 1) * k ≤ T := by rw [HTT.out]; exact Nat.mul_le_mul_right k hlt
      have e2 : (j + 1) * k = j * k + k := by rw [Nat.add_mul, Nat.one_mul]
      have HEQ : Hid ((j + 1) * k = j * k + k) := e2
      have hlo : j * k + k ≤ T := by omega
      have HLO : Hid (j * k = j * k) := rfl
      clear e2 hj1
      have hYj := fun W hW => hY pre ⟨j, hlt⟩ W hW (by omega)
      simp only [chV] at hYj
      generalize hEm : j * k = lo at *
      have HYJ := hid hYj
      clear hYj HLO
      have HEM := hid hEm
      clear hEm
      have hc1 : ¬ cap = lo := by omega
      have hl1 : lo ≤ T := by omega
      have hmin : min (k : Int) ((T - lo : Nat) : Int) = (k : Int) := by omega
      gi_wp2
      gi_region
      have hJd := hD pre wr hJs
      have hbs' : wr.drew.cell? ⟨Bs, 0, none⟩ = some (.slice (some ⟨gf, of_, none⟩) T cap) := hbs
      have hbk' : wr.drew.cell? ⟨Bk, 0, none⟩ = some (.int .i64 (k : Nat)) := hbk
      clear hbs hbk hJs hmin
      generalize wr.drew = w2 at *
      obtain ⟨fn, tmps, assign, body, hy, hR⟩ := HYJ.out w2 hJd
      have HR := hid hR
      clear hR
      have hw1 : IntKind.i64.wrap ((lo : Int) + (k : Int)) = ((lo + k : Nat) : Int) := by rw [IntKind.wrap_i64]; omega
      have hd1 : (lo + k : Nat) - lo = k := by omega
      have hx1 : ((lo + k : Nat) : Int) ≤ (cap : Int) := by omega
      generalize hhi : lo + k = hi_ at *
      have hx2 : lo ≤ hi_ := by omega
      have HHI := hid hhi
      clear hhi
      gi_wp2
      refine HR.out.mono ?_
      rintro e W3 (⟨rfl, hJ3, hk3⟩ | ⟨rfl, hJx3⟩)
      · have hbs3 := Eq.trans hk3.1 hbs'
        have hbk3 := Eq.trans hk3.2.1 hbk'
        have HE : Hid ((j + 1) * k = hi_) := HEQ.out
        have hlt3 : lo < hi_ := by have := HHI.out; omega
        have hle3 : hi_ ≤ T := by have := HHI.out; omega
        clear hbs' hbk' hk3
        gi_wp2
        go_roundw
        case rel => exact ⟨j + 1, _, by omega, by rw [HE.out], HS, hJ3, hbs3, hbk3⟩
        case measure => simp [intOf]; omega
      · gi_wp2
        refine bodyPost_ret (results_none rfl _ _ _) rfl ?_
        exact ⟨⟨_, rfl⟩, .inr ⟨_, ⟨j + 1, by omega, HS.out⟩, hJx3⟩⟩
    · obtain rfl : j = N := by omega
      rw [← HTT.out]
      gi_wp2
      go_end0
      exact ⟨⟨_, rfl⟩, .inl ⟨_, HP.out, hJs⟩⟩
set_option maxRecDepth 100000 in
set_option maxHeartbeats 400000 in
theorem chunk_in (n : Nat) (a : Option Addr) (T cap k : Nat) (hk : 1 ≤ k) (w : World) :
    CallsIn Fence.wide n Tryz.prog 76 #[.slice a T cap, .int .i64 (k : Nat)] w fun e w' => e = .returned (.func (.func 109) #[] #[.pointer (some ⟨w.heap.size, 0, none⟩), .pointer (some ⟨w.heap.size + 1, 0, none⟩)]) ∧ w' = (w.alloc (.cells #[.slice a T cap] 29)).alloc (.cells #[.int .i64 (k : Nat)] 3) := by
  refine callsIn_of_wp Tryz.func76 rfl trivial ?_ rfl
  simp only [Tryz.ntmps76, List.size_toArray, List.length_cons, List.length_nil, Nat.reduceAdd, Nat.reduceSub, Array.replicate_succ, Array.replicate_zero, List.push_toArray, List.append_toArray, List.nil_append, List.cons_append]
  have e1 : (1 : Int) ≤ (k : Int) := by omega
  gi_wp2
  go_ret
  exact ⟨rfl, rfl⟩
theorem chunk_stops (n : Nat) (hn : 1 ≤ n) (Bs Bk B gf of_ cap k N T : Nat) (hT : T = N * k) (hk : 1 ≤ k) (hk4 : k ≤ 4) (hN : N ≤ 65536) (hcap : T ≤ cap) (w : World) (hBs : Bs < w.heap.size) (hBk : Bk < w.heap.size) (h1 : w.cell? ⟨Bs, 0, none⟩ = some (.slice (some ⟨gf, of_, none⟩) T cap)) (h2 : w.cell? ⟨Bk, 0, none⟩ = some (.int .i64 (k : Nat))) :
    SeqStopsK Fence.wide n Tryz.prog 109 #[.pointer (some ⟨Bs, 0, none⟩), .pointer (some ⟨Bk, 0, none⟩)] (chV gf of_ k N) (KeepsC Bs Bk B) (fun ys => ys.map (·.1) = List.range N) (fun pre => ∃ j, j ≤ N ∧ pre.map (·.1) = List.range j) N w := fun l J Jx V hV hJ _ hY h0 =>
  chunk1_in n hn l Bs Bk B gf of_ cap k N T hT hk hk4 hN hcap J Jx (fun pre U hU => hJ pre U U.drew none hU (grown_drew U) (fun r e => by cases e)) hY V ((hV.cell (p := ⟨Bs, 0, none⟩) hBs).trans h1) ((hV.cell (p := ⟨Bk, 0, none⟩) hBk).trans h2) h0
end Go.Proofs.YtncccbdledcibaaGreatDoor

/- Marks of finished ranges over functions: a function that held many leaves. -/
namespace Go.Proofs.YtncccbdledcibaaGreatDoor
open Go.RowKit Go.Shelf

/-- Marks of finished ranges over functions, the youngest first: their blocks lie from lo on and below B, fall, and hold no call. -/
def Shut (lo : Nat) : Nat → List Deferred → World → Prop
  | _, [], _ => True
  | B, d :: ds, W => ∃ r, lo ≤ r ∧ r < B ∧ d = { target := .collected r, args := #[] } ∧ W.heap[r]? = some (.deferred (some [])) ∧ Shut lo r ds W
theorem Shut.mono {lo : Nat} {B B' : Nat} {ds : List Deferred} {W : World} (h : Shut lo B ds W) (hb : B ≤ B') : Shut lo B' ds W := by
  cases ds with
  | nil => trivial
  | cons d ds =>
    obtain ⟨r, h1, h2, h3⟩ := h
    exact ⟨r, h1, by omega, h3⟩
theorem Shut.keep {lo : Nat} : ∀ {ds : List Deferred} {B : Nat} {W W' : World}, Shut lo B ds W → (∀ r, r < B → W'.heap[r]? = W.heap[r]?) → Shut lo B ds W'
  | [], _, _, _, _, _ => trivial
  | d :: ds, B, W, W', h, hk => by
    obtain ⟨r, h1, h2, h3, h4, h5⟩ := h
    exact ⟨r, h1, h2, h3, (hk r h2).trans h4, h5.keep fun k hlt => hk k (by omega)⟩
theorem Shut.below {lo B : Nat} {ds : List Deferred} {W W' : World} (h : Shut lo B ds W) (hb : Below B W W') : Shut lo B ds W' := h.keep fun r hr => hb.block r hr
theorem leaves_shut {F : Fence} {n : Nat} {P : Program} {fn : Func} {tmps : Array Value} {R : Ending → World → Prop} {lo : Nat} {K : World → Prop}
    (hK : ∀ W r, K W → lo ≤ r → W.heap[r]? = some (.deferred (some [])) → K (W.putObj r (.deferred none))) (hend : ∀ W, K W → LeavesInM F n P fn tmps R [] .returning W) :
    ∀ (ds : List Deferred) (B : Nat) (W : World), Shut lo B ds W → K W → LeavesInM F n P fn tmps R ds .returning W
  | [], _, W, _, hW => hend W hW
  | d :: ds, B, W, h, hW => by
    obtain ⟨r, h1, h2, rfl, h4, h5⟩ := h
    refine ⟨by simp, .inl ⟨r, _, rfl, run_takeDeferred h4, leaves_shut hK hend ds r _ ?_ (hK W r hW h1 h4)⟩⟩
    exact h5.keep fun k hk => World.putObj_heap_other (by omega)
end Go.Proofs.YtncccbdledcibaaGreatDoor

/- Nets: checkRows of package net. -/
namespace Go.Proofs.YtncccbdledcibaaGreatDoor
open Go.RowKit Go.Shelf

attribute [local go_sem] Oper.semAt_some

theorem results_cell_err {w : World} {g : Nat} {k : Int} (h : Boxed w g 32 (.int .i64 k)) {fn : Func} {p : Tmp} (hr : fn.results = #[.cell p 32]) (tmps : Array Value) (hp : tmps.getD p undef = .pointer (some ⟨g, 0, none⟩)) : (results fn tmps).run Tryz.prog w = .ok (.int .i64 k) w := by
  have hp' : tmps[p]?.getD undef = .pointer (some ⟨g, 0, none⟩) := by simpa using hp
  have hc := h.cell
  simp only [results, hr]
  simp [hp', asAddr]
  go_simp
theorem below_others {V V' : World} (h : Below V.heap.size V V') : KeepsOthers V V' := ⟨h.size, fun k _ hk _ => (h.block k (Array.getElem?_eq_some_iff.1 hk).1).trans hk⟩
/-- What is so of the blocks below n0 stays so. -/
theorem ownFrom_held {β : Type} {n0 B : Nat} {Q : β → World → Prop} (hB : n0 ≤ B) : OwnFrom B (fun (s : β) W => ∃ V, Q s V ∧ n0 ≤ V.heap.size ∧ Below n0 V W) := fun s W W' row hs hg hr => by
  obtain ⟨V, h1, h2, h3⟩ := hs
  exact ⟨V, h1, h2, h3.grown hg (Nat.le_trans h2 h3.size) (fun k e => Nat.le_trans hB (hr k e).1)⟩
/-- What a call of checkRows leaves with. -/
def CrL (w : World) (k : Int) (W : World) : Prop := Boxed W (w.heap.size + 1) 32 (.int .i64 k) ∧ Below w.heap.size w W
theorem CrL.shut {w : World} {k : Int} {lo : Nat} (hlo : w.heap.size + 1 < lo) (W : World) (r : Nat) (h : CrL w k W) (hr : lo ≤ r) (hd : W.heap[r]? = some (.deferred (some []))) : CrL w k (W.putObj r (.deferred none)) :=
  ⟨(World.putObj_heap_other (by omega)).trans h.1, h.2.trans (belowK_b (w := w) (Nat.le_refl _) W r _ _ (by omega) hd rfl rfl)⟩
theorem CrL.put {w W : World} {k : Int} (h : CrL w k W) (j : Int) : CrL w j (W.setCell ⟨w.heap.size + 1, 0, none⟩ (.int .i64 j)) := ⟨h.1.set _, h.2.setCell (p := ⟨w.heap.size + 1, 0, none⟩) (by simp) _⟩
theorem Shut.put {lo B : Nat} {ds : List Deferred} {W : World} (h : Shut lo B ds W) {g : Nat} (hg : g < lo) (v : Value) : Shut lo B ds (W.setCell ⟨g, 0, none⟩ v) := by
  induction ds generalizing B with
  | nil => trivial
  | cons d ds ih =>
    obtain ⟨r, h1, h2, h3, h4, h5⟩ := h
    exact ⟨r, h1, h2, h3, (Below.heap_setCell W ⟨g, 0, none⟩ v r (by show r ≠ g; omega)).trans h4, ih h5⟩

set_option maxRecDepth 100000 in
set_option maxHeartbeats 4000000 in
theorem checkRows_any (a b c : Option Addr) (ca cb cc : Nat) (V : List Vr) (L : List (List Int)) (R : List (List Fr)) (w : World) (h : NetI w a b c V L R) (hs : NSm V L R) (hLV : L.length = V.length) (hRV : R.length = V.length) (hg : gcE L = 0) (hv : varsE V = 0) :
    Calls Tryz.prog 42 #[.agg #[.slice a V.length ca, .slice b L.length cb, .slice c R.length cc]] w fun e w' => e = .returned (.int .i64 (firstE (rowE (sizesN V) L R) V.length)) ∧ Below w.heap.size w w' := by
  refine (callsIn_wide (n := 6)).1 ?_
  obtain ⟨hfi, hn8, hup⟩ := fine_sizes hLV hg hv
  have HI := hid h
  have hV5 := hs.vars.1
  have HRS := hid hs.rows.2
  have HFI := hid hfi
  have HUP := hid hup
  have HSZ := hid (fun (U : World) (hU : VsS U a V) => nSizes_any a b c ca cb cc L.length R.length V U hU hV5)
  have HA : Hid (∀ i, i < V.length → (∀ j, j < i → rowE (sizesN V) L R j = 0) → ∀ k, rowE (sizesN V) L R i = k → k ≠ 0 → firstE (rowE (sizesN V) L R) V.length = k) := fun i hi hz k hk hk0 => by rw [firstE_at hz (by rw [hk]; exact hk0) hi, hk]
  have HZ : Hid ((∀ j, j < V.length → rowE (sizesN V) L R j = 0) → firstE (rowE (sizesN V) L R) V.length = 0) := fun h => firstE_none h
  have HLV := hid hLV
  have HRV := hid hRV
  generalize firstE (rowE (sizesN V) L R) V.length = fe at *
  clear h hs hfi hup hLV hRV hg hv
  have hK0 : NK w ((w.alloc (NC (.slice a V.length ca) (.slice b L.length cb) (.slice c R.length cc))).alloc (.cells #[.int .i64 0] 32)) (.slice a V.length ca) (.slice b L.length cb) (.slice c R.length cc) := (NK.new w (.slice a V.length ca) (.slice b L.length cb) (.slice c R.length cc)).step ((Below.refl _ _).alloc (Nat.le_refl _) _)
  have hE0 : Boxed ((w.alloc (NC (.slice a V.length ca) (.slice b L.length cb) (.slice c R.length cc))).alloc (.cells #[.int .i64 0] 32)) (w.heap.size + 1) 32 (.int .i64 0) := by
    have h := Boxed.new (w.alloc (NC (.slice a V.length ca) (.slice b L.length cb) (.slice c R.length cc))) 32 (.int .i64 0)
    rwa [World.size_alloc] at h
  have HK0 := hid hK0
  have HE0 := hid hE0
  obtain ⟨c0, c1, c2⟩ := hK0.1.cells
  clear hK0 hE0
  refine callsIn_of_wp_marks Tryz.func42 rfl trivial ?_ rfl
  simp only [Tryz.ntmps42, List.size_toArray, List.length_cons, List.length_nil, Nat.reduceAdd, Nat.reduceSub, Array.replicate_succ, Array.replicate_zero, List.push_toArray, List.append_toArray, List.nil_append, List.cons_append]
  gi_wp2_with (refine ⟨trivial, ?_⟩; gi_at_call 13; refine (callsIn_wide.2 (HSZ.out _ (HI.out.below HK0.out.2).vars)).mono ?_; rintro e W2 ⟨G, rfl, hGe, hrow, hb⟩; have hK2 := HK0.out.step hb; have hE2 := (hb.block (w.heap.size + 1) (Array.getElem?_eq_some_iff.1 HE0.out).1).trans HE0.out; clear c0 c1 c2; obtain ⟨c0, c1, c2⟩ := hK2.1.cells)
  clear hb
  have HK2 := hid hK2
  have HE2 : Hid (Boxed W2 (w.heap.size + 1) 32 (.int .i64 0)) := hE2
  have HROW := hid hrow
  have hE1 : w.heap.size + 1 < W2.heap.size := (Array.getElem?_eq_some_iff.1 hE2).1
  clear hK2 hE2 hrow c0 c1 c2 HK0 HE0 HSZ hGe
  refine wpIn_loop (fun a' w' => ∃ (v : Nat) (ds : List Deferred) (u4 u5 u6 u7 u15 u16 u17 u18 u19 u20 u21 u22 u23 u24 u25 u26 u27 u28 u29 u30 u31 u32 u33 u34 u35 u36 u37 u38 u39 u40 u41 u42 u43 u48 : Value), a' = { tmps := #[.agg #[.slice a V.length ca, .slice b L.length cb, .slice c R.length cc], .pointer (some ⟨w.heap.size, 0, none⟩), .pointer (some ⟨w.heap.size + 1, 0, none⟩), .slice (some ⟨G, 0, none⟩) V.length V.length, u4, u5, u6, u7, undef, .agg #[.slice a V.length ca, .slice b L.length cb, .slice c R.length cc], .slice (some ⟨G, 0, none⟩) V.length V.length, .pointer (some ⟨w.heap.size, 2, none⟩), .slice c R.length cc, .int .i64 (R.length : Nat), .int .i64 (v : Nat), u15, u16, u17, u18, u19, u20, u21, u22, u23, u24, u25, u26, u27, u28, u29, u30, u31, u32, u33, u34, u35, u36, u37, u38, u39, u40, u41, u42, u43, undef, undef, undef, undef, u48], defers := ds } ∧ v ≤ R.length ∧ Hid (∀ j, j < v → rowE (sizesN V) L R j = 0) ∧ Hid (Below W2.heap.size W2 w') ∧ Hid (Shut W2.heap.size w'.heap.size ds w')) (fun a' _ => R.length - (intOf (a'.tmps.getD 14 undef)).toNat) ?_ ?_
  · exact ⟨0, [], _, _, _, _, _, _, _, _, _, _, _, _, _, _, _, _, _, _, _, _, _, _, _, _, _, _, _, _, _, _, _, _, _, _, rfl, Nat.zero_le _, (fun j hj => absurd hj (by omega)), Below.refl _ _, trivial⟩
  intro a' wr hinv
  obtain ⟨v, ds, u4, u5, u6, u7, u15, u16, u17, u18, u19, u20, u21, u22, u23, u24, u25, u26, u27, u28, u29, u30, u31, u32, u33, u34, u35, u36, u37, u38, u39, u40, u41, u42, u43, u48, rfl, hv, HZ0, HB, HSH⟩ := hinv
  have hlo : W2.heap.size ≤ wr.heap.size := HB.out.size
  by_cases hlt : v < R.length
  · have hKr := HK2.out.step HB.out
    have hrR := HROW.out.below HB.out HROW.out.lt
    have hvL : v < L.length := by rw [HLV.out, ← HRV.out]; exact hlt
    have hvV : v < V.length := by rw [← HRV.out]; exact hlt
    obtain ⟨gr, or_, bf, cf, rfl, hgr, r1, hrf, hrc⟩ := HI.out.rows v hlt
    obtain ⟨gp, op_, bp, cp, rfl, hgp, p1, hpi⟩ := HI.out.pars v hvL
    obtain ⟨c0, c1, c2⟩ := hKr.1.cells
    have r2 := (hKr.2.cell (p := ⟨gr, or_ + v, none⟩) hgr).trans r1
    have p2 := (hKr.2.cell (p := ⟨gp, op_ + v, none⟩) hgp).trans p1
    have hsl : (sizesN V).length = V.length := sizesN_length V
    have hup : Up L[v] V.length := by rw [← HLV.out]; exact HUP.out v hvL
    have hs4 : ∀ u, sz (sizesN V) u ≤ 4 := fun u => by have := HFI.out.sz_le u; rwa [toN_iL] at this
    have hps : Pos (sizesN V) := by have := HFI.out.pos; rwa [toN_iL] at this
    have hN : cnt (sizesN V) (toN L[v]) ≤ 65536 := cnt_small hs4 (by rw [toN_length]; have := hup.length; have := HLV.out; omega)
    have hN1 : 1 ≤ cnt (sizesN V) (toN L[v]) := cnt_pos hps _
    have hk4 := hs4 v
    have hk1 := sz_pos hps v
    have hsv := hrR.cell v (by rw [hsl]; exact hvV)
    have hse : (sizesN V)[v]'(by rw [hsl]; exact hvV) = sz (sizesN V) v := by rw [sz, List.getElem?_eq_getElem (by rw [hsl]; exact hvV)]; rfl
    rw [hse] at hsv
    have hpl := hup.length
    have HCT : Hid (CallsIn Fence.wide 5 Tryz.prog 64 #[.slice (some ⟨G, 0, none⟩) V.length V.length, .slice bp L[v].length cp] wr fun e w' => e = .returned (.tuple #[.int .i64 (cnt (sizesN V) (toN L[v]) : Nat), .int .i64 0]) ∧ Below wr.heap.size wr w') := by
      have hcb : countB (iL (sizesN V)) L[v] = true := countB_of HFI.out (by rw [iL_length, hsl]; exact hup)
      have hc := tCount_any (some ⟨G, 0, none⟩) bp V.length cp (iL (sizesN V)) L[v] wr hrR.ints (hpi.below hKr.2) (by rw [iL_length, hsl]; have := HLV.out; omega) (by have := HLV.out; omega)
      rw [countA_yes hcb, toN_iL, iL_length, hsl] at hc
      exact callsIn_wide.2 hc
    have HRE : Hid (rowE (sizesN V) L R v = if R[v].length = cnt (sizesN V) (toN L[v]) * sz (sizesN V) v then (if ((List.range (cnt (sizesN V) (toN L[v]))).all fun i => rowB (chunkF R[v] (sz (sizesN V) v) i)) = true then 0 else 9) else 8) := by
      show _ = _
      rw [rowE, List.getD_eq_getElem?_getD, List.getElem?_eq_getElem hlt, List.getD_eq_getElem?_getD, List.getElem?_eq_getElem hvL]
      rfl
    have HRF := hid (hrf.below hKr.2)
    have hrs := HRS.out R[v] (List.getElem_mem hlt)
    have HAV := hid (HA.out v hvV HZ0.out)
    generalize L[v] = pl at *
    generalize R[v] = rv at *
    have hlp : pl.length ≤ 8 := by have := HLV.out; omega
    clear hrf r1 p1 hpi hup hs4 hps hse hsl
    generalize hkk : sz (sizesN V) v = k at *
    generalize cnt (sizesN V) (toN pl) = N at *
    clear hkk
    have hNk : N * k ≤ 262144 := Nat.le_trans (Nat.mul_le_mul hN hk4) (by decide)
    have hcm : (N : Int) * (k : Int) = ((N * k : Nat) : Int) := (Int.natCast_mul _ _).symm
    have hw1 : IntKind.i64.wrap ((N : Int) * (k : Int)) = ((N * k : Nat) : Int) := by rw [hcm, IntKind.wrap_i64]; omega
    have HCM := hid hcm
    clear hcm
    by_cases hT : rv.length = N * k
    · rw [if_pos hT] at HRE
      rw [← hT] at hw1
      have hkT : k ≤ N * k := Nat.le_mul_of_pos_left k hN1
      have hpos : 0 < rv.length := by omega
      obtain ⟨gf, of_, rfl, hgf, -⟩ := HRF.out 0 hpos
      have HTT := hid hT
      clear hT hNk hkT
      have hT5 : rv.length ≤ 5000 := hrs.1
      have hne : ((rv.length : Int) != (rv.length : Int)) = false := by simp
      gi_wp2_with (first
        | (refine ⟨trivial, ?_⟩; gi_at_call 64; refine HCT.out.mono ?_; rintro e W4 ⟨rfl, hb⟩; have hK4 := hKr.step hb; have hr4 := hrR.below hb hrR.lt; have hsv4 := (hb.cell (p := ⟨G, v, none⟩) hrR.lt).trans hsv; clear c0 c1 c2 r2 p2 hsv)
        | (refine ⟨trivial, ?_⟩; gi_at_call 76; refine (chunk_in _ _ _ _ k hk1 _).mono ?_; rintro e W5 ⟨rfl, rfl⟩))
      have hsz5 : ((W4.alloc (.cells #[.slice (some ⟨gf, of_, none⟩) rv.length cf] 29)).alloc (.cells #[.int .i64 (k : Nat)] 3)).heap.size = W4.heap.size + 1 + 1 := by simp
      have hc1 : ((W4.alloc (.cells #[.slice (some ⟨gf, of_, none⟩) rv.length cf] 29)).alloc (.cells #[.int .i64 (k : Nat)] 3)).cell? ⟨W4.heap.size, 0, none⟩ = some (.slice (some ⟨gf, of_, none⟩) rv.length cf) := ((Boxed.new W4 29 (.slice (some ⟨gf, of_, none⟩) rv.length cf)).alloc _).cell
      have hc2 : ((W4.alloc (.cells #[.slice (some ⟨gf, of_, none⟩) rv.length cf] 29)).alloc (.cells #[.int .i64 (k : Nat)] 3)).cell? ⟨W4.heap.size + 1, 0, none⟩ = some (.int .i64 (k : Nat)) := by
        have h := (Boxed.new (W4.alloc (.cells #[.slice (some ⟨gf, of_, none⟩) rv.length cf] 29)) 3 (.int .i64 (k : Nat))).cell
        rwa [World.size_alloc] at h
      have hb45 : Below W4.heap.size W4 ((W4.alloc (.cells #[.slice (some ⟨gf, of_, none⟩) rv.length cf] 29)).alloc (.cells #[.int .i64 (k : Nat)] 3)) := ((Below.refl _ W4).alloc (Nat.le_refl _) _).alloc (by simp) _
      generalize ((W4.alloc (.cells #[.slice (some ⟨gf, of_, none⟩) rv.length cf] 29)).alloc (.cells #[.int .i64 (k : Nat)] 3)) = W5 at *
      have hs4 := hb.size
      have hK5 := hK4.step hb45
      have hr5 : Below wr.heap.size wr W5 := hb.trans (hb45.mono hs4)
      have HF5 := hid (HRF.out.below hr5)
      have HSH5 := hid ((HSH.out.below hr5).mono (show wr.heap.size ≤ W5.heap.size by omega))
      have HCL : Hid (CrL w 0 W5) := ⟨(hr5.block (w.heap.size + 1) (by omega)).trans ((HB.out.block (w.heap.size + 1) hE1).trans HE2.out), hK5.2⟩
      have HK5 := hid hK5
      have HB5 := hid (HB.out.trans (hr5.mono hlo))
      clear hb hK4 hr4 hsv4 hb45 hKr hrR hK5 HCT HROW HB HSH HRF hr5
      refine wpIn_rangeFunc_ownG (α := CAt N) rfl (by omega) (gf := 109) (lb := #[.pointer (some ⟨W4.heap.size, 0, none⟩), .pointer (some ⟨W4.heap.size + 1, 0, none⟩)]) rfl trivial (enters_of Tryz.func109 (by kernel_rfl) rfl)
        (chunk_stops 5 (by omega) W4.heap.size (W4.heap.size + 1) W5.heap.size gf of_ cf k N rv.length HTT.out hk1 hk4 hN hrc W5 (by omega) (by omega) hc1 hc2) KeepsC.t (KeepsC.b (by omega) (by omega) (Nat.le_refl _)) (Below.refl _ _) (fun _ => rfl)
        (fun (pre : List (CAt N)) X => Below W5.heap.size W5 X ∧ ∀ x ∈ pre, rowB (chunkF rv k x.1) = true)
        (fun cd (pre : List (CAt N)) X => ∃ Y, (cd = Code.ret ∧ (∃ x ∈ pre, rowB (chunkF rv k x.1) = false) ∧ CrL w 9 Y ∧ Shut W2.heap.size W5.heap.size ds Y) ∧ W5.heap.size ≤ Y.heap.size ∧ Below W5.heap.size Y X)
        (OwnFrom.and (ownFrom_below (Nat.le_refl _) (Nat.le_refl _)) (fun _ _ _ _ hs _ _ => hs))
        (fun cd => ownFrom_held (Q := fun (pre : List (CAt N)) Y => cd = Code.ret ∧ (∃ x ∈ pre, rowB (chunkF rv k x.1) = false) ∧ CrL w 9 Y ∧ Shut W2.heap.size W5.heap.size ds Y) (Nat.le_refl _))
        ⟨Below.refl _ _, fun x hx => absurd hx (by simp)⟩
        (fun x => { tmps := #[.agg #[.slice a V.length ca, .slice (some ⟨gp, op_, none⟩) L.length cb, .slice (some ⟨gr, or_, none⟩) R.length cc], .pointer (some ⟨w.heap.size, 0, none⟩), .pointer (some ⟨w.heap.size + 1, 0, none⟩), .slice (some ⟨G, 0, none⟩) V.length V.length, .int .i64 (v : Nat), .slice (some ⟨gf, of_, none⟩) rv.length cf, .int .i64 (N : Nat), .int .i64 0, .slice (some ⟨gf, of_ + x.1 * k * 3, none⟩) k k, .agg #[.slice a V.length ca, .slice (some ⟨gp, op_, none⟩) L.length cb, .slice (some ⟨gr, or_, none⟩) R.length cc], .slice (some ⟨G, 0, none⟩) V.length V.length, .pointer (some ⟨w.heap.size, 2, none⟩), .slice (some ⟨gr, or_, none⟩) R.length cc, .int .i64 (R.length : Nat), .int .i64 (v : Nat), .bool true, .int .i64 (v : Nat), .pointer (some ⟨gr, or_ + v, none⟩), .slice (some ⟨gf, of_, none⟩) rv.length cf, .tuple #[.int .i64 (N : Nat), .int .i64 0], .slice (some ⟨G, 0, none⟩) V.length V.length, .pointer (some ⟨w.heap.size, 1, none⟩), .slice (some ⟨gp, op_, none⟩) L.length cb, .int .i64 (v : Nat), .pointer (some ⟨gp, op_ + v, none⟩), .slice bp pl.length cp, .tuple #[.int .i64 (N : Nat), .int .i64 0], .int .i64 (N : Nat), .int .i64 0, .slice (some ⟨gf, of_, none⟩) rv.length cf, .int .i64 (rv.length : Nat), .int .i64 (N : Nat), .slice (some ⟨G, 0, none⟩) V.length V.length, .int .i64 (v : Nat), .pointer (some ⟨G, v, none⟩), .int .i64 (k : Nat), .int .i64 (rv.length : Nat), .bool false, .slice (some ⟨gf, of_, none⟩) rv.length cf, .slice (some ⟨G, 0, none⟩) V.length V.length, .int .i64 (v : Nat), .pointer (some ⟨G, v, none⟩), .int .i64 (k : Nat), .func (.func 109) #[] #[.pointer (some ⟨W4.heap.size, 0, none⟩), .pointer (some ⟨W4.heap.size + 1, 0, none⟩)], .slice (some ⟨gf, of_ + x.1 * k * 3, none⟩) k k, undef, undef, undef, u48], defers := [] }) ?assign ?body ?done ?stop
      case assign =>
        intro l x X K hK
        gi_wp2
        exact hK
      case body =>
        rintro l pre ⟨i, hi⟩ X ⟨hBX, hall⟩ hpre
        have hmul : (i + 1) * k ≤ rv.length := by rw [HTT.out]; exact Nat.mul_le_mul_right k hi
        obtain ⟨hfc, hlc⟩ := FrS.chunk (m := k) (HF5.out.below hBX) hmul rfl
        have hir := isRow_any (some ⟨gf, of_ + i * k * 3, none⟩) k (chunkF rv k i) X hfc (Nat.le_trans (fw_chunk rv k i) hrs.2) (by omega)
        rw [hlc] at hir
        have hXs := hBX.size
        have HIR := hid hir
        have HBX := hid hBX
        have HALL := hid hall
        clear hir hfc hlc hmul hBX hall hc1 hc2 hpre
        cases hrb : rowB (chunkF rv k i)
        case true =>
          rw [hrb] at HIR
          have HRB := hid hrb
          clear hrb
          gi_wp2_with (refine ⟨trivial, ?_⟩; gi_at_call 77; refine (CallsIn.inRound l (callsIn_wide.2 HIR.out)).mono ?_; rintro e X2 ⟨rfl, hbX⟩)
          refine ⟨(below_others hbX).from _, ⟨hbX.cell (p := ⟨W4.heap.size, 0, none⟩) (by show W4.heap.size < X.heap.size; omega), hbX.cell (p := ⟨W4.heap.size + 1, 0, none⟩) (by show W4.heap.size + 1 < X.heap.size; omega), hbX.mono hXs⟩, HBX.out.trans (hbX.mono hXs), fun x hx => ?_⟩
          rcases List.mem_append.1 hx with hx | hx
          · exact HALL.out x hx
          · rw [List.mem_singleton.1 hx]
            exact HRB.out
        case false =>
          rw [hrb] at HIR
          have HRB := hid hrb
          clear hrb
          gi_wp2_with (refine ⟨trivial, ?_⟩; gi_at_call 77; refine (CallsIn.inRound l (callsIn_wide.2 HIR.out)).mono ?_; rintro e X2 ⟨rfl, hbX⟩; have hB2 := HBX.out.trans (hbX.mono hXs); have hbx := (hB2.block (w.heap.size + 1) (by omega)).trans HCL.out.1; have hcx := Boxed.cell hbx; have hfx := Boxed.frozen hbx)
          have hL9 : CrL w 9 (X2.setCell ⟨w.heap.size + 1, 0, none⟩ (.int .i64 9)) := CrL.put (k := 0) ⟨hbx, HCL.out.2.trans (hB2.mono (by omega))⟩ 9
          refine ⟨((below_others hbX).trans (KeepsOthers.setCell X2 _ _)).from _, _, ⟨rfl, ⟨⟨i, hi⟩, by simp, HRB.out⟩, hL9, (HSH5.out.below hB2).put (by omega) _⟩, ?_, Below.refl _ _⟩
          have hX2s := hbX.size
          simp
          omega
      case done =>
        rintro D ys X hD hys ⟨hBX, hall⟩ hK
        have HRZ : Hid (rowE (sizesN V) L R v = 0) := by
          show _ = _
          rw [HRE.out, if_pos]
          rw [List.all_eq_true]
          intro i hi
          rw [← hys] at hi
          obtain ⟨x, hx, rfl⟩ := List.mem_map.1 hi
          exact hall x hx
        have hDX : D < X.heap.size := (Array.getElem?_eq_some_iff.1 hK).1
        have hB2 := HB5.out.trans (hBX.mono (by omega))
        have hSX : Shut W2.heap.size X.heap.size ({ target := .collected D, args := #[] } :: ds) X := ⟨D, by omega, hDX, rfl, hK, (HSH5.out.below hBX).mono hD⟩
        have HBX := hid hB2
        have HSX := hid hSX
        clear hK hall hys hB2 hSX hc1 hc2 hBX
        gi_wp2
        refine ⟨⟨v + 1, _, _, _, _, _, _, _, _, _, _, _, _, _, _, _, _, _, _, _, _, _, _, _, _, _, _, _, _, _, _, _, _, _, _, _, rfl, by omega, (fun j hj => ?_), HBX, HSX⟩, ?_⟩
        · rcases Nat.lt_or_ge j v with h | h
          · exact HZ0.out j h
          · rw [show j = v by omega]
            exact HRZ.out
        · simp [intOf]
          omega
      case stop =>
        rintro D cd pre X hD hSp ⟨Y, ⟨rfl, ⟨x, hx, hxb⟩, hcr, hsh⟩, hYs, hBX⟩ hK
        have hfe : fe = 9 := HAV.out 9 (by
          rw [HRE.out, if_neg]
          intro h
          rw [List.all_eq_true] at h
          have := h x.1 (List.mem_range.2 x.2)
          rw [hxb] at this
          cases this) (by decide)
        have hDX : D < X.heap.size := (Array.getElem?_eq_some_iff.1 hK).1
        have hCX : CrL w 9 X := ⟨(hBX.block (w.heap.size + 1) (by omega)).trans hcr.1, hcr.2.trans (hBX.mono (by omega))⟩
        gi_wp2
        refine leaves_shut (lo := W2.heap.size) (K := CrL w 9) (CrL.shut (by omega)) (fun Z hZ => ⟨_, results_cell_err hZ.1 rfl _ rfl, ?_, hZ.2⟩) _ X.heap.size X ⟨D, by omega, hDX, rfl, hK, (hsh.below hBX).mono hD⟩ hCX
        rw [hfe]
    · rw [if_neg hT] at HRE
      have hfe : fe = 8 := HAV.out 8 HRE.out (by decide)
      have hne : ((rv.length : Int) != ((N * k : Nat) : Int)) = true := by
        have : ¬ (rv.length : Int) = ((N * k : Nat) : Int) := by omega
        simpa using this
      clear hT
      have HB' := HB.out
      gi_wp2_with (refine ⟨trivial, ?_⟩; gi_at_call 64; refine HCT.out.mono ?_; rintro e W4 ⟨rfl, hb⟩; have hK4 := hKr.step hb; have hsv4 := (hb.cell (p := ⟨G, v, none⟩) hrR.lt).trans hsv; have hbx : Boxed W4 (w.heap.size + 1) 32 (.int .i64 0) := (hb.block (w.heap.size + 1) (by omega)).trans ((HB.out.block (w.heap.size + 1) hE1).trans HE2.out); have hcx := Boxed.cell hbx; have hfx := Boxed.frozen hbx; clear c0 c1 c2 r2 p2 hsv)
      refine leaves_shut (lo := W2.heap.size) (K := CrL w 8) (CrL.shut (by omega)) (fun Z hZ => ⟨_, results_cell_err hZ.1 rfl _ rfl, ?_, hZ.2⟩) _ wr.heap.size _ ((HSH.out.below hb).put (by omega) _) (CrL.put (k := 0) ⟨hbx, hK4.2⟩ 8)
      rw [hfe]
  · obtain rfl : v = R.length := by omega
    have hfe : fe = 0 := HZ.out (fun j hj => HZ0.out j (by rw [HRV.out]; exact hj))
    have hbx : Boxed wr (w.heap.size + 1) 32 (.int .i64 0) := (HB.out.block (w.heap.size + 1) hE1).trans HE2.out
    have hcx := Boxed.cell hbx
    have hfx := Boxed.frozen hbx
    have hKr := HK2.out.step HB.out
    gi_wp2
    refine leaves_shut (lo := W2.heap.size) (K := CrL w 0) (CrL.shut (by omega)) (fun Z hZ => ⟨_, results_cell_err hZ.1 rfl _ rfl, ?_, hZ.2⟩) _ wr.heap.size _ (HSH.out.put (by omega) _) (CrL.put (k := 0) ⟨hbx, hKr.2⟩ 0)
    rw [hfe]
end Go.Proofs.YtncccbdledcibaaGreatDoor

