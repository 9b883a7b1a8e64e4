/- Package graph: nearest. -/
import Derived.Test.YtockhhleapbpiaaTreFOwn
namespace Go.Proofs.Ytockhhleapbpiaa
open Go.RowKit Go.Shelf

attribute [local go_sem] Oper.semAt_some

theorem op_wide {n : Nat} {P : Program} {ops : Array Oper} {Q : Exit → Act → World → Prop} (hnd : plainOps ops = true) (hlo : ¬ LetsOut Q) {i : Nat} {K K' : Act → World → Prop} {a : Act} {w : World} (hK : ∀ a w, K a w → K' a w)
    (h : wpOp P ops Q i K a w) : wpOpIn Fence.wide n P ops Q i K' a w := by
  unfold wpOp at h
  unfold wpOpIn
  cases ho : ops[i]? with
  | none => rw [ho] at h; exact hK _ _ h
  | some o =>
    rw [ho] at h
    simp only at h ⊢
    by_cases hw : Region.wanted o (yielded ops a.tmps) = true
    · rw [if_pos hw] at h ⊢
      rcases h with h | h
      · refine ⟨fun _ _ => trivial, ?_⟩
        rw [Oper.semAt_eq _ _ _ (plainOps_at hnd ho)]
        unfold Oper.wp at h
        generalize (execOp a.eval o).run P w = r at *
        cases r with
        | ok nx w' =>
          cases nx with
          | value v => exact hK _ _ h
          | skip => exact hK _ _ h
          | defer d => exact hK _ _ h
          | enter f args =>
            refine ⟨fun hd => absurd hd (show ¬ Fence.wide.depth.isSome = true by decide), (callsIn_wide (n := n - 1)).2 (Calls.mono h ?_)⟩
            intro e w'' he
            cases e with
            | returned v => exact hK _ _ he
            | panicked c => exact he
            | outgrown => exact he
          | row r args => exact ⟨fun hd => absurd hd (show ¬ Fence.wide.depth.isSome = true by decide), fun c cs _ => let ⟨v, w2, r, s⟩ := h c cs; ⟨v, w2, hK _ _ r, stepsIn_wide.2 s⟩⟩
          | _ => exact h.elim
        | halt hl w' =>
          cases hl with
          | panic v => exact h
          | _ => exact h.elim
      · exact absurd h.2 hlo
    · rw [if_neg hw] at h ⊢
      exact ⟨fun _ _ => trivial, hK _ _ h⟩
theorem any_wide {n : Nat} {P : Program} {md : Region.Mode} {ops : Array Oper} {Q : Exit → Act → World → Prop} (hnd : plainOps ops = true) (hlo : ¬ LetsOut Q) : ∀ (fuel : Nat) (listed : Array Bool) (a : Act) (w : World), wpAny P md ops Q fuel listed a w → wpAnyIn Fence.wide n P md ops Q fuel listed a w
  | 0, _, _, _, h => h
  | fuel + 1, _, _, _, h => ⟨h.1, fun i hi => op_wide hnd hlo (fun a w => any_wide hnd hlo fuel _ a w) (h.2 i hi)⟩
theorem region_wide {n id : Nat} {P : Program} {ops : Array Oper} {Q : Exit → Act → World → Prop} {a : Act} {w : World} (S : World → Prop) (hm : P.follows .mixedOrders = true) (hnd : plainOps ops = true) (hlo : ¬ LetsOut Q) (hS : S w.drew)
    (h : S w.drew → wpAnyH P .any ops Q S ops.size (Array.replicate ops.size false) a w.drew) : (Code.region id ops true).wpIn Fence.wide n P Q a w :=
  wpIn_region_any hm (any_wide hnd hlo _ _ _ _ (wpAny_of_held _ _ _ _ (h hS)))
/-- A post that lets nothing but the plain end. -/
def onlyN (Q : Exit → Act → World → Prop) : Exit → Act → World → Prop
  | .normal, a, w => Q .normal a w
  | _, _, _ => False
theorem onlyN_mk {Q : Exit → Act → World → Prop} {a : Act} {w : World} (h : Q .normal a w) : onlyN Q .normal a w := h
theorem region_wideN {n id : Nat} {P : Program} {ops : Array Oper} {Q : Exit → Act → World → Prop} {a : Act} {w : World} (S : World → Prop) (hm : P.follows .mixedOrders = true) (hnd : plainOps ops = true) (hS : S w.drew)
    (h : S w.drew → wpAnyH P .any ops (onlyN Q) S ops.size (Array.replicate ops.size false) a w.drew) : (Code.region id ops true).wpIn Fence.wide n P Q a w := by
  refine wpIn_mono (region_wide S hm hnd (fun ⟨_, _, h⟩ => h) hS h) ?_
  rintro e a3 W3 hp
  cases e <;> first | exact hp | exact hp.elim
/-- The two that were found, and what they have in common. -/
structure NSt where
  a : Nat
  b : Nat
  m : Int
/-- How much two cliques have in common. -/
def comN (C : List (List Nat)) (i j : Nat) : Nat := (memU ((C.getD i []).filter fun x => decide (x ∈ C.getD j [])) 8).length
theorem comN_le (C : List (List Nat)) (i j : Nat) : comN C i j ≤ 8 := memU_len _ _
/-- One clique held against all. -/
def nrJ (C : List (List Nat)) (s : List Nat) (i : Nat) (st : NSt) : Nat → NSt
  | 0 => st
  | j + 1 => if ¬ j ∈ s ∧ (nrJ C s i st j).m < (comN C i j : Int) then ⟨i, j, (comN C i j : Int)⟩ else nrJ C s i st j
/-- All that stand there. -/
def nrI (C : List (List Nat)) (s : List Nat) : Nat → NSt
  | 0 => ⟨0, 0, -1⟩
  | k + 1 => if k ∈ s then nrJ C s k (nrI C s k) C.length else nrI C s k
theorem nrJ_yes {C : List (List Nat)} {s : List Nat} {i j : Nat} {st : NSt} (h1 : ¬ j ∈ s) (h2 : (nrJ C s i st j).m < (comN C i j : Int)) : nrJ C s i st (j + 1) = ⟨i, j, (comN C i j : Int)⟩ := by rw [nrJ, if_pos ⟨h1, h2⟩]
theorem nrJ_in {C : List (List Nat)} {s : List Nat} {i j : Nat} {st : NSt} (h1 : j ∈ s) : nrJ C s i st (j + 1) = nrJ C s i st j := by rw [nrJ, if_neg (fun h => h.1 h1)]
theorem nrJ_no {C : List (List Nat)} {s : List Nat} {i j : Nat} {st : NSt} (h2 : ¬ (nrJ C s i st j).m < (comN C i j : Int)) : nrJ C s i st (j + 1) = nrJ C s i st j := by rw [nrJ, if_neg (fun h => h2 h.2)]
/-- What nearest holds. -/
structure NrX (w : World) (G n c ms : Nat) (st : NSt) (W : World) : Prop where
  b0 : Boxed W w.heap.size 52 (.slice (some ⟨G, 0, none⟩) n c)
  b1 : Boxed W (w.heap.size + 1) 57 (.int .u32 (ms : Nat))
  b2 : Boxed W (w.heap.size + 1 + 1) 3 (.int .i64 (st.a : Nat))
  b3 : Boxed W (w.heap.size + 1 + 1 + 1) 3 (.int .i64 (st.b : Nat))
  b4 : Boxed W (w.heap.size + 1 + 1 + 1 + 1) 3 (.int .i64 st.m)
  low : Below w.heap.size w W
theorem NrX.drew {w : World} {G n c ms : Nat} {st : NSt} {W : World} (h : NrX w G n c ms st W) : NrX w G n c ms st W.drew := ⟨h.b0, h.b1, h.b2, h.b3, h.b4, h.low.drew⟩
theorem NrX.drewN {w : World} {G n c ms : Nat} {st : NSt} {W : World} (h : NrX w G n c ms st W) (k : Nat) : NrX w G n c ms st (W.drewN k) := ⟨h.b0, h.b1, h.b2, h.b3, h.b4, below_drewN h.low k⟩
theorem NrX.put {w : World} {G n c ms : Nat} {st : NSt} {W : World} (h : NrX w G n c ms st W) (x y : Nat) (z : Int) : NrX w G n c ms ⟨x, y, z⟩ (((W.setCell ⟨w.heap.size + 1 + 1, 0, none⟩ (.int .i64 (x : Nat))).setCell ⟨w.heap.size + 1 + 1 + 1, 0, none⟩ (.int .i64 (y : Nat))).setCell ⟨w.heap.size + 1 + 1 + 1 + 1, 0, none⟩ (.int .i64 z)) :=
  ⟨boxed_offB (boxed_offB (boxed_offB h.b0 _ 0 _ (by omega)) _ 0 _ (by omega)) _ 0 _ (by omega), boxed_offB (boxed_offB (boxed_offB h.b1 _ 0 _ (by omega)) _ 0 _ (by omega)) _ 0 _ (by omega), boxed_offB (boxed_offB (h.b2.set _) _ 0 _ (by omega)) _ 0 _ (by omega), boxed_offB ((boxed_offB h.b3 _ 0 _ (by omega)).set _) _ 0 _ (by omega), (boxed_offB (boxed_offB h.b4 _ 0 _ (by omega)) _ 0 _ (by omega)).set _,
    ((h.low.setCell (p := ⟨w.heap.size + 1 + 1, 0, none⟩) (by show w.heap.size ≤ w.heap.size + 1 + 1; omega) _).setCell (p := ⟨w.heap.size + 1 + 1 + 1, 0, none⟩) (by show w.heap.size ≤ w.heap.size + 1 + 1 + 1; omega) _).setCell (p := ⟨w.heap.size + 1 + 1 + 1 + 1, 0, none⟩) (by show w.heap.size ≤ w.heap.size + 1 + 1 + 1 + 1; omega) _⟩
theorem NrX.put2 {w : World} {G n c ms : Nat} {st : NSt} {W : World} (h : NrX w G n c ms st W) (x y : Nat) : NrX w G n c ms ⟨x, y, st.m⟩ ((W.setCell ⟨w.heap.size + 1 + 1, 0, none⟩ (.int .i64 (x : Nat))).setCell ⟨w.heap.size + 1 + 1 + 1, 0, none⟩ (.int .i64 (y : Nat))) :=
  ⟨boxed_offB (boxed_offB h.b0 _ 0 _ (by omega)) _ 0 _ (by omega), boxed_offB (boxed_offB h.b1 _ 0 _ (by omega)) _ 0 _ (by omega), boxed_offB (h.b2.set _) _ 0 _ (by omega), (boxed_offB h.b3 _ 0 _ (by omega)).set _, boxed_offB (boxed_offB h.b4 _ 0 _ (by omega)) _ 0 _ (by omega),
    (h.low.setCell (p := ⟨w.heap.size + 1 + 1, 0, none⟩) (by show w.heap.size ≤ w.heap.size + 1 + 1; omega) _).setCell (p := ⟨w.heap.size + 1 + 1 + 1, 0, none⟩) (by show w.heap.size ≤ w.heap.size + 1 + 1 + 1; omega) _⟩
theorem NrX.own {w : World} {G n c ms B : Nat} (f : Nat → NSt) (hB : w.heap.size ≤ B) : OwnFrom B (fun (k : Nat) W => NrX w G n c ms (f k) W) := fun k W W' row h hg hr => by
  have o0 := (Own.from (boxed_own w.heap.size 52 (fun (_ : Nat) => Value.slice (some ⟨G, 0, none⟩) n c)) B) k W W' row h.b0 hg hr
  have o1 := (Own.from (boxed_own (w.heap.size + 1) 57 (fun (_ : Nat) => Value.int .u32 (ms : Nat))) B) k W W' row h.b1 hg hr
  have o2 := (Own.from (boxed_own (w.heap.size + 1 + 1) 3 (fun (k : Nat) => Value.int .i64 ((f k).a : Nat))) B) k W W' row h.b2 hg hr
  have o3 := (Own.from (boxed_own (w.heap.size + 1 + 1 + 1) 3 (fun (k : Nat) => Value.int .i64 ((f k).b : Nat))) B) k W W' row h.b3 hg hr
  have o4 := (Own.from (boxed_own (w.heap.size + 1 + 1 + 1 + 1) 3 (fun (k : Nat) => Value.int .i64 (f k).m)) B) k W W' row h.b4 hg hr
  exact ⟨o0, o1, o2, o3, o4, h.low.grown hg h.low.size (fun k e => Nat.le_trans hB (hr k e).1)⟩
theorem results_cells2 {w : World} {g1 g2 : Nat} {v1 v2 : Int} (h1 : Boxed w g1 3 (.int .i64 v1)) (h2 : Boxed w g2 3 (.int .i64 v2)) {fn : Func} {p q : Tmp} (hr : fn.results = #[.cell p 3, .cell q 3]) (tmps : Array Value) (hp : tmps.getD p undef = .pointer (some ⟨g1, 0, none⟩)) (hq : tmps.getD q undef = .pointer (some ⟨g2, 0, none⟩)) : (results fn tmps).run Try.prog w = .ok (.tuple #[.int .i64 v1, .int .i64 v2]) w := by
  have hp' : tmps[p]?.getD undef = .pointer (some ⟨g1, 0, none⟩) := by simpa using hp
  have hq' : tmps[q]?.getD undef = .pointer (some ⟨g2, 0, none⟩) := by simpa using hq
  have hc1 := h1.cell
  have hc2 := h2.cell
  simp only [results, hr]
  simp [hp', hq', asAddr]
  go_simp

set_option maxRecDepth 100000 in
set_option maxHeartbeats 4000000 in
theorem nearest_any (G n c : Nat) (C : List (List Nat)) (s : List Nat) (w : World) (hn : C.length = n) (h8 : n ≤ 8) (hG : G < w.heap.size) (hU : ∀ v, v < n → w.cell? ⟨G, v, none⟩ = some (.int .u32 (mskN (C.getD v []) : Nat))) (hC : ∀ p ∈ C, ∀ u ∈ p, u < 8) (hs : ∀ u ∈ s, u < n) :
    Calls Try.prog 80 #[.slice (some ⟨G, 0, none⟩) n c, .int .u32 (mskN s : Nat)] w fun e w' => e = .returned (.tuple #[.int .i64 ((nrI C s 8).a : Nat), .int .i64 ((nrI C s 8).b : Nat)]) ∧ Below w.heap.size w w' := by
  refine (callsIn_wide (n := 6)).1 ?_
  have hs8 : ∀ u ∈ s, u < 8 := fun u hu => by have := hs u hu; omega
  have HSN := hid hs
  have HKU : Hid (∀ (V : World) (v : Nat), Below w.heap.size w V → v < n → V.cell? ⟨G, v, none⟩ = some (.int .u32 (mskN (C.getD v []) : Nat))) := fun V v hb hv => (hb.cell (p := ⟨G, v, none⟩) hG).trans (hU v hv)
  have HAN := hid (fun i j => bits_and (C.getD i []) (C.getD j []) (getD_small hC i) (getD_small hC j))
  have HCN : Hid (∀ i j (U : World), Calls Try.prog 72 #[.int .u32 (mskN ((C.getD i []).filter fun x => decide (x ∈ C.getD j [])) : Nat)] U fun e w' => e = .returned (.int .i64 (comN C i j : Nat)) ∧ ∃ k, w' = U.drewN k) := fun i j U => sCount_any _ U (fil_small (getD_small hC i) _)
  have HHS := hid (fun (j : Nat) (hj : j < 8) (U : World) => sHas_any s j U hs8 hj)
  have HJY := hid (fun i st j h1 h2 => nrJ_yes (C := C) (s := s) (i := i) (j := j) (st := st) h1 h2)
  have HJI := hid (fun i st j h1 => nrJ_in (C := C) (s := s) (i := i) (j := j) (st := st) h1)
  have HJN := hid (fun i st j h1 => nrJ_no (C := C) (s := s) (i := i) (j := j) (st := st) h1)
  have HJ0 : Hid (∀ i st, nrJ C s i st 0 = st) := fun _ _ => rfl
  have HIY : Hid (∀ k, k ∈ s → nrI C s (k + 1) = nrJ C s k (nrI C s k) n) := fun k h => by rw [nrI, if_pos h, hn]
  have HIN : Hid (∀ k, ¬ k ∈ s → nrI C s (k + 1) = nrI C s k) := fun k h => by rw [nrI, if_neg h]
  have hI0 : nrI C s 0 = ⟨0, 0, -1⟩ := rfl
  have HCL := hid (fun i j => comN_le C i j)
  generalize hni : nrI C s = ni at *
  have HNI := hid hni
  generalize nrJ C s = nj at *
  clear hU hC hs hni
  refine callsIn_of_wp_marks Try.func80 rfl trivial ?_ rfl
  simp only [Try.ntmps80, List.size_toArray, List.length_cons, List.length_nil, Nat.reduceAdd, Nat.reduceSub, Array.replicate_succ, Array.replicate_zero, List.push_toArray, List.append_toArray, List.nil_append, List.cons_append]
  obtain ⟨W0, hW0⟩ : ∃ W0, W0 = ((((w.alloc (.cells #[.slice (some ⟨G, 0, none⟩) n c] 52)).alloc (.cells #[.int .u32 (mskN s : Nat)] 57)).alloc (.cells #[.int .i64 0] 3)).alloc (.cells #[.int .i64 0] 3)).alloc (.cells #[.int .i64 (-1)] 3) := ⟨_, rfl⟩
  have hX0 : NrX w G n c (mskN s) (ni 0) W0 := by
    rw [hW0, hI0]
    refine ⟨((((Boxed.new w _ _).alloc _).alloc _).alloc _).alloc _, ?_, ?_, ?_, ?_, (((((Below.refl _ w).alloc (Nat.le_refl _) _).alloc (by simp) _).alloc (by simp; omega) _).alloc (by simp; omega) _).alloc (by simp; omega) _⟩
    · have h := (((Boxed.new (w.alloc (.cells #[.slice (some ⟨G, 0, none⟩) n c] 52)) 57 (.int .u32 (mskN s : Nat))).alloc (.cells #[.int .i64 0] 3)).alloc (.cells #[.int .i64 0] 3)).alloc (.cells #[.int .i64 (-1)] 3)
      rwa [World.size_alloc] at h
    · have h := ((Boxed.new ((w.alloc (.cells #[.slice (some ⟨G, 0, none⟩) n c] 52)).alloc (.cells #[.int .u32 (mskN s : Nat)] 57)) 3 (.int .i64 0)).alloc (.cells #[.int .i64 0] 3)).alloc (.cells #[.int .i64 (-1)] 3)
      rwa [World.size_alloc, World.size_alloc] at h
    · have h := (Boxed.new (((w.alloc (.cells #[.slice (some ⟨G, 0, none⟩) n c] 52)).alloc (.cells #[.int .u32 (mskN s : Nat)] 57)).alloc (.cells #[.int .i64 0] 3)) 3 (.int .i64 0)).alloc (.cells #[.int .i64 (-1)] 3)
      rwa [World.size_alloc, World.size_alloc, World.size_alloc] at h
    · have h := Boxed.new ((((w.alloc (.cells #[.slice (some ⟨G, 0, none⟩) n c] 52)).alloc (.cells #[.int .u32 (mskN s : Nat)] 57)).alloc (.cells #[.int .i64 0] 3)).alloc (.cells #[.int .i64 0] 3)) 3 (.int .i64 (-1))
      rwa [World.size_alloc, World.size_alloc, World.size_alloc, World.size_alloc] at h
  gi_wp2
  rw [← hW0]
  clear hW0
  have hsz0 : w.heap.size + 1 + 1 + 1 + 1 < W0.heap.size := hX0.b4.lt
  refine wp_each (by omega) s hs8 rfl rfl (fun k V => NrX w G n c (mskN s) (ni k) V) (NrX.own ni (by omega)) hX0
    (fun k => { tmps := #[.slice (some ⟨G, 0, none⟩) n c, .int .u32 (mskN s : Nat), .pointer (some ⟨w.heap.size, 0, none⟩), .pointer (some ⟨w.heap.size + 1, 0, none⟩), .pointer (some ⟨w.heap.size + 1 + 1, 0, none⟩), .pointer (some ⟨w.heap.size + 1 + 1 + 1, 0, none⟩), .pointer (some ⟨w.heap.size + 1 + 1 + 1 + 1, 0, none⟩), .int .i64 (k : Nat), undef, undef, .int .u32 (mskN s : Nat), .func (.func 47) #[.int .u32 (mskN s : Nat)] #[], .int .i64 (k : Nat), undef, undef, undef, undef, undef, undef, undef, undef, undef, undef, undef, undef, undef, undef, undef, undef, undef, undef, undef, undef, undef, undef, undef, undef, undef, undef, undef, undef, undef, undef], defers := [] }) ?assign ?body ?skip ?done
  case assign =>
    intro l k W K hK
    gi_wp2
    exact hK
  case body =>
    rintro l k V hk hm hX
    have hkn := HSN.out k hm
    have HIk := hid (HIY.out k hm)
    have HJYk := hid (HJY.out k (ni k))
    have HJIk := hid (HJI.out k (ni k))
    have HJNk := hid (HJN.out k (ni k))
    have hJ0 := HJ0.out k (ni k)
    have HANk := hid (HAN.out k)
    have HCNk := hid (HCN.out k)
    have HCLk := hid (HCL.out k)
    have k0 := hX.b0.cell
    have HX0 : Hid (NrX w G n c (mskN s) (nj k (ni k) 0) V) := by rw [hJ0]; exact hX
    generalize nj k (ni k) = jj at *
    generalize mskN s = ms at *
    clear hX hX0
    gi_wp2
    clear k0
    gi_loopw [15] (fun jv wr => ∃ j : Nat, j ≤ n ∧ jv = .int .i64 j ∧ Hid (NrX w G n c ms (jj j) wr) ∧ Hid (KeepsOthers V wr)) (fun jv _ => n - (intOf jv).toNat)
    case atStart => exact ⟨0, Nat.zero_le _, rfl, HX0, KeepsOthers.refl V⟩
    case round =>
      obtain ⟨j, hj, rfl, HX, HK⟩ := hrel
      clear HX0
      by_cases hlt : j < n
      · have k0 := HX.out.b0.cell
        have ki := HKU.out wr k HX.out.low hkn
        have kj := HKU.out wr j HX.out.low hlt
        have hAN := HANk.out j
        have HCj := hid (HCNk.out j)
        have hcl := HCLk.out j
        have HHj := hid (HHS.out j (by omega))
        have HYj := hid (HJYk.out j)
        have HIj := hid (HJIk.out j)
        have HNj := hid (HJNk.out j)
        generalize mskN ((C.getD k []).filter fun x => decide (x ∈ C.getD j [])) = m2 at *
        generalize mskN (C.getD k []) = mi at *
        generalize mskN (C.getD j []) = mj at *
        generalize comN C k j = cm at *
        gi_wp2_with fail
        refine region_round (fun u => u.cell? ⟨w.heap.size, 0, none⟩ = some (.slice (some ⟨G, 0, none⟩) n c) ∧ u.cell? ⟨G, k, none⟩ = some (.int .u32 (mi : Nat)) ∧ u.cell? ⟨G, j, none⟩ = some (.int .u32 (mj : Nat))) (by kernel_rfl) (by kernel_rfl) (fun ⟨_, _, h⟩ => h) ⟨k0, ki, kj⟩ ?_
        intro hSd
        have hX2 := HX.out.drew
        have hK2 : KeepsOthers V wr.drew := HK.out.trans (KeepsOthers.drew wr)
        clear k0 ki kj HX HK
        generalize wr.drew = U0 at *
        (try simp only [List.getElem_toArray, List.getElem_cons_zero, List.getElem_cons_succ])
        (try simp only [Act.put, List.setIfInBounds_toArray, List.set_cons_zero, List.set_cons_succ])
        refine wpAnyH_take (i := 0) (oi := _) (v := .slice (some ⟨G, 0, none⟩) n c) rfl (by kernel_rfl) (by kernel_rfl) (by kernel_rfl) (fun _ _ _ h => h) (Or.inl ⟨by rfl, ?_⟩) (by assumption) ?_
        · intro u' hSu
          (try simp only [List.getElem_toArray, List.getElem_cons_zero])
          obtain ⟨s0, s1, s2⟩ := hSu
          go_simp
        (try simp only [List.getElem_toArray, List.getElem_cons_zero])
        (try simp only [Act.put, List.setIfInBounds_toArray, List.set_cons_zero, List.set_cons_succ])
        refine wpAnyH_take (i := 1) (oi := _) (v := .int .i64 (k : Nat)) rfl (by kernel_rfl) (by kernel_rfl) (by kernel_rfl) (fun _ _ _ h => h) (Or.inl ⟨by rfl, ?_⟩) (by assumption) ?_
        · intro u' hSu
          (try simp only [List.getElem_toArray, List.getElem_cons_zero, List.getElem_cons_succ])
          go_simp
        (try simp only [List.getElem_toArray, List.getElem_cons_zero, List.getElem_cons_succ])
        (try simp only [Act.put, List.setIfInBounds_toArray, List.set_cons_zero, List.set_cons_succ])
        refine wpAnyH_take (i := 2) (oi := _) (v := .pointer (some ⟨G, k, none⟩)) rfl (by kernel_rfl) (by kernel_rfl) (by kernel_rfl) (fun _ _ _ h => h) (Or.inl ⟨by rfl, ?_⟩) (by assumption) ?_
        · intro u' hSu
          (try simp only [List.getElem_toArray, List.getElem_cons_zero, List.getElem_cons_succ])
          go_simp
        (try simp only [List.getElem_toArray, List.getElem_cons_zero, List.getElem_cons_succ])
        (try simp only [Act.put, List.setIfInBounds_toArray, List.set_cons_zero, List.set_cons_succ])
        refine wpAnyH_take (i := 3) (oi := _) (v := .int .u32 (mi : Nat)) rfl (by kernel_rfl) (by kernel_rfl) (by kernel_rfl) (fun _ _ _ h => h) (Or.inl ⟨by rfl, ?_⟩) (by assumption) ?_
        · intro u' hSu
          (try simp only [List.getElem_toArray, List.getElem_cons_zero, List.getElem_cons_succ])
          obtain ⟨s0, s1, s2⟩ := hSu
          go_simp
        (try simp only [List.getElem_toArray, List.getElem_cons_zero, List.getElem_cons_succ])
        (try simp only [Act.put, List.setIfInBounds_toArray, List.set_cons_zero, List.set_cons_succ])
        refine wpAnyH_take (i := 4) (oi := _) (v := .slice (some ⟨G, 0, none⟩) n c) rfl (by kernel_rfl) (by kernel_rfl) (by kernel_rfl) (fun _ _ _ h => h) (Or.inl ⟨by rfl, ?_⟩) (by assumption) ?_
        · intro u' hSu
          (try simp only [List.getElem_toArray, List.getElem_cons_zero, List.getElem_cons_succ])
          obtain ⟨s0, s1, s2⟩ := hSu
          go_simp
        (try simp only [List.getElem_toArray, List.getElem_cons_zero, List.getElem_cons_succ])
        (try simp only [Act.put, List.setIfInBounds_toArray, List.set_cons_zero, List.set_cons_succ])
        refine wpAnyH_take (i := 5) (oi := _) (v := .int .i64 (j : Nat)) rfl (by kernel_rfl) (by kernel_rfl) (by kernel_rfl) (fun _ _ _ h => h) (Or.inl ⟨by rfl, ?_⟩) (by assumption) ?_
        · intro u' hSu
          (try simp only [List.getElem_toArray, List.getElem_cons_zero, List.getElem_cons_succ])
          go_simp
        (try simp only [List.getElem_toArray, List.getElem_cons_zero, List.getElem_cons_succ])
        (try simp only [Act.put, List.setIfInBounds_toArray, List.set_cons_zero, List.set_cons_succ])
        refine wpAnyH_take (i := 6) (oi := _) (v := .pointer (some ⟨G, j, none⟩)) rfl (by kernel_rfl) (by kernel_rfl) (by kernel_rfl) (fun _ _ _ h => h) (Or.inl ⟨by rfl, ?_⟩) (by assumption) ?_
        · intro u' hSu
          (try simp only [List.getElem_toArray, List.getElem_cons_zero, List.getElem_cons_succ])
          go_simp
        (try simp only [List.getElem_toArray, List.getElem_cons_zero, List.getElem_cons_succ])
        (try simp only [Act.put, List.setIfInBounds_toArray, List.set_cons_zero, List.set_cons_succ])
        refine wpAnyH_take (i := 7) (oi := _) (v := .int .u32 (mj : Nat)) rfl (by kernel_rfl) (by kernel_rfl) (by kernel_rfl) (fun _ _ _ h => h) (Or.inl ⟨by rfl, ?_⟩) (by assumption) ?_
        · intro u' hSu
          (try simp only [List.getElem_toArray, List.getElem_cons_zero, List.getElem_cons_succ])
          obtain ⟨s0, s1, s2⟩ := hSu
          go_simp
        (try simp only [List.getElem_toArray, List.getElem_cons_zero, List.getElem_cons_succ])
        (try simp only [Act.put, List.setIfInBounds_toArray, List.set_cons_zero, List.set_cons_succ])
        refine wpAnyH_take (i := 8) (oi := _) (v := .int .u32 (m2 : Nat)) rfl (by kernel_rfl) (by kernel_rfl) (by kernel_rfl) (fun _ _ _ h => h) (Or.inl ⟨by rfl, ?_⟩) (by assumption) ?_
        · intro u' hSu
          (try simp only [List.getElem_toArray, List.getElem_cons_zero, List.getElem_cons_succ])
          go_simp
        (try simp only [List.getElem_toArray, List.getElem_cons_zero, List.getElem_cons_succ])
        (try simp only [Act.put, List.setIfInBounds_toArray, List.set_cons_zero, List.set_cons_succ])
        refine wpAnyH_ready (rs := [9]) (by kernel_rfl) (by simp) (AllReadyH.cons rfl ?_ (AllReadyH.nil))
        · intro K' hK'
          (try simp only [List.getElem_toArray, List.getElem_cons_zero, List.getElem_cons_succ])
          go_simp
          refine (HCj.out _).mono ?_
          rintro e U1 ⟨rfl, kk, hU1⟩
          have hX3 : NrX w G n c ms (jj j) U1 := by rw [hU1]; exact hX2.drewN kk
          have hK3 : KeepsOthers V U1 := by rw [hU1]; exact keeps_drewN hK2 kk
          refine hK'.out _ _ (by rw [hU1]; exact hSd) (fun hSe => ?_)
          clear hK' K' hU1 hX2 hK2 hSd
          have hSd := hSe
          clear hSe
          (try simp only [List.getElem_toArray, List.getElem_cons_zero, List.getElem_cons_succ])
          (try simp only [Act.put, List.setIfInBounds_toArray, List.set_cons_zero, List.set_cons_succ])
          refine wpAnyH_take (i := 10) (oi := _) (v := .int .i64 (cm : Nat)) rfl (by kernel_rfl) (by kernel_rfl) (by kernel_rfl) (fun _ _ _ h => h) (Or.inl ⟨by rfl, ?_⟩) (by assumption) ?_
          · intro u' hSu
            (try simp only [List.getElem_toArray, List.getElem_cons_zero, List.getElem_cons_succ])
            go_simp
          (try simp only [List.getElem_toArray, List.getElem_cons_zero, List.getElem_cons_succ])
          (try simp only [Act.put, List.setIfInBounds_toArray, List.set_cons_zero, List.set_cons_succ])
          refine wpAnyH_done (by kernel_rfl) ?_ _
          clear hSd
          have c1 := hX3.b1.cell
          have c4 := hX3.b4.cell
          have f2 := hX3.b2.frozen
          have f3 := hX3.b3.frozen
          have f4 := hX3.b4.frozen
          have HX3 := hid hX3
          have HK3 := hid hK3
          clear hX3 hK3
          by_cases hin : j ∈ s
          · have HE := hid (HIj.out hin)
            rw [decide_eq_true hin] at HHj
            clear hin
            gi_wp2_with (refine ⟨trivial, ?_⟩; gi_at_call 70; refine (CallsIn.inRound l (callsIn_wide.2 (HHj.out _))).mono ?_; rintro e W' ⟨rfl, hW'⟩; subst hW')
            go_roundw
            case rel => exact ⟨j + 1, by omega, by go_num, (by rw [HE.out]; exact HX3), HK3⟩
            case measure => simp [intOf]; omega
          · rw [decide_eq_false hin] at HHj
            by_cases hlm : (jj j).m < (cm : Int)
            · have HE := hid (HYj.out hin hlm)
              have HP := hid (HX3.out.put k j (cm : Int))
              have HKP := hid (HK3.out.trans (((KeepsOthers.setCell U1 ⟨w.heap.size + 1 + 1, 0, none⟩ (.int .i64 (k : Nat))).trans (KeepsOthers.setCell _ ⟨w.heap.size + 1 + 1 + 1, 0, none⟩ (.int .i64 (j : Nat)))).trans (KeepsOthers.setCell _ ⟨w.heap.size + 1 + 1 + 1 + 1, 0, none⟩ (.int .i64 (cm : Int)))))
              have g3 := (boxed_offB HX3.out.b3 (w.heap.size + 1 + 1) 0 (.int .i64 (k : Nat)) (by omega)).frozen
              have k3 := (boxed_offB HX3.out.b3 (w.heap.size + 1 + 1) 0 (.int .i64 (k : Nat)) (by omega)).cell
              have g4 := (boxed_offB (boxed_offB HX3.out.b4 (w.heap.size + 1 + 1) 0 (.int .i64 (k : Nat)) (by omega)) (w.heap.size + 1 + 1 + 1) 0 (.int .i64 (j : Nat)) (by omega)).frozen
              have k4 := (boxed_offB (boxed_offB HX3.out.b4 (w.heap.size + 1 + 1) 0 (.int .i64 (k : Nat)) (by omega)) (w.heap.size + 1 + 1 + 1) 0 (.int .i64 (j : Nat)) (by omega)).cell
              have c2 := HX3.out.b2.cell
              clear hin
              generalize (jj j).m = mm at *
              generalize (jj j).a = aa at *
              generalize (jj j).b = bb at *
              gi_wp2_with (refine ⟨trivial, ?_⟩; gi_at_call 70; refine (CallsIn.inRound l (callsIn_wide.2 (HHj.out _))).mono ?_; rintro e W' ⟨rfl, hW'⟩; subst hW')
              go_roundw
              case rel => exact ⟨j + 1, by omega, by go_num, (by rw [HE.out]; exact HP), HKP⟩
              case measure => simp [intOf]; omega
            · have HE := hid (HNj.out (Int.not_lt.1 hlm))
              clear hin
              generalize (jj j).m = mm at *
              gi_wp2_with (refine ⟨trivial, ?_⟩; gi_at_call 70; refine (CallsIn.inRound l (callsIn_wide.2 (HHj.out _))).mono ?_; rintro e W' ⟨rfl, hW'⟩; subst hW')
              go_roundw
              case rel => exact ⟨j + 1, by omega, by go_num, (by rw [HE.out]; exact HX3), HK3⟩
              case measure => simp [intOf]; omega
      · obtain rfl : j = n := by omega
        gi_wp2
        exact ⟨HK.out.from _, by show NrX w G j c ms (ni (k + 1)) wr; rw [HIk.out]; exact HX.out⟩
  case skip =>
    rintro k V hk hm h
    rw [HIN.out k hm]
    exact h
  case done =>
    rintro D V hD hX hK
    have HDK := hid hK
    have HNV := hid hX
    have k2 := hX.b2.cell
    have k3' := hX.b3.cell
    have hD4 : w.heap.size + 1 + 1 + 1 + 1 < D := by omega
    clear hX hK hX0
    have HN8 : Hid (NrX w G n c (mskN s) ⟨(ni 8).a, (ni 8).b, (ni 8).m⟩ V) := HNV
    clear HNV
    have HNV := HN8
    clear HN8
    generalize hA8 : (ni 8).a = A at *
    generalize hB8 : (ni 8).b = Bb at *
    generalize (ni 8).m = Mm at *
    have HAB := hid (And.intro hA8 hB8)
    clear hA8 hB8
    gi_wp2_with fail
    refine region_wideN (fun u => u.cell? ⟨w.heap.size + 1 + 1, 0, none⟩ = some (.int .i64 (A : Nat)) ∧ u.cell? ⟨w.heap.size + 1 + 1 + 1, 0, none⟩ = some (.int .i64 (Bb : Nat))) (by kernel_rfl) (by kernel_rfl) ⟨k2, k3'⟩ ?_
    clear k2 k3'
    intro hSd
    have HNV2 := hid HNV.out.drew
    have q2 := HNV2.out.b2
    have q3 := HNV2.out.b3
    have f2 := q2.frozen
    have k2 := q2.cell
    have HD2 : Hid (V.drew.heap[D]? = some (.deferred (some []))) := HDK.out
    clear HDK HNV
    generalize V.drew = U0 at *
    (try simp only [List.getElem_toArray, List.getElem_cons_zero, List.getElem_cons_succ])
    (try simp only [Act.put, List.setIfInBounds_toArray, List.set_cons_zero, List.set_cons_succ])
    refine wpAnyH_take (i := 0) (oi := _) (v := .int .i64 (A : Nat)) rfl (by kernel_rfl) (by kernel_rfl) (by kernel_rfl) (fun _ _ _ h => h) (Or.inl ⟨by rfl, ?_⟩) (by assumption) ?_
    · intro u' hSu
      (try simp only [List.getElem_toArray, List.getElem_cons_zero])
      obtain ⟨s0, s1⟩ := hSu
      go_simp
    (try simp only [List.getElem_toArray, List.getElem_cons_zero])
    (try simp only [Act.put, List.setIfInBounds_toArray, List.set_cons_zero, List.set_cons_succ])
    refine wpAnyH_take (i := 1) (oi := _) (v := .int .i64 (Bb : Nat)) rfl (by kernel_rfl) (by kernel_rfl) (by kernel_rfl) (fun _ _ _ h => h) (Or.inl ⟨by rfl, ?_⟩) (by assumption) ?_
    · intro u' hSu
      (try simp only [List.getElem_toArray, List.getElem_cons_zero, List.getElem_cons_succ])
      obtain ⟨s0, s1⟩ := hSu
      go_simp
    (try simp only [List.getElem_toArray, List.getElem_cons_zero, List.getElem_cons_succ])
    (try simp only [Act.put, List.setIfInBounds_toArray, List.set_cons_zero, List.set_cons_succ])
    refine wpAnyH_ready (rs := [2]) (by kernel_rfl) (by simp) (AllReadyH.cons rfl ?_ (AllReadyH.nil))
    · intro K' hK'
      (try simp only [List.getElem_toArray, List.getElem_cons_zero, List.getElem_cons_succ])
      go_simp
      have p2 := q2.set (.int .i64 (A : Nat))
      have p3 := boxed_offB q3 (w.heap.size + 1 + 1) 0 (.int .i64 (A : Nat)) (by omega)
      have f3 := p3.frozen
      have k3 := p3.cell
      refine hK'.out _ _ ⟨p2.cell, p3.cell⟩ (fun hSe => ?_)
      clear hK' K' hSd
      have hSd := hSe
      clear hSe
      (try simp only [List.getElem_toArray, List.getElem_cons_zero, List.getElem_cons_succ])
      (try simp only [Act.put, List.setIfInBounds_toArray, List.set_cons_zero, List.set_cons_succ])
      refine wpAnyH_ready (rs := [3]) (by kernel_rfl) (by simp) (AllReadyH.cons rfl ?_ (AllReadyH.nil))
      · intro K' hK'
        (try simp only [List.getElem_toArray, List.getElem_cons_zero, List.getElem_cons_succ])
        go_simp
        refine hK'.out _ _ ⟨(boxed_offB p2 _ 0 _ (by omega)).cell, (p3.set _).cell⟩ (fun _ => wpAnyH_done (by kernel_rfl) ?_ _)
        clear hK' K' hSd
        refine onlyN_mk ?_
        gi_wp2
        have hD3 := ((KeepsOthers.setCell U0 ⟨w.heap.size + 1 + 1, 0, none⟩ (.int .i64 (A : Nat))).trans (KeepsOthers.setCell _ ⟨w.heap.size + 1 + 1 + 1, 0, none⟩ (.int .i64 (Bb : Nat)))).2 D _ HD2.out rfl
        have hP := HNV2.out.put2 A Bb
        rw [HAB.out.1, HAB.out.2]
        refine ⟨by simp, .inl ⟨_, _, rfl, run_takeDeferred hD3, ?_⟩⟩
        have hE := (NrX.own (B := w.heap.size) (fun _ => ⟨A, Bb, Mm⟩) (Nat.le_refl _)).putObj (s := 0) (.deferred none) hP (by omega) hD3 rfl
        exact ⟨_, results_cells2 hE.b2 hE.b3 rfl _ rfl rfl, rfl, hE.low⟩
end Go.Proofs.Ytockhhleapbpiaa

