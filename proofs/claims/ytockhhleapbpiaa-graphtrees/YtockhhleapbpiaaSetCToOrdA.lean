/- Package graph: readOthers. -/
import Derived.Test.YtockhhleapbpiaaRefRToSetB
import Derived.RangeFuncWrites
import Derived.RangeFuncCalls
import Derived.RangeFuncBound
import Derived.RangeFuncLeaves
import Derived.BigQuiet
namespace Go.Proofs.Ytockhhleapbpiaa
open Go.RowKit

/-- No list has its own number. -/
def noSelf (L : List (List Int)) : Bool := (List.range L.length).all fun v => !decide (v ∈ toN (L.getD v []))
/-- Lists of other nodes. -/
def gB (L : List (List Int)) : Bool := decide (1 ≤ L.length ∧ L.length ≤ 8) && allRis L L.length && noSelf L

set_option maxRecDepth 100000 in
set_option maxHeartbeats 400000 in
theorem mayCount_any (n : Nat) (w : World) :
    Calls Try.prog 78 #[.int .i64 (n : Nat)] w fun e w' => e = .returned (.bool (decide (1 ≤ n ∧ n ≤ 8))) ∧ w' = w := by
  by_cases h1 : 1 ≤ n
  · by_cases h2 : n ≤ 8
    · rw [decide_eq_true (p := 1 ≤ n ∧ n ≤ 8) ⟨h1, h2⟩]
      have e1 : (1 : Int) ≤ (n : Int) := by omega
      have e2 : (n : Int) ≤ 8 := by omega
      go_enter Try.func78, Try.ntmps78
      go_wp2
      go_ret
      exact ⟨rfl, rfl⟩
    · rw [decide_eq_false (p := 1 ≤ n ∧ n ≤ 8) (fun h => h2 h.2)]
      have e1 : (1 : Int) ≤ (n : Int) := by omega
      have HE : Hid (decide ((n : Int) ≤ 8) = false) := decide_eq_false (by omega)
      clear h2
      go_enter Try.func78, Try.ntmps78
      go_wp2
      go_ret
      exact ⟨by rw [HE.out]; rfl, rfl⟩
  · rw [decide_eq_false (p := 1 ≤ n ∧ n ≤ 8) (fun h => h1 h.1)]
    obtain rfl : n = 0 := by omega
    clear h1
    go_enter Try.func78, Try.ntmps78
    go_wp2
    go_ret
    exact ⟨rfl, rfl⟩
theorem ris_all {l : List Int} {n : Nat} (hn : n ≤ 8) (h : risB l n = true) : ∀ u ∈ toN l, u < 8 := by
  have := ris_small (l := l) (n := n) (i := l.length) hn h (Nat.le_refl _)
  rwa [List.take_length] at this
theorem allRis_at {L : List (List Int)} {n i : Nat} (h : allRis L n = true) (hi : i < L.length) : risB L[i] n = true := List.all_eq_true.1 h _ (List.getElem_mem hi)
theorem noSelf_bad {L : List (List Int)} {i : Nat} (h : i < L.length) (e : i ∈ toN L[i]) : noSelf L = false := by
  rw [noSelf, List.all_eq_false]
  refine ⟨i, List.mem_range.2 h, ?_⟩
  rw [List.getD_eq_getElem?_getD, List.getElem?_eq_getElem h]
  simpa using e
theorem noSelf_good {L : List (List Int)} (h : ∀ i (hi : i < L.length), ¬ i ∈ toN L[i]) : noSelf L = true := by
  rw [noSelf, List.all_eq_true]
  intro i hi
  have hi' := List.mem_range.1 hi
  rw [List.getD_eq_getElem?_getD, List.getElem?_eq_getElem hi']
  simpa using h i hi'

set_option maxRecDepth 100000 in
set_option maxHeartbeats 1000000 in
theorem readOthers_any (a : Option Addr) (ca : Nat) (L : List (List Int)) (w : World) (h : LsS w a L) (hl : ∀ l ∈ L, l.length ≤ 140737488355328) :
    Calls Try.prog 69 #[.slice a L.length ca] w fun e w' => Below w.heap.size w w' ∧
      ((gB L = true ∧ ∃ G, e = .returned (.tuple #[.slice (some ⟨G, 0, none⟩) L.length L.length, .bool true]) ∧ w.heap.size ≤ G ∧ RowU w' G (masks L)) ∨ (gB L = false ∧ ∃ v, e = .returned (.tuple #[v, .bool false]))) := by
  have HF := hid h
  have HL := hid hl
  have HG : Hid (gB L = (decide (1 ≤ L.length ∧ L.length ≤ 8) && allRis L L.length && noSelf L)) := rfl
  generalize gB L = gb at *
  clear h hl
  cases hm : decide (1 ≤ L.length ∧ L.length ≤ 8) with
  | false =>
    have HC := hid (fun V : World => mayCount_any L.length V)
    rw [hm] at HG HC
    have HGF : Hid (gb = false) := by show _ = _; rw [HG.out]; rfl
    clear hm HG
    go_enter Try.func69, Try.ntmps69
    go_wp2_with fail
    refine (HC.out _).mono ?_
    rintro e w1 ⟨rfl, rfl⟩
    go_wp2
    go_ret2
    exact ⟨Below.refl _ _, .inr ⟨HGF.out, _, rfl⟩⟩
  | true =>
    have HC := hid (fun V : World => mayCount_any L.length V)
    rw [hm] at HG HC
    obtain ⟨h1, h8⟩ := of_decide_eq_true hm
    have HS := hid (fun (V : World) (hV : LsS V a L) => setsOf_any a ca L.length L V hV h8 h8 HL.out)
    have HRA : Hid (allRis L L.length = true → ∀ i (hi : i < L.length), ∀ u ∈ toN L[i], u < 8) := fun h i hi => ris_all h8 (allRis_at h hi)
    have HNB := hid (fun i h e => noSelf_bad (L := L) (i := i) h e)
    have HNG := hid (fun h => noSelf_good (L := L) h)
    have HM : Hid (∀ i (h : i < L.length), (masks L)[i]? = some (mskN (toN L[i]))) := fun i h => by simp [masks, h]
    clear hm
    generalize allRis L L.length = ra at *
    generalize noSelf L = rn at *
    generalize masks L = ms at *
    go_enter Try.func69, Try.ntmps69
    go_wp2_with fail
    refine (HC.out _).mono ?_
    rintro e w1 ⟨rfl, rfl⟩
    go_wp2_with fail
    refine (HS.out _ HF.out).mono ?_
    rintro e w2 ⟨hb, ⟨hra, G, rfl, hG, hU⟩ | ⟨hra, rfl⟩⟩
    · have HU := hid hU
      have HB := hid hb
      have HAT := hid (HRA.out hra)
      have HGB : Hid (gb = rn) := by show _ = _; rw [HG.out, hra]; rfl
      clear hU hb hra HG
      go_wp2_with fail
      go_loopw [21] (fun iv wr => ∃ i : Nat, i ≤ L.length ∧ iv = .int .i64 i ∧ Hid (∀ j (h : j < L.length), j < i → ¬ j ∈ toN L[j]) ∧ wr = w2) (fun iv _ => L.length - (intOf iv).toNat)
      case atStart => exact ⟨0, Nat.zero_le _, rfl, fun j _ h => absurd h (by omega), rfl⟩
      case round =>
        obtain ⟨i, hi, rfl, HR, rfl⟩ := hrel
        by_cases hlt : i < L.length
        · have hmi := HM.out i hlt
          obtain ⟨hm1, hm2⟩ := List.getElem?_eq_some_iff.1 hmi
          have c0 := HU.out.cell i hm1
          rw [hm2] at c0
          have HNi := hid (HNB.out i hlt)
          have HRi : Hid (¬ i ∈ toN L[i] → ∀ j (h : j < L.length), j < i + 1 → ¬ j ∈ toN L[j]) := fun h j hj hji => by
            rcases Nat.lt_or_ge j i with h2 | h2
            · exact HR.out j hj h2
            · obtain rfl : j = i := by omega
              exact h
          have HH := hid (fun V : World => sHas_any (toN L[i]) i V (HAT.out i hlt) (by omega))
          clear hmi hm1 hm2
          generalize toN L[i] = l at *
          go_wp2_with fail
          refine (HH.out _).mono ?_
          rintro e w3 ⟨rfl, rfl⟩
          by_cases hin : i ∈ l
          · rw [decide_eq_true hin]
            have HE := hid (HNi.out hin)
            clear hin
            go_wp2
            go_ret2
            exact ⟨HB.out, .inr ⟨by rw [HGB.out]; exact HE.out, _, rfl⟩⟩
          · rw [decide_eq_false hin]
            have HE := hid (HRi.out hin)
            clear hin
            go_wp2
            go_roundw
            case rel => exact ⟨i + 1, by omega, by go_num, HE, trivial⟩
            case measure => simp [intOf]; omega
        · obtain rfl : i = L.length := by omega
          have HE := hid (HNG.out fun j hj => HR.out j hj hj)
          go_wp2
          go_ret2
          exact ⟨HB.out, .inl ⟨by rw [HGB.out]; exact HE.out, G, rfl, hG, HU.out⟩⟩
    · have HGB : Hid (gb = false) := by show _ = _; rw [HG.out, hra]; rfl
      have HB := hid hb
      clear hra hb HG
      go_wp2_with fail
      go_loopw [21] (fun iv wr => iv = .int .i64 0 ∧ wr = w2) (fun _ _ => 0)
      case atStart => exact ⟨rfl, rfl⟩
      case round =>
        obtain ⟨rfl, rfl⟩ := hrel
        go_wp2
        go_ret2
        exact ⟨HB.out, .inr ⟨HGB.out, _, rfl⟩⟩
end Go.Proofs.Ytockhhleapbpiaa


/- Ranging over a set ('for v := range s.each'): what a loop over it may lean on. -/
namespace Go.Proofs.Ytockhhleapbpiaa
open Go.RowKit Go.Shelf

attribute [local go_sem] Oper.semAt_some

set_option maxRecDepth 100000 in
set_option maxHeartbeats 400000 in
theorem each_in (n : Nat) (hn : 1 ≤ n) (l : Nat) (s : List Nat) (hs : ∀ u ∈ s, u < 8) (J : Nat → World → Prop)
    (hY : ∀ k V, k < 8 → k ∈ s → J k V → YieldAt Fence.wide (n - 1) Try.prog l #[.int .i64 (k : Nat)] V fun e V' => e = .returned (.bool true) ∧ J (k + 1) V')
    (hN : ∀ k V, k < 8 → ¬ k ∈ s → J k V → J (k + 1) V) (V : World) (h0 : J 0 V) :
    CallsIn Fence.wide n Try.prog 47 #[.int .u32 (mskN s : Nat), .func (.yield l) #[] #[]] V fun e V' => (∃ v, e = .returned v) ∧ J 8 V' := by
  refine callsIn_of_wp Try.func47 rfl trivial ?_ rfl
  simp only [Try.ntmps47, List.size_toArray, List.length_cons, List.length_nil, Nat.reduceAdd, Nat.reduceSub, Array.replicate_succ, Array.replicate_zero, List.push_toArray, List.append_toArray, List.nil_append, List.cons_append]
  have HH := hid (fun (k : Nat) (hk : k < 8) (U : World) => sHas_any s k U hs hk)
  generalize mskN s = m at *
  gi_wp2
  gi_loopw [5] (fun i wr => ∃ k : Nat, k ≤ 8 ∧ i = .int .i64 k ∧ J k wr) (fun i _ => 8 - (intOf i).toNat)
  case atStart => exact ⟨0, Nat.zero_le _, rfl, h0⟩
  case round =>
    obtain ⟨k, hk, rfl, hJ⟩ := hrel
    by_cases hlt : k < 8
    · have hlt' : (k : Int) < 8 := by omega
      have HHk := hid (HH.out k hlt)
      by_cases hm : k ∈ s
      · rw [decide_eq_true hm] at HHk
        obtain ⟨fn, tmps, assign, body, hy, hR⟩ := hY k wr hlt hm hJ
        have HR := hid hR
        clear hR
        gi_wp2_with (refine ⟨trivial, ?_⟩; gi_at_call 70; refine (callsIn_wide.2 (HHk.out _)).mono ?_; rintro e w' ⟨rfl, hw'⟩; subst hw')
        refine HR.out.mono ?_
        rintro e W3 ⟨rfl, hJ3⟩
        gi_wp2
        go_roundw
        case rel => exact ⟨k + 1, by omega, by go_num, hJ3⟩
        case measure => simp [intOf]; omega
      · rw [decide_eq_false hm] at HHk
        have hJ3 := hN k wr hlt hm hJ
        gi_wp2_with (refine ⟨trivial, ?_⟩; gi_at_call 70; refine (callsIn_wide.2 (HHk.out _)).mono ?_; rintro e w' ⟨rfl, hw'⟩; subst hw')
        refine ⟨fun f h => (by cases h), ?_⟩
        gi_wp2
        go_roundw
        case rel => exact ⟨k + 1, by omega, by go_num, hJ3⟩
        case measure => simp [intOf]; omega
    · obtain rfl : k = 8 := by omega
      gi_wp2
      go_end0
      exact ⟨⟨_, rfl⟩, hJ⟩
/-- What is asked of a round. -/
def eachPost (B : Nat) (I : Nat → World → Prop) (k : Nat) (W : World) : Exit → Act → World → Prop
  | .normal, _, W' => KeepsFrom B W W' ∧ I (k + 1) W'
  | _, _, _ => False
/-- The law of a loop over a set: each of its numbers comes, rising. -/
theorem wp_each {g : Operand} {ps : Array Tmp} {assign body : Code} {Q : Exit → Act → World → Prop} {a : Act} {w : World} {n : Nat} (h1 : 2 ≤ n) (s : List Nat) (hs : ∀ u ∈ s, u < 8)
    (hg : a.eval g = .func (.func 47) #[.int .u32 (mskN s : Nat)] #[]) (hps : ps.size = 1) (I : Nat → World → Prop) (hI : OwnFrom w.heap.size I) (h0 : I 0 w) (a₁ : Nat → Act)
    (hassign : ∀ (l k : Nat) (W : World) (K : Act → World → Prop), K (a₁ k) W →
      assign.wpIn (Fence.wide.inRound l) (n - 1 - 1) Try.prog (Exit.then K (fun _ _ _ => False)) { tmps := (ps.zip #[.int .i64 (k : Nat)]).foldl (fun t (p, v) => t.setIfInBounds p v) a.tmps, defers := [] } W)
    (hbody : ∀ (l k : Nat) (W : World), k < 8 → k ∈ s → I k W → body.wpIn (Fence.wide.inRound l) (n - 1 - 1) Try.prog (eachPost w.heap.size I k W) (a₁ k) W)
    (hskip : ∀ k W, k < 8 → ¬ k ∈ s → I k W → I (k + 1) W)
    (hdone : ∀ (D : Nat) (W : World), w.heap.size ≤ D → I 8 W → W.heap[D]? = some (.deferred (some [])) → Q .normal { a with defers := { target := .collected D, args := #[] } :: a.defers } W) :
    (Code.rangeFunc g ps assign body).wpIn Fence.wide n Try.prog Q a w := by
  refine wpIn_rangeFunc fun fn hfn => ?_
  rw [show Fence.wide.round = none from rfl]
  obtain ⟨rec, hrec⟩ : ∃ rec : LoopState → Option Code → Loop, rec = fun st pe => { state := st, pending := pe, fn, tmps := a.tmps, params := ps, assign, body, defers := w.heap.size } := ⟨_, rfl⟩
  obtain ⟨W1, hW1⟩ : ∃ W1, (w.alloc (.deferred (some []))).alloc (.loop (rec .ready none)) = W1 := ⟨_, rfl⟩
  have hL1 : W1.heap[w.heap.size + 1]? = some (.loop (rec .ready none)) := by
    rw [← hW1]
    have h := World.alloc_heap_new (w.alloc (.deferred (some []))) (.loop (rec .ready none))
    rwa [World.size_alloc] at h
  have hK1 : W1.heap[w.heap.size]? = some (.deferred (some [])) := by
    rw [← hW1]
    exact (Below.heap_alloc _ _ _ (by simp)).trans (World.alloc_heap_new w _)
  have hI1 : I 0 W1 := by
    rw [← hW1]
    exact hI.alloc _ (hI.alloc _ h0)
  refine ⟨w.heap.size + 1, [{ target := .collected w.heap.size, args := #[] }], W1, { target := .fn (.func 47) #[], args := #[.int .u32 (mskN s : Nat), .func (.yield (w.heap.size + 1)) #[] #[]] }, W1, 47, #[.int .u32 (mskN s : Nat), .func (.yield (w.heap.size + 1)) #[] #[]], W1, ?_, ?_, ?_, ?_, fun _ => by omega, ?_⟩
  · rw [← hW1, hrec]
    exact run_enterLoop_outer _ _ _ _ _
  · simp only [resolve, hg]
    simp [go_sem]
  · intro f' hf'
    simp [Target.leads] at hf'
    subst hf'
    trivial
  · have eg : ∀ args w, (callFunc 47 args).run Try.prog w = .ok (.enter 47 args) w := enters_of Try.func47 (by kernel_rfl) rfl
    simp [invoke, go_sem, eg]
  · refine (each_in (n - 1) (by omega) (w.heap.size + 1) s hs (fun k W => I k W ∧ W.heap[w.heap.size + 1]? = some (.loop (rec .ready none)) ∧ W.heap[w.heap.size]? = some (.deferred (some []))) ?_ (fun k W hk hm h => ⟨hskip k W hk hm h.1, h.2⟩) W1 ⟨hI1, hL1, hK1⟩).mono ?_
    · rintro k W hk hm ⟨hi, hl, hd⟩
      have hlt : w.heap.size + 1 < W.heap.size := (Array.getElem?_eq_some_iff.1 hl).1
      have hy := run_yield (P := Try.prog) (args := #[.int .i64 (k : Nat)]) hl (by rw [hrec]; exact hps.symm)
      rw [hrec] at hy
      refine ⟨fn, _, assign, body, hy, roundIn_of_wpIn hfn (hassign _ k W _ ⟨_, run_beginRound hl (by rw [hrec]), ?_⟩)⟩
      have hl2 : (W.putObj (w.heap.size + 1) (.loop { rec .ready none with state := .busy })).heap[w.heap.size + 1]? = some (.loop { rec .ready none with state := .busy }) := World.putObj_heap_same hlt
      have hd2 : (W.putObj (w.heap.size + 1) (.loop { rec .ready none with state := .busy })).heap[w.heap.size]? = some (.deferred (some [])) := (World.putObj_heap_other (by omega)).trans hd
      refine wpIn_mono (hbody _ k _ hk hm (hI.putObj _ hi (by omega) hl rfl)) ?_
      rintro e a3 W3 hp
      cases e with
      | normal =>
        obtain ⟨hk3, hi3⟩ := hp
        have hl3 := hk3.same _ _ (by omega) hl2 rfl
        have hr := run_endRound (P := Try.prog) none hl3
        have hd3 := hk3.same _ _ (Nat.le_refl _) hd2 rfl
        refine ⟨_, _, hr, rfl, hI.putObj _ hi3 (by omega) hl3 rfl, ?_, (World.putObj_heap_other (by omega)).trans hd3⟩
        rw [hrec]
        exact World.putObj_heap_same (Array.getElem?_eq_some_iff.1 hl3).1
      | ret => exact hp.elim
      | exit id => exact hp.elim
      | goto t => exact hp.elim
      | panic ch => exact hp.elim
      | outgrown => exact hp.elim
    · rintro e W2 ⟨⟨v, rfl⟩, hi, hl, hd⟩
      have h := run_endLoop (P := Try.prog) hl (by rw [hrec]; simp)
      rw [hrec] at h
      exact ⟨none, _, h, hdone _ _ (Nat.le_refl _) (hI.putObj _ hi (by omega) hl rfl) ((World.putObj_heap_other (by omega)).trans hd)⟩
end Go.Proofs.Ytockhhleapbpiaa


/- How many numbers a set has: bits.OnesCount32, count. -/
namespace Go.Proofs.Ytockhhleapbpiaa
open Go.RowKit Go.Shelf

/-- The table of package math/bits: how many bits a byte has. -/
def popT : ByteArray := ⟨(([0, 1, 1, 2, 1, 2, 2, 3, 1, 2, 2, 3, 2, 3, 3, 4, 1, 2, 2, 3, 2, 3, 3, 4, 2, 3, 3, 4, 3, 4, 4, 5, 1, 2, 2, 3, 2, 3, 3, 4, 2, 3, 3, 4, 3, 4, 4, 5, 2, 3, 3, 4, 3, 4, 4, 5, 3, 4, 4, 5, 4, 5, 5, 6].append [1, 2, 2, 3, 2, 3, 3, 4, 2, 3, 3, 4, 3, 4, 4, 5, 2, 3, 3, 4, 3, 4, 4, 5, 3, 4, 4, 5, 4, 5, 5, 6, 2, 3, 3, 4, 3, 4, 4, 5, 3, 4, 4, 5, 4, 5, 5, 6, 3, 4, 4, 5, 4, 5, 5, 6, 4, 5, 5, 6, 5, 6, 6, 7]).append ([1, 2, 2, 3, 2, 3, 3, 4, 2, 3, 3, 4, 3, 4, 4, 5, 2, 3, 3, 4, 3, 4, 4, 5, 3, 4, 4, 5, 4, 5, 5, 6, 2, 3, 3, 4, 3, 4, 4, 5, 3, 4, 4, 5, 4, 5, 5, 6, 3, 4, 4, 5, 4, 5, 5, 6, 4, 5, 5, 6, 5, 6, 6, 7].append [2, 3, 3, 4, 3, 4, 4, 5, 3, 4, 4, 5, 4, 5, 5, 6, 3, 4, 4, 5, 4, 5, 5, 6, 4, 5, 5, 6, 5, 6, 6, 7, 3, 4, 4, 5, 4, 5, 5, 6, 4, 5, 5, 6, 5, 6, 6, 7, 4, 5, 5, 6, 5, 6, 6, 7, 5, 6, 6, 7, 6, 7, 7, 8])).toArray⟩
/-- The numbers of a set below k, rising. -/
def memU (s : List Nat) (k : Nat) : List Nat := (List.range k).filter fun v => decide (v ∈ s)
theorem memU_yes {s : List Nat} {k : Nat} (h : k ∈ s) : memU s (k + 1) = memU s k ++ [k] := by rw [memU, List.range_succ, List.filter_append, memU]; simp [h]
theorem memU_no {s : List Nat} {k : Nat} (h : ¬ k ∈ s) : memU s (k + 1) = memU s k := by rw [memU, List.range_succ, List.filter_append, memU]; simp [h]
theorem memU_mem {s : List Nat} {k v : Nat} : v ∈ memU s k ↔ v < k ∧ v ∈ s := by simp [memU]
theorem memU_len (s : List Nat) (k : Nat) : (memU s k).length ≤ k := by
  have := List.length_filter_le (fun v => decide (v ∈ s)) (List.range k)
  simpa [memU] using this
/-- How many bits a byte has. -/
def popN (m : Nat) : Nat := ((List.range 8).filter fun v => m.testBit v).length
theorem pop_msk (s : List Nat) : popN (mskN s) = (memU s 8).length := by
  rw [popN, memU]
  congr 1
  exact List.filter_congr fun v _ => msk_bit s v
theorem popT_all : ((List.range 256).all fun m => decide (popT.data.toList[m]? = some (UInt8.ofNat (popN m)))) = true := by decide +kernel
theorem popT_at {m : Nat} (h : m < 256) : popT.data.toList[m]? = some (UInt8.ofNat (popN m)) := of_decide_eq_true (List.all_eq_true.1 popT_all m (List.mem_range.2 h))
theorem popT_size : popT.size = 256 := by decide +kernel
theorem popN_le (m : Nat) : popN m ≤ 8 := by
  have := List.length_filter_le (fun v => m.testBit v) (List.range 8)
  simpa [popN] using this

set_option maxRecDepth 100000 in
set_option maxHeartbeats 1000000 in
theorem onesCount_any (m : Nat) (w : World) (hm : m < 256) :
    Calls Try.prog 88 #[.int .u32 (m : Nat)] w fun e w' => e = .returned (.int .i64 (popN m : Nat)) ∧ ∃ k, w' = w.drewN k := by
  have h24 : (m : Int) / 16777216 = 0 := by omega
  have h16 : (m : Int) / 65536 = 0 := by omega
  have h8 : (m : Int) / 256 = 0 := by omega
  have ha : bits BinOp.and IntKind.u32 (m : Nat) 255 = ((m : Nat) : Int) := by
    have e : (255 : Int) = ((255 : Nat) : Int) := rfl
    rw [e, u32_and_nat _ _ (by omega) (by omega), show (255 : Nat) = 2 ^ 8 - 1 from rfl, Nat.and_two_pow_sub_one_eq_mod]
    omega
  have hz : bits BinOp.and IntKind.u32 0 255 = 0 := by decide
  have hsz := popT_size
  have hlt : m < popT.size := by omega
  have hat : ∀ i (h : i < popT.size), popT[i] = UInt8.ofNat (popN i) := fun i h => by
    have h1 := popT_at (m := i) (by omega)
    rw [Array.getElem?_toList] at h1
    obtain ⟨h2, h3⟩ := Array.getElem?_eq_some_iff.1 h1
    exact h3
  have h0 : popT[0]'(by omega) = 0 := hat 0 (by omega)
  obtain ⟨q, hq1, hq2⟩ : ∃ q : UInt8, popT[m]'hlt = q ∧ q.toNat = popN m := ⟨_, hat m hlt, by
    have := popN_le m
    rw [UInt8.toNat_ofNat']
    omega⟩
  have hw0 : IntKind.u8.wrap 0 = 0 := by decide
  have hql := popN_le m
  rw [← hq2] at hql
  have hwq : IntKind.u8.wrap ((q.toNat : Nat) : Int) = ((q.toNat : Nat) : Int) := by
    have : (q.toNat : Int) < 256 := by omega
    rw [IntKind.wrap_u8]
    omega
  have HQ2 := hid hq2
  clear hat hq2
  have hp : popT = ⟨(([0, 1, 1, 2, 1, 2, 2, 3, 1, 2, 2, 3, 2, 3, 3, 4, 1, 2, 2, 3, 2, 3, 3, 4, 2, 3, 3, 4, 3, 4, 4, 5, 1, 2, 2, 3, 2, 3, 3, 4, 2, 3, 3, 4, 3, 4, 4, 5, 2, 3, 3, 4, 3, 4, 4, 5, 3, 4, 4, 5, 4, 5, 5, 6].append [1, 2, 2, 3, 2, 3, 3, 4, 2, 3, 3, 4, 3, 4, 4, 5, 2, 3, 3, 4, 3, 4, 4, 5, 3, 4, 4, 5, 4, 5, 5, 6, 2, 3, 3, 4, 3, 4, 4, 5, 3, 4, 4, 5, 4, 5, 5, 6, 3, 4, 4, 5, 4, 5, 5, 6, 4, 5, 5, 6, 5, 6, 6, 7]).append ([1, 2, 2, 3, 2, 3, 3, 4, 2, 3, 3, 4, 3, 4, 4, 5, 2, 3, 3, 4, 3, 4, 4, 5, 3, 4, 4, 5, 4, 5, 5, 6, 2, 3, 3, 4, 3, 4, 4, 5, 3, 4, 4, 5, 4, 5, 5, 6, 3, 4, 4, 5, 4, 5, 5, 6, 4, 5, 5, 6, 5, 6, 6, 7].append [2, 3, 3, 4, 3, 4, 4, 5, 3, 4, 4, 5, 4, 5, 5, 6, 3, 4, 4, 5, 4, 5, 5, 6, 4, 5, 5, 6, 5, 6, 6, 7, 3, 4, 4, 5, 4, 5, 5, 6, 4, 5, 5, 6, 5, 6, 6, 7, 4, 5, 5, 6, 5, 6, 6, 7, 5, 6, 6, 7, 6, 7, 7, 8])).toArray⟩ := rfl
  go_enter Try.func88, Try.ntmps88
  go_upto_region 1 with fail
  rw [← hp]
  clear hp
  go_quiet (fail)
  go_wp2
  go_ret
  exact ⟨by rw [← HQ2.out]; rfl, _, rfl⟩
end Go.Proofs.Ytockhhleapbpiaa


/- Plain: the order of nodes, each behind its parents, the least first. -/
namespace Go.Proofs.Ytockhhleapbpiaa

/-- May a node come next? -/
def freeB (P : List (List Nat)) (out : List Nat) (v : Nat) : Bool := !decide (v ∈ out) && decide (∀ u ∈ P.getD v [], u ∈ out)
/-- The least that may. -/
def nextV (P : List (List Nat)) (out : List Nat) : Option Nat := (List.range P.length).find? (freeB P out)
/-- Those that stand there behind k steps. -/
def ordN (P : List (List Nat)) : Nat → List Nat
  | 0 => []
  | k + 1 => match nextV P (ordN P k) with
    | some v => ordN P k ++ [v]
    | none => ordN P k
theorem find_range {p : Nat → Bool} : ∀ {n v : Nat}, v < n → p v = true → (∀ u, u < v → p u = false) → (List.range n).find? p = some v := by
  intro n
  induction n with
  | zero => intro v h; omega
  | succ n ih =>
    intro v hv hp hu
    rw [List.range_succ, List.find?_append]
    rcases Nat.lt_or_ge v n with h | h
    · rw [ih h hp hu]; rfl
    · obtain rfl : v = n := by omega
      have : (List.range v).find? p = none := List.find?_eq_none.2 fun u hu' => by rw [hu u (List.mem_range.1 hu')]; decide
      rw [this]
      simp [hp]
theorem next_some {P : List (List Nat)} {out : List Nat} {v : Nat} (hv : v < P.length) (hp : freeB P out v = true) (hu : ∀ u, u < v → freeB P out u = false) : nextV P out = some v := find_range hv hp hu
theorem next_none {P : List (List Nat)} {out : List Nat} (hu : ∀ u, u < P.length → freeB P out u = false) : nextV P out = none := List.find?_eq_none.2 fun u hu' => by rw [hu u (List.mem_range.1 hu')]; decide
theorem ord_some {P : List (List Nat)} {k v : Nat} (h : nextV P (ordN P k) = some v) : ordN P (k + 1) = ordN P k ++ [v] := by rw [ordN, h]
theorem ord_none {P : List (List Nat)} {k : Nat} (h : nextV P (ordN P k) = none) : ∀ j, ordN P (k + j) = ordN P k
  | 0 => rfl
  | j + 1 => by
    have ih := ord_none h j
    show ordN P (k + j + 1) = _
    rw [ordN, ih, h]
theorem ord_stuck {P : List (List Nat)} {k n : Nat} (h : nextV P (ordN P k) = none) (hk : k ≤ n) : ordN P n = ordN P k := by
  have := ord_none h (n - k)
  rwa [show k + (n - k) = n by omega] at this
theorem ord_len (P : List (List Nat)) : ∀ k, (ordN P k).length ≤ k
  | 0 => Nat.le_refl _
  | k + 1 => by
    have := ord_len P k
    rw [ordN]
    cases nextV P (ordN P k) with
    | none => show (ordN P k).length ≤ _; omega
    | some v => show (ordN P k ++ [v]).length ≤ _; rw [List.length_append]; simp; omega
theorem ord_lt (P : List (List Nat)) : ∀ k, ∀ v ∈ ordN P k, v < P.length
  | 0, v, hv => by cases hv
  | k + 1, v, hv => by
    rw [ordN] at hv
    cases e : nextV P (ordN P k) with
    | none => rw [e] at hv; exact ord_lt P k v hv
    | some u =>
      rw [e] at hv
      rcases List.mem_append.1 hv with h | h
      · exact ord_lt P k v h
      · obtain rfl := List.mem_singleton.1 h
        exact List.mem_range.1 (List.mem_of_find?_eq_some e)
theorem ord_full (P : List (List Nat)) {k : Nat} (h : nextV P (ordN P k) = none) (hk : k < P.length) : (ordN P P.length).length < P.length := by
  rw [ord_stuck h (Nat.le_of_lt hk)]
  have := ord_len P k
  omega
/-- The parents, as numbers. -/
def parN (L : List (List Int)) : List (List Nat) := L.map toN
theorem parN_length (L : List (List Int)) : (parN L).length = L.length := by simp [parN]
theorem parN_get {L : List (List Int)} {i : Nat} (h : i < L.length) : (parN L).getD i [] = toN L[i] := by simp [parN, List.getD_eq_getElem?_getD, h]
theorem masks_par (L : List (List Int)) : masks L = (parN L).map mskN := by simp [masks, parN]
theorem iL_append (a b : List Nat) : iL (a ++ b) = iL a ++ iL b := by simp [iL]
/-- What Check answers. -/
def gcE (L : List (List Int)) : Int := if gB L = true then (if (ordN (parN L) L.length).length < L.length then 10 else 0) else 11
end Go.Proofs.Ytockhhleapbpiaa

