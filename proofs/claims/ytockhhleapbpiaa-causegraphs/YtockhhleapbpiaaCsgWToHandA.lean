/- The law CauseGraphs. -/
import Derived.Test.YtockhhleapbpiaaRcDOwn
import Derived.Test.YtockhhleapbpiaaNormBToFilH
import Derived.Test.YtockhhleapbpiaaRefCToRefQ
import Derived.Deep.Strs
import Derived.HandedShaped
import Derived.ProofKit
import Derived.OpenShut
import Derived.ShutString
import Derived.SizedLaws
import Derived.Test.YtockhhleapbpiaaRefRToStepsA
import Derived.Carry
import Derived.Test.YtockhhleapbpiaaSetBToEachA
import Derived.Test.YtockhhleapbpiaaProg
namespace Go.Proofs.Ytockhhleapbpiaa
open Go.RowKit Go.Shelf

set_option maxRecDepth 100000 in
set_option maxHeartbeats 4000000 in
theorem causeGraphs_any (a bx by' bz bv : Option Addr) (ca cx cy cz cv : Nat) (L : List (List Int)) (k : Int) (x y z v : List Int) (s t : Int) (w : World) (hL : LsS w a L) (hx : IntS w bx x) (hy : IntS w by' y) (hz : IntS w bz z) (hv : IntS w bv v) (hx0 : bx = none → cx = 0) (hy0 : by' = none → cy = 0) (hz0 : bz = none → cz = 0) (hv0 : bv = none → cv = 0) (hLl : L.length ≤ 140737488355328 ∧ ∀ l ∈ L, l.length ≤ 140737488355328) (hxl : x.length ≤ 140737488355328) (hyl : y.length ≤ 140737488355328) (hzl : z.length ≤ 140737488355328) (hvl : v.length ≤ 140737488355328) :
    Calls Try.prog 6 #[.slice a L.length ca, .int .i64 k, .slice bx x.length cx, .slice by' y.length cy, .slice bz z.length cz, .slice bv v.length cv, .int .i64 s, .int .i64 t] w fun e w' => e = .returned (.bool true) ∧ Below w.heap.size w w' := by
  have HH1 := hid (heavyLists_any a ca L w hL hLl.2 hLl.1)
  have HC : Hid (L.length ≤ 512 → (∀ l ∈ L, l.length ≤ 512) → x.length ≤ 512 → y.length ≤ 512 → z.length ≤ 512 → v.length ≤ 512 → ∀ U : World, Below w.heap.size w U →
      (∃ rb re, (Calls Try.prog 28 #[.slice a L.length ca, .int .i64 k, .slice bx x.length cx, .slice by' y.length cy, .slice bz z.length cz, .slice bv v.length cv] U fun e w' => e = .returned (.tuple #[.bool rb, .int .i64 re]) ∧ Below U.heap.size U w') ∧ ∀ U' : World, Below U.heap.size U U' → Calls Try.prog 29 #[.slice a L.length ca, .int .i64 k, .slice bx x.length cx, .slice by' y.length cy, .slice bz z.length cz, .slice bv v.length cv] U' fun e w' => e = .returned (.tuple #[.bool rb, .int .i64 re]) ∧ Below U'.heap.size U' w') ∧
      (∃ rb re, (Calls Try.prog 30 #[.slice a L.length ca, .int .i64 s, .int .i64 t, .slice bz z.length cz] U fun e w' => e = .returned (.tuple #[.bool rb, .int .i64 re]) ∧ Below U.heap.size U w') ∧ ∀ U' : World, Below U.heap.size U U' → Calls Try.prog 31 #[.slice a L.length ca, .int .i64 s, .int .i64 t, .slice bz z.length cz] U' fun e w' => e = .returned (.tuple #[.bool rb, .int .i64 re]) ∧ Below U'.heap.size U' w') ∧
      ∃ rb re, (Calls Try.prog 32 #[.slice a L.length ca, .int .i64 s, .int .i64 t, .slice bz z.length cz] U fun e w' => e = .returned (.tuple #[.bool rb, .int .i64 re]) ∧ Below U.heap.size U w') ∧ ∀ U' : World, Below U.heap.size U U' → Calls Try.prog 33 #[.slice a L.length ca, .int .i64 s, .int .i64 t, .slice bz z.length cz] U' fun e w' => e = .returned (.tuple #[.bool rb, .int .i64 re]) ∧ Below U'.heap.size U' w') := fun h1 h2 h3 h4 h5 h6 U hU => by
    have hl1 : ∀ l ∈ L, l.length ≤ 1000 := fun l hl => by have := h2 l hl; omega
    have hU2 : ∀ U' : World, Below U.heap.size U U' → Below w.heap.size w U' := fun U' h => hU.trans (h.mono hU.size)
    refine ⟨⟨_, _, cRule_any a bx by' bz bv ca cx cy cz cv L k x y z v U (hL.below hU) hl1 (hx.below hU) (hy.below hU) (hz.below hU) (hv.below hU) hx0 hy0 hz0 hv0 (by omega) (by omega) (by omega) (by omega), fun U' h => rRule_any a bx by' bz bv ca cx cy cz cv L k x y z v U' (hL.below (hU2 U' h)) hl1 (by omega) (hx.below (hU2 U' h)) (hy.below (hU2 U' h)) (hz.below (hU2 U' h)) (hv.below (hU2 U' h)) (by omega) (by omega) (by omega) (by omega)⟩, ⟨_, _, cBack_any a bz ca cz L s t z U (hL.below hU) hl1 (hz.below hU) hz0 (by omega), fun U' h => rBack_any a bz ca cz L s t z U' (hL.below (hU2 U' h)) hl1 (by omega) (hz.below (hU2 U' h)) (by omega)⟩, ⟨_, _, cFront_any a bz ca cz L s t z U (hL.below hU) hl1 (hz.below hU) hz0 (by omega), fun U' h => rFront_any a bz ca cz L s t z U' (hL.below (hU2 U' h)) hl1 (by omega) (hz.below (hU2 U' h)) (by omega)⟩⟩
  clear hL hx hy hz hv hx0 hy0 hz0 hv0
  go_enter Try.func6, Try.ntmps6
  go_wp2_with fail
  refine HH1.out.mono ?_
  rintro e w1 ⟨q1, rfl, hq1, rfl⟩
  cases q1 with
  | true =>
    clear hq1
    go_wp2
    go_ret
    exact ⟨rfl, Below.refl _ _⟩
  | false =>
    obtain ⟨hn1, hn2⟩ := hq1 rfl
    have HNS := hid hn2
    clear hq1 hn2 HH1
    by_cases hbig : 512 < x.length + y.length + z.length + v.length
    · go_wp2
      go_ret
      exact ⟨rfl, Below.refl _ _⟩
    · have HC1 := hid (HC.out hn1 HNS.out (by omega) (by omega) (by omega) (by omega))
      clear HC
      obtain ⟨⟨rb, re, hA, hB⟩, _, _⟩ := HC1.out _ (Below.refl _ _)
      have HA := hid hA
      have HBR := hid hB
      clear hA hB
      have hnb : (rb != rb) = false := bne_self_eq_false _
      have hne : (re != re) = false := bne_self_eq_false _
      go_wp2_with fail
      refine HA.out.mono ?_
      rintro e w2 ⟨rfl, hb2⟩
      have HB2 := hid hb2
      have HR := hid (HBR.out w2 hb2)
      clear hb2 HA HBR
      go_wp2_with fail
      refine HR.out.mono ?_
      rintro e w3 ⟨rfl, hb3⟩
      have HB3 := hid (HB2.out.trans (hb3.mono HB2.out.size))
      clear hb3 HR
      obtain ⟨_, ⟨rb2, re2, hA, hB⟩, _⟩ := HC1.out _ HB3.out
      have HA := hid hA
      have HBR := hid hB
      clear hA hB
      have hnb2 : (rb2 != rb2) = false := bne_self_eq_false _
      have hne2 : (re2 != re2) = false := bne_self_eq_false _
      go_wp2_with fail
      refine HA.out.mono ?_
      rintro e w4 ⟨rfl, hb4⟩
      have HB4 := hid (HB3.out.trans (hb4.mono HB3.out.size))
      have HR := hid (HBR.out w4 hb4)
      clear hb4 HA HBR hnb hne
      go_wp2_with fail
      refine HR.out.mono ?_
      rintro e w5 ⟨rfl, hb5⟩
      have HB5 := hid (HB4.out.trans (hb5.mono HB4.out.size))
      clear hb5 HR
      obtain ⟨_, _, rb3, re3, hA, hB⟩ := HC1.out _ HB5.out
      have HA := hid hA
      have HBR := hid hB
      clear hA hB
      have hnb3 : (rb3 == rb3) = true := beq_self_eq_true _
      have hne3 : (re3 == re3) = true := beq_self_eq_true _
      go_wp2_with fail
      refine HA.out.mono ?_
      rintro e w6 ⟨rfl, hb6⟩
      have HB6 := hid (HB5.out.trans (hb6.mono HB5.out.size))
      have HR := hid (HBR.out w6 hb6)
      clear hb6 HA HBR hnb2 hne2
      go_wp2_with fail
      refine HR.out.mono ?_
      rintro e w7 ⟨rfl, hb7⟩
      have HB7 := hid (HB6.out.trans (hb7.mono HB6.out.size))
      clear hb7 HR
      go_wp2
      go_ret
      exact ⟨rfl, HB7.out⟩
end Go.Proofs.Ytockhhleapbpiaa


/- A lifting that hands on the world's shape beside what the row lists; fractions opened and shut. -/
namespace Go.Proofs.Ytockhhleapbpiaa
open Go.ChangeShapes Go.WideShapes Go.ChangeAt Go.RowKit

theorem lift_shaped {H : Type} {enc : TypeId × Value → H} {a : Assume} {C : Checked} {os : Os} {f : FuncId} {fn : Func} {s : ChangeSpec} {conds : List PathCond} {apart fresh handsOn again : Bool} {X : World → Array Value → Prop}
    (hX : ∀ (w w' : World) (args : Array Value), w.heap = w'.heap → X w args → X w' args)
    (own : ownKnob C.prog.godebug = none) (started : os.Started) (noInit : C.prog.inits.idxOf? f = none) (hfn : C.prog.funcs[f]? = some fn)
    (witness : ∃ (w : World) (tape : Tape) (i : Input), w.os = os ∧ (w.forCall tape i).Shaped C.prog ∧ i.vars = [] ∧ Input.okWide C.prog (w.forCall tape i) .any w.heap.size f i ∧
      ((s.pre enc C.prog fn conds apart (w.forCall tape i).memory i.args ∧ X (w.forCall tape i).memory i.args) ∧ sizedMet enc C.prog fn (OpenSpec.ofChange s) apart (w.forCall tape i).memory i.args) ∧ a.holds C.prog (lone (Frame.enter C.prog f i.args .normal) [] (w.forCall tape i)))
    (walk : ∀ (W : World) (base : Nat) (args : Array Value) (ds gs : List (DataW H)) (before : List MemPlace),
      (∀ (j : Nat) t v, fn.params[j]? = some t → args[j]? = some v → Value.okWide C.prog W .any base t v) →
      DataW.Whole enc C.prog fn.params.toList s.vars apart W args.toList ds gs before →
      (DataW.weightsEach C.prog (fn.params.toList ++ s.plain.varTypes C.prog) (ds ++ gs)).all (· ≤ reachBytes) = true → X W args → W.ShapedOpen C.prog →
      Calls C.prog f args W fun e W' => ∃ v, e = .returned v ∧ s.post enc C.prog fn apart fresh handsOn again W args v W') :
    ReturnsInHanded a C os f .any (fun w args => (s.pre enc C.prog fn conds apart w args ∧ X w args) ∧ sizedMet enc C.prog fn (OpenSpec.ofChange s) apart w args) (s.post enc C.prog fn apart fresh handsOn again) := by
  refine returnsInHanded_of_calls own started noInit witness ?_
  intro w tape i _ hsh _ hok hpre _
  obtain ⟨_, _, _, fn', hfn', _, _, _, _, hval⟩ := hok
  obtain rfl : fn' = fn := Option.some.inj (hfn'.symm.trans hfn)
  obtain ⟨⟨⟨ds, gs, before, hw, _⟩, hx⟩, hz⟩ := hpre
  refine (walk (w.forCall tape i) w.heap.size i.args ds gs before hval (DataW.Whole.of_heap (w' := w.forCall tape i) (by rfl) hw) (hz.weights hw) (hX _ _ _ (by rfl) hx) hsh).mono fun e W' ⟨v, he, hp⟩ => ?_
  subst he
  exact ChangeSpec.post_blind hp

theorem cellsB : Try.prog.cellsOf 4 = 1 := by kernel_rfl
end Go.Proofs.Ytockhhleapbpiaa


/- A slice of fractions that came in, opened. -/
namespace Go.Proofs.Ytockhhleapbpiaa
open Go.ChangeShapes Go.WideShapes Go.ChangeAt Go.RowKit

theorem cell_lt {w : World} {a : Addr} {v : Value} (h : w.cell? a = some v) : a.block < w.heap.size := by
  rcases Nat.lt_or_ge a.block w.heap.size with h1 | h1
  · exact h1
  · simp [World.cell?, Array.getElem?_eq_none h1] at h
/-- What a fraction reads as. -/
def fd {H : Type} (f : Fr) : DataW H := .agg [.lit (.bool f.1), .lit (.string f.2.1.data.toList), .lit (.string f.2.2.data.toList)]
theorem weights_all {H : Type} {P : Program} {e : TypeId} {n : Nat} : ∀ {l : List (DataW H)} {d : DataW H}, d ∈ l → n ∈ d.weights P e → n ∈ DataW.weightsAll P e l
  | x :: l, d, hd, hn => by
    simp only [DataW.weightsAll, List.mem_append]
    rcases List.mem_cons.1 hd with rfl | hd
    · exact .inl hn
    · exact .inr (weights_all hd hn)
end Go.Proofs.Ytockhhleapbpiaa


/- Both answer alike: each call on tables, in package table and in the document's answer. -/
namespace Go.Proofs.Ytockhhleapbpiaa
open Go.RowKit Go.Shelf

/-- Both answer the same table and error. -/
def TwoT (w : World) (f g : FuncId) (args : Array Value) : Prop := ∃ (V : List Int) (L : List Fr) (k : Int), V.length ≤ 100000 ∧ L.length ≤ 100000 ∧
  (∀ W, Below w.heap.size w W → Calls Try.prog f args W fun e w' => TabA V L k e w' ∧ Below W.heap.size W w') ∧ ∀ W, Below w.heap.size w W → Calls Try.prog g args W fun e w' => TabA V L k e w' ∧ Below W.heap.size W w'
/-- A table that came in. -/
structure TIn (w : World) (b c : Option Addr) (cb : Nat) (vars : List Int) (l : List Fr) : Prop where
  ints : IntS w b vars
  cells : FrS w c l
  nil : b = none → cb = 0
  len : vars.length ≤ 4096
  small : fw l ≤ 8192
theorem TIn.below {w w' : World} {b c : Option Addr} {cb : Nat} {vars : List Int} {l : List Fr} (h : TIn w b c cb vars l) (hb : Below w.heap.size w w') : TIn w' b c cb vars l := ⟨h.ints.below hb, h.cells.below hb, h.nil, h.len, h.small⟩
theorem cnt_all {sizes vars : List Int} (h1 : Fine sizes) (h2 : Up vars sizes.length) : cnt (toN sizes) (toN vars) ≤ 65536 := cnt_small h1.sz_le (by rw [toN_length]; have := h1.eight; have := h2.length; omega)
end Go.Proofs.Ytockhhleapbpiaa


/- Lists of ints and tables that came in, opened. -/
namespace Go.Proofs.Ytockhhleapbpiaa
open Go.ChangeShapes Go.WideShapes Go.ChangeAt Go.RowKit

/-- What an int reads as. -/
def idt {H : Type} (x : Int) : DataW H := .lit (.int .i64 x)
theorem cellsI : Try.prog.cellsOf 3 = 1 := by kernel_rfl
theorem cellsIs : Try.prog.cellsOf 23 = 1 := by kernel_rfl
set_option maxRecDepth 100000 in
theorem trod_ints {H : Type} {enc : TypeId × Value → H} {W : World} {fuel : Nat} {cs : List Value} {x : DataW H × List MemPlace} (hf : DataW.trod enc Try.prog W 0 (fun _ => true) true fuel 23 cs = some x) :
    ∃ (a : Option Addr) (cap : Nat) (l : List Int), cs = [.slice a l.length cap] ∧ IntS W a l ∧ (a = none → cap = 0) ∧ ((x.1 = .nil ∧ l = []) ∨ ∃ rest, x.1 = .slice (l.map idt) rest) ∧ ∀ y ∈ l, -9223372036854775808 ≤ y ∧ y ≤ 9223372036854775807 := by
  rcases Deep.open_slice Try.underlying23 hf with ⟨hcs, hx⟩ | ⟨a', len, cap, m, n, D, Pl, hcs, hb, hl, hm, hmm, hx, hel⟩
  · exact ⟨none, 0, [], hcs, fun k hk => absurd hk (by simp), fun _ => rfl, .inl ⟨by rw [hx], rfl⟩, fun _ h => by cases h⟩
  · have hlm : len ≤ m := by rw [hmm]; split <;> omega
    rw [cellsI] at hel
    have each : ∀ i, i < len → ∃ z : Int, (W.cell? (a'.add (i * 1)) = some (.int .i64 z) ∧ -9223372036854775808 ≤ z ∧ z ≤ 9223372036854775807) ∧ D i = idt z := by
      intro i hi
      obtain ⟨cs', h1, h2⟩ := hel i (by omega)
      obtain ⟨_, hlen, hcell⟩ := World.cells?_some h1
      obtain ⟨z, e0, hxx, hwf⟩ := DataW.trod_int Try.underlying3 h2
      subst e0
      simp only [Prod.mk.injEq] at hxx
      have g0 := hcell 0 (by omega)
      rw [Deep.add_add] at g0
      exact ⟨z, ⟨by simpa using g0, bounds_i64 hwf⟩, hxx.1⟩
    obtain ⟨f, hf2⟩ := Deep.choose_lt (α := Int) each
    refine ⟨some a', cap, (List.range len).map f, by rw [hcs]; simp, ?_, fun e => by (cases e), .inr ⟨(List.range (m - len)).map fun j => D (len + j), ?_⟩, ?_⟩
    · intro k hk
      have hk' : k < len := by simpa using hk
      obtain ⟨⟨g0, _⟩, _⟩ := hf2 k hk'
      obtain ⟨⟨z0, _⟩, _⟩ := hf2 0 (by omega)
      have hsp := World.cell?_spot z0
      obtain ⟨bb, oo, sp⟩ := a'
      rw [Nat.zero_mul] at hsp
      simp [Addr.add] at hsp
      subst hsp
      rw [add_plain] at g0
      refine ⟨bb, oo, rfl, cell_lt g0, ?_⟩
      simpa using g0
    · rw [hx]
      show DataW.slice _ _ = DataW.slice _ _
      congr 1
      rw [List.map_map]
      exact List.map_congr_left fun i hi => (hf2 i (List.mem_range.1 hi)).2
    · intro y hy
      obtain ⟨i, hi, rfl⟩ := List.mem_map.1 hy
      exact (hf2 i (List.mem_range.1 hi)).1.2
set_option maxRecDepth 100000 in
theorem open_ints {H : Type} {enc : TypeId × Value → H} {W : World} {r : Reach} {b0 : Nat} {v : Value} {d : DataW H} {p : List MemPlace} (hval : Value.okWide Try.prog W r b0 23 v) (h : DataW.Trod enc Try.prog W 0 (fun _ => true) true 23 v d p) :
    ∃ (a : Option Addr) (cap : Nat) (l : List Int), v = .slice a l.length cap ∧ IntS W a l ∧ (a = none → cap = 0) ∧ ((d = .nil ∧ l = []) ∨ ∃ rest, d = .slice (l.map idt) rest) ∧ ∀ x ∈ l, -9223372036854775808 ≤ x ∧ x ≤ 9223372036854775807 := by
  obtain ⟨a, len, cap, rfl⟩ := okWide_slice Try.underlying23 hval
  obtain ⟨fuel, hf⟩ := h
  obtain ⟨a', cap', l, hcs, hi, h0, hd, hr⟩ := trod_ints hf
  simp [Value.cells] at hcs
  obtain ⟨rfl, rfl, rfl⟩ := hcs
  exact ⟨a, cap, l, rfl, hi, h0, hd, hr⟩
theorem bytesI : Try.prog.bytesOf 3 = 8 := by kernel_rfl
theorem sized_ints {H : Type} {ts : List TypeId} {ds : List (DataW H)} (h : (DataW.weightsEach Try.prog ts ds).all (· ≤ reachBytes) = true) {j : Nat} {l : List Int} {d : DataW H} (ht : ts[j]? = some 23) (hd : ds[j]? = some d) (hl : (d = .nil ∧ l = []) ∨ ∃ rest, d = .slice (l.map idt) rest) :
    l.length ≤ 140737488355328 := by
  rcases hl with ⟨_, rfl⟩ | ⟨rest, rfl⟩
  · simp
  have h1 := List.all_eq_true.1 h _ (DataW.weights_mem_each ht hd (((l.map (idt (H := H))).length + rest.length) * Try.prog.bytesOf 3) (by simp [DataW.weights, Try.underlying23]))
  have h1' : ((l.map (idt (H := H))).length + rest.length) * Try.prog.bytesOf 3 ≤ reachBytes := by simpa using h1
  rw [bytesI, List.length_map] at h1'
  simp only [reachBytes] at h1'
  omega
end Go.Proofs.Ytockhhleapbpiaa


/- Lists of lists of ints that came in, opened. -/
namespace Go.Proofs.Ytockhhleapbpiaa
open Go.ChangeShapes Go.WideShapes Go.ChangeAt Go.RowKit

/-- What lists of lists read as. -/
def LLD {H : Type} (d : DataW H) (L : List (List Int)) : Prop := (d = .nil ∧ L = []) ∨ ∃ (E rest : List (DataW H)), d = .slice E rest ∧ E.length = L.length ∧ ∀ k (h : k < L.length) (h' : k < E.length), (E[k] = .nil ∧ L[k] = []) ∨ ∃ rest, E[k] = .slice (L[k].map idt) rest
set_option maxRecDepth 100000 in
theorem trod_rows {H : Type} {enc : TypeId × Value → H} {W : World} {fuel : Nat} {cs : List Value} {x : DataW H × List MemPlace} (hf : DataW.trod enc Try.prog W 0 (fun _ => true) true fuel 22 cs = some x) :
    ∃ (a : Option Addr) (cap : Nat) (L : List (List Int)), cs = [.slice a L.length cap] ∧ LsS W a L ∧ LLD x.1 L := by
  rcases Deep.open_slice Try.underlying22 hf with ⟨hcs, hx⟩ | ⟨a', len, cap, m, n, D, Pl, hcs, hb, hl, hm, hmm, hx, hel⟩
  · exact ⟨none, 0, [], hcs, fun k hk => absurd hk (by simp), .inl ⟨by rw [hx], rfl⟩⟩
  · have hlm : len ≤ m := by rw [hmm]; split <;> omega
    rw [cellsIs] at hel
    have each : ∀ i, i < len → ∃ z : Option Addr × Nat × List Int, W.cell? (a'.add (i * 1)) = some (.slice z.1 z.2.2.length z.2.1) ∧ IntS W z.1 z.2.2 ∧ ((D i = .nil ∧ z.2.2 = []) ∨ ∃ rest, D i = .slice (z.2.2.map idt) rest) := by
      intro i hi
      obtain ⟨cs', h1, h2⟩ := hel i (by omega)
      obtain ⟨_, hlen, hcell⟩ := World.cells?_some h1
      obtain ⟨b, c, l, e0, h3, _, h4, _⟩ := trod_ints h2
      subst e0
      have g0 := hcell 0 (by omega)
      rw [Deep.add_add] at g0
      exact ⟨(b, c, l), by simpa using g0, h3, h4⟩
    obtain ⟨f, hf2⟩ := Deep.choose_lt (α := Option Addr × Nat × List Int) each
    refine ⟨some a', cap, (List.range len).map fun i => (f i).2.2, by rw [hcs]; simp, ?_, .inr ⟨(List.range len).map D, (List.range (m - len)).map fun j => D (len + j), by rw [hx], by simp, ?_⟩⟩
    · intro k hk
      have hk' : k < len := by simpa using hk
      obtain ⟨g0, h3, _⟩ := hf2 k hk'
      obtain ⟨z0, _⟩ := hf2 0 (by omega)
      have hsp := World.cell?_spot z0
      obtain ⟨bb, oo, sp⟩ := a'
      rw [Nat.zero_mul] at hsp
      simp [Addr.add] at hsp
      subst hsp
      rw [add_plain] at g0
      refine ⟨bb, oo, (f k).1, (f k).2.1, rfl, cell_lt g0, ?_, ?_⟩
      · simpa using g0
      · simpa using h3
    · intro k hk hk'
      have hk2 : k < len := by simpa using hk
      simpa using (hf2 k hk2).2.2
set_option maxRecDepth 100000 in
theorem open_rows {H : Type} {enc : TypeId × Value → H} {W : World} {r : Reach} {b0 : Nat} {v : Value} {d : DataW H} {p : List MemPlace} (hval : Value.okWide Try.prog W r b0 22 v) (h : DataW.Trod enc Try.prog W 0 (fun _ => true) true 22 v d p) :
    ∃ (a : Option Addr) (cap : Nat) (L : List (List Int)), v = .slice a L.length cap ∧ LsS W a L ∧ LLD d L := by
  obtain ⟨a, len, cap, rfl⟩ := okWide_slice Try.underlying22 hval
  obtain ⟨fuel, hf⟩ := h
  obtain ⟨a', cap', l, hcs, hi, hd⟩ := trod_rows hf
  simp [Value.cells] at hcs
  obtain ⟨rfl, rfl, rfl⟩ := hcs
  exact ⟨a, cap, l, rfl, hi, hd⟩
theorem bytesIs2 : Try.prog.bytesOf 23 = 24 := by kernel_rfl
theorem sized_rows {H : Type} {ts : List TypeId} {ds : List (DataW H)} (h : (DataW.weightsEach Try.prog ts ds).all (· ≤ reachBytes) = true) {j : Nat} {L : List (List Int)} {d : DataW H} (ht : ts[j]? = some 22) (hd : ds[j]? = some d) (hL : LLD d L) : L.length ≤ 140737488355328 ∧ ∀ l ∈ L, l.length ≤ 140737488355328 := by
  rcases hL with ⟨_, rfl⟩ | ⟨E, rest, rfl, he, hp⟩
  · exact ⟨by simp, fun x hx => by cases hx⟩
  have hw : ∀ n, n ∈ (DataW.slice E rest).weights Try.prog 22 → n ≤ reachBytes := fun n hn => by
    have := List.all_eq_true.1 h n (DataW.weights_mem_each ht hd n hn)
    simpa using this
  constructor
  · have h1 := hw ((E.length + rest.length) * Try.prog.bytesOf 23) (by simp [DataW.weights, Try.underlying22])
    rw [bytesIs2, he] at h1
    simp only [reachBytes] at h1
    omega
  · intro x hx
    obtain ⟨k, hk, rfl⟩ := List.getElem_of_mem hx
    have hkE : k < E.length := by omega
    refine sized_ints (ts := [23]) (ds := [E[k]]) (List.all_eq_true.2 fun n hn => decide_eq_true (hw n ?_)) (j := 0) rfl rfl (hp k hk hkE)
    have hn' : n ∈ E[k].weights Try.prog 23 := by simpa [DataW.weightsEach] using hn
    simp only [DataW.weights, Try.underlying22, List.mem_cons, List.mem_append]
    exact .inr (.inl (weights_all (List.getElem_mem hkE) hn'))
end Go.Proofs.Ytockhhleapbpiaa


/- Arguments that a call has left alone read as before. -/
namespace Go.Proofs.Ytockhhleapbpiaa
open Go.ChangeShapes Go.WideShapes Go.ChangeAt Go.RowKit

theorem below_all {H : Type} {enc : TypeId × Value → H} {P : Program} (hl : laidOutB P = true) {W W' : World} (hb : Below W.heap.size W W') : ∀ {ts : List TypeId} {vs : List Value} {ds : List (DataW H)} {ps : List MemPlace},
    (ts.all fun t => P.readableRec t && decide (t < P.types.size)) = true → DataW.TrodAll enc P W 0 (fun _ => true) true ts vs ds ps → DataW.TrodAll enc P W' 0 (fun b => decide (b < W.heap.size)) true ts vs ds ps
  | [], [], [], _, _, h => h
  | t :: ts, v :: vs, d :: ds, _, ht, ⟨p, q, h, hr, e⟩ => by
    rw [List.all_cons, Bool.and_eq_true, Bool.and_eq_true] at ht
    refine ⟨p, q, Below.trod hl ht.1.1 (of_decide_eq_true ht.1.2) h hb ?_, below_all hl hb ht.2 hr, e⟩
    obtain ⟨m, hm⟩ := h
    exact DataW.trod_lt m _ _ _ hm
  | [], _ :: _, _, _, _, h => by simp [DataW.TrodAll] at h
  | [], [], _ :: _, _, _, h => by simp [DataW.TrodAll] at h
  | _ :: _, [], _, _, _, h => by simp [DataW.TrodAll] at h
  | _ :: _, _ :: _, [], _, _, h => by simp [DataW.TrodAll] at h
end Go.Proofs.Ytockhhleapbpiaa

