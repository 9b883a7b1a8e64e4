/- Print of package net. -/
import Derived.Test.YtmdjhefcohcjhaaGreatDoorPrnGOwn
import Derived.Test.YtmdjhefcohcjhaaGreatDoorPrnEOwn
import Derived.Test.YtmdjhefcohcjhaaGreatDoorFracFToRefR
import Derived.Deep.Strs
import Derived.HandedShaped
import Derived.ProofKit
import Derived.OpenShut
import Derived.ShutString
import Derived.SizedLaws
import Derived.Test.YtmdjhefcohcjhaaGreatDoorRefSToTabR5
import Derived.Carry
import Derived.Test.YtmdjhefcohcjhaaGreatDoorStandCToSliB
import Derived.Laws.EntriesVeiled
import Derived.Test.YtmdjhefcohcjhaaGreatDoorRtEToTextC
import Derived.Test.YtmdjhefcohcjhaaGreatDoorNetEOwn
import Derived.Test.YtmdjhefcohcjhaaGreatDoorPrnCToHvyA
namespace Go.Proofs.YtmdjhefcohcjhaaGreatDoor
open Go.RowKit Go.Shelf

set_option maxRecDepth 100000 in
set_option maxHeartbeats 2000000 in
theorem nPrint_any (a b c : Option Addr) (ca cb cc : Nat) (V : List Vr) (L : List (List Int)) (R : List (List Fr)) (w : World) (h : NetI w a b c V L R) (hs : NSm V L R) (htab : Lib.TabIs Tryz.prog w "internal/strconv.uint64pow10" .u64 Lib.pow10Tab) :
    Calls Tryz.prog 5 #[.agg #[.slice a V.length ca, .slice b L.length cb, .slice c R.length cc]] w fun e w' => e = .returned (.tuple #[.string (prT V L R), .int .i64 (prE V L R)]) ∧ Below w.heap.size w w' := by
  have HI := hid h
  have HTB := hid htab
  have HCK := hid (fun (U : World) (hU : NetI U a b c V L R) => check_any a b c ca cb cc V L R U hU hs)
  have HWR := hid (fun (h0 : netE V L R = 0) (U : World) (hU : NetI U a b c V L R) (hT : Lib.TabIs Tryz.prog U "internal/strconv.uint64pow10" .u64 Lib.pow10Tab) => write_any a b c ca cb cc V L R U hU hs h0 hT)
  have HK0 := hid (NK.new w (.slice a V.length ca) (.slice b L.length cb) (.slice c R.length cc))
  obtain ⟨c0, c1, c2⟩ := HK0.out.1.cells
  have HLE := hid (fun (h0 : netE V L R = 0) => (prS_of hs (netE_ok h0)).two V.length (Nat.le_refl _))
  clear h hs htab
  go_enter Tryz.func5, Tryz.ntmps5
  go_wp2_with fail
  generalize (w.alloc (NC (.slice a V.length ca) (.slice b L.length cb) (.slice c R.length cc))) = w1 at *
  refine (HCK.out _ (HI.out.below HK0.out.2)).mono ?_
  rintro e w2 ⟨rfl, hb⟩
  have HK := hid (HK0.out.step hb)
  clear hb HK0 c0 c1 c2 HCK
  obtain ⟨c0, c1, c2⟩ := HK.out.1.cells
  by_cases h0 : netE V L R = 0
  case neg =>
    have HE := hid (prE_bad h0)
    generalize netE V L R = ne at *
    have hnb : (ne == 0) = false := by simpa using h0
    clear h0
    go_wp2
    go_ret2
    exact ⟨by rw [HE.out.1, HE.out.2]; rfl, HK.out.2⟩
  case pos =>
    have HRES := hid (prE_of h0)
    have HW := hid (HWR.out h0)
    have hle : (netL V L R).length ≤ 400000000000 := HLE.out h0
    rw [h0]
    have hsz := tx_size (netL V L R)
    go_wp2_with fail
    refine (HW.out _ (HI.out.below HK.out.2) (tab_below HTB.out HK.out.2)).mono ?_
    rintro e w3 ⟨rfl, hb⟩
    have HB := hid (HK.out.2.trans (hb.mono HK.out.2.size))
    clear hb c0 c1 c2
    by_cases h20 : (netL V L R).length ≤ 20000
    · have HR := hid (HRES.out.1 h20)
      have hsi : ((tx (netL V L R)).size : Int) ≤ 20000 := by omega
      clear hsz h20
      generalize tx (netL V L R) = S at *
      go_wp2
      go_ret2
      exact ⟨by rw [HR.out.1, HR.out.2]; rfl, HB.out⟩
    · have HR := hid (HRES.out.2 (by omega))
      have hsi : (20000 : Int) < ((tx (netL V L R)).size : Int) := by omega
      clear hsz h20
      generalize tx (netL V L R) = S at *
      go_wp2
      go_ret2
      exact ⟨by rw [HR.out.1, HR.out.2]; rfl, HB.out⟩
end Go.Proofs.YtmdjhefcohcjhaaGreatDoor


/- The law NetPrints answers true: package net's text of a net is the document's. -/
namespace Go.Proofs.YtmdjhefcohcjhaaGreatDoor
open Go.RowKit Go.Shelf

set_option maxRecDepth 100000 in
set_option maxHeartbeats 2000000 in
theorem netPrints_walk (a b c : Option Addr) (ca cb cc : Nat) (V : List Vr) (L : List (List Int)) (R : List (List Fr)) (w : World) (h : NetI w a b c V L R) (hu : NHu V L R) (htab : Lib.TabIs Tryz.prog w "internal/strconv.uint64pow10" .u64 Lib.pow10Tab) :
    Calls Tryz.prog 3 #[.agg #[.slice a V.length ca, .slice b L.length cb, .slice c R.length cc]] w fun e w' => e = .returned (.bool true) ∧ Below w.heap.size w w' := by
  have HI := hid h
  have HU := hid hu
  have HTB := hid htab
  clear h hu htab
  have hD := NK.new w (.slice a V.length ca) (.slice b L.length cb) (.slice c R.length cc)
  obtain ⟨c0, c1, c2⟩ := hD.1.cells
  go_enter Tryz.func3, Tryz.ntmps3
  go_wp2_with fail
  generalize (w.alloc (NC (.slice a V.length ca) (.slice b L.length cb) (.slice c R.length cc))) = z0 at *
  refine (heavyNet_any a b c ca cb cc V L R _ (HI.out.below hD.2) HU.out).mono ?_
  rintro e z1 ⟨⟨r, rfl, hr⟩, hb⟩
  replace hD := hD.step hb
  clear c0 c1 c2 hb
  cases r
  case true =>
    clear hr
    go_wp2
    go_ret
    exact ⟨rfl, hD.2⟩
  case false =>
    obtain ⟨hsm, -⟩ := nsm_of (hr rfl)
    clear hr
    have HP1 := hid (fun (U : World) (hU : NetI U a b c V L R) (hT : Lib.TabIs Tryz.prog U "internal/strconv.uint64pow10" .u64 Lib.pow10Tab) => nPrint_any a b c ca cb cc V L R U hU hsm hT)
    have HP2 := hid (fun (U : World) (hU : NetI U a b c V L R) => rNetPrint_any a b c ca cb cc V L R U hU hsm)
    clear hsm
    generalize prE V L R = pe at *
    generalize prT V L R = pt at *
    obtain ⟨c0, c1, c2⟩ := hD.1.cells
    go_wp2_with fail
    refine (HP1.out _ (HI.out.below hD.2) (tab_below HTB.out hD.2)).mono ?_
    rintro e z2 ⟨rfl, hb⟩
    replace hD := hD.step hb
    clear c0 c1 c2 hb
    obtain ⟨c0, c1, c2⟩ := hD.1.cells
    go_wp2_with fail
    refine (HP2.out _ (HI.out.below hD.2)).mono ?_
    rintro e z3 ⟨rfl, hb⟩
    replace hD := hD.step hb
    clear c0 c1 c2 hb
    go_wp2
    go_ret
    exact ⟨by simp, hD.2⟩
end Go.Proofs.YtmdjhefcohcjhaaGreatDoor


/- A lifting that hands on the world's shape beside what the row lists; fractions opened and shut. -/
namespace Go.Proofs.YtmdjhefcohcjhaaGreatDoor
open Go.ChangeShapes Go.WideShapes Go.ChangeAt Go.RowKit

theorem lift_shaped {H : Type} {enc : TypeId × Value → H} {a : Assume} {C : Checked} {os : Os} {f : FuncId} {fn : Func} {s : ChangeSpec} {conds : List PathCond} {apart fresh handsOn again : Bool} {X : World → Array Value → Prop}
    (hX : ∀ (w w' : World) (args : Array Value), w.heap = w'.heap → X w args → X w' args)
    (own : ownKnob C.prog.godebug = none) (started : os.Started) (noInit : C.prog.inits.idxOf? f = none) (hfn : C.prog.funcs[f]? = some fn)
    (witness : ∃ (w : World) (tape : Tape) (i : Input), w.os = os ∧ (w.forCall tape i).Shaped C.prog ∧ i.vars = [] ∧ Input.okWide C.prog (w.forCall tape i) .any w.heap.size f i ∧
      ((s.pre enc C.prog fn conds apart (w.forCall tape i).memory i.args ∧ X (w.forCall tape i).memory i.args) ∧ sizedMet enc C.prog fn (OpenSpec.ofChange s) apart (w.forCall tape i).memory i.args) ∧ a.holds C.prog (lone (Frame.enter C.prog f i.args .normal) [] (w.forCall tape i)))
    (walk : ∀ (W : World) (base : Nat) (args : Array Value) (ds gs : List (DataW H)) (before : List MemPlace),
      (∀ (j : Nat) t v, fn.params[j]? = some t → args[j]? = some v → Value.okWide C.prog W .any base t v) →
      DataW.Whole enc C.prog fn.params.toList s.vars apart W args.toList ds gs before →
      (DataW.weightsEach C.prog (fn.params.toList ++ s.plain.varTypes C.prog) (ds ++ gs)).all (· ≤ reachBytes) = true → X W args → W.ShapedOpen C.prog →
      Calls C.prog f args W fun e W' => ∃ v, e = .returned v ∧ s.post enc C.prog fn apart fresh handsOn again W args v W') :
    ReturnsInHanded a C os f .any (fun w args => (s.pre enc C.prog fn conds apart w args ∧ X w args) ∧ sizedMet enc C.prog fn (OpenSpec.ofChange s) apart w args) (s.post enc C.prog fn apart fresh handsOn again) := by
  refine returnsInHanded_of_calls own started noInit witness ?_
  intro w tape i _ hsh _ hok hpre _
  obtain ⟨_, _, _, fn', hfn', _, _, _, _, hval⟩ := hok
  obtain rfl : fn' = fn := Option.some.inj (hfn'.symm.trans hfn)
  obtain ⟨⟨⟨ds, gs, before, hw, _⟩, hx⟩, hz⟩ := hpre
  refine (walk (w.forCall tape i) w.heap.size i.args ds gs before hval (DataW.Whole.of_heap (w' := w.forCall tape i) (by rfl) hw) (hz.weights hw) (hX _ _ _ (by rfl) hx) hsh).mono fun e W' ⟨v, he, hp⟩ => ?_
  subst he
  exact ChangeSpec.post_blind hp

theorem cellsF : Tryz.prog.cellsOf 47 = 3 := by kernel_rfl
theorem cellsB : Tryz.prog.cellsOf 4 = 1 := by kernel_rfl
theorem cellsN : Tryz.prog.cellsOf 45 = 1 := by kernel_rfl
set_option maxRecDepth 100000 in
theorem open_frac {H : Type} {enc : TypeId × Value → H} {W : World} {r : Reach} {b0 base : Nat} {sp : Nat → Bool} {held : Bool} {v : Value} {d : DataW H} {p : List MemPlace} (hval : Value.okWide Tryz.prog W r b0 47 v) (h : DataW.Trod enc Tryz.prog W base sp held 47 v d p) :
    ∃ (n : Bool) (x y : ByteArray), v = .agg #[.bool n, .string x, .string y] ∧ d = .agg [.lit (.bool n), .lit (.string x.data.toList), .lit (.string y.data.toList)] ∧ p = [] ∧ x.size ≤ maxLen ∧ y.size ≤ maxLen := by
  obtain ⟨cs, rfl, hsz⟩ := okWide_struct Tryz.underlying47 hval
  rw [cellsF] at hsz
  obtain ⟨l⟩ := cs
  match l, hsz with
  | [c0, c1, c2], _ =>
    obtain ⟨fuel, hf⟩ := h
    obtain ⟨y0, y1, y2, m, hx, _, hy0, hy1, hy2⟩ := Deep.trod_struct3 Tryz.underlying47 hf
    obtain ⟨n, e0, rfl⟩ := DataW.trod_bool Tryz.underlying4 hy0
    obtain ⟨x, e1, rfl, hx1⟩ := DataW.trod_string Tryz.underlying45 hy1
    obtain ⟨y, e2, rfl, hx2⟩ := DataW.trod_string Tryz.underlying45 hy2
    simp [Value.cells, cellsB, cellsN] at e0 e1 e2
    subst e0 e1 e2
    simp only [Prod.mk.injEq] at hx
    exact ⟨n, x, y, rfl, hx.1, by simpa using hx.2, hx1, hx2⟩
set_option maxRecDepth 100000 in
theorem shut_frac {H : Type} {enc : TypeId × Value → H} {W : World} {base : Nat} {sp : Nat → Bool} {held : Bool} {n : Bool} {x y : ByteArray} (hx : x.size ≤ maxLen) (hy : y.size ≤ maxLen) :
    DataW.Trod enc Tryz.prog W base sp held 47 (.agg #[.bool n, .string x, .string y]) (.agg [.lit (.bool n), .lit (.string x.data.toList), .lit (.string y.data.toList)]) [] := ⟨2, by
  have f0 : DataW.trod enc Tryz.prog W base sp held 1 4 [.bool n] = some (.lit (.bool n), []) := by simp [DataW.trod, Tryz.underlying4]
  have f1 : DataW.trod enc Tryz.prog W base sp held 1 45 [.string x] = some (.lit (.string x.data.toList), []) := by simp [DataW.trod, Tryz.underlying45, hx]
  have f2 : DataW.trod enc Tryz.prog W base sp held 1 45 [.string y] = some (.lit (.string y.data.toList), []) := by simp [DataW.trod, Tryz.underlying45, hy]
  have := Deep.trod_struct3_mk (enc := enc) (w := W) (base := base) (spare := sp) (held := held) (n := 1) (cs := [.bool n, .string x, .string y]) Tryz.underlying47 (by simp [cellsF]) (by simpa [cellsB] using f0) (by simpa [cellsN] using f1) (by simpa [cellsN] using f2)
  simpa [Value.cells] using this⟩
theorem sized_frac {H : Type} {ts : List TypeId} {ds : List (DataW H)} (h : (DataW.weightsEach Tryz.prog ts ds).all (· ≤ reachBytes) = true) {j : Nat} {n : Bool} {x y : ByteArray} (ht : ts[j]? = some 47) (hd : ds[j]? = some (.agg [.lit (.bool n), .lit (.string x.data.toList), .lit (.string y.data.toList)])) : x.size ≤ 140737488355328 ∧ y.size ≤ 140737488355328 := by
  have h1 := List.all_eq_true.1 h _ (DataW.weights_mem_each ht hd x.data.toList.length (by simp [DataW.weights, Tryz.underlying47, DataW.weightsEach]))
  have h2 := List.all_eq_true.1 h _ (DataW.weights_mem_each ht hd y.data.toList.length (by simp [DataW.weights, Tryz.underlying47, DataW.weightsEach]))
  have h1' : x.data.toList.length ≤ reachBytes := by simpa using h1
  have h2' : y.data.toList.length ≤ reachBytes := by simpa using h2
  rw [bytes_len] at h1' h2'
  simp only [reachBytes] at h1' h2'
  constructor <;> omega
end Go.Proofs.YtmdjhefcohcjhaaGreatDoor


/- A slice of fractions that came in, opened. -/
namespace Go.Proofs.YtmdjhefcohcjhaaGreatDoor
open Go.ChangeShapes Go.WideShapes Go.ChangeAt Go.RowKit

theorem cell_lt {w : World} {a : Addr} {v : Value} (h : w.cell? a = some v) : a.block < w.heap.size := by
  rcases Nat.lt_or_ge a.block w.heap.size with h1 | h1
  · exact h1
  · simp [World.cell?, Array.getElem?_eq_none h1] at h
/-- What a fraction reads as. -/
def fd {H : Type} (f : Fr) : DataW H := .agg [.lit (.bool f.1), .lit (.string f.2.1.data.toList), .lit (.string f.2.2.data.toList)]
set_option maxRecDepth 100000 in
theorem open_fracs {H : Type} {enc : TypeId × Value → H} {W : World} {r : Reach} {b0 : Nat} {v : Value} {d : DataW H} {p : List MemPlace} (hval : Value.okWide Tryz.prog W r b0 36 v) (h : DataW.Trod enc Tryz.prog W 0 (fun _ => true) true 36 v d p) :
    ∃ (a : Option Addr) (cap : Nat) (l : List Fr), v = .slice a l.length cap ∧ FrS W a l ∧ ((d = .nil ∧ l = []) ∨ ∃ rest, d = .slice (l.map fd) rest) := by
  obtain ⟨a, len, cap, rfl⟩ := okWide_slice Tryz.underlying36 hval
  obtain ⟨fuel, hf⟩ := h
  rcases Deep.open_slice Tryz.underlying36 hf with ⟨hcs, hx⟩ | ⟨a', len', cap', m, n, D, Pl, hcs, hb, hl, hm, hmm, hx, hel⟩
  · simp [Value.cells] at hcs
    obtain ⟨rfl, rfl, rfl⟩ := hcs
    simp only [Prod.mk.injEq] at hx
    exact ⟨none, 0, [], rfl, fun k hk => absurd hk (by simp), .inl ⟨hx.1, rfl⟩⟩
  · simp [Value.cells] at hcs
    obtain ⟨rfl, rfl, rfl⟩ := hcs
    simp only [Prod.mk.injEq] at hx
    have hlm : len ≤ m := by rw [hmm]; split <;> omega
    rw [cellsF] at hel
    have each : ∀ i, i < len → ∃ f : Fr, (W.cell? (a'.add (i * 3)) = some (.bool f.1) ∧ W.cell? (a'.add (i * 3 + 1)) = some (.string f.2.1) ∧ W.cell? (a'.add (i * 3 + 2)) = some (.string f.2.2)) ∧ D i = fd f := by
      intro i hi
      obtain ⟨cs', h1, h2⟩ := hel i (by omega)
      obtain ⟨_, hlen, hcell⟩ := World.cells?_some h1
      match cs', hlen with
      | [c0, c1, c2], _ =>
        obtain ⟨y0, y1, y2, k, hxx, _, hy0, hy1, hy2⟩ := Deep.trod_struct3 Tryz.underlying47 h2
        obtain ⟨nn, e0, rfl⟩ := DataW.trod_bool Tryz.underlying4 hy0
        obtain ⟨x, e1, rfl, hx1⟩ := DataW.trod_string Tryz.underlying45 hy1
        obtain ⟨y, e2, rfl, hx2⟩ := DataW.trod_string Tryz.underlying45 hy2
        simp [cellsB, cellsN] at e0 e1 e2
        subst e0 e1 e2
        simp only [Prod.mk.injEq] at hxx
        have g0 := hcell 0 (by omega)
        have g1 := hcell 1 (by omega)
        have g2 := hcell 2 (by omega)
        rw [Deep.add_add] at g0 g1 g2
        exact ⟨(nn, x, y), ⟨by simpa using g0, by simpa using g1, by simpa using g2⟩, hxx.1⟩
    obtain ⟨f, hf2⟩ := Deep.choose_lt (α := Fr) each
    refine ⟨some a', cap, (List.range len).map f, by simp, ?_, .inr ⟨(List.range (m - len)).map fun j => D (len + j), ?_⟩⟩
    · intro k hk
      have hk' : k < len := by simpa using hk
      obtain ⟨⟨g0, g1, g2⟩, _⟩ := hf2 k hk'
      obtain ⟨⟨z0, _, _⟩, _⟩ := hf2 0 (by omega)
      have hsp := World.cell?_spot z0
      obtain ⟨bb, oo, sp⟩ := a'
      rw [Nat.zero_mul] at hsp
      simp [Addr.add] at hsp
      subst hsp
      rw [add_plain] at g0 g1 g2
      refine ⟨bb, oo, rfl, cell_lt g0, ?_, ?_, ?_⟩
      · simpa using g0
      · simpa [Nat.add_assoc] using g1
      · simpa [Nat.add_assoc] using g2
    · rw [hx.1]
      congr 1
      rw [List.map_map]
      exact List.map_congr_left fun i hi => (hf2 i (List.mem_range.1 hi)).2

theorem weights_all {H : Type} {P : Program} {e : TypeId} {n : Nat} : ∀ {l : List (DataW H)} {d : DataW H}, d ∈ l → n ∈ d.weights P e → n ∈ DataW.weightsAll P e l
  | x :: l, d, hd, hn => by
    simp only [DataW.weightsAll, List.mem_append]
    rcases List.mem_cons.1 hd with rfl | hd
    · exact .inl hn
    · exact .inr (weights_all hd hn)
theorem bytesF : Tryz.prog.bytesOf 47 = 40 := by kernel_rfl
theorem sized_fracs {H : Type} {ts : List TypeId} {ds : List (DataW H)} (h : (DataW.weightsEach Tryz.prog ts ds).all (· ≤ reachBytes) = true) {j : Nat} {l : List Fr} {rest : List (DataW H)} (ht : ts[j]? = some 36) (hd : ds[j]? = some (.slice (l.map fd) rest)) :
    l.length ≤ 140737488355328 ∧ ∀ f ∈ l, f.2.1.size ≤ 140737488355328 ∧ f.2.2.size ≤ 140737488355328 := by
  constructor
  · have h1 := List.all_eq_true.1 h _ (DataW.weights_mem_each ht hd (((l.map (fd (H := H))).length + rest.length) * Tryz.prog.bytesOf 47) (by simp [DataW.weights, Tryz.underlying36]))
    have h1' : ((l.map (fd (H := H))).length + rest.length) * Tryz.prog.bytesOf 47 ≤ reachBytes := by simpa using h1
    rw [bytesF, List.length_map] at h1'
    simp only [reachBytes] at h1'
    omega
  · intro f hf
    have hin : ∀ n, n ∈ (fd (H := H) f).weights Tryz.prog 47 → n ≤ reachBytes := fun n hn => by
      have := List.all_eq_true.1 h _ (DataW.weights_mem_each ht hd n (by
        simp only [DataW.weights, Tryz.underlying36, List.mem_cons, List.mem_append]
        exact .inr (.inl (weights_all (List.mem_map_of_mem hf) hn))))
      simpa using this
    have a1 := hin f.2.1.data.toList.length (by simp [fd, DataW.weights, Tryz.underlying47, DataW.weightsEach])
    have a2 := hin f.2.2.data.toList.length (by simp [fd, DataW.weights, Tryz.underlying47, DataW.weightsEach])
    rw [bytes_len] at a1 a2
    simp only [reachBytes] at a1 a2
    constructor <;> omega
end Go.Proofs.YtmdjhefcohcjhaaGreatDoor


/- Package table: Best. -/
namespace Go.Proofs.YtmdjhefcohcjhaaGreatDoor
open Go.RowKit Go.Shelf

end Go.Proofs.YtmdjhefcohcjhaaGreatDoor


/- The law's comparison of two answers beside errors. -/
namespace Go.Proofs.YtmdjhefcohcjhaaGreatDoor
open Go.RowKit

end Go.Proofs.YtmdjhefcohcjhaaGreatDoor


/- The law's small functions on tables. -/
namespace Go.Proofs.YtmdjhefcohcjhaaGreatDoor
open Go.RowKit Go.Shelf

end Go.Proofs.YtmdjhefcohcjhaaGreatDoor


/- Both answer alike: each call on tables, in package table and in the document's answer. -/
namespace Go.Proofs.YtmdjhefcohcjhaaGreatDoor
open Go.RowKit Go.Shelf

/-- Both answer the same table and error. -/
def TwoT (w : World) (f g : FuncId) (args : Array Value) : Prop := ∃ (V : List Int) (L : List Fr) (k : Int), V.length ≤ 100000 ∧ L.length ≤ 100000 ∧
  (∀ W, Below w.heap.size w W → Calls Tryz.prog f args W fun e w' => TabA V L k e w' ∧ Below W.heap.size W w') ∧ ∀ W, Below w.heap.size w W → Calls Tryz.prog g args W fun e w' => TabA V L k e w' ∧ Below W.heap.size W w'
/-- A table that came in. -/
structure TIn (w : World) (b c : Option Addr) (cb : Nat) (vars : List Int) (l : List Fr) : Prop where
  ints : IntS w b vars
  cells : FrS w c l
  nil : b = none → cb = 0
  len : vars.length ≤ 4096
  small : fw l ≤ 8192
theorem TIn.below {w w' : World} {b c : Option Addr} {cb : Nat} {vars : List Int} {l : List Fr} (h : TIn w b c cb vars l) (hb : Below w.heap.size w w') : TIn w' b c cb vars l := ⟨h.ints.below hb, h.cells.below hb, h.nil, h.len, h.small⟩
theorem cnt_all {sizes vars : List Int} (h1 : Fine sizes) (h2 : Up vars sizes.length) : cnt (toN sizes) (toN vars) ≤ 65536 := cnt_small h1.sz_le (by rw [toN_length]; have := h1.eight; have := h2.length; omega)
end Go.Proofs.YtmdjhefcohcjhaaGreatDoor


/- Lists of ints and tables that came in, opened. -/
namespace Go.Proofs.YtmdjhefcohcjhaaGreatDoor
open Go.ChangeShapes Go.WideShapes Go.ChangeAt Go.RowKit

/-- What an int reads as. -/
def idt {H : Type} (x : Int) : DataW H := .lit (.int .i64 x)
theorem cellsI : Tryz.prog.cellsOf 3 = 1 := by kernel_rfl
theorem cellsIs : Tryz.prog.cellsOf 34 = 1 := by kernel_rfl
theorem cellsFs : Tryz.prog.cellsOf 36 = 1 := by kernel_rfl
set_option maxRecDepth 100000 in
theorem trod_ints {H : Type} {enc : TypeId × Value → H} {W : World} {fuel : Nat} {cs : List Value} {x : DataW H × List MemPlace} (hf : DataW.trod enc Tryz.prog W 0 (fun _ => true) true fuel 34 cs = some x) :
    ∃ (a : Option Addr) (cap : Nat) (l : List Int), cs = [.slice a l.length cap] ∧ IntS W a l ∧ (a = none → cap = 0) ∧ ((x.1 = .nil ∧ l = []) ∨ ∃ rest, x.1 = .slice (l.map idt) rest) ∧ ∀ y ∈ l, -9223372036854775808 ≤ y ∧ y ≤ 9223372036854775807 := by
  rcases Deep.open_slice Tryz.underlying34 hf with ⟨hcs, hx⟩ | ⟨a', len, cap, m, n, D, Pl, hcs, hb, hl, hm, hmm, hx, hel⟩
  · exact ⟨none, 0, [], hcs, fun k hk => absurd hk (by simp), fun _ => rfl, .inl ⟨by rw [hx], rfl⟩, fun _ h => by cases h⟩
  · have hlm : len ≤ m := by rw [hmm]; split <;> omega
    rw [cellsI] at hel
    have each : ∀ i, i < len → ∃ z : Int, (W.cell? (a'.add (i * 1)) = some (.int .i64 z) ∧ -9223372036854775808 ≤ z ∧ z ≤ 9223372036854775807) ∧ D i = idt z := by
      intro i hi
      obtain ⟨cs', h1, h2⟩ := hel i (by omega)
      obtain ⟨_, hlen, hcell⟩ := World.cells?_some h1
      obtain ⟨z, e0, hxx, hwf⟩ := DataW.trod_int Tryz.underlying3 h2
      subst e0
      simp only [Prod.mk.injEq] at hxx
      have g0 := hcell 0 (by omega)
      rw [Deep.add_add] at g0
      exact ⟨z, ⟨by simpa using g0, bounds_i64 hwf⟩, hxx.1⟩
    obtain ⟨f, hf2⟩ := Deep.choose_lt (α := Int) each
    refine ⟨some a', cap, (List.range len).map f, by rw [hcs]; simp, ?_, fun e => by (cases e), .inr ⟨(List.range (m - len)).map fun j => D (len + j), ?_⟩, ?_⟩
    · intro k hk
      have hk' : k < len := by simpa using hk
      obtain ⟨⟨g0, _⟩, _⟩ := hf2 k hk'
      obtain ⟨⟨z0, _⟩, _⟩ := hf2 0 (by omega)
      have hsp := World.cell?_spot z0
      obtain ⟨bb, oo, sp⟩ := a'
      rw [Nat.zero_mul] at hsp
      simp [Addr.add] at hsp
      subst hsp
      rw [add_plain] at g0
      refine ⟨bb, oo, rfl, cell_lt g0, ?_⟩
      simpa using g0
    · rw [hx]
      show DataW.slice _ _ = DataW.slice _ _
      congr 1
      rw [List.map_map]
      exact List.map_congr_left fun i hi => (hf2 i (List.mem_range.1 hi)).2
    · intro y hy
      obtain ⟨i, hi, rfl⟩ := List.mem_map.1 hy
      exact (hf2 i (List.mem_range.1 hi)).1.2
set_option maxRecDepth 100000 in
theorem open_ints {H : Type} {enc : TypeId × Value → H} {W : World} {r : Reach} {b0 : Nat} {v : Value} {d : DataW H} {p : List MemPlace} (hval : Value.okWide Tryz.prog W r b0 34 v) (h : DataW.Trod enc Tryz.prog W 0 (fun _ => true) true 34 v d p) :
    ∃ (a : Option Addr) (cap : Nat) (l : List Int), v = .slice a l.length cap ∧ IntS W a l ∧ (a = none → cap = 0) ∧ ((d = .nil ∧ l = []) ∨ ∃ rest, d = .slice (l.map idt) rest) ∧ ∀ x ∈ l, -9223372036854775808 ≤ x ∧ x ≤ 9223372036854775807 := by
  obtain ⟨a, len, cap, rfl⟩ := okWide_slice Tryz.underlying34 hval
  obtain ⟨fuel, hf⟩ := h
  obtain ⟨a', cap', l, hcs, hi, h0, hd, hr⟩ := trod_ints hf
  simp [Value.cells] at hcs
  obtain ⟨rfl, rfl, rfl⟩ := hcs
  exact ⟨a, cap, l, rfl, hi, h0, hd, hr⟩
set_option maxRecDepth 100000 in
theorem open_fracs_of {H : Type} {enc : TypeId × Value → H} {W : World} {a : Option Addr} {len cap : Nat} {d : DataW H} {p : List MemPlace} (h : DataW.Trod enc Tryz.prog W 0 (fun _ => true) true 36 (.slice a len cap) d p) :
    ∃ (a' : Option Addr) (cap' : Nat) (l : List Fr), (Value.slice a len cap) = .slice a' l.length cap' ∧ FrS W a' l ∧ ((d = .nil ∧ l = []) ∨ ∃ rest, d = .slice (l.map fd) rest) := by
  obtain ⟨fuel, hf⟩ := h
  rcases Deep.open_slice Tryz.underlying36 hf with ⟨hcs, hx⟩ | ⟨a', len', cap', m, n, D, Pl, hcs, hb, hl, hm, hmm, hx, hel⟩
  · simp [Value.cells] at hcs
    obtain ⟨rfl, rfl, rfl⟩ := hcs
    simp only [Prod.mk.injEq] at hx
    exact ⟨none, 0, [], rfl, fun k hk => absurd hk (by simp), .inl ⟨hx.1, rfl⟩⟩
  · simp [Value.cells] at hcs
    obtain ⟨rfl, rfl, rfl⟩ := hcs
    simp only [Prod.mk.injEq] at hx
    have hlm : len ≤ m := by rw [hmm]; split <;> omega
    rw [cellsF] at hel
    have each : ∀ i, i < len → ∃ f : Fr, (W.cell? (a'.add (i * 3)) = some (.bool f.1) ∧ W.cell? (a'.add (i * 3 + 1)) = some (.string f.2.1) ∧ W.cell? (a'.add (i * 3 + 2)) = some (.string f.2.2)) ∧ D i = fd f := by
      intro i hi
      obtain ⟨cs', h1, h2⟩ := hel i (by omega)
      obtain ⟨_, hlen, hcell⟩ := World.cells?_some h1
      match cs', hlen with
      | [c0, c1, c2], _ =>
        obtain ⟨y0, y1, y2, k, hxx, _, hy0, hy1, hy2⟩ := Deep.trod_struct3 Tryz.underlying47 h2
        obtain ⟨nn, e0, rfl⟩ := DataW.trod_bool Tryz.underlying4 hy0
        obtain ⟨x, e1, rfl, hx1⟩ := DataW.trod_string Tryz.underlying45 hy1
        obtain ⟨y, e2, rfl, hx2⟩ := DataW.trod_string Tryz.underlying45 hy2
        simp [cellsB, cellsN] at e0 e1 e2
        subst e0 e1 e2
        simp only [Prod.mk.injEq] at hxx
        have g0 := hcell 0 (by omega)
        have g1 := hcell 1 (by omega)
        have g2 := hcell 2 (by omega)
        rw [Deep.add_add] at g0 g1 g2
        exact ⟨(nn, x, y), ⟨by simpa using g0, by simpa using g1, by simpa using g2⟩, hxx.1⟩
    obtain ⟨f, hf2⟩ := Deep.choose_lt (α := Fr) each
    refine ⟨some a', cap, (List.range len).map f, by simp, ?_, .inr ⟨(List.range (m - len)).map fun j => D (len + j), ?_⟩⟩
    · intro k hk
      have hk' : k < len := by simpa using hk
      obtain ⟨⟨g0, g1, g2⟩, _⟩ := hf2 k hk'
      obtain ⟨⟨z0, _, _⟩, _⟩ := hf2 0 (by omega)
      have hsp := World.cell?_spot z0
      obtain ⟨bb, oo, sp⟩ := a'
      rw [Nat.zero_mul] at hsp
      simp [Addr.add] at hsp
      subst hsp
      rw [add_plain] at g0 g1 g2
      refine ⟨bb, oo, rfl, cell_lt g0, ?_, ?_, ?_⟩
      · simpa using g0
      · simpa [Nat.add_assoc] using g1
      · simpa [Nat.add_assoc] using g2
    · rw [hx.1]
      congr 1
      rw [List.map_map]
      exact List.map_congr_left fun i hi => (hf2 i (List.mem_range.1 hi)).2


theorem open_fracs_at {H : Type} {enc : TypeId × Value → H} {W : World} {fuel : Nat} {v : Value} {x : DataW H × List MemPlace} (hf : DataW.trod enc Tryz.prog W 0 (fun _ => true) true fuel 36 [v] = some x) :
    ∃ (a : Option Addr) (cap : Nat) (l : List Fr), v = .slice a l.length cap ∧ FrS W a l ∧ ((x.1 = .nil ∧ l = []) ∨ ∃ rest, x.1 = .slice (l.map fd) rest) := by
  have hs : ∃ a n c, v = Value.slice a n c := by
    rcases Deep.open_slice Tryz.underlying36 hf with ⟨hcs, _⟩ | ⟨a', len, cap, m, n, D, Pl, hcs, _⟩
    · exact ⟨_, _, _, by simpa using hcs⟩
    · exact ⟨_, _, _, by simpa using hcs⟩
  obtain ⟨a, n, c, rfl⟩ := hs
  obtain ⟨a', cap', l, h1, h2, h3⟩ := open_fracs_of (enc := enc) (W := W) (a := a) (len := n) (cap := c) (d := x.1) (p := x.2) ⟨fuel, hf⟩
  exact ⟨a', cap', l, h1, h2, h3⟩
theorem bytesI : Tryz.prog.bytesOf 3 = 8 := by kernel_rfl
theorem sized_ints {H : Type} {ts : List TypeId} {ds : List (DataW H)} (h : (DataW.weightsEach Tryz.prog ts ds).all (· ≤ reachBytes) = true) {j : Nat} {l : List Int} {d : DataW H} (ht : ts[j]? = some 34) (hd : ds[j]? = some d) (hl : (d = .nil ∧ l = []) ∨ ∃ rest, d = .slice (l.map idt) rest) :
    l.length ≤ 140737488355328 := by
  rcases hl with ⟨_, rfl⟩ | ⟨rest, rfl⟩
  · simp
  have h1 := List.all_eq_true.1 h _ (DataW.weights_mem_each ht hd (((l.map (idt (H := H))).length + rest.length) * Tryz.prog.bytesOf 3) (by simp [DataW.weights, Tryz.underlying34]))
  have h1' : ((l.map (idt (H := H))).length + rest.length) * Tryz.prog.bytesOf 3 ≤ reachBytes := by simpa using h1
  rw [bytesI, List.length_map] at h1'
  simp only [reachBytes] at h1'
  omega
theorem sized_fracs' {H : Type} {ts : List TypeId} {ds : List (DataW H)} (h : (DataW.weightsEach Tryz.prog ts ds).all (· ≤ reachBytes) = true) {j : Nat} {l : List Fr} {d : DataW H} (ht : ts[j]? = some 36) (hd : ds[j]? = some d) (hl : (d = .nil ∧ l = []) ∨ ∃ rest, d = .slice (l.map fd) rest) :
    l.length ≤ 140737488355328 ∧ ∀ f ∈ l, f.2.1.size ≤ 140737488355328 ∧ f.2.2.size ≤ 140737488355328 := by
  rcases hl with ⟨_, rfl⟩ | ⟨rest, rfl⟩
  · exact ⟨by simp, fun f hf => by cases hf⟩
  · exact sized_fracs h ht hd
end Go.Proofs.YtmdjhefcohcjhaaGreatDoor


/- Nets that came in, opened. -/
namespace Go.Proofs.YtmdjhefcohcjhaaGreatDoor
open Go.ChangeShapes Go.WideShapes Go.ChangeAt Go.RowKit

/-- What a list reads as, piece by piece. -/
def LsD {H : Type} {α : Type} (one : DataW H → α → Prop) (d : DataW H) (L : List α) : Prop := (d = .nil ∧ L = []) ∨ ∃ (E rest : List (DataW H)), d = .slice E rest ∧ E.length = L.length ∧ ∀ k (h : k < L.length) (h' : k < E.length), one E[k] L[k]
def IntD {H : Type} (d : DataW H) (l : List Int) : Prop := (d = .nil ∧ l = []) ∨ ∃ rest, d = .slice (l.map idt) rest
def FrcD {H : Type} (d : DataW H) (l : List Fr) : Prop := (d = .nil ∧ l = []) ∨ ∃ rest, d = .slice (l.map fd) rest
def sdt {H : Type} (s : ByteArray) : DataW H := .lit (.string s.data.toList)
def StrD {H : Type} (d : DataW H) (l : List ByteArray) : Prop := (d = .nil ∧ l = []) ∨ ∃ rest, d = .slice (l.map sdt) rest
def VarD {H : Type} (d : DataW H) (x : Vr) : Prop := ∃ dv, d = .agg [sdt x.1, dv] ∧ StrD dv x.2
theorem cellsStr : Tryz.prog.cellsOf 9 = 1 := by kernel_rfl
theorem cellsStrs : Tryz.prog.cellsOf 31 = 1 := by kernel_rfl
theorem cellsVar : Tryz.prog.cellsOf 33 = 2 := by kernel_rfl
theorem cellsVars : Tryz.prog.cellsOf 22 = 1 := by kernel_rfl
theorem cellsLs : Tryz.prog.cellsOf 23 = 1 := by kernel_rfl
theorem cellsFr : Tryz.prog.cellsOf 24 = 1 := by kernel_rfl
theorem cellsNet : Tryz.prog.cellsOf 26 = 3 := by kernel_rfl

set_option maxRecDepth 100000 in
theorem trod_strs {H : Type} {enc : TypeId × Value → H} {W : World} {fuel : Nat} {cs : List Value} {x : DataW H × List MemPlace} (hf : DataW.trod enc Tryz.prog W 0 (fun _ => true) true fuel 31 cs = some x) :
    ∃ (a : Option Addr) (cap : Nat) (l : List ByteArray), cs = [.slice a l.length cap] ∧ StS W a l ∧ l.length ≤ cap ∧ StrD x.1 l := by
  rcases Deep.open_slice Tryz.underlying31 hf with ⟨hcs, hx⟩ | ⟨a', len, cap, m, n, D, Pl, hcs, hb, hl, hm, hmm, hx, hel⟩
  · exact ⟨none, 0, [], hcs, fun k hk => absurd hk (by simp), by simp, .inl ⟨by rw [hx], rfl⟩⟩
  · have hlm : len ≤ m := by rw [hmm]; split <;> omega
    rw [cellsStr] at hel
    have each : ∀ i, i < len → ∃ z : ByteArray, W.cell? (a'.add (i * 1)) = some (.string z) ∧ D i = sdt z := by
      intro i hi
      obtain ⟨cs', h1, h2⟩ := hel i (by omega)
      obtain ⟨_, hlen, hcell⟩ := World.cells?_some h1
      obtain ⟨z, e0, hxx, _⟩ := DataW.trod_string Tryz.underlying9 h2
      subst e0
      simp only [Prod.mk.injEq] at hxx
      have g0 := hcell 0 (by omega)
      rw [Deep.add_add] at g0
      exact ⟨z, by simpa using g0, hxx.1⟩
    obtain ⟨f, hf2⟩ := Deep.choose_lt (α := ByteArray) each
    refine ⟨some a', cap, (List.range len).map f, by rw [hcs]; simp, ?_, by simpa using hl, .inr ⟨(List.range (m - len)).map fun j => D (len + j), ?_⟩⟩
    · intro k hk
      have hk' : k < len := by simpa using hk
      obtain ⟨g0, _⟩ := hf2 k hk'
      obtain ⟨z0, _⟩ := hf2 0 (by omega)
      have hsp := World.cell?_spot z0
      obtain ⟨bb, oo, sp⟩ := a'
      rw [Nat.zero_mul] at hsp
      simp [Addr.add] at hsp
      subst hsp
      rw [add_plain] at g0
      refine ⟨bb, oo, rfl, cell_lt g0, ?_⟩
      simpa using g0
    · rw [hx]
      show DataW.slice _ _ = DataW.slice _ _
      congr 1
      rw [List.map_map]
      exact List.map_congr_left fun i hi => (hf2 i (List.mem_range.1 hi)).2
set_option maxRecDepth 100000 in
theorem trod_lists {H : Type} {enc : TypeId × Value → H} {W : World} {fuel : Nat} {cs : List Value} {x : DataW H × List MemPlace} (hf : DataW.trod enc Tryz.prog W 0 (fun _ => true) true fuel 23 cs = some x) :
    ∃ (a : Option Addr) (cap : Nat) (L : List (List Int)), cs = [.slice a L.length cap] ∧ LsS W a L ∧ LsD IntD x.1 L ∧ LsN W a L := by
  rcases Deep.open_slice Tryz.underlying23 hf with ⟨hcs, hx⟩ | ⟨a', len, cap, m, n, D, Pl, hcs, hb, hl, hm, hmm, hx, hel⟩
  · exact ⟨none, 0, [], hcs, fun k hk => absurd hk (by simp), .inl ⟨by rw [hx], rfl⟩, fun k hk => absurd hk (by simp)⟩
  · have hlm : len ≤ m := by rw [hmm]; split <;> omega
    rw [cellsIs] at hel
    have each : ∀ i, i < len → ∃ z : Option Addr × Nat × List Int, W.cell? (a'.add (i * 1)) = some (.slice z.1 z.2.2.length z.2.1) ∧ IntS W z.1 z.2.2 ∧ IntD (D i) z.2.2 ∧ (z.1 = none → z.2.1 = 0) := by
      intro i hi
      obtain ⟨cs', h1, h2⟩ := hel i (by omega)
      obtain ⟨_, hlen, hcell⟩ := World.cells?_some h1
      obtain ⟨b, c, l, e0, h3, h5, h4, _⟩ := trod_ints h2
      subst e0
      have g0 := hcell 0 (by omega)
      rw [Deep.add_add] at g0
      exact ⟨(b, c, l), by simpa using g0, h3, h4, h5⟩
    obtain ⟨f, hf2⟩ := Deep.choose_lt (α := Option Addr × Nat × List Int) each
    refine ⟨some a', cap, (List.range len).map fun i => (f i).2.2, by rw [hcs]; simp, ?_, .inr ⟨(List.range len).map D, (List.range (m - len)).map fun j => D (len + j), by rw [hx], by simp, ?_⟩, ?_⟩
    · intro k hk
      have hk' : k < len := by simpa using hk
      obtain ⟨g0, h3, _⟩ := hf2 k hk'
      obtain ⟨z0, _⟩ := hf2 0 (by omega)
      have hsp := World.cell?_spot z0
      obtain ⟨bb, oo, sp⟩ := a'
      rw [Nat.zero_mul] at hsp
      simp [Addr.add] at hsp
      subst hsp
      rw [add_plain] at g0
      refine ⟨bb, oo, (f k).1, (f k).2.1, rfl, cell_lt g0, ?_, ?_⟩
      · simpa using g0
      · simpa using h3
    · intro k hk hk'
      have hk2 : k < len := by simpa using hk
      simpa using (hf2 k hk2).2.2.1
    · intro k hk g o b' n' c' e hc hn
      have hk2 : k < len := by simpa using hk
      obtain ⟨g0, _, _, h5⟩ := hf2 k hk2
      cases e
      rw [add_plain, Nat.mul_one, hc] at g0
      cases g0
      exact h5 hn
set_option maxRecDepth 100000 in
theorem trod_frows {H : Type} {enc : TypeId × Value → H} {W : World} {fuel : Nat} {cs : List Value} {x : DataW H × List MemPlace} (hf : DataW.trod enc Tryz.prog W 0 (fun _ => true) true fuel 24 cs = some x) :
    ∃ (a : Option Addr) (cap : Nat) (L : List (List Fr)), cs = [.slice a L.length cap] ∧ FsS W a L ∧ LsD FrcD x.1 L := by
  rcases Deep.open_slice Tryz.underlying24 hf with ⟨hcs, hx⟩ | ⟨a', len, cap, m, n, D, Pl, hcs, hb, hl, hm, hmm, hx, hel⟩
  · exact ⟨none, 0, [], hcs, fun k hk => absurd hk (by simp), .inl ⟨by rw [hx], rfl⟩⟩
  · have hlm : len ≤ m := by rw [hmm]; split <;> omega
    rw [cellsFs] at hel
    have each : ∀ i, i < len → ∃ z : Option Addr × Nat × List Fr, W.cell? (a'.add (i * 1)) = some (.slice z.1 z.2.2.length z.2.1) ∧ (FrS W z.1 z.2.2 ∧ z.2.2.length ≤ z.2.1) ∧ FrcD (D i) z.2.2 := by
      intro i hi
      obtain ⟨cs', h1, h2⟩ := hel i (by omega)
      obtain ⟨_, hlen, hcell⟩ := World.cells?_some h1
      have hcap : ∀ a n c, cs' = [Value.slice a n c] → n ≤ c := fun a n c e => by
        rcases Deep.open_slice Tryz.underlying36 h2 with ⟨hc, _⟩ | ⟨a2, len2, cap2, m2, n2, D2, Pl2, hc, _, hl2, _⟩
        · rw [hc] at e; cases e; exact Nat.le_refl _
        · rw [hc] at e; cases e; exact hl2
      match cs', hlen with
      | [v], _ =>
        obtain ⟨b, c, l, e0, h3, h4⟩ := open_fracs_at h2
        subst e0
        have g0 := hcell 0 (by omega)
        rw [Deep.add_add] at g0
        exact ⟨(b, c, l), by simpa using g0, ⟨h3, hcap _ _ _ rfl⟩, h4⟩
    obtain ⟨f, hf2⟩ := Deep.choose_lt (α := Option Addr × Nat × List Fr) each
    refine ⟨some a', cap, (List.range len).map fun i => (f i).2.2, by rw [hcs]; simp, ?_, .inr ⟨(List.range len).map D, (List.range (m - len)).map fun j => D (len + j), by rw [hx], by simp, ?_⟩⟩
    · intro k hk
      have hk' : k < len := by simpa using hk
      obtain ⟨g0, ⟨h3, h5⟩, _⟩ := hf2 k hk'
      obtain ⟨z0, _⟩ := hf2 0 (by omega)
      have hsp := World.cell?_spot z0
      obtain ⟨bb, oo, sp⟩ := a'
      rw [Nat.zero_mul] at hsp
      simp [Addr.add] at hsp
      subst hsp
      rw [add_plain] at g0
      refine ⟨bb, oo, (f k).1, (f k).2.1, rfl, cell_lt g0, ?_, ?_, ?_⟩
      · simpa using g0
      · simpa using h3
      · simpa using h5
    · intro k hk hk'
      have hk2 : k < len := by simpa using hk
      simpa using (hf2 k hk2).2.2
end Go.Proofs.YtmdjhefcohcjhaaGreatDoor

