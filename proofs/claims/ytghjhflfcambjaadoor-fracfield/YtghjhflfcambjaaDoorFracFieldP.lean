/- FracField: for every three fractions that the form lets be read the law returns true, and all arguments read as before; conditions: the listed tables of Go's library read as the row lists them (the card ties that to the program's text). -/
import Derived.Test.YtghjhflfcambjaaDoorCards
import Derived.Test.YtghjhflfcambjaaDoorTie
import Derived.Test.YtghjhflfcambjaaDoorFieldW
import Derived.Deep.Strs
import Derived.ProofKit
import Derived.OpenShut
import Derived.ShutString
import Derived.LaidMore
import Derived.Lay
import Derived.SevenTiedAt
import Derived.Stop.Joined
import Derived.SizedLaws
namespace Go.Proofs.YtghjhflfcambjaaDoor.fracField
open Go.ChangeShapes Go.WideShapes Go.ChangeAt Go.RowKit
open Go.ChangeMaps (open_string shut_string)

theorem cellsF : Tryd.prog.cellsOf 38 = 3 := by kernel_rfl
theorem cellsB : Tryd.prog.cellsOf 4 = 1 := by kernel_rfl
theorem cellsN : Tryd.prog.cellsOf 22 = 1 := by kernel_rfl
set_option maxRecDepth 100000 in
theorem open_frac {H : Type} {enc : TypeId × Value → H} {W : World} {r : Reach} {b0 base : Nat} {sp : Nat → Bool} {held : Bool} {v : Value} {d : DataW H} {p : List MemPlace} (hval : Value.okWide Tryd.prog W r b0 38 v) (h : DataW.Trod enc Tryd.prog W base sp held 38 v d p) :
    ∃ (n : Bool) (x y : ByteArray), v = .agg #[.bool n, .string x, .string y] ∧ d = .agg [.lit (.bool n), .lit (.string x.data.toList), .lit (.string y.data.toList)] ∧ p = [] ∧ x.size ≤ maxLen ∧ y.size ≤ maxLen := by
  obtain ⟨cs, rfl, hsz⟩ := okWide_struct Tryd.underlying38 hval
  rw [cellsF] at hsz
  obtain ⟨l⟩ := cs
  match l, hsz with
  | [c0, c1, c2], _ =>
    obtain ⟨fuel, hf⟩ := h
    obtain ⟨y0, y1, y2, m, hx, _, hy0, hy1, hy2⟩ := Deep.trod_struct3 Tryd.underlying38 hf
    obtain ⟨n, e0, rfl⟩ := DataW.trod_bool Tryd.underlying4 hy0
    obtain ⟨x, e1, rfl, hx1⟩ := DataW.trod_string Tryd.underlying22 hy1
    obtain ⟨y, e2, rfl, hx2⟩ := DataW.trod_string Tryd.underlying22 hy2
    simp [Value.cells, cellsB, cellsN] at e0 e1 e2
    subst e0 e1 e2
    simp only [Prod.mk.injEq] at hx
    exact ⟨n, x, y, rfl, hx.1, by simpa using hx.2, hx1, hx2⟩
set_option maxRecDepth 100000 in
theorem shut_frac {H : Type} {enc : TypeId × Value → H} {W : World} {base : Nat} {sp : Nat → Bool} {held : Bool} {n : Bool} {x y : ByteArray} (hx : x.size ≤ maxLen) (hy : y.size ≤ maxLen) :
    DataW.Trod enc Tryd.prog W base sp held 38 (.agg #[.bool n, .string x, .string y]) (.agg [.lit (.bool n), .lit (.string x.data.toList), .lit (.string y.data.toList)]) [] := ⟨2, by
  have f0 : DataW.trod enc Tryd.prog W base sp held 1 4 [.bool n] = some (.lit (.bool n), []) := by simp [DataW.trod, Tryd.underlying4]
  have f1 : DataW.trod enc Tryd.prog W base sp held 1 22 [.string x] = some (.lit (.string x.data.toList), []) := by simp [DataW.trod, Tryd.underlying22, hx]
  have f2 : DataW.trod enc Tryd.prog W base sp held 1 22 [.string y] = some (.lit (.string y.data.toList), []) := by simp [DataW.trod, Tryd.underlying22, hy]
  have := Deep.trod_struct3_mk (enc := enc) (w := W) (base := base) (spare := sp) (held := held) (n := 1) (cs := [.bool n, .string x, .string y]) Tryd.underlying38 (by simp [cellsF]) (by simpa [cellsB] using f0) (by simpa [cellsN] using f1) (by simpa [cellsN] using f2)
  simpa [Value.cells] using this⟩
theorem sized_frac {H : Type} {ts : List TypeId} {ds : List (DataW H)} (h : (DataW.weightsEach Tryd.prog ts ds).all (· ≤ reachBytes) = true) {j : Nat} {n : Bool} {x y : ByteArray} (ht : ts[j]? = some 38) (hd : ds[j]? = some (.agg [.lit (.bool n), .lit (.string x.data.toList), .lit (.string y.data.toList)])) : x.size ≤ 140737488355328 ∧ y.size ≤ 140737488355328 := by
  have h1 := List.all_eq_true.1 h _ (DataW.weights_mem_each ht hd x.data.toList.length (by simp [DataW.weights, Tryd.underlying38, DataW.weightsEach]))
  have h2 := List.all_eq_true.1 h _ (DataW.weights_mem_each ht hd y.data.toList.length (by simp [DataW.weights, Tryd.underlying38, DataW.weightsEach]))
  have h1' : x.data.toList.length ≤ reachBytes := by simpa using h1
  have h2' : y.data.toList.length ≤ reachBytes := by simpa using h2
  rw [bytes_len] at h1' h2'
  simp only [reachBytes] at h1' h2'
  constructor <;> omega
theorem own : ownKnob Tryd.prog.godebug = none := by kernel_rfl
set_option maxRecDepth 100000 in
theorem lifted (os : Os) (started : os.Started) (H : Type) (enc : TypeId × Value → H) :
    ReturnsInHanded {} Tryd.checked os 5 .any (fun w args => (Rows.fracFieldSpec.pre enc Tryd.prog Tryd.f5 Rows.fracFieldRow.domain false w args ∧ laidMetH Tryd.prog Rows.fracFieldRow.laid w) ∧ sizedMet enc Tryd.prog Tryd.f5 (OpenSpec.ofChange Rows.fracFieldSpec) false w args)
      (Rows.fracFieldSpec.post enc Tryd.prog Tryd.f5 false true false false) := by
  refine returnsInHanded_of_change_and (C := Tryd.checked) (X := fun w _ => laidMetH Tryd.prog Rows.fracFieldRow.laid w) (fun _ _ _ hh h => h.of_heap hh) own started (by kernel_rfl) Tryd.func5
    (ChangeSpec.witness_shaped (enc := enc) (C := Tryd.checked) (os := os) (X := fun w _ => laidMetH Tryd.prog Rows.fracFieldRow.laid w) false (World.laidAll Tryd.prog os Rows.fracFieldRow.laid) #[.agg #[.bool false, .string ByteArray.empty, .string ByteArray.empty], .agg #[.bool false, .string ByteArray.empty, .string ByteArray.empty], .agg #[.bool false, .string ByteArray.empty, .string ByteArray.empty]] 8 (World.laidAll_os _ _ _)
      (World.shaped_of_ZipB (by kernel_rfl) (by kernel_rfl)) (by kernel_rfl) (by kernel_rfl) (by kernel_rfl)
      (by rw [MakeChecks.laidMetH_plain _ _ _ (by kernel_rfl)]; exact laidMet_laidAll _ (by kernel_rfl) (by kernel_rfl))) ?_
  intro W base args ds gs before hval0 hW _ hsz0 _ _
  have hval : ∀ (j : Nat) t v, Tryd.f5.params[j]? = some t → args[j]? = some v → Value.okWide Tryd.prog W .any base t v := hval0
  have hsz : (DataW.weightsEach Tryd.prog (Tryd.f5.params.toList ++ Rows.fracFieldSpec.plain.varTypes Tryd.prog) (ds ++ gs)).all (· ≤ reachBytes) = true := hsz0
  have hW' := hW
  obtain ⟨p, q, hA0, hV, rfl, hfz, hnd⟩ := hW
  have hA : DataW.TrodAll enc Tryd.prog W 0 (fun _ => true) true Tryd.f5.params.toList args.toList ds p := hA0
  rw [Tryd.params5] at hA hval hsz
  obtain ⟨v0, v1, v2, d0, d1, d2, p0, p1, p2, rfl, rfl, rfl, h0, h1, h2⟩ := trodAll_three hA
  obtain ⟨rfl, rfl⟩ := trodVars_none hV
  obtain ⟨na, xa, ya, rfl, rfl, rfl, wx0, wy0⟩ := open_frac (hval 0 38 v0 rfl rfl) h0
  obtain ⟨nb, xb, yb, rfl, rfl, rfl, wx1, wy1⟩ := open_frac (hval 1 38 v1 rfl rfl) h1
  obtain ⟨nc, xc, yc, rfl, rfl, rfl, wx2, wy2⟩ := open_frac (hval 2 38 v2 rfl rfl) h2
  obtain ⟨hs0, hs1⟩ := sized_frac hsz (j := 0) rfl rfl
  obtain ⟨hs2, hs3⟩ := sized_frac hsz (j := 1) rfl rfl
  obtain ⟨hs4, hs5⟩ := sized_frac hsz (j := 2) rfl rfl
  clear hA0 hval0 hsz0 hsz
  simp only [List.append_nil] at hW'
  have walk := fracField_walk na nb nc xa ya xb yb xc yc (val na xa ya) (val nb xb yb) (val nc xc yc) W hs0 hs1 hs2 hs3 hs4 hs5 (hide rfl) (hide rfl) (hide rfl)
  refine walk.mono fun e W' ⟨he, hb⟩ => ?_
  subst he
  exact ⟨_, rfl, _, _, _, [], [], [], hW', trodAll_mk1 (shut_bool Tryd.underlying4 _), trodAll_mk3 (shut_frac wx0 wy0) (shut_frac wx1 wy1) (shut_frac wx2 wy2), rfl, hb.frame _, fun h => by cases h⟩

theorem said : Rows.FracFieldSaid :=
  OpenClaim.holds_of_wide 5 Tryd.f5 rfl rfl rfl rfl rfl rfl rfl ⟨rfl, rfl, rfl, rfl, rfl⟩ rfl rfl rfl rfl rfl (by kernel_rfl) Tryd.func5 (by kernel_rfl)
    (of_decide_eq_true (by kernel_rfl)) (by unfold Func.isWrapper; first | (rw [if_pos (by decide +kernel)]; kernel_rfl) | (rw [if_neg (by decide +kernel)]; exact ⟨rfl, rfl⟩))
    (fun os started H enc _ => lifted os started H enc)

theorem plain (f : FuncId) (fn : Func) (hf : Tryd.pinned.checked.prog.funcNamed "augur/augurlaw.FracField" = some f) (hfn : Tryd.pinned.checked.prog.funcs[f]? = some fn) :
    false = Tryd.pinned.checked.prog.looks [] ∧ ∀ (j : Nat) t, fn.params[j]? = some t → Tryd.pinned.checked.prog.wantsStandIn t = false := by
  obtain rfl : f = 5 := Option.some.inj ((show Tryd.prog.funcNamed "augur/augurlaw.FracField" = some 5 by kernel_rfl).symm.trans hf) |>.symm
  obtain rfl : fn = Tryd.f5 := (Option.some.inj (Tryd.func5.symm.trans hfn)).symm
  refine ⟨by kernel_rfl, fun j t ht => ?_⟩
  rw [Tryd.params5] at ht
  have hm : t ∈ [38, 38, 38] := by simpa using Array.mem_of_getElem? ht
  have hall : ([38, 38, 38].all fun u => !Tryd.prog.wantsStandIn u) = true := by kernel_rfl
  exact (show Tryd.prog.wantsStandIn t = false by simpa using List.all_eq_true.1 hall t hm)

/-- THE CARD. -/
theorem card : Rows.FracFieldCardSaid :=
  Claim7.holds_tied_plain_at .later [] _ _ _ _ said (fun _ h => by cases h) (by kernel_rfl) (fun _ h => by cases h) fracField_row_tie rfl ⟨rfl, rfl⟩ (by kernel_rfl) rfl plain (by kernel_rfl)
#print axioms card
end Go.Proofs.YtghjhflfcambjaaDoor.fracField
