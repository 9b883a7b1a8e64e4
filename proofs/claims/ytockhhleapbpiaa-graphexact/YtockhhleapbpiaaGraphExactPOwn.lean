/- GraphExact: for every list of lists and every four lists of ints that the form lets be read the law returns true (what Order, Check, Above, Apart and Moral answer is what the document asks), and all arguments read as before; no conditions but those of the row. -/
import Derived.Test.YtockhhleapbpiaaRows
import Derived.Test.YtockhhleapbpiaaGexWToHandT
import Derived.Test.YtockhhleapbpiaaHandLToHandA
import Derived.ProofKit
import Derived.Carry
import Derived.OpenShut
import Derived.ShutString
import Derived.LaidMore
import Derived.Lay
import Derived.SevenTiedAt
import Derived.Stop.Joined
import Derived.SizedLaws
namespace Go.Proofs.Ytockhhleapbpiaa.graphExact
open Go.ChangeShapes Go.WideShapes Go.ChangeAt Go.RowKit
open Go.ChangeMaps (open_string shut_string)

theorem laidOut : laidOutB Try.prog = true := by kernel_rfl
theorem own : ownKnob Try.prog.godebug = none := by kernel_rfl
set_option maxRecDepth 100000 in
theorem lifted (os : Os) (started : os.Started) (H : Type) (enc : TypeId × Value → H) :
    ReturnsInHanded {} Try.checked os 3 .any (fun w args => (Rows.graphExactSpec.pre enc Try.prog Try.f3 Rows.graphExactRow.domain false w args ∧ True) ∧ sizedMet enc Try.prog Try.f3 (OpenSpec.ofChange Rows.graphExactSpec) false w args)
      (Rows.graphExactSpec.post enc Try.prog Try.f3 false true false false) := by
  refine lift_shaped (C := Try.checked) (X := fun _ _ => True) (fun _ _ _ _ h => h) own started (by kernel_rfl) Try.func3
    (ChangeSpec.witness_shaped (enc := enc) (C := Try.checked) (os := os) (X := fun _ _ => True) false (World.laidAll Try.prog os Rows.graphExactRow.laid) #[.slice none 0 0, .slice none 0 0, .slice none 0 0, .slice none 0 0, .slice none 0 0] 8 (World.laidAll_os _ _ _)
      (World.shaped_of_ZipB (by kernel_rfl) (by kernel_rfl)) (by kernel_rfl) (by kernel_rfl) (by kernel_rfl)
      trivial) ?_
  intro W base args ds gs before hval0 hW hsz0 hL hsh
  have hval : ∀ (j : Nat) t v, Try.f3.params[j]? = some t → args[j]? = some v → Value.okWide Try.prog W .any base t v := hval0
  have hsz : (DataW.weightsEach Try.prog (Try.f3.params.toList ++ Rows.graphExactSpec.plain.varTypes Try.prog) (ds ++ gs)).all (· ≤ reachBytes) = true := hsz0
  have hW' := hW
  obtain ⟨p, q, hA0, hV, rfl, hfz, hnd⟩ := hW
  have hA : DataW.TrodAll enc Try.prog W 0 (fun _ => true) true Try.f3.params.toList args.toList ds p := hA0
  have hAll := fun (W' : World) (hb : Below W.heap.size W W') => below_all laidOut hb (by kernel_rfl) hA
  rw [Try.params3] at hA hval hsz
  obtain ⟨v0, vs0, d0, ds0, p0, q0, hargs, rfl, rfl, h0, r0⟩ := trodAll_cons hA
  obtain ⟨v1, vs1, d1, ds1, p1, q1, rfl, rfl, rfl, h1, r1⟩ := trodAll_cons r0
  obtain ⟨v2, vs2, d2, ds2, p2, q2, rfl, rfl, rfl, h2, r2⟩ := trodAll_cons r1
  obtain ⟨v3, vs3, d3, ds3, p3, q3, rfl, rfl, rfl, h3, r3⟩ := trodAll_cons r2
  obtain ⟨v4, vs4, d4, ds4, p4, q4, rfl, rfl, rfl, h4, r4⟩ := trodAll_cons r3
  obtain ⟨rfl, rfl, rfl⟩ := trodAll_nil r4
  obtain rfl : args = #[v0, v1, v2, v3, v4] := by cases args; simp_all
  obtain ⟨rfl, rfl⟩ := trodVars_none hV
  obtain ⟨a0, c0, L0, rfl, hI0, hd0⟩ := open_rows (hval 0 22 v0 rfl rfl) h0
  obtain ⟨a1, c1, l1, rfl, hI1, _, hd1, _⟩ := open_ints (hval 1 23 v1 rfl rfl) h1
  obtain ⟨a2, c2, l2, rfl, hI2, _, hd2, _⟩ := open_ints (hval 2 23 v2 rfl rfl) h2
  obtain ⟨a3, c3, l3, rfl, hI3, _, hd3, _⟩ := open_ints (hval 3 23 v3 rfl rfl) h3
  obtain ⟨a4, c4, l4, rfl, hI4, _, hd4, _⟩ := open_ints (hval 4 23 v4 rfl rfl) h4
  have s0 := sized_rows hsz (j := 0) rfl rfl hd0
  have s1 := sized_ints hsz (j := 1) rfl rfl hd1
  have s2 := sized_ints hsz (j := 2) rfl rfl hd2
  have s3 := sized_ints hsz (j := 3) rfl rfl hd3
  have s4 := sized_ints hsz (j := 4) rfl rfl hd4
  have walk : Calls Try.prog 3 #[.slice a0 L0.length c0, .slice a1 l1.length c1, .slice a2 l2.length c2, .slice a3 l3.length c3, .slice a4 l4.length c4] W fun e w' => e = .returned (.bool true) ∧ Below W.heap.size W w' :=
    graphExact_any a0 a1 a2 a3 a4 c0 c1 c2 c3 c4 L0 l1 l2 l3 l4 W hI0 hI1 hI2 hI3 hI4 s0 s1 s2 s3 s4
  refine walk.mono fun e W' ⟨he, hb⟩ => ?_
  subst he
  exact ⟨_, rfl, _, _, _, [], _, [], hW', trodAll_mk1 (shut_bool Try.underlying4 _), hAll W' hb, rfl, hb.frame _, fun h => by cases h⟩

theorem said : Rows.GraphExactSaid :=
  OpenClaim.holds_of_wide 3 Try.f3 rfl rfl rfl rfl rfl rfl rfl ⟨rfl, rfl, rfl, rfl, rfl⟩ rfl rfl rfl rfl rfl (by kernel_rfl) Try.func3 (by kernel_rfl)
    (of_decide_eq_true (by kernel_rfl)) (by unfold Func.isWrapper; first | (rw [if_pos (by decide +kernel)]; kernel_rfl) | (rw [if_neg (by decide +kernel)]; exact ⟨rfl, rfl⟩))
    (fun os started H enc _ => by
      have h := lifted os started H enc
      simp only [and_true] at h
      exact h)

#print axioms said
end Go.Proofs.Ytockhhleapbpiaa.graphExact

