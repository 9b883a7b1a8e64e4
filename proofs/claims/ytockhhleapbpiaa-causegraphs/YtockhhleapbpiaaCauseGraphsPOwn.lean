/- CauseGraphs: for every list of lists, every four lists of ints and every three ints that the form lets be read the law returns true (what Rule, BackDoor and FrontDoor answer is what the document asks), and all arguments read as before; no conditions but those of the row. -/
import Derived.Test.YtockhhleapbpiaaRows
import Derived.Test.YtockhhleapbpiaaCsgWToHandA
import Derived.ProofKit
import Derived.Carry
import Derived.OpenShut
import Derived.ShutString
import Derived.LaidMore
import Derived.Lay
import Derived.SevenTiedAt
import Derived.Stop.Joined
import Derived.SizedLaws
namespace Go.Proofs.Ytockhhleapbpiaa.causeGraphs
open Go.ChangeShapes Go.WideShapes Go.ChangeAt Go.RowKit
open Go.ChangeMaps (open_string shut_string)

theorem laidOut : laidOutB Try.prog = true := by kernel_rfl
theorem own : ownKnob Try.prog.godebug = none := by kernel_rfl
set_option maxRecDepth 100000 in
theorem lifted (os : Os) (started : os.Started) (H : Type) (enc : TypeId × Value → H) :
    ReturnsInHanded {} Try.checked os 6 .any (fun w args => (Rows.causeGraphsSpec.pre enc Try.prog Try.f6 Rows.causeGraphsRow.domain false w args ∧ True) ∧ sizedMet enc Try.prog Try.f6 (OpenSpec.ofChange Rows.causeGraphsSpec) false w args)
      (Rows.causeGraphsSpec.post enc Try.prog Try.f6 false true false false) := by
  refine lift_shaped (C := Try.checked) (X := fun _ _ => True) (fun _ _ _ _ h => h) own started (by kernel_rfl) Try.func6
    (ChangeSpec.witness_shaped (enc := enc) (C := Try.checked) (os := os) (X := fun _ _ => True) false (World.laidAll Try.prog os Rows.causeGraphsRow.laid) #[.slice none 0 0, .int .i64 0, .slice none 0 0, .slice none 0 0, .slice none 0 0, .slice none 0 0, .int .i64 0, .int .i64 0] 8 (World.laidAll_os _ _ _)
      (World.shaped_of_ZipB (by kernel_rfl) (by kernel_rfl)) (by kernel_rfl) (by kernel_rfl) (by kernel_rfl)
      trivial) ?_
  intro W base args ds gs before hval0 hW hsz0 hL hsh
  have hval : ∀ (j : Nat) t v, Try.f6.params[j]? = some t → args[j]? = some v → Value.okWide Try.prog W .any base t v := hval0
  have hsz : (DataW.weightsEach Try.prog (Try.f6.params.toList ++ Rows.causeGraphsSpec.plain.varTypes Try.prog) (ds ++ gs)).all (· ≤ reachBytes) = true := hsz0
  have hW' := hW
  obtain ⟨p, q, hA0, hV, rfl, hfz, hnd⟩ := hW
  have hA : DataW.TrodAll enc Try.prog W 0 (fun _ => true) true Try.f6.params.toList args.toList ds p := hA0
  have hAll := fun (W' : World) (hb : Below W.heap.size W W') => below_all laidOut hb (by kernel_rfl) hA
  rw [Try.params6] at hA hval hsz
  obtain ⟨v0, vs0, d0, ds0, p0, q0, hargs, rfl, rfl, h0, r0⟩ := trodAll_cons hA
  obtain ⟨v1, vs1, d1, ds1, p1, q1, rfl, rfl, rfl, h1, r1⟩ := trodAll_cons r0
  obtain ⟨v2, vs2, d2, ds2, p2, q2, rfl, rfl, rfl, h2, r2⟩ := trodAll_cons r1
  obtain ⟨v3, vs3, d3, ds3, p3, q3, rfl, rfl, rfl, h3, r3⟩ := trodAll_cons r2
  obtain ⟨v4, vs4, d4, ds4, p4, q4, rfl, rfl, rfl, h4, r4⟩ := trodAll_cons r3
  obtain ⟨v5, vs5, d5, ds5, p5, q5, rfl, rfl, rfl, h5, r5⟩ := trodAll_cons r4
  obtain ⟨v6, vs6, d6, ds6, p6, q6, rfl, rfl, rfl, h6, r6⟩ := trodAll_cons r5
  obtain ⟨v7, vs7, d7, ds7, p7, q7, rfl, rfl, rfl, h7, r7⟩ := trodAll_cons r6
  obtain ⟨rfl, rfl, rfl⟩ := trodAll_nil r7
  obtain rfl : args = #[v0, v1, v2, v3, v4, v5, v6, v7] := by cases args; simp_all
  obtain ⟨rfl, rfl⟩ := trodVars_none hV
  obtain ⟨a0, c0, L0, rfl, hI0, hd0⟩ := open_rows (hval 0 22 v0 rfl rfl) h0
  obtain ⟨k1, rfl, rfl, rfl, _⟩ := open_int Try.underlying3 (hval 1 3 v1 rfl rfl) h1
  obtain ⟨a2, c2, l2, rfl, hI2, hN2, hd2, _⟩ := open_ints (hval 2 23 v2 rfl rfl) h2
  obtain ⟨a3, c3, l3, rfl, hI3, hN3, hd3, _⟩ := open_ints (hval 3 23 v3 rfl rfl) h3
  obtain ⟨a4, c4, l4, rfl, hI4, hN4, hd4, _⟩ := open_ints (hval 4 23 v4 rfl rfl) h4
  obtain ⟨a5, c5, l5, rfl, hI5, hN5, hd5, _⟩ := open_ints (hval 5 23 v5 rfl rfl) h5
  obtain ⟨k6, rfl, rfl, rfl, _⟩ := open_int Try.underlying3 (hval 6 3 v6 rfl rfl) h6
  obtain ⟨k7, rfl, rfl, rfl, _⟩ := open_int Try.underlying3 (hval 7 3 v7 rfl rfl) h7
  have s0 := sized_rows hsz (j := 0) rfl rfl hd0
  have s2 := sized_ints hsz (j := 2) rfl rfl hd2
  have s3 := sized_ints hsz (j := 3) rfl rfl hd3
  have s4 := sized_ints hsz (j := 4) rfl rfl hd4
  have s5 := sized_ints hsz (j := 5) rfl rfl hd5
  have walk : Calls Try.prog 6 #[.slice a0 L0.length c0, .int .i64 k1, .slice a2 l2.length c2, .slice a3 l3.length c3, .slice a4 l4.length c4, .slice a5 l5.length c5, .int .i64 k6, .int .i64 k7] W fun e w' => e = .returned (.bool true) ∧ Below W.heap.size W w' :=
    causeGraphs_any a0 a2 a3 a4 a5 c0 c2 c3 c4 c5 L0 k1 l2 l3 l4 l5 k6 k7 W hI0 hI2 hI3 hI4 hI5 hN2 hN3 hN4 hN5 s0 s2 s3 s4 s5
  refine walk.mono fun e W' ⟨he, hb⟩ => ?_
  subst he
  exact ⟨_, rfl, _, _, _, [], _, [], hW', trodAll_mk1 (shut_bool Try.underlying4 _), hAll W' hb, rfl, hb.frame _, fun h => by cases h⟩

theorem said : Rows.CauseGraphsSaid :=
  OpenClaim.holds_of_wide 6 Try.f6 rfl rfl rfl rfl rfl rfl rfl ⟨rfl, rfl, rfl, rfl, rfl⟩ rfl rfl rfl rfl rfl (by kernel_rfl) Try.func6 (by kernel_rfl)
    (of_decide_eq_true (by kernel_rfl)) (by unfold Func.isWrapper; first | (rw [if_pos (by decide +kernel)]; kernel_rfl) | (rw [if_neg (by decide +kernel)]; exact ⟨rfl, rfl⟩))
    (fun os started H enc _ => by
      have h := lifted os started H enc
      simp only [and_true] at h
      exact h)

#print axioms said
end Go.Proofs.Ytockhhleapbpiaa.causeGraphs

