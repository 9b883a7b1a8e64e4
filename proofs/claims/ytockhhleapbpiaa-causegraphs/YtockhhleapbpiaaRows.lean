/-
  No cell of these rows narrows 'for every input' (looked for: loops, veiled, ifaces, maps, wideKeys, modest, calm, conditions, laid).
  DERIVED. THE GIVEN ROWS OF THIS SEAT. 4 by the template 'for every input the law returns true; each argument reads behind the call as it read before'; 0 by the template 'total and deterministic' (their statements: YtockhhleapbpiaaTotals.lean).
  GIVEN WITH THE SEED: the statements are not yours to turn. If you find one false, say at which input.
  Laid BY PROGRAM, IN A SANDBOX (cutbox-rows.mjs): the forced cells as the released guide's own fill.sh prints them over the translation 6e30a61b790e1429… (all of the seat's roots in one cut). By AI agents, Wed Nov 11 2026. No macro, syntax, notation, axiom, sorry.
-/
import Derived.Test.YtockhhleapbpiaaChecked
import GoSem.Claim
import GoSem.ClaimJoined
import GoSem.ClaimMapViews
import Derived.JoinedTies
import Derived.KernelRfl
namespace Go.Proofs.Ytockhhleapbpiaa
/- THE CELL 'sum', in the pinned program and in every row, IS THE sha256 OF THE DUMP (.gsa) THAT YtockhhleapbpiaaProg.lean LOADS. Nothing in Lean hashes anything: it is a label: what it is worth is what the hold of that sum in a sandbox is worth. -/
noncomputable def Try.pinned : Pinned := { name := "ytockhhleapbpiaa", sum := "6e30a61b790e142937a7b47cace6a591658def26d3042f79b8227d38c7408026", checked := Try.checked }
namespace Rows
def none {H : Type} : Left H := { results := [], args := [] }

/-- 'augurlaw.GraphExact': WHATEVER THE INPUT: true; the input reads as it did. -/
def graphExactSpec : ChangeSpec := { name := "graphExact", fn := fun _ => fun
  | [d1, d2, d3, d4, d5] => { results := [.lit (.bool true)], args := [d1, d2, d3, d4, d5] }
  | _ => none }
def graphExactRow : OpenClaim := { program := "ytockhhleapbpiaa", sum := "6e30a61b790e142937a7b47cace6a591658def26d3042f79b8227d38c7408026", func := "augur/augurlaw.GraphExact", spec := "graphExact", unfollowed := true, recurses := true, plainKeys := false, apart := false }
def GraphExactSaid : Prop := graphExactRow.holds Try.pinned (OpenSpec.ofChange graphExactSpec)

/-- ITS FALSE NEIGHBOUR: 'it returns false'. Refute it at one input. -/
def graphExactWrong : ChangeSpec := { name := "graphExact", fn := fun _ => fun
  | [d1, d2, d3, d4, d5] => { results := [.lit (.bool false)], args := [d1, d2, d3, d4, d5] }
  | _ => none }
def GraphExactWrongFalsely : Prop := graphExactRow.holds Try.pinned (OpenSpec.ofChange graphExactWrong)

/-- 'augurlaw.GraphFills': WHATEVER THE INPUT: true; the input reads as it did. -/
def graphFillsSpec : ChangeSpec := { name := "graphFills", fn := fun _ => fun
  | [d1, d2] => { results := [.lit (.bool true)], args := [d1, d2] }
  | _ => none }
def graphFillsRow : OpenClaim := { program := "ytockhhleapbpiaa", sum := "6e30a61b790e142937a7b47cace6a591658def26d3042f79b8227d38c7408026", func := "augur/augurlaw.GraphFills", spec := "graphFills", unfollowed := true, recurses := true, plainKeys := false, apart := false }
def GraphFillsSaid : Prop := graphFillsRow.holds Try.pinned (OpenSpec.ofChange graphFillsSpec)

/-- ITS FALSE NEIGHBOUR: 'it returns false'. Refute it at one input. -/
def graphFillsWrong : ChangeSpec := { name := "graphFills", fn := fun _ => fun
  | [d1, d2] => { results := [.lit (.bool false)], args := [d1, d2] }
  | _ => none }
def GraphFillsWrongFalsely : Prop := graphFillsRow.holds Try.pinned (OpenSpec.ofChange graphFillsWrong)

/-- 'augurlaw.GraphTrees': WHATEVER THE INPUT: true; the input reads as it did. -/
def graphTreesSpec : ChangeSpec := { name := "graphTrees", fn := fun _ => fun
  | [d1, d2] => { results := [.lit (.bool true)], args := [d1, d2] }
  | _ => none }
def graphTreesRow : OpenClaim := { program := "ytockhhleapbpiaa", sum := "6e30a61b790e142937a7b47cace6a591658def26d3042f79b8227d38c7408026", func := "augur/augurlaw.GraphTrees", spec := "graphTrees", unfollowed := true, recurses := true, plainKeys := false, apart := false }
def GraphTreesSaid : Prop := graphTreesRow.holds Try.pinned (OpenSpec.ofChange graphTreesSpec)

/-- ITS FALSE NEIGHBOUR: 'it returns false'. Refute it at one input. -/
def graphTreesWrong : ChangeSpec := { name := "graphTrees", fn := fun _ => fun
  | [d1, d2] => { results := [.lit (.bool false)], args := [d1, d2] }
  | _ => none }
def GraphTreesWrongFalsely : Prop := graphTreesRow.holds Try.pinned (OpenSpec.ofChange graphTreesWrong)

/-- 'augurlaw.CauseGraphs': WHATEVER THE INPUT: true; the input reads as it did. -/
def causeGraphsSpec : ChangeSpec := { name := "causeGraphs", fn := fun _ => fun
  | [d1, d2, d3, d4, d5, d6, d7, d8] => { results := [.lit (.bool true)], args := [d1, d2, d3, d4, d5, d6, d7, d8] }
  | _ => none }
def causeGraphsRow : OpenClaim := { program := "ytockhhleapbpiaa", sum := "6e30a61b790e142937a7b47cace6a591658def26d3042f79b8227d38c7408026", func := "augur/augurlaw.CauseGraphs", spec := "causeGraphs", unfollowed := true, recurses := true, plainKeys := false, apart := false }
def CauseGraphsSaid : Prop := causeGraphsRow.holds Try.pinned (OpenSpec.ofChange causeGraphsSpec)

/-- ITS FALSE NEIGHBOUR: 'it returns false'. Refute it at one input. -/
def causeGraphsWrong : ChangeSpec := { name := "causeGraphs", fn := fun _ => fun
  | [d1, d2, d3, d4, d5, d6, d7, d8] => { results := [.lit (.bool false)], args := [d1, d2, d3, d4, d5, d6, d7, d8] }
  | _ => none }
def CauseGraphsWrongFalsely : Prop := causeGraphsRow.holds Try.pinned (OpenSpec.ofChange causeGraphsWrong)

/- THE SECOND FORM. 'bulk': how many values and letters a reading holds, each counted each time it is reached (what is shared counts as often as it is met; a slice's spare places count too). A statement '..UptoSaid' is the law's where the arguments, and the package variables that the reading takes, are together of bulk at most 1048576: NARROWER than '..Said'. Prove '..Said' where nothing that the law and all that it calls make is longer than what came in: it says more and counts as full. Else prove '..UptoSaid'. A law counts once. -/
mutual
def uptoBulk {H : Type} : DataW H → Nat
  | .lit (.string bytes) => bytes.length + 1
  | .lit _ => 1
  | .nil => 1
  | .ptr d => uptoBulk d + 1
  | .slice elems spare => uptoBulkAll elems + uptoBulkAll spare + 1
  | .agg parts => uptoBulkAll parts + 1
  | .iface _ d => uptoBulk d + 1
  | .map entries => uptoBulkEntries entries + 1
  | .held _ => 1
def uptoBulkAll {H : Type} : List (DataW H) → Nat
  | [] => 0
  | d :: r => uptoBulk d + uptoBulkAll r
def uptoBulkEntries {H : Type} : List (Lit × DataW H) → Nat
  | [] => 0
  | x :: r => uptoBulkEntry x + uptoBulkEntries r
def uptoBulkEntry {H : Type} : Lit × DataW H → Nat
  | (.string bytes, d) => bytes.length + uptoBulk d + 1
  | (_, d) => uptoBulk d + 1
 end
def uptoSmall : (H : Type) → List (DataW H) → Bool := fun _ ds => decide (uptoBulkAll ds ≤ 1048576)
def OpenSpec.upto (s : _root_.Go.ChangeSpec) : _root_.Go.OpenSpec := { _root_.Go.OpenSpec.ofChange s with cond := some uptoSmall }

/-- 'augurlaw.GraphExact', WHERE WHAT IT READS IS OF BULK AT MOST 1048576: true; the input reads as it did. -/
def graphExactUptoRow : OpenClaim := { program := "ytockhhleapbpiaa", sum := "6e30a61b790e142937a7b47cace6a591658def26d3042f79b8227d38c7408026", func := "augur/augurlaw.GraphExact", spec := "graphExact", unfollowed := true, recurses := true, plainKeys := false, apart := false, narrowed := true }
def GraphExactUptoSaid : Prop := graphExactUptoRow.holds Try.pinned (OpenSpec.upto graphExactSpec)

/-- 'augurlaw.GraphFills', WHERE WHAT IT READS IS OF BULK AT MOST 1048576: true; the input reads as it did. -/
def graphFillsUptoRow : OpenClaim := { program := "ytockhhleapbpiaa", sum := "6e30a61b790e142937a7b47cace6a591658def26d3042f79b8227d38c7408026", func := "augur/augurlaw.GraphFills", spec := "graphFills", unfollowed := true, recurses := true, plainKeys := false, apart := false, narrowed := true }
def GraphFillsUptoSaid : Prop := graphFillsUptoRow.holds Try.pinned (OpenSpec.upto graphFillsSpec)

/-- 'augurlaw.GraphTrees', WHERE WHAT IT READS IS OF BULK AT MOST 1048576: true; the input reads as it did. -/
def graphTreesUptoRow : OpenClaim := { program := "ytockhhleapbpiaa", sum := "6e30a61b790e142937a7b47cace6a591658def26d3042f79b8227d38c7408026", func := "augur/augurlaw.GraphTrees", spec := "graphTrees", unfollowed := true, recurses := true, plainKeys := false, apart := false, narrowed := true }
def GraphTreesUptoSaid : Prop := graphTreesUptoRow.holds Try.pinned (OpenSpec.upto graphTreesSpec)

/-- 'augurlaw.CauseGraphs', WHERE WHAT IT READS IS OF BULK AT MOST 1048576: true; the input reads as it did. -/
def causeGraphsUptoRow : OpenClaim := { program := "ytockhhleapbpiaa", sum := "6e30a61b790e142937a7b47cace6a591658def26d3042f79b8227d38c7408026", func := "augur/augurlaw.CauseGraphs", spec := "causeGraphs", unfollowed := true, recurses := true, plainKeys := false, apart := false, narrowed := true }
def CauseGraphsUptoSaid : Prop := causeGraphsUptoRow.holds Try.pinned (OpenSpec.upto causeGraphsSpec)

end Rows
end Go.Proofs.Ytockhhleapbpiaa
