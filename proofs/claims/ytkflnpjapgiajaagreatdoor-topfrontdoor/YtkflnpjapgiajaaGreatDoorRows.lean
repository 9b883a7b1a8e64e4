/-
  NARROWER THAN 'FOR EVERY INPUT', by the rows' own cells (each row's printed sentence says how): CauseExact: laid · CauseMade: laid · TopBackDoor: laid · TopFrontDoor: laid · TopRules: laid.
  DERIVED. THE GIVEN ROWS OF THIS SEAT. 5 by the template 'for every input the law returns true; each argument reads behind the call as it read before'; 0 by the template 'total and deterministic' (their statements: YtkflnpjapgiajaaGreatDoorTotals.lean).
  GIVEN WITH THE SEED: the statements are not yours to turn. If you find one false, say at which input.
  Laid BY PROGRAM, IN A SANDBOX (cutbox-rows.mjs): the forced cells as the released guide's own fill.sh prints them over the translation 1e2bbb97e860493d… (all of the seat's roots in one cut). By AI agents, Wed Nov 11 2026. No macro, syntax, notation, axiom, sorry.
-/
import Derived.Test.YtkflnpjapgiajaaGreatDoorChecked
import GoSem.PinnedTables
import GoSem.Claim
import GoSem.ClaimJoined
import GoSem.ClaimMapViews
import Derived.JoinedTies
import Derived.KernelRfl
namespace Go.Proofs.YtkflnpjapgiajaaGreatDoor
/- THE CELL 'sum', in the pinned program and in every row, IS THE sha256 OF THE DUMP (.gsa) THAT YtkflnpjapgiajaaGreatDoorProg.lean LOADS. Nothing in Lean hashes anything: it is a label: what it is worth is what the hold of that sum in a sandbox is worth. -/
noncomputable def Tryz.pinned : Pinned := { name := "ytkflnpjapgiajaagreatdoor", sum := "1e2bbb97e860493d261c15598160ca56a1f23555de5ec4c58c6956f4dc11491d", checked := Tryz.checked }
namespace Rows
def none {H : Type} : Left H := { results := [], args := [] }

/- WHAT THE LISTED PACKAGE-LEVEL VARIABLES READ AS WHEN THE CALL BEGINS. Each datum BY PROGRAM (the guide's laid-datum.mjs) off the statement by which the dump's own 'gosem.cut.vars' lays the variable. In a bare row this is a premise. The card (YtkflnpjapgiajaaGreatDoorCards.lean) ties it to the program's text. -/
def laid_unicode_utf8_acceptRanges {H : Type} : DataW H := .agg [.agg [.lit (.int .u8 128), .lit (.int .u8 191)], .agg [.lit (.int .u8 160), .lit (.int .u8 191)], .agg [.lit (.int .u8 128), .lit (.int .u8 159)], .agg [.lit (.int .u8 144), .lit (.int .u8 191)], .agg [.lit (.int .u8 128), .lit (.int .u8 143)], .agg [.lit (.int .u8 0), .lit (.int .u8 0)], .agg [.lit (.int .u8 0), .lit (.int .u8 0)], .agg [.lit (.int .u8 0), .lit (.int .u8 0)], .agg [.lit (.int .u8 0), .lit (.int .u8 0)], .agg [.lit (.int .u8 0), .lit (.int .u8 0)], .agg [.lit (.int .u8 0), .lit (.int .u8 0)], .agg [.lit (.int .u8 0), .lit (.int .u8 0)], .agg [.lit (.int .u8 0), .lit (.int .u8 0)], .agg [.lit (.int .u8 0), .lit (.int .u8 0)], .agg [.lit (.int .u8 0), .lit (.int .u8 0)], .agg [.lit (.int .u8 0), .lit (.int .u8 0)]]
/-- One of Go's own tables, pinned by name: the form's constant. -/
def laid_unicode_utf8_first : DataW Unit := Go.Pinned.utf8First

/-- 'augurlaw.CauseExact': WHATEVER THE INPUT: true; the input reads as it did. -/
def causeExactSpec : ChangeSpec := { name := "causeExact", fn := fun _ => fun
  | [d1, d2, d3, d4, d5, d6] => { results := [.lit (.bool true)], args := [d1, d2, d3, d4, d5, d6] }
  | _ => none }
def causeExactRow : OpenClaim := { program := "ytkflnpjapgiajaagreatdoor", sum := "1e2bbb97e860493d261c15598160ca56a1f23555de5ec4c58c6956f4dc11491d", func := "augur/augurlaw.CauseExact", spec := "causeExact", inPlace := ["internal/bytealg.IndexByteString", "internal/bytealg.IndexString"], unfollowed := true, recurses := true, named := ["unicode/utf8.first", "unicode/utf8.acceptRanges", "internal/bytealg.MaxLen"], plainKeys := false, apart := false, laid := [("unicode/utf8.acceptRanges", laid_unicode_utf8_acceptRanges), ("unicode/utf8.first", laid_unicode_utf8_first)] }
def CauseExactSaid : Prop := causeExactRow.holds Tryz.pinned (OpenSpec.ofChange causeExactSpec)

/-- ITS FALSE NEIGHBOUR: 'it returns false'. Refute it at one input. -/
def causeExactWrong : ChangeSpec := { name := "causeExact", fn := fun _ => fun
  | [d1, d2, d3, d4, d5, d6] => { results := [.lit (.bool false)], args := [d1, d2, d3, d4, d5, d6] }
  | _ => none }
def CauseExactWrongFalsely : Prop := causeExactRow.holds Tryz.pinned (OpenSpec.ofChange causeExactWrong)

/-- 'augurlaw.CauseMade': WHATEVER THE INPUT: true; the input reads as it did. -/
def causeMadeSpec : ChangeSpec := { name := "causeMade", fn := fun _ => fun
  | [d1, d2, d3, d4, d5, d6] => { results := [.lit (.bool true)], args := [d1, d2, d3, d4, d5, d6] }
  | _ => none }
def causeMadeRow : OpenClaim := { program := "ytkflnpjapgiajaagreatdoor", sum := "1e2bbb97e860493d261c15598160ca56a1f23555de5ec4c58c6956f4dc11491d", func := "augur/augurlaw.CauseMade", spec := "causeMade", inPlace := ["internal/bytealg.IndexByteString", "internal/bytealg.IndexString"], unfollowed := true, recurses := true, named := ["unicode/utf8.first", "unicode/utf8.acceptRanges", "internal/bytealg.MaxLen"], plainKeys := false, apart := false, laid := [("unicode/utf8.acceptRanges", laid_unicode_utf8_acceptRanges), ("unicode/utf8.first", laid_unicode_utf8_first)] }
def CauseMadeSaid : Prop := causeMadeRow.holds Tryz.pinned (OpenSpec.ofChange causeMadeSpec)

/-- ITS FALSE NEIGHBOUR: 'it returns false'. Refute it at one input. -/
def causeMadeWrong : ChangeSpec := { name := "causeMade", fn := fun _ => fun
  | [d1, d2, d3, d4, d5, d6] => { results := [.lit (.bool false)], args := [d1, d2, d3, d4, d5, d6] }
  | _ => none }
def CauseMadeWrongFalsely : Prop := causeMadeRow.holds Tryz.pinned (OpenSpec.ofChange causeMadeWrong)

/-- 'augurtop.TopBackDoor': WHATEVER THE INPUT: true; the input reads as it did. -/
def topBackDoorSpec : ChangeSpec := { name := "topBackDoor", fn := fun _ => fun
  | [d1, d2, d3, d4, d5] => { results := [.lit (.bool true)], args := [d1, d2, d3, d4, d5] }
  | _ => none }
def topBackDoorRow : OpenClaim := { program := "ytkflnpjapgiajaagreatdoor", sum := "1e2bbb97e860493d261c15598160ca56a1f23555de5ec4c58c6956f4dc11491d", func := "augur/augurtop.TopBackDoor", spec := "topBackDoor", inPlace := ["internal/bytealg.IndexByteString", "internal/bytealg.IndexString"], unfollowed := true, recurses := true, named := ["unicode/utf8.first", "unicode/utf8.acceptRanges", "internal/bytealg.MaxLen"], plainKeys := false, apart := false, laid := [("unicode/utf8.acceptRanges", laid_unicode_utf8_acceptRanges), ("unicode/utf8.first", laid_unicode_utf8_first)] }
def TopBackDoorSaid : Prop := topBackDoorRow.holds Tryz.pinned (OpenSpec.ofChange topBackDoorSpec)

/-- ITS FALSE NEIGHBOUR: 'it returns false'. Refute it at one input. -/
def topBackDoorWrong : ChangeSpec := { name := "topBackDoor", fn := fun _ => fun
  | [d1, d2, d3, d4, d5] => { results := [.lit (.bool false)], args := [d1, d2, d3, d4, d5] }
  | _ => none }
def TopBackDoorWrongFalsely : Prop := topBackDoorRow.holds Tryz.pinned (OpenSpec.ofChange topBackDoorWrong)

/-- 'augurtop.TopFrontDoor': WHATEVER THE INPUT: true; the input reads as it did. -/
def topFrontDoorSpec : ChangeSpec := { name := "topFrontDoor", fn := fun _ => fun
  | [d1, d2, d3, d4, d5] => { results := [.lit (.bool true)], args := [d1, d2, d3, d4, d5] }
  | _ => none }
def topFrontDoorRow : OpenClaim := { program := "ytkflnpjapgiajaagreatdoor", sum := "1e2bbb97e860493d261c15598160ca56a1f23555de5ec4c58c6956f4dc11491d", func := "augur/augurtop.TopFrontDoor", spec := "topFrontDoor", inPlace := ["internal/bytealg.IndexByteString", "internal/bytealg.IndexString"], unfollowed := true, recurses := true, named := ["unicode/utf8.first", "unicode/utf8.acceptRanges", "internal/bytealg.MaxLen"], plainKeys := false, apart := false, laid := [("unicode/utf8.acceptRanges", laid_unicode_utf8_acceptRanges), ("unicode/utf8.first", laid_unicode_utf8_first)] }
def TopFrontDoorSaid : Prop := topFrontDoorRow.holds Tryz.pinned (OpenSpec.ofChange topFrontDoorSpec)

/-- ITS FALSE NEIGHBOUR: 'it returns false'. Refute it at one input. -/
def topFrontDoorWrong : ChangeSpec := { name := "topFrontDoor", fn := fun _ => fun
  | [d1, d2, d3, d4, d5] => { results := [.lit (.bool false)], args := [d1, d2, d3, d4, d5] }
  | _ => none }
def TopFrontDoorWrongFalsely : Prop := topFrontDoorRow.holds Tryz.pinned (OpenSpec.ofChange topFrontDoorWrong)

/-- 'augurtop.TopRules': WHATEVER THE INPUT: true; the input reads as it did. -/
def topRulesSpec : ChangeSpec := { name := "topRules", fn := fun _ => fun
  | [d1, d2, d3, d4] => { results := [.lit (.bool true)], args := [d1, d2, d3, d4] }
  | _ => none }
def topRulesRow : OpenClaim := { program := "ytkflnpjapgiajaagreatdoor", sum := "1e2bbb97e860493d261c15598160ca56a1f23555de5ec4c58c6956f4dc11491d", func := "augur/augurtop.TopRules", spec := "topRules", inPlace := ["internal/bytealg.IndexByteString", "internal/bytealg.IndexString"], unfollowed := true, recurses := true, named := ["unicode/utf8.first", "unicode/utf8.acceptRanges", "internal/bytealg.MaxLen"], plainKeys := false, apart := false, laid := [("unicode/utf8.acceptRanges", laid_unicode_utf8_acceptRanges), ("unicode/utf8.first", laid_unicode_utf8_first)] }
def TopRulesSaid : Prop := topRulesRow.holds Tryz.pinned (OpenSpec.ofChange topRulesSpec)

/-- ITS FALSE NEIGHBOUR: 'it returns false'. Refute it at one input. -/
def topRulesWrong : ChangeSpec := { name := "topRules", fn := fun _ => fun
  | [d1, d2, d3, d4] => { results := [.lit (.bool false)], args := [d1, d2, d3, d4] }
  | _ => none }
def TopRulesWrongFalsely : Prop := topRulesRow.holds Tryz.pinned (OpenSpec.ofChange topRulesWrong)

/- THE SECOND FORM. 'bulk': how many values and letters a reading holds, each counted each time it is reached (what is shared counts as often as it is met; a slice's spare places count too). A statement '..UptoSaid' is the law's where the arguments, and the package variables that the reading takes, are together of bulk at most 1048576: NARROWER than '..Said'. Prove '..Said' where nothing that the law and all that it calls make is longer than what came in: it says more and counts as full. Else prove '..UptoSaid'. A law counts once. -/
mutual
def uptoBulk {H : Type} : DataW H → Nat
  | .lit (.string bytes) => bytes.length + 1
  | .lit _ => 1
  | .nil => 1
  | .ptr d => uptoBulk d + 1
  | .slice elems spare => uptoBulkAll elems + uptoBulkAll spare + 1
  | .agg parts => uptoBulkAll parts + 1
  | .iface _ d => uptoBulk d + 1
  | .map entries => uptoBulkEntries entries + 1
  | .held _ => 1
def uptoBulkAll {H : Type} : List (DataW H) → Nat
  | [] => 0
  | d :: r => uptoBulk d + uptoBulkAll r
def uptoBulkEntries {H : Type} : List (Lit × DataW H) → Nat
  | [] => 0
  | x :: r => uptoBulkEntry x + uptoBulkEntries r
def uptoBulkEntry {H : Type} : Lit × DataW H → Nat
  | (.string bytes, d) => bytes.length + uptoBulk d + 1
  | (_, d) => uptoBulk d + 1
 end
def uptoSmall : (H : Type) → List (DataW H) → Bool := fun _ ds => decide (uptoBulkAll ds ≤ 1048576)
def OpenSpec.upto (s : _root_.Go.ChangeSpec) : _root_.Go.OpenSpec := { _root_.Go.OpenSpec.ofChange s with cond := some uptoSmall }

/-- 'augurlaw.CauseExact', WHERE WHAT IT READS IS OF BULK AT MOST 1048576: true; the input reads as it did. -/
def causeExactUptoRow : OpenClaim := { program := "ytkflnpjapgiajaagreatdoor", sum := "1e2bbb97e860493d261c15598160ca56a1f23555de5ec4c58c6956f4dc11491d", func := "augur/augurlaw.CauseExact", spec := "causeExact", inPlace := ["internal/bytealg.IndexByteString", "internal/bytealg.IndexString"], unfollowed := true, recurses := true, named := ["unicode/utf8.first", "unicode/utf8.acceptRanges", "internal/bytealg.MaxLen"], plainKeys := false, apart := false, laid := [("unicode/utf8.acceptRanges", laid_unicode_utf8_acceptRanges), ("unicode/utf8.first", laid_unicode_utf8_first)], narrowed := true }
def CauseExactUptoSaid : Prop := causeExactUptoRow.holds Tryz.pinned (OpenSpec.upto causeExactSpec)

/-- 'augurlaw.CauseMade', WHERE WHAT IT READS IS OF BULK AT MOST 1048576: true; the input reads as it did. -/
def causeMadeUptoRow : OpenClaim := { program := "ytkflnpjapgiajaagreatdoor", sum := "1e2bbb97e860493d261c15598160ca56a1f23555de5ec4c58c6956f4dc11491d", func := "augur/augurlaw.CauseMade", spec := "causeMade", inPlace := ["internal/bytealg.IndexByteString", "internal/bytealg.IndexString"], unfollowed := true, recurses := true, named := ["unicode/utf8.first", "unicode/utf8.acceptRanges", "internal/bytealg.MaxLen"], plainKeys := false, apart := false, laid := [("unicode/utf8.acceptRanges", laid_unicode_utf8_acceptRanges), ("unicode/utf8.first", laid_unicode_utf8_first)], narrowed := true }
def CauseMadeUptoSaid : Prop := causeMadeUptoRow.holds Tryz.pinned (OpenSpec.upto causeMadeSpec)

/-- 'augurtop.TopBackDoor', WHERE WHAT IT READS IS OF BULK AT MOST 1048576: true; the input reads as it did. -/
def topBackDoorUptoRow : OpenClaim := { program := "ytkflnpjapgiajaagreatdoor", sum := "1e2bbb97e860493d261c15598160ca56a1f23555de5ec4c58c6956f4dc11491d", func := "augur/augurtop.TopBackDoor", spec := "topBackDoor", inPlace := ["internal/bytealg.IndexByteString", "internal/bytealg.IndexString"], unfollowed := true, recurses := true, named := ["unicode/utf8.first", "unicode/utf8.acceptRanges", "internal/bytealg.MaxLen"], plainKeys := false, apart := false, laid := [("unicode/utf8.acceptRanges", laid_unicode_utf8_acceptRanges), ("unicode/utf8.first", laid_unicode_utf8_first)], narrowed := true }
def TopBackDoorUptoSaid : Prop := topBackDoorUptoRow.holds Tryz.pinned (OpenSpec.upto topBackDoorSpec)

/-- 'augurtop.TopFrontDoor', WHERE WHAT IT READS IS OF BULK AT MOST 1048576: true; the input reads as it did. -/
def topFrontDoorUptoRow : OpenClaim := { program := "ytkflnpjapgiajaagreatdoor", sum := "1e2bbb97e860493d261c15598160ca56a1f23555de5ec4c58c6956f4dc11491d", func := "augur/augurtop.TopFrontDoor", spec := "topFrontDoor", inPlace := ["internal/bytealg.IndexByteString", "internal/bytealg.IndexString"], unfollowed := true, recurses := true, named := ["unicode/utf8.first", "unicode/utf8.acceptRanges", "internal/bytealg.MaxLen"], plainKeys := false, apart := false, laid := [("unicode/utf8.acceptRanges", laid_unicode_utf8_acceptRanges), ("unicode/utf8.first", laid_unicode_utf8_first)], narrowed := true }
def TopFrontDoorUptoSaid : Prop := topFrontDoorUptoRow.holds Tryz.pinned (OpenSpec.upto topFrontDoorSpec)

/-- 'augurtop.TopRules', WHERE WHAT IT READS IS OF BULK AT MOST 1048576: true; the input reads as it did. -/
def topRulesUptoRow : OpenClaim := { program := "ytkflnpjapgiajaagreatdoor", sum := "1e2bbb97e860493d261c15598160ca56a1f23555de5ec4c58c6956f4dc11491d", func := "augur/augurtop.TopRules", spec := "topRules", inPlace := ["internal/bytealg.IndexByteString", "internal/bytealg.IndexString"], unfollowed := true, recurses := true, named := ["unicode/utf8.first", "unicode/utf8.acceptRanges", "internal/bytealg.MaxLen"], plainKeys := false, apart := false, laid := [("unicode/utf8.acceptRanges", laid_unicode_utf8_acceptRanges), ("unicode/utf8.first", laid_unicode_utf8_first)], narrowed := true }
def TopRulesUptoSaid : Prop := topRulesUptoRow.holds Tryz.pinned (OpenSpec.upto topRulesSpec)

end Rows
end Go.Proofs.YtkflnpjapgiajaaGreatDoor
