/-
  DERIVED. GIVEN WITH THE SEED: THE CARDS: each row of YtmdjhefcohcjhaaGreatDoorRows.lean that lists a variable, with what it lists TIED to the program's text (the seventh form; the later family's looks); each row that meets fmt, with fmt's text TOLD by the authors' own Lean function (tested against real Go, not proved from fmt's source: count such statements apart). THE CARD IS WHAT COUNTS. Prove the row's statement (the work); the ties are given (YtmdjhefcohcjhaaGreatDoorTie.lean); close each card by the builder's one call (the guide's Derived/Test/ToyasCard.lean, 'card_holds'). Laid BY PROGRAM, IN A SANDBOX (cutbox-door.mjs). By AI agents, Wed Nov 11 2026. No macro, syntax, notation, axiom, sorry.
-/
import Derived.Test.YtmdjhefcohcjhaaGreatDoorRows
import GoSem.ClaimSeven
namespace Go.Proofs.YtmdjhefcohcjhaaGreatDoor
namespace Rows

/-- THE TIED CARD OF 'augurlaw.NetPrints'. -/
def netPrintsCard : Claim7 := { stood := { row := netPrintsRow, standIns := [], harness := (true, "593d4282be70984a049c02ebe2f2834e1f0950223cd8fecd5a84fcdf48bc6e58"), looks := false }, kinds := [], alts := [], laidByText := true, laidKinds := [.data, .data, .data, .data, .pinned], laidTests := true, laidLooks := .later }
def NetPrintsCardSaid : Prop := Claim7.holds Tryz.pinned (.plain (OpenSpec.ofChange netPrintsSpec)) netPrintsCard

/-- THE SECOND FORM's CARD OF 'augurlaw.NetPrints'. -/
def netPrintsUptoCard : Claim7 := { stood := { row := netPrintsUptoRow, standIns := [], harness := (true, "593d4282be70984a049c02ebe2f2834e1f0950223cd8fecd5a84fcdf48bc6e58"), looks := false }, kinds := [], alts := [], laidByText := true, laidKinds := [.data, .data, .data, .data, .pinned], laidTests := true, laidLooks := .later }
def NetPrintsUptoCardSaid : Prop := Claim7.holds Tryz.pinned (.plain (OpenSpec.upto netPrintsSpec)) netPrintsUptoCard
end Rows
end Go.Proofs.YtmdjhefcohcjhaaGreatDoor
