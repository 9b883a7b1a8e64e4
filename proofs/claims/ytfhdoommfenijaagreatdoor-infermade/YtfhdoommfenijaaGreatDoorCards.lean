/-
  DERIVED. GIVEN WITH THE SEED: THE CARDS: each row of YtfhdoommfenijaaGreatDoorRows.lean that lists a variable, with what it lists TIED to the program's text (the seventh form; the later family's looks); each row that meets fmt, with fmt's text TOLD by the authors' own Lean function (tested against real Go, not proved from fmt's source: count such statements apart). THE CARD IS WHAT COUNTS. Prove the row's statement (the work); the ties are given (YtfhdoommfenijaaGreatDoorTie.lean); close each card by the builder's one call (the guide's Derived/Test/ToyasCard.lean, 'card_holds'). Laid BY PROGRAM, IN A SANDBOX (cutbox-door.mjs). By AI agents, Wed Nov 11 2026. No macro, syntax, notation, axiom, sorry.
-/
import Derived.Test.YtfhdoommfenijaaGreatDoorRows
import GoSem.ClaimSeven
namespace Go.Proofs.YtfhdoommfenijaaGreatDoor
namespace Rows

/-- THE TIED CARD OF 'augurlaw.InferMade'. -/
def inferMadeCard : Claim7 := { stood := { row := inferMadeRow, standIns := [], harness := (true, "b45ad77cca83bfe52a903a01b7ff26253a4da2e4519f2ba7f3e3785312be4791"), looks := false }, kinds := [], alts := [], laidByText := true, laidKinds := [.data, .pinned], laidTests := true, laidLooks := .later }
def InferMadeCardSaid : Prop := Claim7.holds Tryz.pinned (.plain (OpenSpec.ofChange inferMadeSpec)) inferMadeCard

/-- THE SECOND FORM's CARD OF 'augurlaw.InferMade'. -/
def inferMadeUptoCard : Claim7 := { stood := { row := inferMadeUptoRow, standIns := [], harness := (true, "b45ad77cca83bfe52a903a01b7ff26253a4da2e4519f2ba7f3e3785312be4791"), looks := false }, kinds := [], alts := [], laidByText := true, laidKinds := [.data, .pinned], laidTests := true, laidLooks := .later }
def InferMadeUptoCardSaid : Prop := Claim7.holds Tryz.pinned (.plain (OpenSpec.upto inferMadeSpec)) inferMadeUptoCard
end Rows
end Go.Proofs.YtfhdoommfenijaaGreatDoor
