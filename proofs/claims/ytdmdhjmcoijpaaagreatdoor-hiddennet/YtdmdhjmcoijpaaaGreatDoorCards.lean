/-
  DERIVED. GIVEN WITH THE SEED: THE CARDS: each row of YtdmdhjmcoijpaaaGreatDoorRows.lean that lists a variable, with what it lists TIED to the program's text (the seventh form; the later family's looks); each row that meets fmt, with fmt's text TOLD by the authors' own Lean function (tested against real Go, not proved from fmt's source: count such statements apart). THE CARD IS WHAT COUNTS. Prove the row's statement (the work); the ties are given (YtdmdhjmcoijpaaaGreatDoorTie.lean); close each card by the builder's one call (the guide's Derived/Test/ToyasCard.lean, 'card_holds'). Laid BY PROGRAM, IN A SANDBOX (cutbox-door.mjs). By AI agents, Wed Nov 11 2026. No macro, syntax, notation, axiom, sorry.
-/
import Derived.Test.YtdmdhjmcoijpaaaGreatDoorRows
import GoSem.ClaimSeven
namespace Go.Proofs.YtdmdhjmcoijpaaaGreatDoor
namespace Rows

/-- THE TIED CARD OF 'augurlaw.HiddenNet'. -/
def hiddenNetCard : Claim7 := { stood := { row := hiddenNetRow, standIns := [], harness := (true, "c9b7f51c6546a7411cd9100fa00747cbe99e9d32bb8d314d5aa4cc812582fcbe"), looks := false }, kinds := [], alts := [], laidByText := true, laidKinds := [.data, .data, .data, .data, .pinned], laidTests := true, laidLooks := .later }
def HiddenNetCardSaid : Prop := Claim7.holds Tryz.pinned (.plain (OpenSpec.ofChange hiddenNetSpec)) hiddenNetCard

/-- THE SECOND FORM's CARD OF 'augurlaw.HiddenNet'. -/
def hiddenNetUptoCard : Claim7 := { stood := { row := hiddenNetUptoRow, standIns := [], harness := (true, "c9b7f51c6546a7411cd9100fa00747cbe99e9d32bb8d314d5aa4cc812582fcbe"), looks := false }, kinds := [], alts := [], laidByText := true, laidKinds := [.data, .data, .data, .data, .pinned], laidTests := true, laidLooks := .later }
def HiddenNetUptoCardSaid : Prop := Claim7.holds Tryz.pinned (.plain (OpenSpec.upto hiddenNetSpec)) hiddenNetUptoCard
end Rows
end Go.Proofs.YtdmdhjmcoijpaaaGreatDoor
