/-
  DERIVED. GIVEN WITH THE SEED: THE CARDS: each row of YtnnfmfdjgdgdhaaGreatDoorRows.lean that lists a variable, with what it lists TIED to the program's text (the seventh form; the later family's looks); each row that meets fmt, with fmt's text TOLD by the authors' own Lean function (tested against real Go, not proved from fmt's source: count such statements apart). THE CARD IS WHAT COUNTS. Prove the row's statement (the work); the ties are given (YtnnfmfdjgdgdhaaGreatDoorTie.lean); close each card by the builder's one call (the guide's Derived/Test/ToyasCard.lean, 'card_holds'). Laid BY PROGRAM, IN A SANDBOX (cutbox-door.mjs). By AI agents, Wed Nov 11 2026. No macro, syntax, notation, axiom, sorry.
-/
import Derived.Test.YtnnfmfdjgdgdhaaGreatDoorRows
import GoSem.ClaimSeven
namespace Go.Proofs.YtnnfmfdjgdgdhaaGreatDoor
namespace Rows

/-- THE TIED CARD OF 'augurlaw.HiddenMeets'. -/
def hiddenMeetsCard : Claim7 := { stood := { row := hiddenMeetsRow, standIns := [], harness := (true, "22f2b4957953c99d3f7d6de63169330f7cc86107c052178880c25c0ee56830d3"), looks := false }, kinds := [], alts := [], laidByText := true, laidKinds := [.data, .pinned], laidTests := true, laidLooks := .later }
def HiddenMeetsCardSaid : Prop := Claim7.holds Tryz.pinned (.plain (OpenSpec.ofChange hiddenMeetsSpec)) hiddenMeetsCard

/-- THE SECOND FORM's CARD OF 'augurlaw.HiddenMeets'. -/
def hiddenMeetsUptoCard : Claim7 := { stood := { row := hiddenMeetsUptoRow, standIns := [], harness := (true, "22f2b4957953c99d3f7d6de63169330f7cc86107c052178880c25c0ee56830d3"), looks := false }, kinds := [], alts := [], laidByText := true, laidKinds := [.data, .pinned], laidTests := true, laidLooks := .later }
def HiddenMeetsUptoCardSaid : Prop := Claim7.holds Tryz.pinned (.plain (OpenSpec.upto hiddenMeetsSpec)) hiddenMeetsUptoCard
end Rows
end Go.Proofs.YtnnfmfdjgdgdhaaGreatDoor
