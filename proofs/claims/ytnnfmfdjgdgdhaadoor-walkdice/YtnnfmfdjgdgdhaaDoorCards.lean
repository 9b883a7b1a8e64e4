/-
  DERIVED. GIVEN WITH THE SEED: THE CARDS: each row of YtnnfmfdjgdgdhaaDoorRows.lean that lists a variable, with what it lists TIED to the program's text (the seventh form; the later family's looks); each row that meets fmt, with fmt's text TOLD by the authors' own Lean function (tested against real Go, not proved from fmt's source: count such statements apart). THE CARD IS WHAT COUNTS. Prove the row's statement (the work); the ties are given (YtnnfmfdjgdgdhaaDoorTie.lean); close each card by the builder's one call (the guide's Derived/Test/ToyasCard.lean, 'card_holds'). Laid BY PROGRAM, IN A SANDBOX (cutbox-door.mjs). By AI agents, Wed Nov 11 2026. No macro, syntax, notation, axiom, sorry.
-/
import Derived.Test.YtnnfmfdjgdgdhaaDoorRows
import GoSem.ClaimSeven
namespace Go.Proofs.YtnnfmfdjgdgdhaaDoor
namespace Rows

/-- THE TIED CARD OF 'augurlaw.WalkDice'. -/
def walkDiceCard : Claim7 := { stood := { row := walkDiceRow, standIns := [], harness := (true, "997e494e51c35a950b6999f48159e44d6102bf51d53d8194e24821a6b30eb2ed"), looks := false }, kinds := [], alts := [], laidByText := true, laidKinds := [.data, .pinned], laidTests := true, laidLooks := .later }
def WalkDiceCardSaid : Prop := Claim7.holds Tryd.pinned (.plain (OpenSpec.ofChange walkDiceSpec)) walkDiceCard

/-- THE SECOND FORM's CARD OF 'augurlaw.WalkDice'. -/
def walkDiceUptoCard : Claim7 := { stood := { row := walkDiceUptoRow, standIns := [], harness := (true, "997e494e51c35a950b6999f48159e44d6102bf51d53d8194e24821a6b30eb2ed"), looks := false }, kinds := [], alts := [], laidByText := true, laidKinds := [.data, .pinned], laidTests := true, laidLooks := .later }
def WalkDiceUptoCardSaid : Prop := Claim7.holds Tryd.pinned (.plain (OpenSpec.upto walkDiceSpec)) walkDiceUptoCard
end Rows
end Go.Proofs.YtnnfmfdjgdgdhaaDoor
