/-
  DERIVED. GIVEN WITH THE SEED: THE CARDS: each row of YtmkilmcmgdoiiaaGreatDoorRows.lean that lists a variable, with what it lists TIED to the program's text (the seventh form; the later family's looks); each row that meets fmt, with fmt's text TOLD by the authors' own Lean function (tested against real Go, not proved from fmt's source: count such statements apart). THE CARD IS WHAT COUNTS. Prove the row's statement (the work); the ties are given (YtmkilmcmgdoiiaaGreatDoorTie.lean); close each card by the builder's one call (the guide's Derived/Test/ToyasCard.lean, 'card_holds'). Laid BY PROGRAM, IN A SANDBOX (cutbox-door.mjs). By AI agents, Wed Nov 11 2026. No macro, syntax, notation, axiom, sorry.
-/
import Derived.Test.YtmkilmcmgdoiiaaGreatDoorRows
import GoSem.ClaimSeven
namespace Go.Proofs.YtmkilmcmgdoiiaaGreatDoor
namespace Rows

/-- THE TIED CARD OF 'augurlaw.NatExact'. -/
def natExactCard : Claim7 := { stood := { row := natExactRow, standIns := [], harness := (true, "9e8d012d8f169d6080f21cbddf9038721c0a3d1f016206403b77e6109bfe6321"), looks := false }, kinds := [], alts := [], laidByText := true, laidKinds := [.data, .data, .data, .data, .pinned], laidTests := true, laidLooks := .later }
def NatExactCardSaid : Prop := Claim7.holds Tryz.pinned (.plain (OpenSpec.ofChange natExactSpec)) natExactCard

/-- THE TIED CARD OF 'augurlaw.FracExact'. -/
def fracExactCard : Claim7 := { stood := { row := fracExactRow, standIns := [], harness := (true, "9e8d012d8f169d6080f21cbddf9038721c0a3d1f016206403b77e6109bfe6321"), looks := false }, kinds := [], alts := [], laidByText := true, laidKinds := [.data, .data, .data, .data, .pinned], laidTests := true, laidLooks := .later }
def FracExactCardSaid : Prop := Claim7.holds Tryz.pinned (.plain (OpenSpec.ofChange fracExactSpec)) fracExactCard

/-- THE TIED CARD OF 'augurlaw.FracBack'. -/
def fracBackCard : Claim7 := { stood := { row := fracBackRow, standIns := [], harness := (true, "9e8d012d8f169d6080f21cbddf9038721c0a3d1f016206403b77e6109bfe6321"), looks := false }, kinds := [], alts := [], laidByText := true, laidKinds := [.data, .data, .data, .data, .pinned], laidTests := true, laidLooks := .later }
def FracBackCardSaid : Prop := Claim7.holds Tryz.pinned (.plain (OpenSpec.ofChange fracBackSpec)) fracBackCard

/-- THE SECOND FORM's CARD OF 'augurlaw.NatExact'. -/
def natExactUptoCard : Claim7 := { stood := { row := natExactUptoRow, standIns := [], harness := (true, "9e8d012d8f169d6080f21cbddf9038721c0a3d1f016206403b77e6109bfe6321"), looks := false }, kinds := [], alts := [], laidByText := true, laidKinds := [.data, .data, .data, .data, .pinned], laidTests := true, laidLooks := .later }
def NatExactUptoCardSaid : Prop := Claim7.holds Tryz.pinned (.plain (OpenSpec.upto natExactSpec)) natExactUptoCard

/-- THE SECOND FORM's CARD OF 'augurlaw.FracExact'. -/
def fracExactUptoCard : Claim7 := { stood := { row := fracExactUptoRow, standIns := [], harness := (true, "9e8d012d8f169d6080f21cbddf9038721c0a3d1f016206403b77e6109bfe6321"), looks := false }, kinds := [], alts := [], laidByText := true, laidKinds := [.data, .data, .data, .data, .pinned], laidTests := true, laidLooks := .later }
def FracExactUptoCardSaid : Prop := Claim7.holds Tryz.pinned (.plain (OpenSpec.upto fracExactSpec)) fracExactUptoCard

/-- THE SECOND FORM's CARD OF 'augurlaw.FracBack'. -/
def fracBackUptoCard : Claim7 := { stood := { row := fracBackUptoRow, standIns := [], harness := (true, "9e8d012d8f169d6080f21cbddf9038721c0a3d1f016206403b77e6109bfe6321"), looks := false }, kinds := [], alts := [], laidByText := true, laidKinds := [.data, .data, .data, .data, .pinned], laidTests := true, laidLooks := .later }
def FracBackUptoCardSaid : Prop := Claim7.holds Tryz.pinned (.plain (OpenSpec.upto fracBackSpec)) fracBackUptoCard
end Rows
end Go.Proofs.YtmkilmcmgdoiiaaGreatDoor
