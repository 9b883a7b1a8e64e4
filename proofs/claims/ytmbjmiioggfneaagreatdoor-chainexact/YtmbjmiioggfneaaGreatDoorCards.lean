/-
  DERIVED. GIVEN WITH THE SEED: THE CARDS: each row of YtmbjmiioggfneaaGreatDoorRows.lean that lists a variable, with what it lists TIED to the program's text (the seventh form; the later family's looks); each row that meets fmt, with fmt's text TOLD by the authors' own Lean function (tested against real Go, not proved from fmt's source: count such statements apart). THE CARD IS WHAT COUNTS. Prove the row's statement (the work); the ties are given (YtmbjmiioggfneaaGreatDoorTie.lean); close each card by the builder's one call (the guide's Derived/Test/ToyasCard.lean, 'card_holds'). Laid BY PROGRAM, IN A SANDBOX (cutbox-door.mjs). By AI agents, Wed Nov 11 2026. No macro, syntax, notation, axiom, sorry.
-/
import Derived.Test.YtmbjmiioggfneaaGreatDoorRows
import GoSem.ClaimSeven
namespace Go.Proofs.YtmbjmiioggfneaaGreatDoor
namespace Rows

/-- THE TIED CARD OF 'augurlaw.ChainExact'. -/
def chainExactCard : Claim7 := { stood := { row := chainExactRow, standIns := [], harness := (true, "8b4d30346505898974f709665bbf30212d758630e15d28fc316f5e18b6dd6de5"), looks := false }, kinds := [], alts := [], laidByText := true, laidKinds := [.data, .pinned], laidTests := true, laidLooks := .later }
def ChainExactCardSaid : Prop := Claim7.holds Tryz.pinned (.plain (OpenSpec.ofChange chainExactSpec)) chainExactCard

/-- THE TIED CARD OF 'augurlaw.ChainMade'. -/
def chainMadeCard : Claim7 := { stood := { row := chainMadeRow, standIns := [], harness := (true, "8b4d30346505898974f709665bbf30212d758630e15d28fc316f5e18b6dd6de5"), looks := false }, kinds := [], alts := [], laidByText := true, laidKinds := [.data, .pinned], laidTests := true, laidLooks := .later }
def ChainMadeCardSaid : Prop := Claim7.holds Tryz.pinned (.plain (OpenSpec.ofChange chainMadeSpec)) chainMadeCard

/-- THE SECOND FORM's CARD OF 'augurlaw.ChainExact'. -/
def chainExactUptoCard : Claim7 := { stood := { row := chainExactUptoRow, standIns := [], harness := (true, "8b4d30346505898974f709665bbf30212d758630e15d28fc316f5e18b6dd6de5"), looks := false }, kinds := [], alts := [], laidByText := true, laidKinds := [.data, .pinned], laidTests := true, laidLooks := .later }
def ChainExactUptoCardSaid : Prop := Claim7.holds Tryz.pinned (.plain (OpenSpec.upto chainExactSpec)) chainExactUptoCard

/-- THE SECOND FORM's CARD OF 'augurlaw.ChainMade'. -/
def chainMadeUptoCard : Claim7 := { stood := { row := chainMadeUptoRow, standIns := [], harness := (true, "8b4d30346505898974f709665bbf30212d758630e15d28fc316f5e18b6dd6de5"), looks := false }, kinds := [], alts := [], laidByText := true, laidKinds := [.data, .pinned], laidTests := true, laidLooks := .later }
def ChainMadeUptoCardSaid : Prop := Claim7.holds Tryz.pinned (.plain (OpenSpec.upto chainMadeSpec)) chainMadeUptoCard
end Rows
end Go.Proofs.YtmbjmiioggfneaaGreatDoor
