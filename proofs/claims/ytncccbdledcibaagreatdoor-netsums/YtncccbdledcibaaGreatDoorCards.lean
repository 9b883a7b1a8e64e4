/-
  DERIVED. GIVEN WITH THE SEED: THE CARDS: each row of YtncccbdledcibaaGreatDoorRows.lean that lists a variable, with what it lists TIED to the program's text (the seventh form; the later family's looks); each row that meets fmt, with fmt's text TOLD by the authors' own Lean function (tested against real Go, not proved from fmt's source: count such statements apart). THE CARD IS WHAT COUNTS. Prove the row's statement (the work); the ties are given (YtncccbdledcibaaGreatDoorTie.lean); close each card by the builder's one call (the guide's Derived/Test/ToyasCard.lean, 'card_holds'). Laid BY PROGRAM, IN A SANDBOX (cutbox-door.mjs). By AI agents, Wed Nov 11 2026. No macro, syntax, notation, axiom, sorry.
-/
import Derived.Test.YtncccbdledcibaaGreatDoorRows
import GoSem.ClaimSeven
namespace Go.Proofs.YtncccbdledcibaaGreatDoor
namespace Rows

/-- THE TIED CARD OF 'augurlaw.NetChecks'. -/
def netChecksCard : Claim7 := { stood := { row := netChecksRow, standIns := [], harness := (true, "be9208656c10023a0ce69ee23fc8f3385b08a0b74649c6480d241ed9922813cf"), looks := false }, kinds := [], alts := [], laidByText := true, laidKinds := [.data, .pinned], laidTests := true, laidLooks := .later }
def NetChecksCardSaid : Prop := Claim7.holds Tryz.pinned (.plain (OpenSpec.ofChange netChecksSpec)) netChecksCard

/-- THE TIED CARD OF 'augurlaw.NetSums'. -/
def netSumsCard : Claim7 := { stood := { row := netSumsRow, standIns := [], harness := (true, "be9208656c10023a0ce69ee23fc8f3385b08a0b74649c6480d241ed9922813cf"), looks := false }, kinds := [], alts := [], laidByText := true, laidKinds := [.data, .pinned], laidTests := true, laidLooks := .later }
def NetSumsCardSaid : Prop := Claim7.holds Tryz.pinned (.plain (OpenSpec.ofChange netSumsSpec)) netSumsCard

/-- THE SECOND FORM's CARD OF 'augurlaw.NetChecks'. -/
def netChecksUptoCard : Claim7 := { stood := { row := netChecksUptoRow, standIns := [], harness := (true, "be9208656c10023a0ce69ee23fc8f3385b08a0b74649c6480d241ed9922813cf"), looks := false }, kinds := [], alts := [], laidByText := true, laidKinds := [.data, .pinned], laidTests := true, laidLooks := .later }
def NetChecksUptoCardSaid : Prop := Claim7.holds Tryz.pinned (.plain (OpenSpec.upto netChecksSpec)) netChecksUptoCard

/-- THE SECOND FORM's CARD OF 'augurlaw.NetSums'. -/
def netSumsUptoCard : Claim7 := { stood := { row := netSumsUptoRow, standIns := [], harness := (true, "be9208656c10023a0ce69ee23fc8f3385b08a0b74649c6480d241ed9922813cf"), looks := false }, kinds := [], alts := [], laidByText := true, laidKinds := [.data, .pinned], laidTests := true, laidLooks := .later }
def NetSumsUptoCardSaid : Prop := Claim7.holds Tryz.pinned (.plain (OpenSpec.upto netSumsSpec)) netSumsUptoCard
end Rows
end Go.Proofs.YtncccbdledcibaaGreatDoor
