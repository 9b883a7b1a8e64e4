/-
  DERIVED. GIVEN WITH THE SEED: THE CARDS: each row of YtkflnpjapgiajaaGreatDoorRows.lean that lists a variable, with what it lists TIED to the program's text (the seventh form; the later family's looks); each row that meets fmt, with fmt's text TOLD by the authors' own Lean function (tested against real Go, not proved from fmt's source: count such statements apart). THE CARD IS WHAT COUNTS. Prove the row's statement (the work); the ties are given (YtkflnpjapgiajaaGreatDoorTie.lean); close each card by the builder's one call (the guide's Derived/Test/ToyasCard.lean, 'card_holds'). Laid BY PROGRAM, IN A SANDBOX (cutbox-door.mjs). By AI agents, Wed Nov 11 2026. No macro, syntax, notation, axiom, sorry.
-/
import Derived.Test.YtkflnpjapgiajaaGreatDoorRows
import GoSem.ClaimSeven
namespace Go.Proofs.YtkflnpjapgiajaaGreatDoor
namespace Rows

/-- THE TIED CARD OF 'augurlaw.CauseExact'. -/
def causeExactCard : Claim7 := { stood := { row := causeExactRow, standIns := [], harness := (true, "734632a28b08546d4d5aabe2f3ae36dc62684c3cddb0e26132683effa1ec0e95"), looks := false }, kinds := [], alts := [], laidByText := true, laidKinds := [.data, .pinned], laidTests := true, laidLooks := .later }
def CauseExactCardSaid : Prop := Claim7.holds Tryz.pinned (.plain (OpenSpec.ofChange causeExactSpec)) causeExactCard

/-- THE TIED CARD OF 'augurlaw.CauseMade'. -/
def causeMadeCard : Claim7 := { stood := { row := causeMadeRow, standIns := [], harness := (true, "734632a28b08546d4d5aabe2f3ae36dc62684c3cddb0e26132683effa1ec0e95"), looks := false }, kinds := [], alts := [], laidByText := true, laidKinds := [.data, .pinned], laidTests := true, laidLooks := .later }
def CauseMadeCardSaid : Prop := Claim7.holds Tryz.pinned (.plain (OpenSpec.ofChange causeMadeSpec)) causeMadeCard

/-- THE TIED CARD OF 'augurtop.TopBackDoor'. -/
def topBackDoorCard : Claim7 := { stood := { row := topBackDoorRow, standIns := [], harness := (true, "734632a28b08546d4d5aabe2f3ae36dc62684c3cddb0e26132683effa1ec0e95"), looks := false }, kinds := [], alts := [], laidByText := true, laidKinds := [.data, .pinned], laidTests := true, laidLooks := .later }
def TopBackDoorCardSaid : Prop := Claim7.holds Tryz.pinned (.plain (OpenSpec.ofChange topBackDoorSpec)) topBackDoorCard

/-- THE TIED CARD OF 'augurtop.TopFrontDoor'. -/
def topFrontDoorCard : Claim7 := { stood := { row := topFrontDoorRow, standIns := [], harness := (true, "734632a28b08546d4d5aabe2f3ae36dc62684c3cddb0e26132683effa1ec0e95"), looks := false }, kinds := [], alts := [], laidByText := true, laidKinds := [.data, .pinned], laidTests := true, laidLooks := .later }
def TopFrontDoorCardSaid : Prop := Claim7.holds Tryz.pinned (.plain (OpenSpec.ofChange topFrontDoorSpec)) topFrontDoorCard

/-- THE TIED CARD OF 'augurtop.TopRules'. -/
def topRulesCard : Claim7 := { stood := { row := topRulesRow, standIns := [], harness := (true, "734632a28b08546d4d5aabe2f3ae36dc62684c3cddb0e26132683effa1ec0e95"), looks := false }, kinds := [], alts := [], laidByText := true, laidKinds := [.data, .pinned], laidTests := true, laidLooks := .later }
def TopRulesCardSaid : Prop := Claim7.holds Tryz.pinned (.plain (OpenSpec.ofChange topRulesSpec)) topRulesCard

/-- THE SECOND FORM's CARD OF 'augurlaw.CauseExact'. -/
def causeExactUptoCard : Claim7 := { stood := { row := causeExactUptoRow, standIns := [], harness := (true, "734632a28b08546d4d5aabe2f3ae36dc62684c3cddb0e26132683effa1ec0e95"), looks := false }, kinds := [], alts := [], laidByText := true, laidKinds := [.data, .pinned], laidTests := true, laidLooks := .later }
def CauseExactUptoCardSaid : Prop := Claim7.holds Tryz.pinned (.plain (OpenSpec.upto causeExactSpec)) causeExactUptoCard

/-- THE SECOND FORM's CARD OF 'augurlaw.CauseMade'. -/
def causeMadeUptoCard : Claim7 := { stood := { row := causeMadeUptoRow, standIns := [], harness := (true, "734632a28b08546d4d5aabe2f3ae36dc62684c3cddb0e26132683effa1ec0e95"), looks := false }, kinds := [], alts := [], laidByText := true, laidKinds := [.data, .pinned], laidTests := true, laidLooks := .later }
def CauseMadeUptoCardSaid : Prop := Claim7.holds Tryz.pinned (.plain (OpenSpec.upto causeMadeSpec)) causeMadeUptoCard

/-- THE SECOND FORM's CARD OF 'augurtop.TopBackDoor'. -/
def topBackDoorUptoCard : Claim7 := { stood := { row := topBackDoorUptoRow, standIns := [], harness := (true, "734632a28b08546d4d5aabe2f3ae36dc62684c3cddb0e26132683effa1ec0e95"), looks := false }, kinds := [], alts := [], laidByText := true, laidKinds := [.data, .pinned], laidTests := true, laidLooks := .later }
def TopBackDoorUptoCardSaid : Prop := Claim7.holds Tryz.pinned (.plain (OpenSpec.upto topBackDoorSpec)) topBackDoorUptoCard

/-- THE SECOND FORM's CARD OF 'augurtop.TopFrontDoor'. -/
def topFrontDoorUptoCard : Claim7 := { stood := { row := topFrontDoorUptoRow, standIns := [], harness := (true, "734632a28b08546d4d5aabe2f3ae36dc62684c3cddb0e26132683effa1ec0e95"), looks := false }, kinds := [], alts := [], laidByText := true, laidKinds := [.data, .pinned], laidTests := true, laidLooks := .later }
def TopFrontDoorUptoCardSaid : Prop := Claim7.holds Tryz.pinned (.plain (OpenSpec.upto topFrontDoorSpec)) topFrontDoorUptoCard

/-- THE SECOND FORM's CARD OF 'augurtop.TopRules'. -/
def topRulesUptoCard : Claim7 := { stood := { row := topRulesUptoRow, standIns := [], harness := (true, "734632a28b08546d4d5aabe2f3ae36dc62684c3cddb0e26132683effa1ec0e95"), looks := false }, kinds := [], alts := [], laidByText := true, laidKinds := [.data, .pinned], laidTests := true, laidLooks := .later }
def TopRulesUptoCardSaid : Prop := Claim7.holds Tryz.pinned (.plain (OpenSpec.upto topRulesSpec)) topRulesUptoCard
end Rows
end Go.Proofs.YtkflnpjapgiajaaGreatDoor
