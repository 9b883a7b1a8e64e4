/-
  DERIVED. GIVEN WITH THE SEED: THE CARDS: each row of YtfgkjjlocjmfeaaGreatDoorRows.lean that lists a variable, with what it lists TIED to the program's text (the seventh form; the later family's looks); each row that meets fmt, with fmt's text TOLD by the authors' own Lean function (tested against real Go, not proved from fmt's source: count such statements apart). THE CARD IS WHAT COUNTS. Prove the row's statement (the work); the ties are given (YtfgkjjlocjmfeaaGreatDoorTie.lean); close each card by the builder's one call (the guide's Derived/Test/ToyasCard.lean, 'card_holds'). Laid BY PROGRAM, IN A SANDBOX (cutbox-door.mjs). By AI agents, Wed Nov 11 2026. No macro, syntax, notation, axiom, sorry.
-/
import Derived.Test.YtfgkjjlocjmfeaaGreatDoorRows
import GoSem.ClaimSeven
namespace Go.Proofs.YtfgkjjlocjmfeaaGreatDoor
namespace Rows

/-- THE TIED CARD OF 'augurlaw.InferExact'. -/
def inferExactCard : Claim7 := { stood := { row := inferExactRow, standIns := [], harness := (true, "473551f77c8e890edf3b99c152eb0ff9c7f12650006000a23ab5e81222b5b43d"), looks := false }, kinds := [], alts := [], laidByText := true, laidKinds := [.data, .pinned], laidTests := true, laidLooks := .later }
def InferExactCardSaid : Prop := Claim7.holds Tryz.pinned (.plain (OpenSpec.ofChange inferExactSpec)) inferExactCard

/-- THE TIED CARD OF 'augurlaw.InferMade'. -/
def inferMadeCard : Claim7 := { stood := { row := inferMadeRow, standIns := [], harness := (true, "473551f77c8e890edf3b99c152eb0ff9c7f12650006000a23ab5e81222b5b43d"), looks := false }, kinds := [], alts := [], laidByText := true, laidKinds := [.data, .pinned], laidTests := true, laidLooks := .later }
def InferMadeCardSaid : Prop := Claim7.holds Tryz.pinned (.plain (OpenSpec.ofChange inferMadeSpec)) inferMadeCard

/-- THE TIED CARD OF 'augurlaw.InferBayes'. -/
def inferBayesCard : Claim7 := { stood := { row := inferBayesRow, standIns := [], harness := (true, "473551f77c8e890edf3b99c152eb0ff9c7f12650006000a23ab5e81222b5b43d"), looks := false }, kinds := [], alts := [], laidByText := true, laidKinds := [.data, .pinned], laidTests := true, laidLooks := .later }
def InferBayesCardSaid : Prop := Claim7.holds Tryz.pinned (.plain (OpenSpec.ofChange inferBayesSpec)) inferBayesCard

/-- THE TIED CARD OF 'augurtop.TopApart'. -/
def topApartCard : Claim7 := { stood := { row := topApartRow, standIns := [], harness := (true, "473551f77c8e890edf3b99c152eb0ff9c7f12650006000a23ab5e81222b5b43d"), looks := false }, kinds := [], alts := [], laidByText := true, laidKinds := [.data, .pinned], laidTests := true, laidLooks := .later }
def TopApartCardSaid : Prop := Claim7.holds Tryz.pinned (.plain (OpenSpec.ofChange topApartSpec)) topApartCard

/-- THE SECOND FORM's CARD OF 'augurlaw.InferExact'. -/
def inferExactUptoCard : Claim7 := { stood := { row := inferExactUptoRow, standIns := [], harness := (true, "473551f77c8e890edf3b99c152eb0ff9c7f12650006000a23ab5e81222b5b43d"), looks := false }, kinds := [], alts := [], laidByText := true, laidKinds := [.data, .pinned], laidTests := true, laidLooks := .later }
def InferExactUptoCardSaid : Prop := Claim7.holds Tryz.pinned (.plain (OpenSpec.upto inferExactSpec)) inferExactUptoCard

/-- THE SECOND FORM's CARD OF 'augurlaw.InferMade'. -/
def inferMadeUptoCard : Claim7 := { stood := { row := inferMadeUptoRow, standIns := [], harness := (true, "473551f77c8e890edf3b99c152eb0ff9c7f12650006000a23ab5e81222b5b43d"), looks := false }, kinds := [], alts := [], laidByText := true, laidKinds := [.data, .pinned], laidTests := true, laidLooks := .later }
def InferMadeUptoCardSaid : Prop := Claim7.holds Tryz.pinned (.plain (OpenSpec.upto inferMadeSpec)) inferMadeUptoCard

/-- THE SECOND FORM's CARD OF 'augurlaw.InferBayes'. -/
def inferBayesUptoCard : Claim7 := { stood := { row := inferBayesUptoRow, standIns := [], harness := (true, "473551f77c8e890edf3b99c152eb0ff9c7f12650006000a23ab5e81222b5b43d"), looks := false }, kinds := [], alts := [], laidByText := true, laidKinds := [.data, .pinned], laidTests := true, laidLooks := .later }
def InferBayesUptoCardSaid : Prop := Claim7.holds Tryz.pinned (.plain (OpenSpec.upto inferBayesSpec)) inferBayesUptoCard

/-- THE SECOND FORM's CARD OF 'augurtop.TopApart'. -/
def topApartUptoCard : Claim7 := { stood := { row := topApartUptoRow, standIns := [], harness := (true, "473551f77c8e890edf3b99c152eb0ff9c7f12650006000a23ab5e81222b5b43d"), looks := false }, kinds := [], alts := [], laidByText := true, laidKinds := [.data, .pinned], laidTests := true, laidLooks := .later }
def TopApartUptoCardSaid : Prop := Claim7.holds Tryz.pinned (.plain (OpenSpec.upto topApartSpec)) topApartUptoCard
end Rows
end Go.Proofs.YtfgkjjlocjmfeaaGreatDoor
