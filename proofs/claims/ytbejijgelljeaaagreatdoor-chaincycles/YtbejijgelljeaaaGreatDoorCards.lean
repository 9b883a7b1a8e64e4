/-
  DERIVED. GIVEN WITH THE SEED: THE CARDS: each row of YtbejijgelljeaaaGreatDoorRows.lean that lists a variable, with what it lists TIED to the program's text (the seventh form; the later family's looks); each row that meets fmt, with fmt's text TOLD by the authors' own Lean function (tested against real Go, not proved from fmt's source: count such statements apart). THE CARD IS WHAT COUNTS. Prove the row's statement (the work); the ties are given (YtbejijgelljeaaaGreatDoorTie.lean); close each card by the builder's one call (the guide's Derived/Test/ToyasCard.lean, 'card_holds'). Laid BY PROGRAM, IN A SANDBOX (cutbox-door.mjs). By AI agents, Wed Nov 11 2026. No macro, syntax, notation, axiom, sorry.
-/
import Derived.Test.YtbejijgelljeaaaGreatDoorRows
import GoSem.ClaimSeven
namespace Go.Proofs.YtbejijgelljeaaaGreatDoor
namespace Rows

/-- THE TIED CARD OF 'augurlaw.ChainHits'. -/
def chainHitsCard : Claim7 := { stood := { row := chainHitsRow, standIns := [], harness := (true, "85f6a687bc292524546b56145940f82389d77b2e6f89ec9f3f4c460ed545423f"), looks := false }, kinds := [], alts := [], laidByText := true, laidKinds := [.data, .pinned], laidTests := true, laidLooks := .later }
def ChainHitsCardSaid : Prop := Claim7.holds Tryz.pinned (.plain (OpenSpec.ofChange chainHitsSpec)) chainHitsCard

/-- THE TIED CARD OF 'augurtop.TopStill'. -/
def topStillCard : Claim7 := { stood := { row := topStillRow, standIns := [], harness := (true, "85f6a687bc292524546b56145940f82389d77b2e6f89ec9f3f4c460ed545423f"), looks := false }, kinds := [], alts := [], laidByText := true, laidKinds := [.data, .pinned], laidTests := true, laidLooks := .later }
def TopStillCardSaid : Prop := Claim7.holds Tryz.pinned (.plain (OpenSpec.ofChange topStillSpec)) topStillCard

/-- THE TIED CARD OF 'augurlaw.ChainPowers'. -/
def chainPowersCard : Claim7 := { stood := { row := chainPowersRow, standIns := [], harness := (true, "85f6a687bc292524546b56145940f82389d77b2e6f89ec9f3f4c460ed545423f"), looks := false }, kinds := [], alts := [], laidByText := true, laidKinds := [.data, .pinned], laidTests := true, laidLooks := .later }
def ChainPowersCardSaid : Prop := Claim7.holds Tryz.pinned (.plain (OpenSpec.ofChange chainPowersSpec)) chainPowersCard

/-- THE TIED CARD OF 'augurlaw.ChainCycles'. -/
def chainCyclesCard : Claim7 := { stood := { row := chainCyclesRow, standIns := [], harness := (true, "85f6a687bc292524546b56145940f82389d77b2e6f89ec9f3f4c460ed545423f"), looks := false }, kinds := [], alts := [], laidByText := true, laidKinds := [.data, .pinned], laidTests := true, laidLooks := .later }
def ChainCyclesCardSaid : Prop := Claim7.holds Tryz.pinned (.plain (OpenSpec.ofChange chainCyclesSpec)) chainCyclesCard

/-- THE SECOND FORM's CARD OF 'augurlaw.ChainHits'. -/
def chainHitsUptoCard : Claim7 := { stood := { row := chainHitsUptoRow, standIns := [], harness := (true, "85f6a687bc292524546b56145940f82389d77b2e6f89ec9f3f4c460ed545423f"), looks := false }, kinds := [], alts := [], laidByText := true, laidKinds := [.data, .pinned], laidTests := true, laidLooks := .later }
def ChainHitsUptoCardSaid : Prop := Claim7.holds Tryz.pinned (.plain (OpenSpec.upto chainHitsSpec)) chainHitsUptoCard

/-- THE SECOND FORM's CARD OF 'augurtop.TopStill'. -/
def topStillUptoCard : Claim7 := { stood := { row := topStillUptoRow, standIns := [], harness := (true, "85f6a687bc292524546b56145940f82389d77b2e6f89ec9f3f4c460ed545423f"), looks := false }, kinds := [], alts := [], laidByText := true, laidKinds := [.data, .pinned], laidTests := true, laidLooks := .later }
def TopStillUptoCardSaid : Prop := Claim7.holds Tryz.pinned (.plain (OpenSpec.upto topStillSpec)) topStillUptoCard

/-- THE SECOND FORM's CARD OF 'augurlaw.ChainPowers'. -/
def chainPowersUptoCard : Claim7 := { stood := { row := chainPowersUptoRow, standIns := [], harness := (true, "85f6a687bc292524546b56145940f82389d77b2e6f89ec9f3f4c460ed545423f"), looks := false }, kinds := [], alts := [], laidByText := true, laidKinds := [.data, .pinned], laidTests := true, laidLooks := .later }
def ChainPowersUptoCardSaid : Prop := Claim7.holds Tryz.pinned (.plain (OpenSpec.upto chainPowersSpec)) chainPowersUptoCard

/-- THE SECOND FORM's CARD OF 'augurlaw.ChainCycles'. -/
def chainCyclesUptoCard : Claim7 := { stood := { row := chainCyclesUptoRow, standIns := [], harness := (true, "85f6a687bc292524546b56145940f82389d77b2e6f89ec9f3f4c460ed545423f"), looks := false }, kinds := [], alts := [], laidByText := true, laidKinds := [.data, .pinned], laidTests := true, laidLooks := .later }
def ChainCyclesUptoCardSaid : Prop := Claim7.holds Tryz.pinned (.plain (OpenSpec.upto chainCyclesSpec)) chainCyclesUptoCard
end Rows
end Go.Proofs.YtbejijgelljeaaaGreatDoor
