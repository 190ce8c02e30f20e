/-
  DERIVED. GIVEN WITH THE SEED: THE CARDS: each row of YtdmnlmohfaafoadGreatDoorRows.lean that lists a variable, with what it lists TIED to the program's text (the seventh form; the later family's looks); each row that meets fmt, with fmt's text TOLD by the authors' own Lean function (tested against real Go, not proved from fmt's source: count such statements apart). THE CARD IS WHAT COUNTS. Prove the row's statement (the work); the ties are given (YtdmnlmohfaafoadGreatDoorTie.lean); close each card by the builder's one call (the guide's Derived/Test/ToyasCard.lean, 'card_holds'). Laid BY PROGRAM, IN A SANDBOX (cutbox-door.mjs). By AI agents, Wed Nov 11 2026. No macro, syntax, notation, axiom, sorry.
-/
import Derived.Test.YtdmnlmohfaafoadGreatDoorRows
import GoSem.ClaimSeven
namespace Go.Proofs.YtdmnlmohfaafoadGreatDoor
namespace Rows

/-- THE TIED CARD OF 'raingaugelaw.CodeSeries'. -/
def codeSeriesCard : Claim7 := { stood := { row := codeSeriesRow, standIns := [], harness := (true, "283b51a2f36aa3e6551e0c84721eb8178ad2f208611a3f4a86ee23a3f61be9f4"), looks := true }, kinds := [], alts := [], laidByText := true, laidKinds := [.handle, .data, .data], laidTests := true, laidLooks := .later }
def CodeSeriesCardSaid : Prop := Claim7.holds Tryz.pinned (.plain (OpenSpec.ofChange codeSeriesSpec)) codeSeriesCard

/-- THE TIED CARD OF 'raingaugelaw.HeadPlays'. -/
def headPlaysCard : Claim7 := { stood := { row := headPlaysRow, standIns := [], harness := (true, "283b51a2f36aa3e6551e0c84721eb8178ad2f208611a3f4a86ee23a3f61be9f4"), looks := true }, kinds := [], alts := [], laidByText := true, laidKinds := [.handle, .data], laidTests := true, laidLooks := .later }
def HeadPlaysCardSaid : Prop := Claim7.holds Tryz.pinned (.plain (OpenSpec.ofChange headPlaysSpec)) headPlaysCard

/-- THE SECOND FORM's CARD OF 'raingaugelaw.CodeSeries'. -/
def codeSeriesUptoCard : Claim7 := { stood := { row := codeSeriesUptoRow, standIns := [], harness := (true, "283b51a2f36aa3e6551e0c84721eb8178ad2f208611a3f4a86ee23a3f61be9f4"), looks := true }, kinds := [], alts := [], laidByText := true, laidKinds := [.handle, .data, .data], laidTests := true, laidLooks := .later }
def CodeSeriesUptoCardSaid : Prop := Claim7.holds Tryz.pinned (.plain (OpenSpec.upto codeSeriesSpec)) codeSeriesUptoCard

/-- THE SECOND FORM's CARD OF 'raingaugelaw.HeadPlays'. -/
def headPlaysUptoCard : Claim7 := { stood := { row := headPlaysUptoRow, standIns := [], harness := (true, "283b51a2f36aa3e6551e0c84721eb8178ad2f208611a3f4a86ee23a3f61be9f4"), looks := true }, kinds := [], alts := [], laidByText := true, laidKinds := [.handle, .data], laidTests := true, laidLooks := .later }
def HeadPlaysUptoCardSaid : Prop := Claim7.holds Tryz.pinned (.plain (OpenSpec.upto headPlaysSpec)) headPlaysUptoCard
end Rows
end Go.Proofs.YtdmnlmohfaafoadGreatDoor
