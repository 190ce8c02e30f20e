/-
  DERIVED. GIVEN WITH THE SEED: THE CARDS: each row of YtdmnlmohfaafoabDoorRows.lean that lists a variable, with what it lists TIED to the program's text (the seventh form; the later family's looks); each row that meets fmt, with fmt's text TOLD by the authors' own Lean function (tested against real Go, not proved from fmt's source: count such statements apart). THE CARD IS WHAT COUNTS. Prove the row's statement (the work); the ties are given (YtdmnlmohfaafoabDoorTie.lean); close each card by the builder's one call (the guide's Derived/Test/ToyasCard.lean, 'card_holds'). Laid BY PROGRAM, IN A SANDBOX (cutbox-door.mjs). By AI agents, Wed Nov 11 2026. No macro, syntax, notation, axiom, sorry.
-/
import Derived.Test.YtdmnlmohfaafoabDoorRows
import GoSem.ClaimSeven
namespace Go.Proofs.YtdmnlmohfaafoabDoor
namespace Rows

/-- THE TIED CARD OF 'raingaugekeep.ChunkBack'. -/
def chunkBackCard : Claim7 := { stood := { row := chunkBackRow, standIns := [], harness := (true, "eb39e3279cc86da8e5257553942fb2483887656688e793264c8ef39eb6c48b8f"), looks := true }, kinds := [], alts := [], laidByText := true, laidKinds := [.data], laidTests := true, laidLooks := .later }
def ChunkBackCardSaid : Prop := Claim7.holds Tryd.pinned (.plain (OpenSpec.ofChange chunkBackSpec)) chunkBackCard

/-- THE TIED CARD OF 'raingaugekeep.ChunkSmall'. -/
def chunkSmallCard : Claim7 := { stood := { row := chunkSmallRow, standIns := [], harness := (true, "eb39e3279cc86da8e5257553942fb2483887656688e793264c8ef39eb6c48b8f"), looks := true }, kinds := [], alts := [], laidByText := true, laidKinds := [.data], laidTests := true, laidLooks := .later }
def ChunkSmallCardSaid : Prop := Claim7.holds Tryd.pinned (.plain (OpenSpec.ofChange chunkSmallSpec)) chunkSmallCard

/-- THE TIED CARD OF 'raingaugelaw.RollUp'. -/
def rollUpCard : Claim7 := { stood := { row := rollUpRow, standIns := [], harness := (true, "eb39e3279cc86da8e5257553942fb2483887656688e793264c8ef39eb6c48b8f"), looks := true }, kinds := [], alts := [], laidByText := true, laidKinds := [.handle], laidTests := true, laidLooks := .later }
def RollUpCardSaid : Prop := Claim7.holds Tryd.pinned (.plain (OpenSpec.ofChange rollUpSpec)) rollUpCard

/-- THE SECOND FORM's CARD OF 'raingaugekeep.ChunkBack'. -/
def chunkBackUptoCard : Claim7 := { stood := { row := chunkBackUptoRow, standIns := [], harness := (true, "eb39e3279cc86da8e5257553942fb2483887656688e793264c8ef39eb6c48b8f"), looks := true }, kinds := [], alts := [], laidByText := true, laidKinds := [.data], laidTests := true, laidLooks := .later }
def ChunkBackUptoCardSaid : Prop := Claim7.holds Tryd.pinned (.plain (OpenSpec.upto chunkBackSpec)) chunkBackUptoCard

/-- THE SECOND FORM's CARD OF 'raingaugekeep.ChunkSmall'. -/
def chunkSmallUptoCard : Claim7 := { stood := { row := chunkSmallUptoRow, standIns := [], harness := (true, "eb39e3279cc86da8e5257553942fb2483887656688e793264c8ef39eb6c48b8f"), looks := true }, kinds := [], alts := [], laidByText := true, laidKinds := [.data], laidTests := true, laidLooks := .later }
def ChunkSmallUptoCardSaid : Prop := Claim7.holds Tryd.pinned (.plain (OpenSpec.upto chunkSmallSpec)) chunkSmallUptoCard

/-- THE SECOND FORM's CARD OF 'raingaugelaw.RollUp'. -/
def rollUpUptoCard : Claim7 := { stood := { row := rollUpUptoRow, standIns := [], harness := (true, "eb39e3279cc86da8e5257553942fb2483887656688e793264c8ef39eb6c48b8f"), looks := true }, kinds := [], alts := [], laidByText := true, laidKinds := [.handle], laidTests := true, laidLooks := .later }
def RollUpUptoCardSaid : Prop := Claim7.holds Tryd.pinned (.plain (OpenSpec.upto rollUpSpec)) rollUpUptoCard
end Rows
end Go.Proofs.YtdmnlmohfaafoabDoor
