/-
  DERIVED. GIVEN WITH THE SEED: THE CARDS: each row of YtemeblgngidldaaGreatDoorRows.lean that lists a variable, with what it lists TIED to the program's text (the seventh form; the later family's looks); each row that meets fmt, with fmt's text TOLD by the authors' own Lean function (tested against real Go, not proved from fmt's source: count such statements apart). THE CARD IS WHAT COUNTS. Prove the row's statement (the work); the ties are given (YtemeblgngidldaaGreatDoorTie.lean); close each card by the builder's one call (the guide's Derived/Test/ToyasCard.lean, 'card_holds'). Laid BY PROGRAM, IN A SANDBOX (cutbox-door.mjs). By AI agents, Wed Nov 11 2026. No macro, syntax, notation, axiom, sorry.
-/
import Derived.Test.YtemeblgngidldaaGreatDoorRows
import GoSem.ClaimSeven
namespace Go.Proofs.YtemeblgngidldaaGreatDoor
namespace Rows

/-- THE TIED CARD OF 'raingaugekeep.StoreGoes'. -/
def storeGoesCard : Claim7 := { stood := { row := storeGoesRow, standIns := [], harness := (true, "a53c2ad9b720600f670480211f8f4f932253627a34d25042b83550c7d416f617"), looks := true }, kinds := [], alts := [], laidByText := true, laidKinds := [.data, .data, .data, .data], laidTests := true, laidLooks := .later }
def StoreGoesCardSaid : Prop := Claim7.holds Tryz.pinned (.plain (OpenSpec.ofChange storeGoesSpec)) storeGoesCard

/-- THE TIED CARD OF 'raingaugekeep.StoreCrashes'. -/
def storeCrashesCard : Claim7 := { stood := { row := storeCrashesRow, standIns := [], harness := (true, "a53c2ad9b720600f670480211f8f4f932253627a34d25042b83550c7d416f617"), looks := true }, kinds := [], alts := [], laidByText := true, laidKinds := [.data, .data, .data, .handle, .data], laidTests := true, laidLooks := .later }
def StoreCrashesCardSaid : Prop := Claim7.holds Tryz.pinned (.plain (OpenSpec.ofChange storeCrashesSpec)) storeCrashesCard

/-- THE SECOND FORM's CARD OF 'raingaugekeep.StoreGoes'. -/
def storeGoesUptoCard : Claim7 := { stood := { row := storeGoesUptoRow, standIns := [], harness := (true, "a53c2ad9b720600f670480211f8f4f932253627a34d25042b83550c7d416f617"), looks := true }, kinds := [], alts := [], laidByText := true, laidKinds := [.data, .data, .data, .data], laidTests := true, laidLooks := .later }
def StoreGoesUptoCardSaid : Prop := Claim7.holds Tryz.pinned (.plain (OpenSpec.upto storeGoesSpec)) storeGoesUptoCard

/-- THE SECOND FORM's CARD OF 'raingaugekeep.StoreCrashes'. -/
def storeCrashesUptoCard : Claim7 := { stood := { row := storeCrashesUptoRow, standIns := [], harness := (true, "a53c2ad9b720600f670480211f8f4f932253627a34d25042b83550c7d416f617"), looks := true }, kinds := [], alts := [], laidByText := true, laidKinds := [.data, .data, .data, .handle, .data], laidTests := true, laidLooks := .later }
def StoreCrashesUptoCardSaid : Prop := Claim7.holds Tryz.pinned (.plain (OpenSpec.upto storeCrashesSpec)) storeCrashesUptoCard
end Rows
end Go.Proofs.YtemeblgngidldaaGreatDoor
