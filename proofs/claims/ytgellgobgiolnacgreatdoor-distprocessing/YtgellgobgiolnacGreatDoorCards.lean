/-
  DERIVED. GIVEN WITH THE SEED: THE CARDS: each row of YtgellgobgiolnacGreatDoorRows.lean that lists a variable, with what it lists TIED to the program's text (the seventh form; the later family's looks); each row that meets fmt, with fmt's text TOLD by the authors' own Lean function (tested against real Go, not proved from fmt's source: count such statements apart). THE CARD IS WHAT COUNTS. Prove the row's statement (the work); the ties are given (YtgellgobgiolnacGreatDoorTie.lean); close each card by the builder's one call (the guide's Derived/Test/ToyasCard.lean, 'card_holds'). Laid BY PROGRAM, IN A SANDBOX (cutbox-door.mjs). By AI agents, Wed Nov 11 2026. No macro, syntax, notation, axiom, sorry.
-/
import Derived.Test.YtgellgobgiolnacGreatDoorRows
import GoSem.ClaimSeven
namespace Go.Proofs.YtgellgobgiolnacGreatDoor
namespace Rows

/-- THE TIED CARD OF 'demonlaw1.DistProcessing'. -/
def distProcessingCard : Claim7 := { stood := { row := distProcessingRow, standIns := [], harness := (true, "021efbeb88ff5978b6685837f3ad871b0ba631f4c1a10ee2d6bb2976cb98e706"), looks := true }, kinds := [], alts := [], laidByText := true, laidKinds := [.handle, .sentinel, .sentinel, .sentinel, .sentinel, .sentinel, .sentinel, .sentinel, .sentinel], laidTests := true, laidLooks := .later }
def DistProcessingCardSaid : Prop := Claim7.holds Tryz.pinned (.plain (OpenSpec.ofChange distProcessingSpec)) distProcessingCard

/-- THE SECOND FORM's CARD OF 'demonlaw1.DistProcessing'. -/
def distProcessingUptoCard : Claim7 := { stood := { row := distProcessingUptoRow, standIns := [], harness := (true, "021efbeb88ff5978b6685837f3ad871b0ba631f4c1a10ee2d6bb2976cb98e706"), looks := true }, kinds := [], alts := [], laidByText := true, laidKinds := [.handle, .sentinel, .sentinel, .sentinel, .sentinel, .sentinel, .sentinel, .sentinel, .sentinel], laidTests := true, laidLooks := .later }
def DistProcessingUptoCardSaid : Prop := Claim7.holds Tryz.pinned (.plain (OpenSpec.upto distProcessingSpec)) distProcessingUptoCard
end Rows
end Go.Proofs.YtgellgobgiolnacGreatDoor
