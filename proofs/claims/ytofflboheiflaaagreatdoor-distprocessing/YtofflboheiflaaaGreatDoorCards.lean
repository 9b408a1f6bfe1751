/-
  DERIVED. GIVEN WITH THE SEED: THE CARDS: each row of YtofflboheiflaaaGreatDoorRows.lean that lists a variable, with what it lists TIED to the program's text (the seventh form; the later family's looks); each row that meets fmt, with fmt's text TOLD by the authors' own Lean function (tested against real Go, not proved from fmt's source: count such statements apart). THE CARD IS WHAT COUNTS. Prove the row's statement (the work); the ties are given (YtofflboheiflaaaGreatDoorTie.lean); close each card by the builder's one call (the guide's Derived/Test/ToyasCard.lean, 'card_holds'). Laid BY PROGRAM, IN A SANDBOX (cutbox-door.mjs). By AI agents, Wed Nov 11 2026. No macro, syntax, notation, axiom, sorry.
-/
import Derived.Test.YtofflboheiflaaaGreatDoorRows
import GoSem.ClaimSeven
namespace Go.Proofs.YtofflboheiflaaaGreatDoor
namespace Rows

/-- THE TIED CARD OF 'demonlaw1.DistVariation'. -/
def distVariationCard : Claim7 := { stood := { row := distVariationRow, standIns := [], harness := (true, "973160af02f4de9c94d998b5ec8f0a28b972200d58fe5802d3003b11281972c0"), looks := true }, kinds := [], alts := [], laidByText := true, laidKinds := [.handle, .sentinel, .sentinel, .sentinel, .sentinel, .sentinel, .sentinel, .sentinel, .sentinel], laidTests := true, laidLooks := .later }
def DistVariationCardSaid : Prop := Claim7.holds Tryz.pinned (.plain (OpenSpec.ofChange distVariationSpec)) distVariationCard

/-- THE TIED CARD OF 'demonlaw1.DistPinsker'. -/
def distPinskerCard : Claim7 := { stood := { row := distPinskerRow, standIns := [], harness := (true, "973160af02f4de9c94d998b5ec8f0a28b972200d58fe5802d3003b11281972c0"), looks := true }, kinds := [], alts := [], laidByText := true, laidKinds := [.handle, .sentinel, .sentinel, .sentinel, .sentinel, .sentinel, .sentinel, .sentinel, .sentinel], laidTests := true, laidLooks := .later }
def DistPinskerCardSaid : Prop := Claim7.holds Tryz.pinned (.plain (OpenSpec.ofChange distPinskerSpec)) distPinskerCard

/-- THE TIED CARD OF 'demonlaw1.DistProcessing'. -/
def distProcessingCard : Claim7 := { stood := { row := distProcessingRow, standIns := [], harness := (true, "973160af02f4de9c94d998b5ec8f0a28b972200d58fe5802d3003b11281972c0"), looks := true }, kinds := [], alts := [], laidByText := true, laidKinds := [.handle, .sentinel, .sentinel, .sentinel, .sentinel, .sentinel, .sentinel, .sentinel, .sentinel], laidTests := true, laidLooks := .later }
def DistProcessingCardSaid : Prop := Claim7.holds Tryz.pinned (.plain (OpenSpec.ofChange distProcessingSpec)) distProcessingCard

/-- THE SECOND FORM's CARD OF 'demonlaw1.DistVariation'. -/
def distVariationUptoCard : Claim7 := { stood := { row := distVariationUptoRow, standIns := [], harness := (true, "973160af02f4de9c94d998b5ec8f0a28b972200d58fe5802d3003b11281972c0"), looks := true }, kinds := [], alts := [], laidByText := true, laidKinds := [.handle, .sentinel, .sentinel, .sentinel, .sentinel, .sentinel, .sentinel, .sentinel, .sentinel], laidTests := true, laidLooks := .later }
def DistVariationUptoCardSaid : Prop := Claim7.holds Tryz.pinned (.plain (OpenSpec.upto distVariationSpec)) distVariationUptoCard

/-- THE SECOND FORM's CARD OF 'demonlaw1.DistPinsker'. -/
def distPinskerUptoCard : Claim7 := { stood := { row := distPinskerUptoRow, standIns := [], harness := (true, "973160af02f4de9c94d998b5ec8f0a28b972200d58fe5802d3003b11281972c0"), looks := true }, kinds := [], alts := [], laidByText := true, laidKinds := [.handle, .sentinel, .sentinel, .sentinel, .sentinel, .sentinel, .sentinel, .sentinel, .sentinel], laidTests := true, laidLooks := .later }
def DistPinskerUptoCardSaid : Prop := Claim7.holds Tryz.pinned (.plain (OpenSpec.upto distPinskerSpec)) distPinskerUptoCard

/-- THE SECOND FORM's CARD OF 'demonlaw1.DistProcessing'. -/
def distProcessingUptoCard : Claim7 := { stood := { row := distProcessingUptoRow, standIns := [], harness := (true, "973160af02f4de9c94d998b5ec8f0a28b972200d58fe5802d3003b11281972c0"), looks := true }, kinds := [], alts := [], laidByText := true, laidKinds := [.handle, .sentinel, .sentinel, .sentinel, .sentinel, .sentinel, .sentinel, .sentinel, .sentinel], laidTests := true, laidLooks := .later }
def DistProcessingUptoCardSaid : Prop := Claim7.holds Tryz.pinned (.plain (OpenSpec.upto distProcessingSpec)) distProcessingUptoCard
end Rows
end Go.Proofs.YtofflboheiflaaaGreatDoor
