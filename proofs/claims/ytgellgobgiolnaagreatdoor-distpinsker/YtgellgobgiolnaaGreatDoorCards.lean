/-
  DERIVED. GIVEN WITH THE SEED: THE CARDS: each row of YtgellgobgiolnaaGreatDoorRows.lean that lists a variable, with what it lists TIED to the program's text (the seventh form; the later family's looks); each row that meets fmt, with fmt's text TOLD by the authors' own Lean function (tested against real Go, not proved from fmt's source: count such statements apart). THE CARD IS WHAT COUNTS. Prove the row's statement (the work); the ties are given (YtgellgobgiolnaaGreatDoorTie.lean); close each card by the builder's one call (the guide's Derived/Test/ToyasCard.lean, 'card_holds'). Laid BY PROGRAM, IN A SANDBOX (cutbox-door.mjs). By AI agents, Wed Nov 11 2026. No macro, syntax, notation, axiom, sorry.
-/
import Derived.Test.YtgellgobgiolnaaGreatDoorRows
import GoSem.ClaimSeven
namespace Go.Proofs.YtgellgobgiolnaaGreatDoor
namespace Rows

/-- THE TIED CARD OF 'demonlaw1.DistEntropy'. -/
def distEntropyCard : Claim7 := { stood := { row := distEntropyRow, standIns := [], harness := (true, "abf4cf45e3b7b65b3fc2bd60933dc7182e99bee1b5e0346a132a6633735f3059"), looks := true }, kinds := [], alts := [], laidByText := true, laidKinds := [.handle, .sentinel, .sentinel, .sentinel, .sentinel, .sentinel, .sentinel, .sentinel, .sentinel], laidTests := true, laidLooks := .later }
def DistEntropyCardSaid : Prop := Claim7.holds Tryz.pinned (.plain (OpenSpec.ofChange distEntropySpec)) distEntropyCard

/-- THE TIED CARD OF 'demonlaw1.DistDivergence'. -/
def distDivergenceCard : Claim7 := { stood := { row := distDivergenceRow, standIns := [], harness := (true, "abf4cf45e3b7b65b3fc2bd60933dc7182e99bee1b5e0346a132a6633735f3059"), looks := true }, kinds := [], alts := [], laidByText := true, laidKinds := [.handle, .sentinel, .sentinel, .sentinel, .sentinel, .sentinel, .sentinel, .sentinel, .sentinel], laidTests := true, laidLooks := .later }
def DistDivergenceCardSaid : Prop := Claim7.holds Tryz.pinned (.plain (OpenSpec.ofChange distDivergenceSpec)) distDivergenceCard

/-- THE TIED CARD OF 'demonlaw1.DistVariation'. -/
def distVariationCard : Claim7 := { stood := { row := distVariationRow, standIns := [], harness := (true, "abf4cf45e3b7b65b3fc2bd60933dc7182e99bee1b5e0346a132a6633735f3059"), looks := true }, kinds := [], alts := [], laidByText := true, laidKinds := [.handle, .sentinel, .sentinel, .sentinel, .sentinel, .sentinel, .sentinel, .sentinel, .sentinel], laidTests := true, laidLooks := .later }
def DistVariationCardSaid : Prop := Claim7.holds Tryz.pinned (.plain (OpenSpec.ofChange distVariationSpec)) distVariationCard

/-- THE TIED CARD OF 'demonlaw1.DistPinsker'. -/
def distPinskerCard : Claim7 := { stood := { row := distPinskerRow, standIns := [], harness := (true, "abf4cf45e3b7b65b3fc2bd60933dc7182e99bee1b5e0346a132a6633735f3059"), looks := true }, kinds := [], alts := [], laidByText := true, laidKinds := [.handle, .sentinel, .sentinel, .sentinel, .sentinel, .sentinel, .sentinel, .sentinel, .sentinel], laidTests := true, laidLooks := .later }
def DistPinskerCardSaid : Prop := Claim7.holds Tryz.pinned (.plain (OpenSpec.ofChange distPinskerSpec)) distPinskerCard

/-- THE SECOND FORM's CARD OF 'demonlaw1.DistEntropy'. -/
def distEntropyUptoCard : Claim7 := { stood := { row := distEntropyUptoRow, standIns := [], harness := (true, "abf4cf45e3b7b65b3fc2bd60933dc7182e99bee1b5e0346a132a6633735f3059"), looks := true }, kinds := [], alts := [], laidByText := true, laidKinds := [.handle, .sentinel, .sentinel, .sentinel, .sentinel, .sentinel, .sentinel, .sentinel, .sentinel], laidTests := true, laidLooks := .later }
def DistEntropyUptoCardSaid : Prop := Claim7.holds Tryz.pinned (.plain (OpenSpec.upto distEntropySpec)) distEntropyUptoCard

/-- THE SECOND FORM's CARD OF 'demonlaw1.DistDivergence'. -/
def distDivergenceUptoCard : Claim7 := { stood := { row := distDivergenceUptoRow, standIns := [], harness := (true, "abf4cf45e3b7b65b3fc2bd60933dc7182e99bee1b5e0346a132a6633735f3059"), looks := true }, kinds := [], alts := [], laidByText := true, laidKinds := [.handle, .sentinel, .sentinel, .sentinel, .sentinel, .sentinel, .sentinel, .sentinel, .sentinel], laidTests := true, laidLooks := .later }
def DistDivergenceUptoCardSaid : Prop := Claim7.holds Tryz.pinned (.plain (OpenSpec.upto distDivergenceSpec)) distDivergenceUptoCard

/-- THE SECOND FORM's CARD OF 'demonlaw1.DistVariation'. -/
def distVariationUptoCard : Claim7 := { stood := { row := distVariationUptoRow, standIns := [], harness := (true, "abf4cf45e3b7b65b3fc2bd60933dc7182e99bee1b5e0346a132a6633735f3059"), looks := true }, kinds := [], alts := [], laidByText := true, laidKinds := [.handle, .sentinel, .sentinel, .sentinel, .sentinel, .sentinel, .sentinel, .sentinel, .sentinel], laidTests := true, laidLooks := .later }
def DistVariationUptoCardSaid : Prop := Claim7.holds Tryz.pinned (.plain (OpenSpec.upto distVariationSpec)) distVariationUptoCard

/-- THE SECOND FORM's CARD OF 'demonlaw1.DistPinsker'. -/
def distPinskerUptoCard : Claim7 := { stood := { row := distPinskerUptoRow, standIns := [], harness := (true, "abf4cf45e3b7b65b3fc2bd60933dc7182e99bee1b5e0346a132a6633735f3059"), looks := true }, kinds := [], alts := [], laidByText := true, laidKinds := [.handle, .sentinel, .sentinel, .sentinel, .sentinel, .sentinel, .sentinel, .sentinel, .sentinel], laidTests := true, laidLooks := .later }
def DistPinskerUptoCardSaid : Prop := Claim7.holds Tryz.pinned (.plain (OpenSpec.upto distPinskerSpec)) distPinskerUptoCard
end Rows
end Go.Proofs.YtgellgobgiolnaaGreatDoor
