/-
  DERIVED. GIVEN WITH THE SEED: THE CARDS: each row of YthomgmhmbalnbaaGreatDoorRows.lean that lists a variable, with what it lists TIED to the program's text (the seventh form; the later family's looks); each row that meets fmt, with fmt's text TOLD by the authors' own Lean function (tested against real Go, not proved from fmt's source: count such statements apart). THE CARD IS WHAT COUNTS. Prove the row's statement (the work); the ties are given (YthomgmhmbalnbaaGreatDoorTie.lean); close each card by the builder's one call (the guide's Derived/Test/ToyasCard.lean, 'card_holds'). Laid BY PROGRAM, IN A SANDBOX (cutbox-door.mjs). By AI agents, Wed Nov 11 2026. No macro, syntax, notation, axiom, sorry.
-/
import Derived.Test.YthomgmhmbalnbaaGreatDoorRows
import GoSem.ClaimSeven
namespace Go.Proofs.YthomgmhmbalnbaaGreatDoor
namespace Rows

/-- THE TIED CARD OF 'demonlaw4.HeatValid'. -/
def heatValidCard : Claim7 := { stood := { row := heatValidRow, standIns := [], harness := (true, "5557c57f029eb67dc10ffe48c5d2ce708b4f6f8a10d3913625522206cb22443d"), looks := true }, kinds := [], alts := [], laidByText := true, laidKinds := [.handle, .sentinel, .sentinel, .sentinel, .sentinel, .sentinel, .sentinel, .sentinel, .sentinel], laidTests := true, laidLooks := .later }
def HeatValidCardSaid : Prop := Claim7.holds Tryz.pinned (.plain (OpenSpec.ofChange heatValidSpec)) heatValidCard

/-- THE TIED CARD OF 'demonlaw4.HeatMean'. -/
def heatMeanCard : Claim7 := { stood := { row := heatMeanRow, standIns := [], harness := (true, "5557c57f029eb67dc10ffe48c5d2ce708b4f6f8a10d3913625522206cb22443d"), looks := true }, kinds := [], alts := [], laidByText := true, laidKinds := [.handle, .sentinel, .sentinel, .sentinel, .sentinel, .sentinel, .sentinel, .sentinel, .sentinel], laidTests := true, laidLooks := .later }
def HeatMeanCardSaid : Prop := Claim7.holds Tryz.pinned (.plain (OpenSpec.ofChange heatMeanSpec)) heatMeanCard

/-- THE TIED CARD OF 'demonlaw4.HeatChance'. -/
def heatChanceCard : Claim7 := { stood := { row := heatChanceRow, standIns := [], harness := (true, "5557c57f029eb67dc10ffe48c5d2ce708b4f6f8a10d3913625522206cb22443d"), looks := true }, kinds := [], alts := [], laidByText := true, laidKinds := [.handle, .sentinel, .sentinel, .sentinel, .sentinel, .sentinel, .sentinel, .sentinel, .sentinel], laidTests := true, laidLooks := .later }
def HeatChanceCardSaid : Prop := Claim7.holds Tryz.pinned (.plain (OpenSpec.ofChange heatChanceSpec)) heatChanceCard

/-- THE SECOND FORM's CARD OF 'demonlaw4.HeatValid'. -/
def heatValidUptoCard : Claim7 := { stood := { row := heatValidUptoRow, standIns := [], harness := (true, "5557c57f029eb67dc10ffe48c5d2ce708b4f6f8a10d3913625522206cb22443d"), looks := true }, kinds := [], alts := [], laidByText := true, laidKinds := [.handle, .sentinel, .sentinel, .sentinel, .sentinel, .sentinel, .sentinel, .sentinel, .sentinel], laidTests := true, laidLooks := .later }
def HeatValidUptoCardSaid : Prop := Claim7.holds Tryz.pinned (.plain (OpenSpec.upto heatValidSpec)) heatValidUptoCard

/-- THE SECOND FORM's CARD OF 'demonlaw4.HeatMean'. -/
def heatMeanUptoCard : Claim7 := { stood := { row := heatMeanUptoRow, standIns := [], harness := (true, "5557c57f029eb67dc10ffe48c5d2ce708b4f6f8a10d3913625522206cb22443d"), looks := true }, kinds := [], alts := [], laidByText := true, laidKinds := [.handle, .sentinel, .sentinel, .sentinel, .sentinel, .sentinel, .sentinel, .sentinel, .sentinel], laidTests := true, laidLooks := .later }
def HeatMeanUptoCardSaid : Prop := Claim7.holds Tryz.pinned (.plain (OpenSpec.upto heatMeanSpec)) heatMeanUptoCard

/-- THE SECOND FORM's CARD OF 'demonlaw4.HeatChance'. -/
def heatChanceUptoCard : Claim7 := { stood := { row := heatChanceUptoRow, standIns := [], harness := (true, "5557c57f029eb67dc10ffe48c5d2ce708b4f6f8a10d3913625522206cb22443d"), looks := true }, kinds := [], alts := [], laidByText := true, laidKinds := [.handle, .sentinel, .sentinel, .sentinel, .sentinel, .sentinel, .sentinel, .sentinel, .sentinel], laidTests := true, laidLooks := .later }
def HeatChanceUptoCardSaid : Prop := Claim7.holds Tryz.pinned (.plain (OpenSpec.upto heatChanceSpec)) heatChanceUptoCard
end Rows
end Go.Proofs.YthomgmhmbalnbaaGreatDoor
