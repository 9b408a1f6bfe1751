/-
  DERIVED. GIVEN WITH THE SEED: THE CARDS: each row of YtiegobkbinojeaaDoorRows.lean that lists a variable, with what it lists TIED to the program's text (the seventh form; the later family's looks); each row that meets fmt, with fmt's text TOLD by the authors' own Lean function (tested against real Go, not proved from fmt's source: count such statements apart). THE CARD IS WHAT COUNTS. Prove the row's statement (the work); the ties are given (YtiegobkbinojeaaDoorTie.lean); close each card by the builder's one call (the guide's Derived/Test/ToyasCard.lean, 'card_holds'). Laid BY PROGRAM, IN A SANDBOX (cutbox-door.mjs). By AI agents, Wed Nov 11 2026. No macro, syntax, notation, axiom, sorry.
-/
import Derived.Test.YtiegobkbinojeaaDoorRows
import GoSem.ClaimSeven
namespace Go.Proofs.YtiegobkbinojeaaDoor
namespace Rows

/-- THE TIED CARD OF 'demonlaw5.RenyiFamilies'. -/
def renyiFamiliesCard : Claim7 := { stood := { row := renyiFamiliesRow, standIns := [], harness := (true, "4fbf9da0b9f498069d060d3fef15bf4cdcb0d2d8cc45737548730ba5080e550c"), looks := true }, kinds := [], alts := [], laidByText := true, laidKinds := [.handle, .sentinel, .sentinel, .sentinel, .sentinel, .sentinel, .sentinel, .sentinel, .sentinel], laidTests := true, laidLooks := .later }
def RenyiFamiliesCardSaid : Prop := Claim7.holds Tryd.pinned (.plain (OpenSpec.ofChange renyiFamiliesSpec)) renyiFamiliesCard

/-- THE TIED CARD OF 'demonlaw5.RenyiLinear'. -/
def renyiLinearCard : Claim7 := { stood := { row := renyiLinearRow, standIns := [], harness := (true, "4fbf9da0b9f498069d060d3fef15bf4cdcb0d2d8cc45737548730ba5080e550c"), looks := true }, kinds := [], alts := [], laidByText := true, laidKinds := [.handle, .sentinel, .sentinel, .sentinel, .sentinel, .sentinel, .sentinel, .sentinel, .sentinel], laidTests := true, laidLooks := .later }
def RenyiLinearCardSaid : Prop := Claim7.holds Tryd.pinned (.plain (OpenSpec.ofChange renyiLinearSpec)) renyiLinearCard

/-- THE TIED CARD OF 'demonlaw5.RenyiFar'. -/
def renyiFarCard : Claim7 := { stood := { row := renyiFarRow, standIns := [], harness := (true, "4fbf9da0b9f498069d060d3fef15bf4cdcb0d2d8cc45737548730ba5080e550c"), looks := true }, kinds := [], alts := [], laidByText := true, laidKinds := [.handle, .sentinel, .sentinel, .sentinel, .sentinel, .sentinel, .sentinel, .sentinel, .sentinel], laidTests := true, laidLooks := .later }
def RenyiFarCardSaid : Prop := Claim7.holds Tryd.pinned (.plain (OpenSpec.ofChange renyiFarSpec)) renyiFarCard

/-- THE TIED CARD OF 'demonlaw5.RenyiLeftover'. -/
def renyiLeftoverCard : Claim7 := { stood := { row := renyiLeftoverRow, standIns := [], harness := (true, "4fbf9da0b9f498069d060d3fef15bf4cdcb0d2d8cc45737548730ba5080e550c"), looks := true }, kinds := [], alts := [], laidByText := true, laidKinds := [.sentinel, .sentinel], laidTests := true, laidLooks := .later }
def RenyiLeftoverCardSaid : Prop := Claim7.holds Tryd.pinned (.plain (OpenSpec.ofChange renyiLeftoverSpec)) renyiLeftoverCard

/-- THE SECOND FORM's CARD OF 'demonlaw5.RenyiFamilies'. -/
def renyiFamiliesUptoCard : Claim7 := { stood := { row := renyiFamiliesUptoRow, standIns := [], harness := (true, "4fbf9da0b9f498069d060d3fef15bf4cdcb0d2d8cc45737548730ba5080e550c"), looks := true }, kinds := [], alts := [], laidByText := true, laidKinds := [.handle, .sentinel, .sentinel, .sentinel, .sentinel, .sentinel, .sentinel, .sentinel, .sentinel], laidTests := true, laidLooks := .later }
def RenyiFamiliesUptoCardSaid : Prop := Claim7.holds Tryd.pinned (.plain (OpenSpec.upto renyiFamiliesSpec)) renyiFamiliesUptoCard

/-- THE SECOND FORM's CARD OF 'demonlaw5.RenyiLinear'. -/
def renyiLinearUptoCard : Claim7 := { stood := { row := renyiLinearUptoRow, standIns := [], harness := (true, "4fbf9da0b9f498069d060d3fef15bf4cdcb0d2d8cc45737548730ba5080e550c"), looks := true }, kinds := [], alts := [], laidByText := true, laidKinds := [.handle, .sentinel, .sentinel, .sentinel, .sentinel, .sentinel, .sentinel, .sentinel, .sentinel], laidTests := true, laidLooks := .later }
def RenyiLinearUptoCardSaid : Prop := Claim7.holds Tryd.pinned (.plain (OpenSpec.upto renyiLinearSpec)) renyiLinearUptoCard

/-- THE SECOND FORM's CARD OF 'demonlaw5.RenyiFar'. -/
def renyiFarUptoCard : Claim7 := { stood := { row := renyiFarUptoRow, standIns := [], harness := (true, "4fbf9da0b9f498069d060d3fef15bf4cdcb0d2d8cc45737548730ba5080e550c"), looks := true }, kinds := [], alts := [], laidByText := true, laidKinds := [.handle, .sentinel, .sentinel, .sentinel, .sentinel, .sentinel, .sentinel, .sentinel, .sentinel], laidTests := true, laidLooks := .later }
def RenyiFarUptoCardSaid : Prop := Claim7.holds Tryd.pinned (.plain (OpenSpec.upto renyiFarSpec)) renyiFarUptoCard

/-- THE SECOND FORM's CARD OF 'demonlaw5.RenyiLeftover'. -/
def renyiLeftoverUptoCard : Claim7 := { stood := { row := renyiLeftoverUptoRow, standIns := [], harness := (true, "4fbf9da0b9f498069d060d3fef15bf4cdcb0d2d8cc45737548730ba5080e550c"), looks := true }, kinds := [], alts := [], laidByText := true, laidKinds := [.sentinel, .sentinel], laidTests := true, laidLooks := .later }
def RenyiLeftoverUptoCardSaid : Prop := Claim7.holds Tryd.pinned (.plain (OpenSpec.upto renyiLeftoverSpec)) renyiLeftoverUptoCard
end Rows
end Go.Proofs.YtiegobkbinojeaaDoor
