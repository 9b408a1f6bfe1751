/-
  DERIVED. GIVEN WITH THE SEED: THE CARDS: each row of YtmdimdoglpiiiaaGreatDoorRows.lean that lists a variable, with what it lists TIED to the program's text (the seventh form; the later family's looks); each row that meets fmt, with fmt's text TOLD by the authors' own Lean function (tested against real Go, not proved from fmt's source: count such statements apart). THE CARD IS WHAT COUNTS. Prove the row's statement (the work); the ties are given (YtmdimdoglpiiiaaGreatDoorTie.lean); close each card by the builder's one call (the guide's Derived/Test/ToyasCard.lean, 'card_holds'). Laid BY PROGRAM, IN A SANDBOX (cutbox-door.mjs). By AI agents, Wed Nov 11 2026. No macro, syntax, notation, axiom, sorry.
-/
import Derived.Test.YtmdimdoglpiiiaaGreatDoorRows
import GoSem.ClaimSeven
namespace Go.Proofs.YtmdimdoglpiiiaaGreatDoor
namespace Rows

/-- THE TIED CARD OF 'demonlaw4.HeatRound'. -/
def heatRoundCard : Claim7 := { stood := { row := heatRoundRow, standIns := [], harness := (true, "57f76222e1b5970b541c8a51ad0153715995a8413f884ce508181d29b36241a4"), looks := true }, kinds := [], alts := [], laidByText := true, laidKinds := [.handle, .sentinel, .sentinel, .sentinel, .sentinel, .sentinel, .sentinel, .sentinel, .sentinel], laidTests := true, laidLooks := .later }
def HeatRoundCardSaid : Prop := Claim7.holds Tryz.pinned (.plain (OpenSpec.ofChange heatRoundSpec)) heatRoundCard

/-- THE TIED CARD OF 'demonlaw4.HeatErase'. -/
def heatEraseCard : Claim7 := { stood := { row := heatEraseRow, standIns := [], harness := (true, "57f76222e1b5970b541c8a51ad0153715995a8413f884ce508181d29b36241a4"), looks := true }, kinds := [], alts := [], laidByText := true, laidKinds := [.handle, .sentinel, .sentinel, .sentinel, .sentinel, .sentinel, .sentinel, .sentinel, .sentinel], laidTests := true, laidLooks := .later }
def HeatEraseCardSaid : Prop := Claim7.holds Tryz.pinned (.plain (OpenSpec.ofChange heatEraseSpec)) heatEraseCard

/-- THE SECOND FORM's CARD OF 'demonlaw4.HeatRound'. -/
def heatRoundUptoCard : Claim7 := { stood := { row := heatRoundUptoRow, standIns := [], harness := (true, "57f76222e1b5970b541c8a51ad0153715995a8413f884ce508181d29b36241a4"), looks := true }, kinds := [], alts := [], laidByText := true, laidKinds := [.handle, .sentinel, .sentinel, .sentinel, .sentinel, .sentinel, .sentinel, .sentinel, .sentinel], laidTests := true, laidLooks := .later }
def HeatRoundUptoCardSaid : Prop := Claim7.holds Tryz.pinned (.plain (OpenSpec.upto heatRoundSpec)) heatRoundUptoCard

/-- THE SECOND FORM's CARD OF 'demonlaw4.HeatErase'. -/
def heatEraseUptoCard : Claim7 := { stood := { row := heatEraseUptoRow, standIns := [], harness := (true, "57f76222e1b5970b541c8a51ad0153715995a8413f884ce508181d29b36241a4"), looks := true }, kinds := [], alts := [], laidByText := true, laidKinds := [.handle, .sentinel, .sentinel, .sentinel, .sentinel, .sentinel, .sentinel, .sentinel, .sentinel], laidTests := true, laidLooks := .later }
def HeatEraseUptoCardSaid : Prop := Claim7.holds Tryz.pinned (.plain (OpenSpec.upto heatEraseSpec)) heatEraseUptoCard
end Rows
end Go.Proofs.YtmdimdoglpiiiaaGreatDoor
