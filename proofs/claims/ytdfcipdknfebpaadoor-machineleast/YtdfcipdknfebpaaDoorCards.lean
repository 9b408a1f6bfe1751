/-
  DERIVED. GIVEN WITH THE SEED: THE CARDS: each row of YtdfcipdknfebpaaDoorRows.lean that lists a variable, with what it lists TIED to the program's text (the seventh form; the later family's looks); each row that meets fmt, with fmt's text TOLD by the authors' own Lean function (tested against real Go, not proved from fmt's source: count such statements apart). THE CARD IS WHAT COUNTS. Prove the row's statement (the work); the ties are given (YtdfcipdknfebpaaDoorTie.lean); close each card by the builder's one call (the guide's Derived/Test/ToyasCard.lean, 'card_holds'). Laid BY PROGRAM, IN A SANDBOX (cutbox-door.mjs). By AI agents, Wed Nov 11 2026. No macro, syntax, notation, axiom, sorry.
-/
import Derived.Test.YtdfcipdknfebpaaDoorRows
import GoSem.ClaimSeven
namespace Go.Proofs.YtdfcipdknfebpaaDoor
namespace Rows

/-- THE TIED CARD OF 'demonlaw3.MachineRun'. -/
def machineRunCard : Claim7 := { stood := { row := machineRunRow, standIns := [], harness := (true, "397ca84e4d1a4ba1c5522daa5605d42be4ece7863352d9d1ca8344fce53a5606"), looks := true }, kinds := [], alts := [], laidByText := true, laidKinds := [.handle, .sentinel, .sentinel, .sentinel, .sentinel, .sentinel, .sentinel, .sentinel, .sentinel], laidTests := true, laidLooks := .later }
def MachineRunCardSaid : Prop := Claim7.holds Tryd.pinned (.plain (OpenSpec.ofChange machineRunSpec)) machineRunCard

/-- THE TIED CARD OF 'demonlaw3.MachineLeast'. -/
def machineLeastCard : Claim7 := { stood := { row := machineLeastRow, standIns := [], harness := (true, "397ca84e4d1a4ba1c5522daa5605d42be4ece7863352d9d1ca8344fce53a5606"), looks := true }, kinds := [], alts := [], laidByText := true, laidKinds := [.data, .handle, .sentinel, .sentinel, .sentinel, .sentinel, .sentinel, .sentinel, .sentinel, .sentinel, .pinned], laidTests := true, laidLooks := .later }
def MachineLeastCardSaid : Prop := Claim7.holds Tryd.pinned (.plain (OpenSpec.ofChange machineLeastSpec)) machineLeastCard

/-- THE TIED CARD OF 'demonlaw3.MachineShort'. -/
def machineShortCard : Claim7 := { stood := { row := machineShortRow, standIns := [], harness := (true, "397ca84e4d1a4ba1c5522daa5605d42be4ece7863352d9d1ca8344fce53a5606"), looks := true }, kinds := [], alts := [], laidByText := true, laidKinds := [.data, .sentinel, .sentinel, .pinned], laidTests := true, laidLooks := .later }
def MachineShortCardSaid : Prop := Claim7.holds Tryd.pinned (.plain (OpenSpec.ofChange machineShortSpec)) machineShortCard

/-- THE TIED CARD OF 'demonlaw3.MachineMany'. -/
def machineManyCard : Claim7 := { stood := { row := machineManyRow, standIns := [], harness := (true, "397ca84e4d1a4ba1c5522daa5605d42be4ece7863352d9d1ca8344fce53a5606"), looks := true }, kinds := [], alts := [], laidByText := true, laidKinds := [.data, .handle, .sentinel, .sentinel, .sentinel, .sentinel, .sentinel, .sentinel, .sentinel, .sentinel, .pinned], laidTests := true, laidLooks := .later }
def MachineManyCardSaid : Prop := Claim7.holds Tryd.pinned (.plain (OpenSpec.ofChange machineManySpec)) machineManyCard

/-- THE SECOND FORM's CARD OF 'demonlaw3.MachineRun'. -/
def machineRunUptoCard : Claim7 := { stood := { row := machineRunUptoRow, standIns := [], harness := (true, "397ca84e4d1a4ba1c5522daa5605d42be4ece7863352d9d1ca8344fce53a5606"), looks := true }, kinds := [], alts := [], laidByText := true, laidKinds := [.handle, .sentinel, .sentinel, .sentinel, .sentinel, .sentinel, .sentinel, .sentinel, .sentinel], laidTests := true, laidLooks := .later }
def MachineRunUptoCardSaid : Prop := Claim7.holds Tryd.pinned (.plain (OpenSpec.upto machineRunSpec)) machineRunUptoCard

/-- THE SECOND FORM's CARD OF 'demonlaw3.MachineLeast'. -/
def machineLeastUptoCard : Claim7 := { stood := { row := machineLeastUptoRow, standIns := [], harness := (true, "397ca84e4d1a4ba1c5522daa5605d42be4ece7863352d9d1ca8344fce53a5606"), looks := true }, kinds := [], alts := [], laidByText := true, laidKinds := [.data, .handle, .sentinel, .sentinel, .sentinel, .sentinel, .sentinel, .sentinel, .sentinel, .sentinel, .pinned], laidTests := true, laidLooks := .later }
def MachineLeastUptoCardSaid : Prop := Claim7.holds Tryd.pinned (.plain (OpenSpec.upto machineLeastSpec)) machineLeastUptoCard

/-- THE SECOND FORM's CARD OF 'demonlaw3.MachineShort'. -/
def machineShortUptoCard : Claim7 := { stood := { row := machineShortUptoRow, standIns := [], harness := (true, "397ca84e4d1a4ba1c5522daa5605d42be4ece7863352d9d1ca8344fce53a5606"), looks := true }, kinds := [], alts := [], laidByText := true, laidKinds := [.data, .sentinel, .sentinel, .pinned], laidTests := true, laidLooks := .later }
def MachineShortUptoCardSaid : Prop := Claim7.holds Tryd.pinned (.plain (OpenSpec.upto machineShortSpec)) machineShortUptoCard

/-- THE SECOND FORM's CARD OF 'demonlaw3.MachineMany'. -/
def machineManyUptoCard : Claim7 := { stood := { row := machineManyUptoRow, standIns := [], harness := (true, "397ca84e4d1a4ba1c5522daa5605d42be4ece7863352d9d1ca8344fce53a5606"), looks := true }, kinds := [], alts := [], laidByText := true, laidKinds := [.data, .handle, .sentinel, .sentinel, .sentinel, .sentinel, .sentinel, .sentinel, .sentinel, .sentinel, .pinned], laidTests := true, laidLooks := .later }
def MachineManyUptoCardSaid : Prop := Claim7.holds Tryd.pinned (.plain (OpenSpec.upto machineManySpec)) machineManyUptoCard
end Rows
end Go.Proofs.YtdfcipdknfebpaaDoor
