/-
  DERIVED. GIVEN WITH THE SEED: THE CARDS: each row of YtiecbconcdncmaaDoorRows.lean that lists a variable, with what it lists TIED to the program's text (the seventh form; the later family's looks); each row that meets fmt, with fmt's text TOLD by the authors' own Lean function (tested against real Go, not proved from fmt's source: count such statements apart). THE CARD IS WHAT COUNTS. Prove the row's statement (the work); the ties are given (YtiecbconcdncmaaDoorTie.lean); close each card by the builder's one call (the guide's Derived/Test/ToyasCard.lean, 'card_holds'). Laid BY PROGRAM, IN A SANDBOX (cutbox-door.mjs). By AI agents, Wed Nov 11 2026. No macro, syntax, notation, axiom, sorry.
-/
import Derived.Test.YtiecbconcdncmaaDoorRows
import GoSem.ClaimSeven
namespace Go.Proofs.YtiecbconcdncmaaDoor
namespace Rows

/-- THE TIED CARD OF 'demonlaw1.Names'. -/
def namesCard : Claim7 := { stood := { row := namesRow, standIns := [], harness := (true, "5cb9f1bcb6b1e6f1c5215e650acdc18ab03aa017a8e0483fa92cdfb94715cf5b"), looks := true }, kinds := [], alts := [], laidByText := true, laidKinds := [.handle, .sentinel, .sentinel, .sentinel, .sentinel, .sentinel, .sentinel, .sentinel, .sentinel], laidTests := true, laidLooks := .later }
def NamesCardSaid : Prop := Claim7.holds Tryd.pinned (.plain (OpenSpec.ofChange namesSpec)) namesCard

/-- THE TIED CARD OF 'demonlaw1.LogsValid'. -/
def logsValidCard : Claim7 := { stood := { row := logsValidRow, standIns := [], harness := (true, "5cb9f1bcb6b1e6f1c5215e650acdc18ab03aa017a8e0483fa92cdfb94715cf5b"), looks := true }, kinds := [], alts := [], laidByText := true, laidKinds := [.handle, .sentinel, .sentinel, .sentinel, .sentinel, .sentinel, .sentinel, .sentinel, .sentinel], laidTests := true, laidLooks := .later }
def LogsValidCardSaid : Prop := Claim7.holds Tryd.pinned (.plain (OpenSpec.ofChange logsValidSpec)) logsValidCard

/-- THE TIED CARD OF 'demonlaw1.LogsSigns'. -/
def logsSignsCard : Claim7 := { stood := { row := logsSignsRow, standIns := [], harness := (true, "5cb9f1bcb6b1e6f1c5215e650acdc18ab03aa017a8e0483fa92cdfb94715cf5b"), looks := true }, kinds := [], alts := [], laidByText := true, laidKinds := [.handle, .sentinel, .sentinel, .sentinel, .sentinel, .sentinel, .sentinel, .sentinel, .sentinel], laidTests := true, laidLooks := .later }
def LogsSignsCardSaid : Prop := Claim7.holds Tryd.pinned (.plain (OpenSpec.ofChange logsSignsSpec)) logsSignsCard

/-- THE TIED CARD OF 'demonlaw1.LogsGrains'. -/
def logsGrainsCard : Claim7 := { stood := { row := logsGrainsRow, standIns := [], harness := (true, "5cb9f1bcb6b1e6f1c5215e650acdc18ab03aa017a8e0483fa92cdfb94715cf5b"), looks := true }, kinds := [], alts := [], laidByText := true, laidKinds := [.handle, .sentinel, .sentinel, .sentinel, .sentinel, .sentinel, .sentinel, .sentinel, .sentinel], laidTests := true, laidLooks := .later }
def LogsGrainsCardSaid : Prop := Claim7.holds Tryd.pinned (.plain (OpenSpec.ofChange logsGrainsSpec)) logsGrainsCard

/-- THE TIED CARD OF 'demonlaw1.LogsOf'. -/
def logsOfCard : Claim7 := { stood := { row := logsOfRow, standIns := [], harness := (true, "5cb9f1bcb6b1e6f1c5215e650acdc18ab03aa017a8e0483fa92cdfb94715cf5b"), looks := true }, kinds := [], alts := [], laidByText := true, laidKinds := [.handle, .sentinel, .sentinel, .sentinel, .sentinel, .sentinel, .sentinel, .sentinel, .sentinel], laidTests := true, laidLooks := .later }
def LogsOfCardSaid : Prop := Claim7.holds Tryd.pinned (.plain (OpenSpec.ofChange logsOfSpec)) logsOfCard

/-- THE SECOND FORM's CARD OF 'demonlaw1.Names'. -/
def namesUptoCard : Claim7 := { stood := { row := namesUptoRow, standIns := [], harness := (true, "5cb9f1bcb6b1e6f1c5215e650acdc18ab03aa017a8e0483fa92cdfb94715cf5b"), looks := true }, kinds := [], alts := [], laidByText := true, laidKinds := [.handle, .sentinel, .sentinel, .sentinel, .sentinel, .sentinel, .sentinel, .sentinel, .sentinel], laidTests := true, laidLooks := .later }
def NamesUptoCardSaid : Prop := Claim7.holds Tryd.pinned (.plain (OpenSpec.upto namesSpec)) namesUptoCard

/-- THE SECOND FORM's CARD OF 'demonlaw1.LogsValid'. -/
def logsValidUptoCard : Claim7 := { stood := { row := logsValidUptoRow, standIns := [], harness := (true, "5cb9f1bcb6b1e6f1c5215e650acdc18ab03aa017a8e0483fa92cdfb94715cf5b"), looks := true }, kinds := [], alts := [], laidByText := true, laidKinds := [.handle, .sentinel, .sentinel, .sentinel, .sentinel, .sentinel, .sentinel, .sentinel, .sentinel], laidTests := true, laidLooks := .later }
def LogsValidUptoCardSaid : Prop := Claim7.holds Tryd.pinned (.plain (OpenSpec.upto logsValidSpec)) logsValidUptoCard

/-- THE SECOND FORM's CARD OF 'demonlaw1.LogsSigns'. -/
def logsSignsUptoCard : Claim7 := { stood := { row := logsSignsUptoRow, standIns := [], harness := (true, "5cb9f1bcb6b1e6f1c5215e650acdc18ab03aa017a8e0483fa92cdfb94715cf5b"), looks := true }, kinds := [], alts := [], laidByText := true, laidKinds := [.handle, .sentinel, .sentinel, .sentinel, .sentinel, .sentinel, .sentinel, .sentinel, .sentinel], laidTests := true, laidLooks := .later }
def LogsSignsUptoCardSaid : Prop := Claim7.holds Tryd.pinned (.plain (OpenSpec.upto logsSignsSpec)) logsSignsUptoCard

/-- THE SECOND FORM's CARD OF 'demonlaw1.LogsGrains'. -/
def logsGrainsUptoCard : Claim7 := { stood := { row := logsGrainsUptoRow, standIns := [], harness := (true, "5cb9f1bcb6b1e6f1c5215e650acdc18ab03aa017a8e0483fa92cdfb94715cf5b"), looks := true }, kinds := [], alts := [], laidByText := true, laidKinds := [.handle, .sentinel, .sentinel, .sentinel, .sentinel, .sentinel, .sentinel, .sentinel, .sentinel], laidTests := true, laidLooks := .later }
def LogsGrainsUptoCardSaid : Prop := Claim7.holds Tryd.pinned (.plain (OpenSpec.upto logsGrainsSpec)) logsGrainsUptoCard

/-- THE SECOND FORM's CARD OF 'demonlaw1.LogsOf'. -/
def logsOfUptoCard : Claim7 := { stood := { row := logsOfUptoRow, standIns := [], harness := (true, "5cb9f1bcb6b1e6f1c5215e650acdc18ab03aa017a8e0483fa92cdfb94715cf5b"), looks := true }, kinds := [], alts := [], laidByText := true, laidKinds := [.handle, .sentinel, .sentinel, .sentinel, .sentinel, .sentinel, .sentinel, .sentinel, .sentinel], laidTests := true, laidLooks := .later }
def LogsOfUptoCardSaid : Prop := Claim7.holds Tryd.pinned (.plain (OpenSpec.upto logsOfSpec)) logsOfUptoCard
end Rows
end Go.Proofs.YtiecbconcdncmaaDoor
