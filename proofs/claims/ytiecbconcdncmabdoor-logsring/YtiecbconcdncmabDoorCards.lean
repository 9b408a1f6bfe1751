/-
  DERIVED. GIVEN WITH THE SEED: THE CARDS: each row of YtiecbconcdncmabDoorRows.lean that lists a variable, with what it lists TIED to the program's text (the seventh form; the later family's looks); each row that meets fmt, with fmt's text TOLD by the authors' own Lean function (tested against real Go, not proved from fmt's source: count such statements apart). THE CARD IS WHAT COUNTS. Prove the row's statement (the work); the ties are given (YtiecbconcdncmabDoorTie.lean); close each card by the builder's one call (the guide's Derived/Test/ToyasCard.lean, 'card_holds'). Laid BY PROGRAM, IN A SANDBOX (cutbox-door.mjs). By AI agents, Wed Nov 11 2026. No macro, syntax, notation, axiom, sorry.
-/
import Derived.Test.YtiecbconcdncmabDoorRows
import GoSem.ClaimSeven
namespace Go.Proofs.YtiecbconcdncmabDoor
namespace Rows

/-- THE TIED CARD OF 'demonlaw1.LogsProducts'. -/
def logsProductsCard : Claim7 := { stood := { row := logsProductsRow, standIns := [], harness := (true, "602ac81cd56bc5956523e44f18f80403c3b6562976fc86ad113ea1af45948c33"), looks := false }, kinds := [], alts := [], laidByText := true, laidKinds := [.sentinel, .sentinel], laidTests := true, laidLooks := .later }
def LogsProductsCardSaid : Prop := Claim7.holds Tryd.pinned (.plain (OpenSpec.ofChange logsProductsSpec)) logsProductsCard

/-- THE TIED CARD OF 'demonlaw1.LogsRing'. -/
def logsRingCard : Claim7 := { stood := { row := logsRingRow, standIns := [], harness := (true, "602ac81cd56bc5956523e44f18f80403c3b6562976fc86ad113ea1af45948c33"), looks := false }, kinds := [], alts := [], laidByText := true, laidKinds := [.sentinel, .sentinel], laidTests := true, laidLooks := .later }
def LogsRingCardSaid : Prop := Claim7.holds Tryd.pinned (.plain (OpenSpec.ofChange logsRingSpec)) logsRingCard

/-- THE SECOND FORM's CARD OF 'demonlaw1.LogsProducts'. -/
def logsProductsUptoCard : Claim7 := { stood := { row := logsProductsUptoRow, standIns := [], harness := (true, "602ac81cd56bc5956523e44f18f80403c3b6562976fc86ad113ea1af45948c33"), looks := false }, kinds := [], alts := [], laidByText := true, laidKinds := [.sentinel, .sentinel], laidTests := true, laidLooks := .later }
def LogsProductsUptoCardSaid : Prop := Claim7.holds Tryd.pinned (.plain (OpenSpec.upto logsProductsSpec)) logsProductsUptoCard

/-- THE SECOND FORM's CARD OF 'demonlaw1.LogsRing'. -/
def logsRingUptoCard : Claim7 := { stood := { row := logsRingUptoRow, standIns := [], harness := (true, "602ac81cd56bc5956523e44f18f80403c3b6562976fc86ad113ea1af45948c33"), looks := false }, kinds := [], alts := [], laidByText := true, laidKinds := [.sentinel, .sentinel], laidTests := true, laidLooks := .later }
def LogsRingUptoCardSaid : Prop := Claim7.holds Tryd.pinned (.plain (OpenSpec.upto logsRingSpec)) logsRingUptoCard
end Rows
end Go.Proofs.YtiecbconcdncmabDoor
