/-
  DERIVED. GIVEN WITH THE SEED: THE CARDS: each row of YtdlbnolnkmhdcaaDoorRows.lean that lists a variable, with what it lists TIED to the program's text (the seventh form; the later family's looks); each row that meets fmt, with fmt's text TOLD by the authors' own Lean function (tested against real Go, not proved from fmt's source: count such statements apart). THE CARD IS WHAT COUNTS. Prove the row's statement (the work); the ties are given (YtdlbnolnkmhdcaaDoorTie.lean); close each card by the builder's one call (the guide's Derived/Test/ToyasCard.lean, 'card_holds'). Laid BY PROGRAM, IN A SANDBOX (cutbox-door.mjs). By AI agents, Wed Nov 11 2026. No macro, syntax, notation, axiom, sorry.
-/
import Derived.Test.YtdlbnolnkmhdcaaDoorRows
import GoSem.ClaimSeven
namespace Go.Proofs.YtdlbnolnkmhdcaaDoor
namespace Rows

/-- THE TIED CARD OF 'demonlaw3.SecretTable'. -/
def secretTableCard : Claim7 := { stood := { row := secretTableRow, standIns := [], harness := (true, "29f984d3f4beee104562064f1484e7363e2afbb055894b4e5c06f65d11dc2d40"), looks := true }, kinds := [], alts := [], laidByText := true, laidKinds := [.handle, .sentinel, .sentinel, .sentinel, .sentinel, .sentinel, .sentinel, .sentinel, .sentinel], laidTests := true, laidLooks := .later }
def SecretTableCardSaid : Prop := Claim7.holds Tryd.pinned (.plain (OpenSpec.ofChange secretTableSpec)) secretTableCard

/-- THE TIED CARD OF 'demonlaw3.SecretShannon'. -/
def secretShannonCard : Claim7 := { stood := { row := secretShannonRow, standIns := [], harness := (true, "29f984d3f4beee104562064f1484e7363e2afbb055894b4e5c06f65d11dc2d40"), looks := true }, kinds := [], alts := [], laidByText := true, laidKinds := [.sentinel, .sentinel], laidTests := true, laidLooks := .later }
def SecretShannonCardSaid : Prop := Claim7.holds Tryd.pinned (.plain (OpenSpec.ofChange secretShannonSpec)) secretShannonCard

/-- THE SECOND FORM's CARD OF 'demonlaw3.SecretTable'. -/
def secretTableUptoCard : Claim7 := { stood := { row := secretTableUptoRow, standIns := [], harness := (true, "29f984d3f4beee104562064f1484e7363e2afbb055894b4e5c06f65d11dc2d40"), looks := true }, kinds := [], alts := [], laidByText := true, laidKinds := [.handle, .sentinel, .sentinel, .sentinel, .sentinel, .sentinel, .sentinel, .sentinel, .sentinel], laidTests := true, laidLooks := .later }
def SecretTableUptoCardSaid : Prop := Claim7.holds Tryd.pinned (.plain (OpenSpec.upto secretTableSpec)) secretTableUptoCard

/-- THE SECOND FORM's CARD OF 'demonlaw3.SecretShannon'. -/
def secretShannonUptoCard : Claim7 := { stood := { row := secretShannonUptoRow, standIns := [], harness := (true, "29f984d3f4beee104562064f1484e7363e2afbb055894b4e5c06f65d11dc2d40"), looks := true }, kinds := [], alts := [], laidByText := true, laidKinds := [.sentinel, .sentinel], laidTests := true, laidLooks := .later }
def SecretShannonUptoCardSaid : Prop := Claim7.holds Tryd.pinned (.plain (OpenSpec.upto secretShannonSpec)) secretShannonUptoCard
end Rows
end Go.Proofs.YtdlbnolnkmhdcaaDoor
