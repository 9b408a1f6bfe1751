/-
  DERIVED. GIVEN WITH THE SEED: THE CARDS: each row of YtlnhpkmcinohdaaDoorRows.lean that lists a variable, with what it lists TIED to the program's text (the seventh form; the later family's looks); each row that meets fmt, with fmt's text TOLD by the authors' own Lean function (tested against real Go, not proved from fmt's source: count such statements apart). THE CARD IS WHAT COUNTS. Prove the row's statement (the work); the ties are given (YtlnhpkmcinohdaaDoorTie.lean); close each card by the builder's one call (the guide's Derived/Test/ToyasCard.lean, 'card_holds'). Laid BY PROGRAM, IN A SANDBOX (cutbox-door.mjs). By AI agents, Wed Nov 11 2026. No macro, syntax, notation, axiom, sorry.
-/
import Derived.Test.YtlnhpkmcinohdaaDoorRows
import GoSem.ClaimSeven
namespace Go.Proofs.YtlnhpkmcinohdaaDoor
namespace Rows

/-- THE TIED CARD OF 'demonlaw5.WalksValid'. -/
def walksValidCard : Claim7 := { stood := { row := walksValidRow, standIns := [], harness := (true, "f6b554ca2f57d8bc656dec1051901091c4bbe2575783a5716f3776648ab4a678"), looks := true }, kinds := [], alts := [], laidByText := true, laidKinds := [.handle, .sentinel, .sentinel, .sentinel, .sentinel, .sentinel, .sentinel, .sentinel, .sentinel], laidTests := true, laidLooks := .later }
def WalksValidCardSaid : Prop := Claim7.holds Tryd.pinned (.plain (OpenSpec.ofChange walksValidSpec)) walksValidCard

/-- THE TIED CARD OF 'demonlaw5.WalksShort'. -/
def walksShortCard : Claim7 := { stood := { row := walksShortRow, standIns := [], harness := (true, "f6b554ca2f57d8bc656dec1051901091c4bbe2575783a5716f3776648ab4a678"), looks := true }, kinds := [], alts := [], laidByText := true, laidKinds := [.handle, .sentinel, .sentinel, .sentinel, .sentinel, .sentinel, .sentinel, .sentinel, .sentinel], laidTests := true, laidLooks := .later }
def WalksShortCardSaid : Prop := Claim7.holds Tryd.pinned (.plain (OpenSpec.ofChange walksShortSpec)) walksShortCard

/-- THE SECOND FORM's CARD OF 'demonlaw5.WalksValid'. -/
def walksValidUptoCard : Claim7 := { stood := { row := walksValidUptoRow, standIns := [], harness := (true, "f6b554ca2f57d8bc656dec1051901091c4bbe2575783a5716f3776648ab4a678"), looks := true }, kinds := [], alts := [], laidByText := true, laidKinds := [.handle, .sentinel, .sentinel, .sentinel, .sentinel, .sentinel, .sentinel, .sentinel, .sentinel], laidTests := true, laidLooks := .later }
def WalksValidUptoCardSaid : Prop := Claim7.holds Tryd.pinned (.plain (OpenSpec.upto walksValidSpec)) walksValidUptoCard

/-- THE SECOND FORM's CARD OF 'demonlaw5.WalksShort'. -/
def walksShortUptoCard : Claim7 := { stood := { row := walksShortUptoRow, standIns := [], harness := (true, "f6b554ca2f57d8bc656dec1051901091c4bbe2575783a5716f3776648ab4a678"), looks := true }, kinds := [], alts := [], laidByText := true, laidKinds := [.handle, .sentinel, .sentinel, .sentinel, .sentinel, .sentinel, .sentinel, .sentinel, .sentinel], laidTests := true, laidLooks := .later }
def WalksShortUptoCardSaid : Prop := Claim7.holds Tryd.pinned (.plain (OpenSpec.upto walksShortSpec)) walksShortUptoCard
end Rows
end Go.Proofs.YtlnhpkmcinohdaaDoor
