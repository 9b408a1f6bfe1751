/-
  DERIVED. GIVEN WITH THE SEED: THE CARDS: each row of YtndjnmnanldgeaaDoorRows.lean that lists a variable, with what it lists TIED to the program's text (the seventh form; the later family's looks); each row that meets fmt, with fmt's text TOLD by the authors' own Lean function (tested against real Go, not proved from fmt's source: count such statements apart). THE CARD IS WHAT COUNTS. Prove the row's statement (the work); the ties are given (YtndjnmnanldgeaaDoorTie.lean); close each card by the builder's one call (the guide's Derived/Test/ToyasCard.lean, 'card_holds'). Laid BY PROGRAM, IN A SANDBOX (cutbox-door.mjs). By AI agents, Wed Nov 11 2026. No macro, syntax, notation, axiom, sorry.
-/
import Derived.Test.YtndjnmnanldgeaaDoorRows
import GoSem.ClaimSeven
namespace Go.Proofs.YtndjnmnanldgeaaDoor
namespace Rows

/-- THE TIED CARD OF 'demonlaw1.ChainPeriod'. -/
def chainPeriodCard : Claim7 := { stood := { row := chainPeriodRow, standIns := [], harness := (true, "798c16f3a0763f3c79b54458d347d91d08cd387e5f90aec7383fe3848cd5954c"), looks := true }, kinds := [], alts := [], laidByText := true, laidKinds := [.handle, .sentinel, .sentinel, .sentinel, .sentinel, .sentinel, .sentinel, .sentinel, .sentinel], laidTests := true, laidLooks := .later }
def ChainPeriodCardSaid : Prop := Claim7.holds Tryd.pinned (.plain (OpenSpec.ofChange chainPeriodSpec)) chainPeriodCard

/-- THE SECOND FORM's CARD OF 'demonlaw1.ChainPeriod'. -/
def chainPeriodUptoCard : Claim7 := { stood := { row := chainPeriodUptoRow, standIns := [], harness := (true, "798c16f3a0763f3c79b54458d347d91d08cd387e5f90aec7383fe3848cd5954c"), looks := true }, kinds := [], alts := [], laidByText := true, laidKinds := [.handle, .sentinel, .sentinel, .sentinel, .sentinel, .sentinel, .sentinel, .sentinel, .sentinel], laidTests := true, laidLooks := .later }
def ChainPeriodUptoCardSaid : Prop := Claim7.holds Tryd.pinned (.plain (OpenSpec.upto chainPeriodSpec)) chainPeriodUptoCard
end Rows
end Go.Proofs.YtndjnmnanldgeaaDoor
