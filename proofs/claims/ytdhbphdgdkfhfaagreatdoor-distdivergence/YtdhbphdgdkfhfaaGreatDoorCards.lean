/-
  DERIVED. GIVEN WITH THE SEED: THE CARDS: each row of YtdhbphdgdkfhfaaGreatDoorRows.lean that lists a variable, with what it lists TIED to the program's text (the seventh form; the later family's looks); each row that meets fmt, with fmt's text TOLD by the authors' own Lean function (tested against real Go, not proved from fmt's source: count such statements apart). THE CARD IS WHAT COUNTS. Prove the row's statement (the work); the ties are given (YtdhbphdgdkfhfaaGreatDoorTie.lean); close each card by the builder's one call (the guide's Derived/Test/ToyasCard.lean, 'card_holds'). Laid BY PROGRAM, IN A SANDBOX (cutbox-door.mjs). By AI agents, Wed Nov 11 2026. No macro, syntax, notation, axiom, sorry.
-/
import Derived.Test.YtdhbphdgdkfhfaaGreatDoorRows
import GoSem.ClaimSeven
namespace Go.Proofs.YtdhbphdgdkfhfaaGreatDoor
namespace Rows

/-- THE TIED CARD OF 'demonlaw1.DistEntropy'. -/
def distEntropyCard : Claim7 := { stood := { row := distEntropyRow, standIns := [], harness := (true, "3c0ce18a8872b5e944f772fadd9b354f19733b46cc3e8dbe577cc68762c09d79"), looks := true }, kinds := [], alts := [], laidByText := true, laidKinds := [.handle, .sentinel, .sentinel, .sentinel, .sentinel, .sentinel, .sentinel, .sentinel, .sentinel], laidTests := true, laidLooks := .later }
def DistEntropyCardSaid : Prop := Claim7.holds Tryz.pinned (.plain (OpenSpec.ofChange distEntropySpec)) distEntropyCard

/-- THE TIED CARD OF 'demonlaw1.DistDivergence'. -/
def distDivergenceCard : Claim7 := { stood := { row := distDivergenceRow, standIns := [], harness := (true, "3c0ce18a8872b5e944f772fadd9b354f19733b46cc3e8dbe577cc68762c09d79"), looks := true }, kinds := [], alts := [], laidByText := true, laidKinds := [.handle, .sentinel, .sentinel, .sentinel, .sentinel, .sentinel, .sentinel, .sentinel, .sentinel], laidTests := true, laidLooks := .later }
def DistDivergenceCardSaid : Prop := Claim7.holds Tryz.pinned (.plain (OpenSpec.ofChange distDivergenceSpec)) distDivergenceCard

/-- THE SECOND FORM's CARD OF 'demonlaw1.DistEntropy'. -/
def distEntropyUptoCard : Claim7 := { stood := { row := distEntropyUptoRow, standIns := [], harness := (true, "3c0ce18a8872b5e944f772fadd9b354f19733b46cc3e8dbe577cc68762c09d79"), looks := true }, kinds := [], alts := [], laidByText := true, laidKinds := [.handle, .sentinel, .sentinel, .sentinel, .sentinel, .sentinel, .sentinel, .sentinel, .sentinel], laidTests := true, laidLooks := .later }
def DistEntropyUptoCardSaid : Prop := Claim7.holds Tryz.pinned (.plain (OpenSpec.upto distEntropySpec)) distEntropyUptoCard

/-- THE SECOND FORM's CARD OF 'demonlaw1.DistDivergence'. -/
def distDivergenceUptoCard : Claim7 := { stood := { row := distDivergenceUptoRow, standIns := [], harness := (true, "3c0ce18a8872b5e944f772fadd9b354f19733b46cc3e8dbe577cc68762c09d79"), looks := true }, kinds := [], alts := [], laidByText := true, laidKinds := [.handle, .sentinel, .sentinel, .sentinel, .sentinel, .sentinel, .sentinel, .sentinel, .sentinel], laidTests := true, laidLooks := .later }
def DistDivergenceUptoCardSaid : Prop := Claim7.holds Tryz.pinned (.plain (OpenSpec.upto distDivergenceSpec)) distDivergenceUptoCard
end Rows
end Go.Proofs.YtdhbphdgdkfhfaaGreatDoor
