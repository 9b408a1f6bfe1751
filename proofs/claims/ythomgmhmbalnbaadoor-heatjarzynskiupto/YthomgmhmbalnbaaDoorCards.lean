/-
  DERIVED. GIVEN WITH THE SEED: THE CARDS: each row of YthomgmhmbalnbaaDoorRows.lean that lists a variable, with what it lists TIED to the program's text (the seventh form; the later family's looks); each row that meets fmt, with fmt's text TOLD by the authors' own Lean function (tested against real Go, not proved from fmt's source: count such statements apart). THE CARD IS WHAT COUNTS. Prove the row's statement (the work); the ties are given (YthomgmhmbalnbaaDoorTie.lean); close each card by the builder's one call (the guide's Derived/Test/ToyasCard.lean, 'card_holds'). Laid BY PROGRAM, IN A SANDBOX (cutbox-door.mjs). By AI agents, Wed Nov 11 2026. No macro, syntax, notation, axiom, sorry.
-/
import Derived.Test.YthomgmhmbalnbaaDoorRows
import GoSem.ClaimSeven
namespace Go.Proofs.YthomgmhmbalnbaaDoor
namespace Rows

/-- THE TIED CARD OF 'demonlaw4.HeatJarzynski'. -/
def heatJarzynskiCard : Claim7 := { stood := { row := heatJarzynskiRow, standIns := [], harness := (true, "4127caa318a1b4840b4f91875ea15558f2c8b8f40ab27b48d595661d3e6ee647"), looks := true }, kinds := [], alts := [], laidByText := true, laidKinds := [.sentinel, .sentinel, .sentinel], laidTests := true, laidLooks := .later }
def HeatJarzynskiCardSaid : Prop := Claim7.holds Tryd.pinned (.plain (OpenSpec.ofChange heatJarzynskiSpec)) heatJarzynskiCard

/-- THE TIED CARD OF 'demonlaw4.HeatCrooks'. -/
def heatCrooksCard : Claim7 := { stood := { row := heatCrooksRow, standIns := [], harness := (true, "4127caa318a1b4840b4f91875ea15558f2c8b8f40ab27b48d595661d3e6ee647"), looks := true }, kinds := [], alts := [], laidByText := true, laidKinds := [.sentinel, .sentinel, .sentinel], laidTests := true, laidLooks := .later }
def HeatCrooksCardSaid : Prop := Claim7.holds Tryd.pinned (.plain (OpenSpec.ofChange heatCrooksSpec)) heatCrooksCard

/-- THE SECOND FORM's CARD OF 'demonlaw4.HeatJarzynski'. -/
def heatJarzynskiUptoCard : Claim7 := { stood := { row := heatJarzynskiUptoRow, standIns := [], harness := (true, "4127caa318a1b4840b4f91875ea15558f2c8b8f40ab27b48d595661d3e6ee647"), looks := true }, kinds := [], alts := [], laidByText := true, laidKinds := [.sentinel, .sentinel, .sentinel], laidTests := true, laidLooks := .later }
def HeatJarzynskiUptoCardSaid : Prop := Claim7.holds Tryd.pinned (.plain (OpenSpec.upto heatJarzynskiSpec)) heatJarzynskiUptoCard

/-- THE SECOND FORM's CARD OF 'demonlaw4.HeatCrooks'. -/
def heatCrooksUptoCard : Claim7 := { stood := { row := heatCrooksUptoRow, standIns := [], harness := (true, "4127caa318a1b4840b4f91875ea15558f2c8b8f40ab27b48d595661d3e6ee647"), looks := true }, kinds := [], alts := [], laidByText := true, laidKinds := [.sentinel, .sentinel, .sentinel], laidTests := true, laidLooks := .later }
def HeatCrooksUptoCardSaid : Prop := Claim7.holds Tryd.pinned (.plain (OpenSpec.upto heatCrooksSpec)) heatCrooksUptoCard
end Rows
end Go.Proofs.YthomgmhmbalnbaaDoor
