/-
  DERIVED. GIVEN WITH THE SEED: THE CARDS: each row of YthknaphclijncaaDoorRows.lean that lists a variable, with what it lists TIED to the program's text (the seventh form; the later family's looks); each row that meets fmt, with fmt's text TOLD by the authors' own Lean function (tested against real Go, not proved from fmt's source: count such statements apart). THE CARD IS WHAT COUNTS. Prove the row's statement (the work); the ties are given (YthknaphclijncaaDoorTie.lean); close each card by the builder's one call (the guide's Derived/Test/ToyasCard.lean, 'card_holds'). Laid BY PROGRAM, IN A SANDBOX (cutbox-door.mjs). By AI agents, Wed Nov 11 2026. No macro, syntax, notation, axiom, sorry.
-/
import Derived.Test.YthknaphclijncaaDoorRows
import GoSem.ClaimSeven
namespace Go.Proofs.YthknaphclijncaaDoor
namespace Rows

/-- THE TIED CARD OF 'demonlaw2.TypesBounds'. -/
def typesBoundsCard : Claim7 := { stood := { row := typesBoundsRow, standIns := [], harness := (true, "f9e7388f70500007d5afa448de0718aa835ef6b59e0dc8aa1ccda64084b865b4"), looks := true }, kinds := [], alts := [], laidByText := true, laidKinds := [.sentinel, .sentinel], laidTests := true, laidLooks := .later }
def TypesBoundsCardSaid : Prop := Claim7.holds Tryd.pinned (.plain (OpenSpec.ofChange typesBoundsSpec)) typesBoundsCard

/-- THE TIED CARD OF 'demonlaw2.TypesNearest'. -/
def typesNearestCard : Claim7 := { stood := { row := typesNearestRow, standIns := [], harness := (true, "f9e7388f70500007d5afa448de0718aa835ef6b59e0dc8aa1ccda64084b865b4"), looks := true }, kinds := [], alts := [], laidByText := true, laidKinds := [.handle, .sentinel, .sentinel, .sentinel, .sentinel, .sentinel, .sentinel, .sentinel, .sentinel], laidTests := true, laidLooks := .later }
def TypesNearestCardSaid : Prop := Claim7.holds Tryd.pinned (.plain (OpenSpec.ofChange typesNearestSpec)) typesNearestCard

/-- THE SECOND FORM's CARD OF 'demonlaw2.TypesBounds'. -/
def typesBoundsUptoCard : Claim7 := { stood := { row := typesBoundsUptoRow, standIns := [], harness := (true, "f9e7388f70500007d5afa448de0718aa835ef6b59e0dc8aa1ccda64084b865b4"), looks := true }, kinds := [], alts := [], laidByText := true, laidKinds := [.sentinel, .sentinel], laidTests := true, laidLooks := .later }
def TypesBoundsUptoCardSaid : Prop := Claim7.holds Tryd.pinned (.plain (OpenSpec.upto typesBoundsSpec)) typesBoundsUptoCard

/-- THE SECOND FORM's CARD OF 'demonlaw2.TypesNearest'. -/
def typesNearestUptoCard : Claim7 := { stood := { row := typesNearestUptoRow, standIns := [], harness := (true, "f9e7388f70500007d5afa448de0718aa835ef6b59e0dc8aa1ccda64084b865b4"), looks := true }, kinds := [], alts := [], laidByText := true, laidKinds := [.handle, .sentinel, .sentinel, .sentinel, .sentinel, .sentinel, .sentinel, .sentinel, .sentinel], laidTests := true, laidLooks := .later }
def TypesNearestUptoCardSaid : Prop := Claim7.holds Tryd.pinned (.plain (OpenSpec.upto typesNearestSpec)) typesNearestUptoCard
end Rows
end Go.Proofs.YthknaphclijncaaDoor
