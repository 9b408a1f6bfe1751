/-
  DERIVED. GIVEN WITH THE SEED: THE CARDS: each row of YtjmjedpeibnnnabDoorRows.lean that lists a variable, with what it lists TIED to the program's text (the seventh form; the later family's looks); each row that meets fmt, with fmt's text TOLD by the authors' own Lean function (tested against real Go, not proved from fmt's source: count such statements apart). THE CARD IS WHAT COUNTS. Prove the row's statement (the work); the ties are given (YtjmjedpeibnnnabDoorTie.lean); close each card by the builder's one call (the guide's Derived/Test/ToyasCard.lean, 'card_holds'). Laid BY PROGRAM, IN A SANDBOX (cutbox-door.mjs). By AI agents, Wed Nov 11 2026. No macro, syntax, notation, axiom, sorry.
-/
import Derived.Test.YtjmjedpeibnnnabDoorRows
import GoSem.ClaimSeven
namespace Go.Proofs.YtjmjedpeibnnnabDoor
namespace Rows

/-- THE TIED CARD OF 'demonlaw2.ArithFree'. -/
def arithFreeCard : Claim7 := { stood := { row := arithFreeRow, standIns := [], harness := (true, "7dd46db1d45b8de685c2d3a04e284d863dd8d91426a687705fc113c674828974"), looks := false }, kinds := [], alts := [], laidByText := true, laidKinds := [.data, .data, .data, .sentinel, .sentinel, .sentinel, .sentinel], laidTests := true, laidLooks := .later }
def ArithFreeCardSaid : Prop := Claim7.holds Tryd.pinned (.plain (OpenSpec.ofChange arithFreeSpec)) arithFreeCard

/-- THE SECOND FORM's CARD OF 'demonlaw2.ArithFree'. -/
def arithFreeUptoCard : Claim7 := { stood := { row := arithFreeUptoRow, standIns := [], harness := (true, "7dd46db1d45b8de685c2d3a04e284d863dd8d91426a687705fc113c674828974"), looks := false }, kinds := [], alts := [], laidByText := true, laidKinds := [.data, .data, .data, .sentinel, .sentinel, .sentinel, .sentinel], laidTests := true, laidLooks := .later }
def ArithFreeUptoCardSaid : Prop := Claim7.holds Tryd.pinned (.plain (OpenSpec.upto arithFreeSpec)) arithFreeUptoCard
end Rows
end Go.Proofs.YtjmjedpeibnnnabDoor
