/-
  DERIVED. GIVEN WITH THE SEED: THE CARDS: each row of YtncgpldfenkiiaaGreatDoorRows.lean that lists a variable, with what it lists TIED to the program's text (the seventh form; the later family's looks); each row that meets fmt, with fmt's text TOLD by the authors' own Lean function (tested against real Go, not proved from fmt's source: count such statements apart). THE CARD IS WHAT COUNTS. Prove the row's statement (the work); the ties are given (YtncgpldfenkiiaaGreatDoorTie.lean); close each card by the builder's one call (the guide's Derived/Test/ToyasCard.lean, 'card_holds'). Laid BY PROGRAM, IN A SANDBOX (cutbox-door.mjs). By AI agents, Wed Nov 11 2026. No macro, syntax, notation, axiom, sorry.
-/
import Derived.Test.YtncgpldfenkiiaaGreatDoorRows
import GoSem.ClaimSeven
namespace Go.Proofs.YtncgpldfenkiiaaGreatDoor
namespace Rows

/-- THE TIED CARD OF 'demonlaw2.ArithDecode'. -/
def arithDecodeCard : Claim7 := { stood := { row := arithDecodeRow, standIns := [], harness := (true, "adf9437e2c178f4190e25a49621f3c69556617ad37f2a19d96dbddc5ae5c5dd6"), looks := true }, kinds := [], alts := [], laidByText := true, laidKinds := [.data, .handle, .sentinel, .sentinel, .sentinel, .sentinel, .sentinel, .sentinel, .sentinel, .sentinel, .pinned], laidTests := true, laidLooks := .later }
def ArithDecodeCardSaid : Prop := Claim7.holds Tryz.pinned (.plain (OpenSpec.ofChange arithDecodeSpec)) arithDecodeCard

/-- THE SECOND FORM's CARD OF 'demonlaw2.ArithDecode'. -/
def arithDecodeUptoCard : Claim7 := { stood := { row := arithDecodeUptoRow, standIns := [], harness := (true, "adf9437e2c178f4190e25a49621f3c69556617ad37f2a19d96dbddc5ae5c5dd6"), looks := true }, kinds := [], alts := [], laidByText := true, laidKinds := [.data, .handle, .sentinel, .sentinel, .sentinel, .sentinel, .sentinel, .sentinel, .sentinel, .sentinel, .pinned], laidTests := true, laidLooks := .later }
def ArithDecodeUptoCardSaid : Prop := Claim7.holds Tryz.pinned (.plain (OpenSpec.upto arithDecodeSpec)) arithDecodeUptoCard
end Rows
end Go.Proofs.YtncgpldfenkiiaaGreatDoor
