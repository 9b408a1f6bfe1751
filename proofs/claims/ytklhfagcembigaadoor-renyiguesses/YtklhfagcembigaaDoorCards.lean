/-
  DERIVED. GIVEN WITH THE SEED: THE CARDS: each row of YtklhfagcembigaaDoorRows.lean that lists a variable, with what it lists TIED to the program's text (the seventh form; the later family's looks); each row that meets fmt, with fmt's text TOLD by the authors' own Lean function (tested against real Go, not proved from fmt's source: count such statements apart). THE CARD IS WHAT COUNTS. Prove the row's statement (the work); the ties are given (YtklhfagcembigaaDoorTie.lean); close each card by the builder's one call (the guide's Derived/Test/ToyasCard.lean, 'card_holds'). Laid BY PROGRAM, IN A SANDBOX (cutbox-door.mjs). By AI agents, Wed Nov 11 2026. No macro, syntax, notation, axiom, sorry.
-/
import Derived.Test.YtklhfagcembigaaDoorRows
import GoSem.ClaimSeven
namespace Go.Proofs.YtklhfagcembigaaDoor
namespace Rows

/-- THE TIED CARD OF 'demonlaw5.RenyiGuesses'. -/
def renyiGuessesCard : Claim7 := { stood := { row := renyiGuessesRow, standIns := [], harness := (true, "7bbf19f13fb37b08715e101bc66bca53c72e1be2239f46b6f78a5045a273d8b2"), looks := true }, kinds := [], alts := [], laidByText := true, laidKinds := [.handle, .sentinel, .sentinel, .sentinel, .sentinel, .sentinel, .sentinel, .sentinel, .sentinel], laidTests := true, laidLooks := .later }
def RenyiGuessesCardSaid : Prop := Claim7.holds Tryd.pinned (.plain (OpenSpec.ofChange renyiGuessesSpec)) renyiGuessesCard

/-- THE SECOND FORM's CARD OF 'demonlaw5.RenyiGuesses'. -/
def renyiGuessesUptoCard : Claim7 := { stood := { row := renyiGuessesUptoRow, standIns := [], harness := (true, "7bbf19f13fb37b08715e101bc66bca53c72e1be2239f46b6f78a5045a273d8b2"), looks := true }, kinds := [], alts := [], laidByText := true, laidKinds := [.handle, .sentinel, .sentinel, .sentinel, .sentinel, .sentinel, .sentinel, .sentinel, .sentinel], laidTests := true, laidLooks := .later }
def RenyiGuessesUptoCardSaid : Prop := Claim7.holds Tryd.pinned (.plain (OpenSpec.upto renyiGuessesSpec)) renyiGuessesUptoCard
end Rows
end Go.Proofs.YtklhfagcembigaaDoor
