/-
  DERIVED. GIVEN WITH THE SEED: THE CARDS: each row of YtlmehmbipbkeiaaDoorRows.lean that lists a variable, with what it lists TIED to the program's text (the seventh form; the later family's looks); each row that meets fmt, with fmt's text TOLD by the authors' own Lean function (tested against real Go, not proved from fmt's source: count such statements apart). THE CARD IS WHAT COUNTS. Prove the row's statement (the work); the ties are given (YtlmehmbipbkeiaaDoorTie.lean); close each card by the builder's one call (the guide's Derived/Test/ToyasCard.lean, 'card_holds'). Laid BY PROGRAM, IN A SANDBOX (cutbox-door.mjs). By AI agents, Wed Nov 11 2026. No macro, syntax, notation, axiom, sorry.
-/
import Derived.Test.YtlmehmbipbkeiaaDoorRows
import GoSem.ClaimSeven
namespace Go.Proofs.YtlmehmbipbkeiaaDoor
namespace Rows

/-- THE TIED CARD OF 'demonlaw1.ChainValid'. -/
def chainValidCard : Claim7 := { stood := { row := chainValidRow, standIns := [], harness := (true, "ceef5431cc7f7305af0a2f0264ece09edb739fa7fe03b4d1bcf25f4d6e06a303"), looks := true }, kinds := [], alts := [], laidByText := true, laidKinds := [.handle, .sentinel, .sentinel, .sentinel, .sentinel, .sentinel, .sentinel, .sentinel, .sentinel], laidTests := true, laidLooks := .later }
def ChainValidCardSaid : Prop := Claim7.holds Tryd.pinned (.plain (OpenSpec.ofChange chainValidSpec)) chainValidCard

/-- THE SECOND FORM's CARD OF 'demonlaw1.ChainValid'. -/
def chainValidUptoCard : Claim7 := { stood := { row := chainValidUptoRow, standIns := [], harness := (true, "ceef5431cc7f7305af0a2f0264ece09edb739fa7fe03b4d1bcf25f4d6e06a303"), looks := true }, kinds := [], alts := [], laidByText := true, laidKinds := [.handle, .sentinel, .sentinel, .sentinel, .sentinel, .sentinel, .sentinel, .sentinel, .sentinel], laidTests := true, laidLooks := .later }
def ChainValidUptoCardSaid : Prop := Claim7.holds Tryd.pinned (.plain (OpenSpec.upto chainValidSpec)) chainValidUptoCard
end Rows
end Go.Proofs.YtlmehmbipbkeiaaDoor
