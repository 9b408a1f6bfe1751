/-
  DERIVED. GIVEN WITH THE SEED: THE CARDS: each row of YtkglaiigoogapaaGreatDoorRows.lean that lists a variable, with what it lists TIED to the program's text (the seventh form; the later family's looks); each row that meets fmt, with fmt's text TOLD by the authors' own Lean function (tested against real Go, not proved from fmt's source: count such statements apart). THE CARD IS WHAT COUNTS. Prove the row's statement (the work); the ties are given (YtkglaiigoogapaaGreatDoorTie.lean); close each card by the builder's one call (the guide's Derived/Test/ToyasCard.lean, 'card_holds'). Laid BY PROGRAM, IN A SANDBOX (cutbox-door.mjs). By AI agents, Wed Nov 11 2026. No macro, syntax, notation, axiom, sorry.
-/
import Derived.Test.YtkglaiigoogapaaGreatDoorRows
import GoSem.ClaimSeven
namespace Go.Proofs.YtkglaiigoogapaaGreatDoor
namespace Rows

/-- THE TIED CARD OF 'demonlaw2.LempelWeighted'. -/
def lempelWeightedCard : Claim7 := { stood := { row := lempelWeightedRow, standIns := [], harness := (true, "5be9d7a345f5644c2c48a8801b375432e992e4606bdaea088a4f9ca51c3264ed"), looks := true }, kinds := [], alts := [], laidByText := true, laidKinds := [.data, .handle, .sentinel, .sentinel, .sentinel, .sentinel, .sentinel, .sentinel, .sentinel, .sentinel, .pinned], laidTests := true, laidLooks := .later }
def LempelWeightedCardSaid : Prop := Claim7.holds Tryz.pinned (.plain (OpenSpec.ofChange lempelWeightedSpec)) lempelWeightedCard

/-- THE TIED CARD OF 'demonlaw2.LempelSums'. -/
def lempelSumsCard : Claim7 := { stood := { row := lempelSumsRow, standIns := [], harness := (true, "5be9d7a345f5644c2c48a8801b375432e992e4606bdaea088a4f9ca51c3264ed"), looks := true }, kinds := [], alts := [], laidByText := true, laidKinds := [.data, .handle, .sentinel, .sentinel, .sentinel, .sentinel, .sentinel, .sentinel, .sentinel, .sentinel, .pinned], laidTests := true, laidLooks := .later }
def LempelSumsCardSaid : Prop := Claim7.holds Tryz.pinned (.plain (OpenSpec.ofChange lempelSumsSpec)) lempelSumsCard

/-- THE SECOND FORM's CARD OF 'demonlaw2.LempelWeighted'. -/
def lempelWeightedUptoCard : Claim7 := { stood := { row := lempelWeightedUptoRow, standIns := [], harness := (true, "5be9d7a345f5644c2c48a8801b375432e992e4606bdaea088a4f9ca51c3264ed"), looks := true }, kinds := [], alts := [], laidByText := true, laidKinds := [.data, .handle, .sentinel, .sentinel, .sentinel, .sentinel, .sentinel, .sentinel, .sentinel, .sentinel, .pinned], laidTests := true, laidLooks := .later }
def LempelWeightedUptoCardSaid : Prop := Claim7.holds Tryz.pinned (.plain (OpenSpec.upto lempelWeightedSpec)) lempelWeightedUptoCard

/-- THE SECOND FORM's CARD OF 'demonlaw2.LempelSums'. -/
def lempelSumsUptoCard : Claim7 := { stood := { row := lempelSumsUptoRow, standIns := [], harness := (true, "5be9d7a345f5644c2c48a8801b375432e992e4606bdaea088a4f9ca51c3264ed"), looks := true }, kinds := [], alts := [], laidByText := true, laidKinds := [.data, .handle, .sentinel, .sentinel, .sentinel, .sentinel, .sentinel, .sentinel, .sentinel, .sentinel, .pinned], laidTests := true, laidLooks := .later }
def LempelSumsUptoCardSaid : Prop := Claim7.holds Tryz.pinned (.plain (OpenSpec.upto lempelSumsSpec)) lempelSumsUptoCard
end Rows
end Go.Proofs.YtkglaiigoogapaaGreatDoor
