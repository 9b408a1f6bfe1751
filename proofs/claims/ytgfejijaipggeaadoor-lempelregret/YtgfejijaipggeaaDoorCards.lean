/-
  DERIVED. GIVEN WITH THE SEED: THE CARDS: each row of YtgfejijaipggeaaDoorRows.lean that lists a variable, with what it lists TIED to the program's text (the seventh form; the later family's looks); each row that meets fmt, with fmt's text TOLD by the authors' own Lean function (tested against real Go, not proved from fmt's source: count such statements apart). THE CARD IS WHAT COUNTS. Prove the row's statement (the work); the ties are given (YtgfejijaipggeaaDoorTie.lean); close each card by the builder's one call (the guide's Derived/Test/ToyasCard.lean, 'card_holds'). Laid BY PROGRAM, IN A SANDBOX (cutbox-door.mjs). By AI agents, Wed Nov 11 2026. No macro, syntax, notation, axiom, sorry.
-/
import Derived.Test.YtgfejijaipggeaaDoorRows
import GoSem.ClaimSeven
namespace Go.Proofs.YtgfejijaipggeaaDoor
namespace Rows

/-- THE TIED CARD OF 'demonlaw2.ArithEncode'. -/
def arithEncodeCard : Claim7 := { stood := { row := arithEncodeRow, standIns := [], harness := (true, "fbcab9fd667b5f161f5b90cd21da9ed40ba4151deae8eb592c7b95fa541e81fe"), looks := true }, kinds := [], alts := [], laidByText := true, laidKinds := [.handle, .sentinel, .sentinel, .sentinel, .sentinel, .sentinel, .sentinel, .sentinel, .sentinel], laidTests := true, laidLooks := .later }
def ArithEncodeCardSaid : Prop := Claim7.holds Tryd.pinned (.plain (OpenSpec.ofChange arithEncodeSpec)) arithEncodeCard

/-- THE TIED CARD OF 'demonlaw2.LempelChance'. -/
def lempelChanceCard : Claim7 := { stood := { row := lempelChanceRow, standIns := [], harness := (true, "fbcab9fd667b5f161f5b90cd21da9ed40ba4151deae8eb592c7b95fa541e81fe"), looks := true }, kinds := [], alts := [], laidByText := true, laidKinds := [.data, .handle, .sentinel, .sentinel, .sentinel, .sentinel, .sentinel, .sentinel, .sentinel, .sentinel, .pinned], laidTests := true, laidLooks := .later }
def LempelChanceCardSaid : Prop := Claim7.holds Tryd.pinned (.plain (OpenSpec.ofChange lempelChanceSpec)) lempelChanceCard

/-- THE TIED CARD OF 'demonlaw2.LempelRegret'. -/
def lempelRegretCard : Claim7 := { stood := { row := lempelRegretRow, standIns := [], harness := (true, "fbcab9fd667b5f161f5b90cd21da9ed40ba4151deae8eb592c7b95fa541e81fe"), looks := true }, kinds := [], alts := [], laidByText := true, laidKinds := [.data, .handle, .sentinel, .sentinel, .sentinel, .sentinel, .sentinel, .sentinel, .sentinel, .sentinel, .pinned], laidTests := true, laidLooks := .later }
def LempelRegretCardSaid : Prop := Claim7.holds Tryd.pinned (.plain (OpenSpec.ofChange lempelRegretSpec)) lempelRegretCard

/-- THE SECOND FORM's CARD OF 'demonlaw2.ArithEncode'. -/
def arithEncodeUptoCard : Claim7 := { stood := { row := arithEncodeUptoRow, standIns := [], harness := (true, "fbcab9fd667b5f161f5b90cd21da9ed40ba4151deae8eb592c7b95fa541e81fe"), looks := true }, kinds := [], alts := [], laidByText := true, laidKinds := [.handle, .sentinel, .sentinel, .sentinel, .sentinel, .sentinel, .sentinel, .sentinel, .sentinel], laidTests := true, laidLooks := .later }
def ArithEncodeUptoCardSaid : Prop := Claim7.holds Tryd.pinned (.plain (OpenSpec.upto arithEncodeSpec)) arithEncodeUptoCard

/-- THE SECOND FORM's CARD OF 'demonlaw2.LempelChance'. -/
def lempelChanceUptoCard : Claim7 := { stood := { row := lempelChanceUptoRow, standIns := [], harness := (true, "fbcab9fd667b5f161f5b90cd21da9ed40ba4151deae8eb592c7b95fa541e81fe"), looks := true }, kinds := [], alts := [], laidByText := true, laidKinds := [.data, .handle, .sentinel, .sentinel, .sentinel, .sentinel, .sentinel, .sentinel, .sentinel, .sentinel, .pinned], laidTests := true, laidLooks := .later }
def LempelChanceUptoCardSaid : Prop := Claim7.holds Tryd.pinned (.plain (OpenSpec.upto lempelChanceSpec)) lempelChanceUptoCard

/-- THE SECOND FORM's CARD OF 'demonlaw2.LempelRegret'. -/
def lempelRegretUptoCard : Claim7 := { stood := { row := lempelRegretUptoRow, standIns := [], harness := (true, "fbcab9fd667b5f161f5b90cd21da9ed40ba4151deae8eb592c7b95fa541e81fe"), looks := true }, kinds := [], alts := [], laidByText := true, laidKinds := [.data, .handle, .sentinel, .sentinel, .sentinel, .sentinel, .sentinel, .sentinel, .sentinel, .sentinel, .pinned], laidTests := true, laidLooks := .later }
def LempelRegretUptoCardSaid : Prop := Claim7.holds Tryd.pinned (.plain (OpenSpec.upto lempelRegretSpec)) lempelRegretUptoCard
end Rows
end Go.Proofs.YtgfejijaipggeaaDoor
