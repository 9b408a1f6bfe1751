/-
  DERIVED. GIVEN WITH THE SEED: THE CARDS: each row of YteicjedmingplaaDoorRows.lean that lists a variable, with what it lists TIED to the program's text (the seventh form; the later family's looks); each row that meets fmt, with fmt's text TOLD by the authors' own Lean function (tested against real Go, not proved from fmt's source: count such statements apart). THE CARD IS WHAT COUNTS. Prove the row's statement (the work); the ties are given (YteicjedmingplaaDoorTie.lean); close each card by the builder's one call (the guide's Derived/Test/ToyasCard.lean, 'card_holds'). Laid BY PROGRAM, IN A SANDBOX (cutbox-door.mjs). By AI agents, Wed Nov 11 2026. No macro, syntax, notation, axiom, sorry.
-/
import Derived.Test.YteicjedmingplaaDoorRows
import GoSem.ClaimSeven
namespace Go.Proofs.YteicjedmingplaaDoor
namespace Rows

/-- THE TIED CARD OF 'demonlaw2.TypesAll'. -/
def typesAllCard : Claim7 := { stood := { row := typesAllRow, standIns := [], harness := (true, "d3025dc75b2844dac6e2a9683d53791fd4f305dfbe6faffff88624b4d2588445"), looks := true }, kinds := [], alts := [], laidByText := true, laidKinds := [.handle, .sentinel, .sentinel, .sentinel, .sentinel, .sentinel, .sentinel, .sentinel, .sentinel], laidTests := true, laidLooks := .later }
def TypesAllCardSaid : Prop := Claim7.holds Tryd.pinned (.plain (OpenSpec.ofChange typesAllSpec)) typesAllCard

/-- THE TIED CARD OF 'demonlaw2.TypesSize'. -/
def typesSizeCard : Claim7 := { stood := { row := typesSizeRow, standIns := [], harness := (true, "d3025dc75b2844dac6e2a9683d53791fd4f305dfbe6faffff88624b4d2588445"), looks := true }, kinds := [], alts := [], laidByText := true, laidKinds := [.handle, .sentinel, .sentinel, .sentinel, .sentinel, .sentinel, .sentinel, .sentinel, .sentinel], laidTests := true, laidLooks := .later }
def TypesSizeCardSaid : Prop := Claim7.holds Tryd.pinned (.plain (OpenSpec.ofChange typesSizeSpec)) typesSizeCard

/-- THE TIED CARD OF 'demonlaw2.TypesChance'. -/
def typesChanceCard : Claim7 := { stood := { row := typesChanceRow, standIns := [], harness := (true, "d3025dc75b2844dac6e2a9683d53791fd4f305dfbe6faffff88624b4d2588445"), looks := true }, kinds := [], alts := [], laidByText := true, laidKinds := [.handle, .sentinel, .sentinel, .sentinel, .sentinel, .sentinel, .sentinel, .sentinel, .sentinel], laidTests := true, laidLooks := .later }
def TypesChanceCardSaid : Prop := Claim7.holds Tryd.pinned (.plain (OpenSpec.ofChange typesChanceSpec)) typesChanceCard

/-- THE TIED CARD OF 'demonlaw2.TypesSums'. -/
def typesSumsCard : Claim7 := { stood := { row := typesSumsRow, standIns := [], harness := (true, "d3025dc75b2844dac6e2a9683d53791fd4f305dfbe6faffff88624b4d2588445"), looks := true }, kinds := [], alts := [], laidByText := true, laidKinds := [.handle, .sentinel, .sentinel, .sentinel, .sentinel, .sentinel, .sentinel, .sentinel, .sentinel], laidTests := true, laidLooks := .later }
def TypesSumsCardSaid : Prop := Claim7.holds Tryd.pinned (.plain (OpenSpec.ofChange typesSumsSpec)) typesSumsCard

/-- THE SECOND FORM's CARD OF 'demonlaw2.TypesAll'. -/
def typesAllUptoCard : Claim7 := { stood := { row := typesAllUptoRow, standIns := [], harness := (true, "d3025dc75b2844dac6e2a9683d53791fd4f305dfbe6faffff88624b4d2588445"), looks := true }, kinds := [], alts := [], laidByText := true, laidKinds := [.handle, .sentinel, .sentinel, .sentinel, .sentinel, .sentinel, .sentinel, .sentinel, .sentinel], laidTests := true, laidLooks := .later }
def TypesAllUptoCardSaid : Prop := Claim7.holds Tryd.pinned (.plain (OpenSpec.upto typesAllSpec)) typesAllUptoCard

/-- THE SECOND FORM's CARD OF 'demonlaw2.TypesSize'. -/
def typesSizeUptoCard : Claim7 := { stood := { row := typesSizeUptoRow, standIns := [], harness := (true, "d3025dc75b2844dac6e2a9683d53791fd4f305dfbe6faffff88624b4d2588445"), looks := true }, kinds := [], alts := [], laidByText := true, laidKinds := [.handle, .sentinel, .sentinel, .sentinel, .sentinel, .sentinel, .sentinel, .sentinel, .sentinel], laidTests := true, laidLooks := .later }
def TypesSizeUptoCardSaid : Prop := Claim7.holds Tryd.pinned (.plain (OpenSpec.upto typesSizeSpec)) typesSizeUptoCard

/-- THE SECOND FORM's CARD OF 'demonlaw2.TypesChance'. -/
def typesChanceUptoCard : Claim7 := { stood := { row := typesChanceUptoRow, standIns := [], harness := (true, "d3025dc75b2844dac6e2a9683d53791fd4f305dfbe6faffff88624b4d2588445"), looks := true }, kinds := [], alts := [], laidByText := true, laidKinds := [.handle, .sentinel, .sentinel, .sentinel, .sentinel, .sentinel, .sentinel, .sentinel, .sentinel], laidTests := true, laidLooks := .later }
def TypesChanceUptoCardSaid : Prop := Claim7.holds Tryd.pinned (.plain (OpenSpec.upto typesChanceSpec)) typesChanceUptoCard

/-- THE SECOND FORM's CARD OF 'demonlaw2.TypesSums'. -/
def typesSumsUptoCard : Claim7 := { stood := { row := typesSumsUptoRow, standIns := [], harness := (true, "d3025dc75b2844dac6e2a9683d53791fd4f305dfbe6faffff88624b4d2588445"), looks := true }, kinds := [], alts := [], laidByText := true, laidKinds := [.handle, .sentinel, .sentinel, .sentinel, .sentinel, .sentinel, .sentinel, .sentinel, .sentinel], laidTests := true, laidLooks := .later }
def TypesSumsUptoCardSaid : Prop := Claim7.holds Tryd.pinned (.plain (OpenSpec.upto typesSumsSpec)) typesSumsUptoCard
end Rows
end Go.Proofs.YteicjedmingplaaDoor
