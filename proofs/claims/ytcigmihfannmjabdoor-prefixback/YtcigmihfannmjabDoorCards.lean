/-
  DERIVED. GIVEN WITH THE SEED: THE CARDS: each row of YtcigmihfannmjabDoorRows.lean that lists a variable, with what it lists TIED to the program's text (the seventh form; the later family's looks); each row that meets fmt, with fmt's text TOLD by the authors' own Lean function (tested against real Go, not proved from fmt's source: count such statements apart). THE CARD IS WHAT COUNTS. Prove the row's statement (the work); the ties are given (YtcigmihfannmjabDoorTie.lean); close each card by the builder's one call (the guide's Derived/Test/ToyasCard.lean, 'card_holds'). Laid BY PROGRAM, IN A SANDBOX (cutbox-door.mjs). By AI agents, Wed Nov 11 2026. No macro, syntax, notation, axiom, sorry.
-/
import Derived.Test.YtcigmihfannmjabDoorRows
import GoSem.ClaimSeven
namespace Go.Proofs.YtcigmihfannmjabDoor
namespace Rows

/-- THE TIED CARD OF 'demonlaw2.PrefixHuffman'. -/
def prefixHuffmanCard : Claim7 := { stood := { row := prefixHuffmanRow, standIns := [], harness := (true, "bf6dba203e37197c4ee26724c91a0737317c4a2c4b8af66f81aae82fb3ba5626"), looks := true }, kinds := [], alts := [], laidByText := true, laidKinds := [.data, .data, .data, .handle, .sentinel, .sentinel, .sentinel, .sentinel, .sentinel, .sentinel, .sentinel, .sentinel], laidTests := true, laidLooks := .later }
def PrefixHuffmanCardSaid : Prop := Claim7.holds Tryd.pinned (.plain (OpenSpec.ofChange prefixHuffmanSpec)) prefixHuffmanCard

/-- THE TIED CARD OF 'demonlaw2.PrefixAlphabetic'. -/
def prefixAlphabeticCard : Claim7 := { stood := { row := prefixAlphabeticRow, standIns := [], harness := (true, "bf6dba203e37197c4ee26724c91a0737317c4a2c4b8af66f81aae82fb3ba5626"), looks := true }, kinds := [], alts := [], laidByText := true, laidKinds := [.data, .data, .data, .handle, .sentinel, .sentinel, .sentinel, .sentinel, .sentinel, .sentinel, .sentinel, .sentinel], laidTests := true, laidLooks := .later }
def PrefixAlphabeticCardSaid : Prop := Claim7.holds Tryd.pinned (.plain (OpenSpec.ofChange prefixAlphabeticSpec)) prefixAlphabeticCard

/-- THE TIED CARD OF 'demonlaw2.PrefixSearch'. -/
def prefixSearchCard : Claim7 := { stood := { row := prefixSearchRow, standIns := [], harness := (true, "bf6dba203e37197c4ee26724c91a0737317c4a2c4b8af66f81aae82fb3ba5626"), looks := true }, kinds := [], alts := [], laidByText := true, laidKinds := [.data, .data, .data, .handle, .sentinel, .sentinel, .sentinel, .sentinel, .sentinel, .sentinel, .sentinel, .sentinel], laidTests := true, laidLooks := .later }
def PrefixSearchCardSaid : Prop := Claim7.holds Tryd.pinned (.plain (OpenSpec.ofChange prefixSearchSpec)) prefixSearchCard

/-- THE TIED CARD OF 'demonlaw2.PrefixBack'. -/
def prefixBackCard : Claim7 := { stood := { row := prefixBackRow, standIns := [], harness := (true, "bf6dba203e37197c4ee26724c91a0737317c4a2c4b8af66f81aae82fb3ba5626"), looks := true }, kinds := [], alts := [], laidByText := true, laidKinds := [.data, .data, .data, .data, .sentinel, .sentinel, .sentinel, .sentinel, .sentinel, .pinned], laidTests := true, laidLooks := .later }
def PrefixBackCardSaid : Prop := Claim7.holds Tryd.pinned (.plain (OpenSpec.ofChange prefixBackSpec)) prefixBackCard

/-- THE TIED CARD OF 'demonlaw2.PrefixLeast'. -/
def prefixLeastCard : Claim7 := { stood := { row := prefixLeastRow, standIns := [], harness := (true, "bf6dba203e37197c4ee26724c91a0737317c4a2c4b8af66f81aae82fb3ba5626"), looks := true }, kinds := [], alts := [], laidByText := true, laidKinds := [.data, .data, .data, .sentinel, .sentinel, .sentinel], laidTests := true, laidLooks := .later }
def PrefixLeastCardSaid : Prop := Claim7.holds Tryd.pinned (.plain (OpenSpec.ofChange prefixLeastSpec)) prefixLeastCard

/-- THE SECOND FORM's CARD OF 'demonlaw2.PrefixHuffman'. -/
def prefixHuffmanUptoCard : Claim7 := { stood := { row := prefixHuffmanUptoRow, standIns := [], harness := (true, "bf6dba203e37197c4ee26724c91a0737317c4a2c4b8af66f81aae82fb3ba5626"), looks := true }, kinds := [], alts := [], laidByText := true, laidKinds := [.data, .data, .data, .handle, .sentinel, .sentinel, .sentinel, .sentinel, .sentinel, .sentinel, .sentinel, .sentinel], laidTests := true, laidLooks := .later }
def PrefixHuffmanUptoCardSaid : Prop := Claim7.holds Tryd.pinned (.plain (OpenSpec.upto prefixHuffmanSpec)) prefixHuffmanUptoCard

/-- THE SECOND FORM's CARD OF 'demonlaw2.PrefixAlphabetic'. -/
def prefixAlphabeticUptoCard : Claim7 := { stood := { row := prefixAlphabeticUptoRow, standIns := [], harness := (true, "bf6dba203e37197c4ee26724c91a0737317c4a2c4b8af66f81aae82fb3ba5626"), looks := true }, kinds := [], alts := [], laidByText := true, laidKinds := [.data, .data, .data, .handle, .sentinel, .sentinel, .sentinel, .sentinel, .sentinel, .sentinel, .sentinel, .sentinel], laidTests := true, laidLooks := .later }
def PrefixAlphabeticUptoCardSaid : Prop := Claim7.holds Tryd.pinned (.plain (OpenSpec.upto prefixAlphabeticSpec)) prefixAlphabeticUptoCard

/-- THE SECOND FORM's CARD OF 'demonlaw2.PrefixSearch'. -/
def prefixSearchUptoCard : Claim7 := { stood := { row := prefixSearchUptoRow, standIns := [], harness := (true, "bf6dba203e37197c4ee26724c91a0737317c4a2c4b8af66f81aae82fb3ba5626"), looks := true }, kinds := [], alts := [], laidByText := true, laidKinds := [.data, .data, .data, .handle, .sentinel, .sentinel, .sentinel, .sentinel, .sentinel, .sentinel, .sentinel, .sentinel], laidTests := true, laidLooks := .later }
def PrefixSearchUptoCardSaid : Prop := Claim7.holds Tryd.pinned (.plain (OpenSpec.upto prefixSearchSpec)) prefixSearchUptoCard

/-- THE SECOND FORM's CARD OF 'demonlaw2.PrefixBack'. -/
def prefixBackUptoCard : Claim7 := { stood := { row := prefixBackUptoRow, standIns := [], harness := (true, "bf6dba203e37197c4ee26724c91a0737317c4a2c4b8af66f81aae82fb3ba5626"), looks := true }, kinds := [], alts := [], laidByText := true, laidKinds := [.data, .data, .data, .data, .sentinel, .sentinel, .sentinel, .sentinel, .sentinel, .pinned], laidTests := true, laidLooks := .later }
def PrefixBackUptoCardSaid : Prop := Claim7.holds Tryd.pinned (.plain (OpenSpec.upto prefixBackSpec)) prefixBackUptoCard

/-- THE SECOND FORM's CARD OF 'demonlaw2.PrefixLeast'. -/
def prefixLeastUptoCard : Claim7 := { stood := { row := prefixLeastUptoRow, standIns := [], harness := (true, "bf6dba203e37197c4ee26724c91a0737317c4a2c4b8af66f81aae82fb3ba5626"), looks := true }, kinds := [], alts := [], laidByText := true, laidKinds := [.data, .data, .data, .sentinel, .sentinel, .sentinel], laidTests := true, laidLooks := .later }
def PrefixLeastUptoCardSaid : Prop := Claim7.holds Tryd.pinned (.plain (OpenSpec.upto prefixLeastSpec)) prefixLeastUptoCard
end Rows
end Go.Proofs.YtcigmihfannmjabDoor
