/-
  DERIVED. GIVEN WITH THE SEED: THE CARDS: each row of YtjmjedpeibnnnaaDoorRows.lean that lists a variable, with what it lists TIED to the program's text (the seventh form; the later family's looks); each row that meets fmt, with fmt's text TOLD by the authors' own Lean function (tested against real Go, not proved from fmt's source: count such statements apart). THE CARD IS WHAT COUNTS. Prove the row's statement (the work); the ties are given (YtjmjedpeibnnnaaDoorTie.lean); close each card by the builder's one call (the guide's Derived/Test/ToyasCard.lean, 'card_holds'). Laid BY PROGRAM, IN A SANDBOX (cutbox-door.mjs). By AI agents, Wed Nov 11 2026. No macro, syntax, notation, axiom, sorry.
-/
import Derived.Test.YtjmjedpeibnnnaaDoorRows
import GoSem.ClaimSeven
namespace Go.Proofs.YtjmjedpeibnnnaaDoor
namespace Rows

/-- THE TIED CARD OF 'demonlaw2.ArithInterval'. -/
def arithIntervalCard : Claim7 := { stood := { row := arithIntervalRow, standIns := [], harness := (true, "0adc13f334a941707752e7cc31a26dc01a9d7790c324ce4d90c292c9097b2f4d"), looks := true }, kinds := [], alts := [], laidByText := true, laidKinds := [.handle, .sentinel, .sentinel, .sentinel, .sentinel, .sentinel, .sentinel, .sentinel, .sentinel], laidTests := true, laidLooks := .later }
def ArithIntervalCardSaid : Prop := Claim7.holds Tryd.pinned (.plain (OpenSpec.ofChange arithIntervalSpec)) arithIntervalCard

/-- THE TIED CARD OF 'demonlaw2.ArithEncode'. -/
def arithEncodeCard : Claim7 := { stood := { row := arithEncodeRow, standIns := [], harness := (true, "0adc13f334a941707752e7cc31a26dc01a9d7790c324ce4d90c292c9097b2f4d"), looks := true }, kinds := [], alts := [], laidByText := true, laidKinds := [.handle, .sentinel, .sentinel, .sentinel, .sentinel, .sentinel, .sentinel, .sentinel, .sentinel], laidTests := true, laidLooks := .later }
def ArithEncodeCardSaid : Prop := Claim7.holds Tryd.pinned (.plain (OpenSpec.ofChange arithEncodeSpec)) arithEncodeCard

/-- THE TIED CARD OF 'demonlaw2.ArithBack'. -/
def arithBackCard : Claim7 := { stood := { row := arithBackRow, standIns := [], harness := (true, "0adc13f334a941707752e7cc31a26dc01a9d7790c324ce4d90c292c9097b2f4d"), looks := true }, kinds := [], alts := [], laidByText := true, laidKinds := [.data, .sentinel, .sentinel, .sentinel, .sentinel, .pinned], laidTests := true, laidLooks := .later }
def ArithBackCardSaid : Prop := Claim7.holds Tryd.pinned (.plain (OpenSpec.ofChange arithBackSpec)) arithBackCard

/-- THE TIED CARD OF 'demonlaw2.ArithWords'. -/
def arithWordsCard : Claim7 := { stood := { row := arithWordsRow, standIns := [], harness := (true, "0adc13f334a941707752e7cc31a26dc01a9d7790c324ce4d90c292c9097b2f4d"), looks := true }, kinds := [], alts := [], laidByText := true, laidKinds := [.data, .data, .data, .handle, .sentinel, .sentinel, .sentinel, .sentinel, .sentinel, .sentinel, .sentinel, .sentinel], laidTests := true, laidLooks := .later }
def ArithWordsCardSaid : Prop := Claim7.holds Tryd.pinned (.plain (OpenSpec.ofChange arithWordsSpec)) arithWordsCard

/-- THE TIED CARD OF 'demonlaw2.ArithReads'. -/
def arithReadsCard : Claim7 := { stood := { row := arithReadsRow, standIns := [], harness := (true, "0adc13f334a941707752e7cc31a26dc01a9d7790c324ce4d90c292c9097b2f4d"), looks := true }, kinds := [], alts := [], laidByText := true, laidKinds := [.handle, .sentinel, .sentinel, .sentinel, .sentinel, .sentinel, .sentinel, .sentinel, .sentinel], laidTests := true, laidLooks := .later }
def ArithReadsCardSaid : Prop := Claim7.holds Tryd.pinned (.plain (OpenSpec.ofChange arithReadsSpec)) arithReadsCard

/-- THE SECOND FORM's CARD OF 'demonlaw2.ArithInterval'. -/
def arithIntervalUptoCard : Claim7 := { stood := { row := arithIntervalUptoRow, standIns := [], harness := (true, "0adc13f334a941707752e7cc31a26dc01a9d7790c324ce4d90c292c9097b2f4d"), looks := true }, kinds := [], alts := [], laidByText := true, laidKinds := [.handle, .sentinel, .sentinel, .sentinel, .sentinel, .sentinel, .sentinel, .sentinel, .sentinel], laidTests := true, laidLooks := .later }
def ArithIntervalUptoCardSaid : Prop := Claim7.holds Tryd.pinned (.plain (OpenSpec.upto arithIntervalSpec)) arithIntervalUptoCard

/-- THE SECOND FORM's CARD OF 'demonlaw2.ArithEncode'. -/
def arithEncodeUptoCard : Claim7 := { stood := { row := arithEncodeUptoRow, standIns := [], harness := (true, "0adc13f334a941707752e7cc31a26dc01a9d7790c324ce4d90c292c9097b2f4d"), looks := true }, kinds := [], alts := [], laidByText := true, laidKinds := [.handle, .sentinel, .sentinel, .sentinel, .sentinel, .sentinel, .sentinel, .sentinel, .sentinel], laidTests := true, laidLooks := .later }
def ArithEncodeUptoCardSaid : Prop := Claim7.holds Tryd.pinned (.plain (OpenSpec.upto arithEncodeSpec)) arithEncodeUptoCard

/-- THE SECOND FORM's CARD OF 'demonlaw2.ArithBack'. -/
def arithBackUptoCard : Claim7 := { stood := { row := arithBackUptoRow, standIns := [], harness := (true, "0adc13f334a941707752e7cc31a26dc01a9d7790c324ce4d90c292c9097b2f4d"), looks := true }, kinds := [], alts := [], laidByText := true, laidKinds := [.data, .sentinel, .sentinel, .sentinel, .sentinel, .pinned], laidTests := true, laidLooks := .later }
def ArithBackUptoCardSaid : Prop := Claim7.holds Tryd.pinned (.plain (OpenSpec.upto arithBackSpec)) arithBackUptoCard

/-- THE SECOND FORM's CARD OF 'demonlaw2.ArithWords'. -/
def arithWordsUptoCard : Claim7 := { stood := { row := arithWordsUptoRow, standIns := [], harness := (true, "0adc13f334a941707752e7cc31a26dc01a9d7790c324ce4d90c292c9097b2f4d"), looks := true }, kinds := [], alts := [], laidByText := true, laidKinds := [.data, .data, .data, .handle, .sentinel, .sentinel, .sentinel, .sentinel, .sentinel, .sentinel, .sentinel, .sentinel], laidTests := true, laidLooks := .later }
def ArithWordsUptoCardSaid : Prop := Claim7.holds Tryd.pinned (.plain (OpenSpec.upto arithWordsSpec)) arithWordsUptoCard

/-- THE SECOND FORM's CARD OF 'demonlaw2.ArithReads'. -/
def arithReadsUptoCard : Claim7 := { stood := { row := arithReadsUptoRow, standIns := [], harness := (true, "0adc13f334a941707752e7cc31a26dc01a9d7790c324ce4d90c292c9097b2f4d"), looks := true }, kinds := [], alts := [], laidByText := true, laidKinds := [.handle, .sentinel, .sentinel, .sentinel, .sentinel, .sentinel, .sentinel, .sentinel, .sentinel], laidTests := true, laidLooks := .later }
def ArithReadsUptoCardSaid : Prop := Claim7.holds Tryd.pinned (.plain (OpenSpec.upto arithReadsSpec)) arithReadsUptoCard
end Rows
end Go.Proofs.YtjmjedpeibnnnaaDoor
