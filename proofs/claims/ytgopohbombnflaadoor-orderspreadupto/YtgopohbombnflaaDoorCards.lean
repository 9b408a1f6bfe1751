/-
  DERIVED. GIVEN WITH THE SEED: THE CARDS: each row of YtgopohbombnflaaDoorRows.lean that lists a variable, with what it lists TIED to the program's text (the seventh form; the later family's looks); each row that meets fmt, with fmt's text TOLD by the authors' own Lean function (tested against real Go, not proved from fmt's source: count such statements apart). THE CARD IS WHAT COUNTS. Prove the row's statement (the work); the ties are given (YtgopohbombnflaaDoorTie.lean); close each card by the builder's one call (the guide's Derived/Test/ToyasCard.lean, 'card_holds'). Laid BY PROGRAM, IN A SANDBOX (cutbox-door.mjs). By AI agents, Wed Nov 11 2026. No macro, syntax, notation, axiom, sorry.
-/
import Derived.Test.YtgopohbombnflaaDoorRows
import GoSem.ClaimSeven
namespace Go.Proofs.YtgopohbombnflaaDoor
namespace Rows

/-- THE TIED CARD OF 'demonlaw4.OrderAbove'. -/
def orderAboveCard : Claim7 := { stood := { row := orderAboveRow, standIns := [], harness := (true, "00a79d6e17d01cecfdf18468df7782cdb02b0f97bdecfee5a9b6d5f3c583f91a"), looks := true }, kinds := [], alts := [], laidByText := true, laidKinds := [.handle, .sentinel, .sentinel, .sentinel, .sentinel, .sentinel, .sentinel, .sentinel, .sentinel], laidTests := true, laidLooks := .later }
def OrderAboveCardSaid : Prop := Claim7.holds Tryd.pinned (.plain (OpenSpec.ofChange orderAboveSpec)) orderAboveCard

/-- THE TIED CARD OF 'demonlaw4.OrderMoves'. -/
def orderMovesCard : Claim7 := { stood := { row := orderMovesRow, standIns := [], harness := (true, "00a79d6e17d01cecfdf18468df7782cdb02b0f97bdecfee5a9b6d5f3c583f91a"), looks := true }, kinds := [], alts := [], laidByText := true, laidKinds := [.handle, .sentinel, .sentinel, .sentinel, .sentinel, .sentinel, .sentinel, .sentinel, .sentinel], laidTests := true, laidLooks := .later }
def OrderMovesCardSaid : Prop := Claim7.holds Tryd.pinned (.plain (OpenSpec.ofChange orderMovesSpec)) orderMovesCard

/-- THE TIED CARD OF 'demonlaw4.OrderApply'. -/
def orderApplyCard : Claim7 := { stood := { row := orderApplyRow, standIns := [], harness := (true, "00a79d6e17d01cecfdf18468df7782cdb02b0f97bdecfee5a9b6d5f3c583f91a"), looks := true }, kinds := [], alts := [], laidByText := true, laidKinds := [.handle, .sentinel, .sentinel, .sentinel, .sentinel, .sentinel, .sentinel, .sentinel, .sentinel], laidTests := true, laidLooks := .later }
def OrderApplyCardSaid : Prop := Claim7.holds Tryd.pinned (.plain (OpenSpec.ofChange orderApplySpec)) orderApplyCard

/-- THE TIED CARD OF 'demonlaw4.OrderParts'. -/
def orderPartsCard : Claim7 := { stood := { row := orderPartsRow, standIns := [], harness := (true, "00a79d6e17d01cecfdf18468df7782cdb02b0f97bdecfee5a9b6d5f3c583f91a"), looks := true }, kinds := [], alts := [], laidByText := true, laidKinds := [.handle, .sentinel, .sentinel, .sentinel, .sentinel, .sentinel, .sentinel, .sentinel, .sentinel], laidTests := true, laidLooks := .later }
def OrderPartsCardSaid : Prop := Claim7.holds Tryd.pinned (.plain (OpenSpec.ofChange orderPartsSpec)) orderPartsCard

/-- THE TIED CARD OF 'demonlaw4.OrderSpread'. -/
def orderSpreadCard : Claim7 := { stood := { row := orderSpreadRow, standIns := [], harness := (true, "00a79d6e17d01cecfdf18468df7782cdb02b0f97bdecfee5a9b6d5f3c583f91a"), looks := true }, kinds := [], alts := [], laidByText := true, laidKinds := [.handle, .sentinel, .sentinel, .sentinel, .sentinel, .sentinel, .sentinel, .sentinel, .sentinel], laidTests := true, laidLooks := .later }
def OrderSpreadCardSaid : Prop := Claim7.holds Tryd.pinned (.plain (OpenSpec.ofChange orderSpreadSpec)) orderSpreadCard

/-- THE SECOND FORM's CARD OF 'demonlaw4.OrderAbove'. -/
def orderAboveUptoCard : Claim7 := { stood := { row := orderAboveUptoRow, standIns := [], harness := (true, "00a79d6e17d01cecfdf18468df7782cdb02b0f97bdecfee5a9b6d5f3c583f91a"), looks := true }, kinds := [], alts := [], laidByText := true, laidKinds := [.handle, .sentinel, .sentinel, .sentinel, .sentinel, .sentinel, .sentinel, .sentinel, .sentinel], laidTests := true, laidLooks := .later }
def OrderAboveUptoCardSaid : Prop := Claim7.holds Tryd.pinned (.plain (OpenSpec.upto orderAboveSpec)) orderAboveUptoCard

/-- THE SECOND FORM's CARD OF 'demonlaw4.OrderMoves'. -/
def orderMovesUptoCard : Claim7 := { stood := { row := orderMovesUptoRow, standIns := [], harness := (true, "00a79d6e17d01cecfdf18468df7782cdb02b0f97bdecfee5a9b6d5f3c583f91a"), looks := true }, kinds := [], alts := [], laidByText := true, laidKinds := [.handle, .sentinel, .sentinel, .sentinel, .sentinel, .sentinel, .sentinel, .sentinel, .sentinel], laidTests := true, laidLooks := .later }
def OrderMovesUptoCardSaid : Prop := Claim7.holds Tryd.pinned (.plain (OpenSpec.upto orderMovesSpec)) orderMovesUptoCard

/-- THE SECOND FORM's CARD OF 'demonlaw4.OrderApply'. -/
def orderApplyUptoCard : Claim7 := { stood := { row := orderApplyUptoRow, standIns := [], harness := (true, "00a79d6e17d01cecfdf18468df7782cdb02b0f97bdecfee5a9b6d5f3c583f91a"), looks := true }, kinds := [], alts := [], laidByText := true, laidKinds := [.handle, .sentinel, .sentinel, .sentinel, .sentinel, .sentinel, .sentinel, .sentinel, .sentinel], laidTests := true, laidLooks := .later }
def OrderApplyUptoCardSaid : Prop := Claim7.holds Tryd.pinned (.plain (OpenSpec.upto orderApplySpec)) orderApplyUptoCard

/-- THE SECOND FORM's CARD OF 'demonlaw4.OrderParts'. -/
def orderPartsUptoCard : Claim7 := { stood := { row := orderPartsUptoRow, standIns := [], harness := (true, "00a79d6e17d01cecfdf18468df7782cdb02b0f97bdecfee5a9b6d5f3c583f91a"), looks := true }, kinds := [], alts := [], laidByText := true, laidKinds := [.handle, .sentinel, .sentinel, .sentinel, .sentinel, .sentinel, .sentinel, .sentinel, .sentinel], laidTests := true, laidLooks := .later }
def OrderPartsUptoCardSaid : Prop := Claim7.holds Tryd.pinned (.plain (OpenSpec.upto orderPartsSpec)) orderPartsUptoCard

/-- THE SECOND FORM's CARD OF 'demonlaw4.OrderSpread'. -/
def orderSpreadUptoCard : Claim7 := { stood := { row := orderSpreadUptoRow, standIns := [], harness := (true, "00a79d6e17d01cecfdf18468df7782cdb02b0f97bdecfee5a9b6d5f3c583f91a"), looks := true }, kinds := [], alts := [], laidByText := true, laidKinds := [.handle, .sentinel, .sentinel, .sentinel, .sentinel, .sentinel, .sentinel, .sentinel, .sentinel], laidTests := true, laidLooks := .later }
def OrderSpreadUptoCardSaid : Prop := Claim7.holds Tryd.pinned (.plain (OpenSpec.upto orderSpreadSpec)) orderSpreadUptoCard
end Rows
end Go.Proofs.YtgopohbombnflaaDoor
