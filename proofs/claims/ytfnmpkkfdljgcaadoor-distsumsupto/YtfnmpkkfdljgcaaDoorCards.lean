/-
  DERIVED. GIVEN WITH THE SEED: THE CARDS: each row of YtfnmpkkfdljgcaaDoorRows.lean that lists a variable, with what it lists TIED to the program's text (the seventh form; the later family's looks); each row that meets fmt, with fmt's text TOLD by the authors' own Lean function (tested against real Go, not proved from fmt's source: count such statements apart). THE CARD IS WHAT COUNTS. Prove the row's statement (the work); the ties are given (YtfnmpkkfdljgcaaDoorTie.lean); close each card by the builder's one call (the guide's Derived/Test/ToyasCard.lean, 'card_holds'). Laid BY PROGRAM, IN A SANDBOX (cutbox-door.mjs). By AI agents, Wed Nov 11 2026. No macro, syntax, notation, axiom, sorry.
-/
import Derived.Test.YtfnmpkkfdljgcaaDoorRows
import GoSem.ClaimSeven
namespace Go.Proofs.YtfnmpkkfdljgcaaDoor
namespace Rows

/-- THE TIED CARD OF 'demonlaw1.DistSums'. -/
def distSumsCard : Claim7 := { stood := { row := distSumsRow, standIns := [], harness := (true, "2cec7a906613da2dbd5ce4c19a51af507eea4b48e7f6c20c6f6b8d265b1a6101"), looks := true }, kinds := [], alts := [], laidByText := true, laidKinds := [.handle, .sentinel, .sentinel, .sentinel, .sentinel, .sentinel, .sentinel, .sentinel, .sentinel], laidTests := true, laidLooks := .later }
def DistSumsCardSaid : Prop := Claim7.holds Tryd.pinned (.plain (OpenSpec.ofChange distSumsSpec)) distSumsCard

/-- THE TIED CARD OF 'demonlaw1.DistChainRule'. -/
def distChainRuleCard : Claim7 := { stood := { row := distChainRuleRow, standIns := [], harness := (true, "2cec7a906613da2dbd5ce4c19a51af507eea4b48e7f6c20c6f6b8d265b1a6101"), looks := true }, kinds := [], alts := [], laidByText := true, laidKinds := [.sentinel, .sentinel], laidTests := true, laidLooks := .later }
def DistChainRuleCardSaid : Prop := Claim7.holds Tryd.pinned (.plain (OpenSpec.ofChange distChainRuleSpec)) distChainRuleCard

/-- THE TIED CARD OF 'demonlaw1.DistLess'. -/
def distLessCard : Claim7 := { stood := { row := distLessRow, standIns := [], harness := (true, "2cec7a906613da2dbd5ce4c19a51af507eea4b48e7f6c20c6f6b8d265b1a6101"), looks := true }, kinds := [], alts := [], laidByText := true, laidKinds := [.sentinel, .sentinel], laidTests := true, laidLooks := .later }
def DistLessCardSaid : Prop := Claim7.holds Tryd.pinned (.plain (OpenSpec.ofChange distLessSpec)) distLessCard

/-- THE SECOND FORM's CARD OF 'demonlaw1.DistSums'. -/
def distSumsUptoCard : Claim7 := { stood := { row := distSumsUptoRow, standIns := [], harness := (true, "2cec7a906613da2dbd5ce4c19a51af507eea4b48e7f6c20c6f6b8d265b1a6101"), looks := true }, kinds := [], alts := [], laidByText := true, laidKinds := [.handle, .sentinel, .sentinel, .sentinel, .sentinel, .sentinel, .sentinel, .sentinel, .sentinel], laidTests := true, laidLooks := .later }
def DistSumsUptoCardSaid : Prop := Claim7.holds Tryd.pinned (.plain (OpenSpec.upto distSumsSpec)) distSumsUptoCard

/-- THE SECOND FORM's CARD OF 'demonlaw1.DistChainRule'. -/
def distChainRuleUptoCard : Claim7 := { stood := { row := distChainRuleUptoRow, standIns := [], harness := (true, "2cec7a906613da2dbd5ce4c19a51af507eea4b48e7f6c20c6f6b8d265b1a6101"), looks := true }, kinds := [], alts := [], laidByText := true, laidKinds := [.sentinel, .sentinel], laidTests := true, laidLooks := .later }
def DistChainRuleUptoCardSaid : Prop := Claim7.holds Tryd.pinned (.plain (OpenSpec.upto distChainRuleSpec)) distChainRuleUptoCard

/-- THE SECOND FORM's CARD OF 'demonlaw1.DistLess'. -/
def distLessUptoCard : Claim7 := { stood := { row := distLessUptoRow, standIns := [], harness := (true, "2cec7a906613da2dbd5ce4c19a51af507eea4b48e7f6c20c6f6b8d265b1a6101"), looks := true }, kinds := [], alts := [], laidByText := true, laidKinds := [.sentinel, .sentinel], laidTests := true, laidLooks := .later }
def DistLessUptoCardSaid : Prop := Claim7.holds Tryd.pinned (.plain (OpenSpec.upto distLessSpec)) distLessUptoCard
end Rows
end Go.Proofs.YtfnmpkkfdljgcaaDoor
