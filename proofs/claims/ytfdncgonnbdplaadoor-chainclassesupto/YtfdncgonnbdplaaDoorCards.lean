/-
  DERIVED. GIVEN WITH THE SEED: THE CARDS: each row of YtfdncgonnbdplaaDoorRows.lean that lists a variable, with what it lists TIED to the program's text (the seventh form; the later family's looks); each row that meets fmt, with fmt's text TOLD by the authors' own Lean function (tested against real Go, not proved from fmt's source: count such statements apart). THE CARD IS WHAT COUNTS. Prove the row's statement (the work); the ties are given (YtfdncgonnbdplaaDoorTie.lean); close each card by the builder's one call (the guide's Derived/Test/ToyasCard.lean, 'card_holds'). Laid BY PROGRAM, IN A SANDBOX (cutbox-door.mjs). By AI agents, Wed Nov 11 2026. No macro, syntax, notation, axiom, sorry.
-/
import Derived.Test.YtfdncgonnbdplaaDoorRows
import GoSem.ClaimSeven
namespace Go.Proofs.YtfdncgonnbdplaaDoor
namespace Rows

/-- THE TIED CARD OF 'demonlaw1.ChainValid'. -/
def chainValidCard : Claim7 := { stood := { row := chainValidRow, standIns := [], harness := (true, "24ffa3ac1ed4d327495627acfe67210be6cd60f059bb4bf3c6616d811160b0ef"), looks := true }, kinds := [], alts := [], laidByText := true, laidKinds := [.handle, .sentinel, .sentinel, .sentinel, .sentinel, .sentinel, .sentinel, .sentinel, .sentinel], laidTests := true, laidLooks := .later }
def ChainValidCardSaid : Prop := Claim7.holds Tryd.pinned (.plain (OpenSpec.ofChange chainValidSpec)) chainValidCard

/-- THE TIED CARD OF 'demonlaw1.ChainClasses'. -/
def chainClassesCard : Claim7 := { stood := { row := chainClassesRow, standIns := [], harness := (true, "24ffa3ac1ed4d327495627acfe67210be6cd60f059bb4bf3c6616d811160b0ef"), looks := true }, kinds := [], alts := [], laidByText := true, laidKinds := [.handle, .sentinel, .sentinel, .sentinel, .sentinel, .sentinel, .sentinel, .sentinel, .sentinel], laidTests := true, laidLooks := .later }
def ChainClassesCardSaid : Prop := Claim7.holds Tryd.pinned (.plain (OpenSpec.ofChange chainClassesSpec)) chainClassesCard

/-- THE TIED CARD OF 'demonlaw1.ChainPeriod'. -/
def chainPeriodCard : Claim7 := { stood := { row := chainPeriodRow, standIns := [], harness := (true, "24ffa3ac1ed4d327495627acfe67210be6cd60f059bb4bf3c6616d811160b0ef"), looks := true }, kinds := [], alts := [], laidByText := true, laidKinds := [.handle, .sentinel, .sentinel, .sentinel, .sentinel, .sentinel, .sentinel, .sentinel, .sentinel], laidTests := true, laidLooks := .later }
def ChainPeriodCardSaid : Prop := Claim7.holds Tryd.pinned (.plain (OpenSpec.ofChange chainPeriodSpec)) chainPeriodCard

/-- THE SECOND FORM's CARD OF 'demonlaw1.ChainValid'. -/
def chainValidUptoCard : Claim7 := { stood := { row := chainValidUptoRow, standIns := [], harness := (true, "24ffa3ac1ed4d327495627acfe67210be6cd60f059bb4bf3c6616d811160b0ef"), looks := true }, kinds := [], alts := [], laidByText := true, laidKinds := [.handle, .sentinel, .sentinel, .sentinel, .sentinel, .sentinel, .sentinel, .sentinel, .sentinel], laidTests := true, laidLooks := .later }
def ChainValidUptoCardSaid : Prop := Claim7.holds Tryd.pinned (.plain (OpenSpec.upto chainValidSpec)) chainValidUptoCard

/-- THE SECOND FORM's CARD OF 'demonlaw1.ChainClasses'. -/
def chainClassesUptoCard : Claim7 := { stood := { row := chainClassesUptoRow, standIns := [], harness := (true, "24ffa3ac1ed4d327495627acfe67210be6cd60f059bb4bf3c6616d811160b0ef"), looks := true }, kinds := [], alts := [], laidByText := true, laidKinds := [.handle, .sentinel, .sentinel, .sentinel, .sentinel, .sentinel, .sentinel, .sentinel, .sentinel], laidTests := true, laidLooks := .later }
def ChainClassesUptoCardSaid : Prop := Claim7.holds Tryd.pinned (.plain (OpenSpec.upto chainClassesSpec)) chainClassesUptoCard

/-- THE SECOND FORM's CARD OF 'demonlaw1.ChainPeriod'. -/
def chainPeriodUptoCard : Claim7 := { stood := { row := chainPeriodUptoRow, standIns := [], harness := (true, "24ffa3ac1ed4d327495627acfe67210be6cd60f059bb4bf3c6616d811160b0ef"), looks := true }, kinds := [], alts := [], laidByText := true, laidKinds := [.handle, .sentinel, .sentinel, .sentinel, .sentinel, .sentinel, .sentinel, .sentinel, .sentinel], laidTests := true, laidLooks := .later }
def ChainPeriodUptoCardSaid : Prop := Claim7.holds Tryd.pinned (.plain (OpenSpec.upto chainPeriodSpec)) chainPeriodUptoCard
end Rows
end Go.Proofs.YtfdncgonnbdplaaDoor
