/-
  DERIVED. GIVEN WITH THE SEED: THE CARDS: each row of YtdhbphdgdkfhfaaDoorRows.lean that lists a variable, with what it lists TIED to the program's text (the seventh form; the later family's looks); each row that meets fmt, with fmt's text TOLD by the authors' own Lean function (tested against real Go, not proved from fmt's source: count such statements apart). THE CARD IS WHAT COUNTS. Prove the row's statement (the work); the ties are given (YtdhbphdgdkfhfaaDoorTie.lean); close each card by the builder's one call (the guide's Derived/Test/ToyasCard.lean, 'card_holds'). Laid BY PROGRAM, IN A SANDBOX (cutbox-door.mjs). By AI agents, Wed Nov 11 2026. No macro, syntax, notation, axiom, sorry.
-/
import Derived.Test.YtdhbphdgdkfhfaaDoorRows
import GoSem.ClaimSeven
namespace Go.Proofs.YtdhbphdgdkfhfaaDoor
namespace Rows

/-- THE TIED CARD OF 'demonlaw1.DistValid'. -/
def distValidCard : Claim7 := { stood := { row := distValidRow, standIns := [], harness := (true, "b86b3d005861d2a8dc7a96c835397b88375c0bdf51ae93f3bf2db01a7fc282c3"), looks := true }, kinds := [], alts := [], laidByText := true, laidKinds := [.handle, .sentinel, .sentinel, .sentinel, .sentinel, .sentinel, .sentinel, .sentinel, .sentinel], laidTests := true, laidLooks := .later }
def DistValidCardSaid : Prop := Claim7.holds Tryd.pinned (.plain (OpenSpec.ofChange distValidSpec)) distValidCard

/-- THE TIED CARD OF 'demonlaw1.DistGibbs'. -/
def distGibbsCard : Claim7 := { stood := { row := distGibbsRow, standIns := [], harness := (true, "b86b3d005861d2a8dc7a96c835397b88375c0bdf51ae93f3bf2db01a7fc282c3"), looks := true }, kinds := [], alts := [], laidByText := true, laidKinds := [.handle, .sentinel, .sentinel, .sentinel, .sentinel, .sentinel, .sentinel, .sentinel, .sentinel], laidTests := true, laidLooks := .later }
def DistGibbsCardSaid : Prop := Claim7.holds Tryd.pinned (.plain (OpenSpec.ofChange distGibbsSpec)) distGibbsCard

/-- THE SECOND FORM's CARD OF 'demonlaw1.DistValid'. -/
def distValidUptoCard : Claim7 := { stood := { row := distValidUptoRow, standIns := [], harness := (true, "b86b3d005861d2a8dc7a96c835397b88375c0bdf51ae93f3bf2db01a7fc282c3"), looks := true }, kinds := [], alts := [], laidByText := true, laidKinds := [.handle, .sentinel, .sentinel, .sentinel, .sentinel, .sentinel, .sentinel, .sentinel, .sentinel], laidTests := true, laidLooks := .later }
def DistValidUptoCardSaid : Prop := Claim7.holds Tryd.pinned (.plain (OpenSpec.upto distValidSpec)) distValidUptoCard

/-- THE SECOND FORM's CARD OF 'demonlaw1.DistGibbs'. -/
def distGibbsUptoCard : Claim7 := { stood := { row := distGibbsUptoRow, standIns := [], harness := (true, "b86b3d005861d2a8dc7a96c835397b88375c0bdf51ae93f3bf2db01a7fc282c3"), looks := true }, kinds := [], alts := [], laidByText := true, laidKinds := [.handle, .sentinel, .sentinel, .sentinel, .sentinel, .sentinel, .sentinel, .sentinel, .sentinel], laidTests := true, laidLooks := .later }
def DistGibbsUptoCardSaid : Prop := Claim7.holds Tryd.pinned (.plain (OpenSpec.upto distGibbsSpec)) distGibbsUptoCard
end Rows
end Go.Proofs.YtdhbphdgdkfhfaaDoor
