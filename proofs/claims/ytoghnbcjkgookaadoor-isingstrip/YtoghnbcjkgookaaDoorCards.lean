/-
  DERIVED. GIVEN WITH THE SEED: THE CARDS: each row of YtoghnbcjkgookaaDoorRows.lean that lists a variable, with what it lists TIED to the program's text (the seventh form; the later family's looks); each row that meets fmt, with fmt's text TOLD by the authors' own Lean function (tested against real Go, not proved from fmt's source: count such statements apart). THE CARD IS WHAT COUNTS. Prove the row's statement (the work); the ties are given (YtoghnbcjkgookaaDoorTie.lean); close each card by the builder's one call (the guide's Derived/Test/ToyasCard.lean, 'card_holds'). Laid BY PROGRAM, IN A SANDBOX (cutbox-door.mjs). By AI agents, Wed Nov 11 2026. No macro, syntax, notation, axiom, sorry.
-/
import Derived.Test.YtoghnbcjkgookaaDoorRows
import GoSem.ClaimSeven
namespace Go.Proofs.YtoghnbcjkgookaaDoor
namespace Rows

/-- THE TIED CARD OF 'demonlaw4.IsingValid'. -/
def isingValidCard : Claim7 := { stood := { row := isingValidRow, standIns := [], harness := (true, "0f48d2e8255dc93efc2dc2489c98e1b60caf9bc9d71a155f393185c7b6a502a0"), looks := true }, kinds := [], alts := [], laidByText := true, laidKinds := [.handle, .sentinel, .sentinel, .sentinel, .sentinel, .sentinel, .sentinel, .sentinel, .sentinel], laidTests := true, laidLooks := .later }
def IsingValidCardSaid : Prop := Claim7.holds Tryd.pinned (.plain (OpenSpec.ofChange isingValidSpec)) isingValidCard

/-- THE TIED CARD OF 'demonlaw4.IsingStates'. -/
def isingStatesCard : Claim7 := { stood := { row := isingStatesRow, standIns := [], harness := (true, "0f48d2e8255dc93efc2dc2489c98e1b60caf9bc9d71a155f393185c7b6a502a0"), looks := true }, kinds := [], alts := [], laidByText := true, laidKinds := [.handle, .sentinel, .sentinel, .sentinel, .sentinel, .sentinel, .sentinel, .sentinel, .sentinel], laidTests := true, laidLooks := .later }
def IsingStatesCardSaid : Prop := Claim7.holds Tryd.pinned (.plain (OpenSpec.ofChange isingStatesSpec)) isingStatesCard

/-- THE TIED CARD OF 'demonlaw4.IsingEven'. -/
def isingEvenCard : Claim7 := { stood := { row := isingEvenRow, standIns := [], harness := (true, "0f48d2e8255dc93efc2dc2489c98e1b60caf9bc9d71a155f393185c7b6a502a0"), looks := true }, kinds := [], alts := [], laidByText := true, laidKinds := [.handle, .sentinel, .sentinel, .sentinel, .sentinel, .sentinel, .sentinel, .sentinel, .sentinel], laidTests := true, laidLooks := .later }
def IsingEvenCardSaid : Prop := Claim7.holds Tryd.pinned (.plain (OpenSpec.ofChange isingEvenSpec)) isingEvenCard

/-- THE TIED CARD OF 'demonlaw4.IsingStrip'. -/
def isingStripCard : Claim7 := { stood := { row := isingStripRow, standIns := [], harness := (true, "0f48d2e8255dc93efc2dc2489c98e1b60caf9bc9d71a155f393185c7b6a502a0"), looks := true }, kinds := [], alts := [], laidByText := true, laidKinds := [.handle, .sentinel, .sentinel, .sentinel, .sentinel, .sentinel, .sentinel, .sentinel, .sentinel], laidTests := true, laidLooks := .later }
def IsingStripCardSaid : Prop := Claim7.holds Tryd.pinned (.plain (OpenSpec.ofChange isingStripSpec)) isingStripCard

/-- THE TIED CARD OF 'demonlaw4.IsingGrid'. -/
def isingGridCard : Claim7 := { stood := { row := isingGridRow, standIns := [], harness := (true, "0f48d2e8255dc93efc2dc2489c98e1b60caf9bc9d71a155f393185c7b6a502a0"), looks := true }, kinds := [], alts := [], laidByText := true, laidKinds := [.handle, .sentinel, .sentinel, .sentinel, .sentinel, .sentinel, .sentinel, .sentinel, .sentinel], laidTests := true, laidLooks := .later }
def IsingGridCardSaid : Prop := Claim7.holds Tryd.pinned (.plain (OpenSpec.ofChange isingGridSpec)) isingGridCard

/-- THE TIED CARD OF 'demonlaw4.IsingFaces'. -/
def isingFacesCard : Claim7 := { stood := { row := isingFacesRow, standIns := [], harness := (true, "0f48d2e8255dc93efc2dc2489c98e1b60caf9bc9d71a155f393185c7b6a502a0"), looks := true }, kinds := [], alts := [], laidByText := true, laidKinds := [.handle, .sentinel, .sentinel, .sentinel, .sentinel, .sentinel, .sentinel, .sentinel, .sentinel], laidTests := true, laidLooks := .later }
def IsingFacesCardSaid : Prop := Claim7.holds Tryd.pinned (.plain (OpenSpec.ofChange isingFacesSpec)) isingFacesCard

/-- THE SECOND FORM's CARD OF 'demonlaw4.IsingValid'. -/
def isingValidUptoCard : Claim7 := { stood := { row := isingValidUptoRow, standIns := [], harness := (true, "0f48d2e8255dc93efc2dc2489c98e1b60caf9bc9d71a155f393185c7b6a502a0"), looks := true }, kinds := [], alts := [], laidByText := true, laidKinds := [.handle, .sentinel, .sentinel, .sentinel, .sentinel, .sentinel, .sentinel, .sentinel, .sentinel], laidTests := true, laidLooks := .later }
def IsingValidUptoCardSaid : Prop := Claim7.holds Tryd.pinned (.plain (OpenSpec.upto isingValidSpec)) isingValidUptoCard

/-- THE SECOND FORM's CARD OF 'demonlaw4.IsingStates'. -/
def isingStatesUptoCard : Claim7 := { stood := { row := isingStatesUptoRow, standIns := [], harness := (true, "0f48d2e8255dc93efc2dc2489c98e1b60caf9bc9d71a155f393185c7b6a502a0"), looks := true }, kinds := [], alts := [], laidByText := true, laidKinds := [.handle, .sentinel, .sentinel, .sentinel, .sentinel, .sentinel, .sentinel, .sentinel, .sentinel], laidTests := true, laidLooks := .later }
def IsingStatesUptoCardSaid : Prop := Claim7.holds Tryd.pinned (.plain (OpenSpec.upto isingStatesSpec)) isingStatesUptoCard

/-- THE SECOND FORM's CARD OF 'demonlaw4.IsingEven'. -/
def isingEvenUptoCard : Claim7 := { stood := { row := isingEvenUptoRow, standIns := [], harness := (true, "0f48d2e8255dc93efc2dc2489c98e1b60caf9bc9d71a155f393185c7b6a502a0"), looks := true }, kinds := [], alts := [], laidByText := true, laidKinds := [.handle, .sentinel, .sentinel, .sentinel, .sentinel, .sentinel, .sentinel, .sentinel, .sentinel], laidTests := true, laidLooks := .later }
def IsingEvenUptoCardSaid : Prop := Claim7.holds Tryd.pinned (.plain (OpenSpec.upto isingEvenSpec)) isingEvenUptoCard

/-- THE SECOND FORM's CARD OF 'demonlaw4.IsingStrip'. -/
def isingStripUptoCard : Claim7 := { stood := { row := isingStripUptoRow, standIns := [], harness := (true, "0f48d2e8255dc93efc2dc2489c98e1b60caf9bc9d71a155f393185c7b6a502a0"), looks := true }, kinds := [], alts := [], laidByText := true, laidKinds := [.handle, .sentinel, .sentinel, .sentinel, .sentinel, .sentinel, .sentinel, .sentinel, .sentinel], laidTests := true, laidLooks := .later }
def IsingStripUptoCardSaid : Prop := Claim7.holds Tryd.pinned (.plain (OpenSpec.upto isingStripSpec)) isingStripUptoCard

/-- THE SECOND FORM's CARD OF 'demonlaw4.IsingGrid'. -/
def isingGridUptoCard : Claim7 := { stood := { row := isingGridUptoRow, standIns := [], harness := (true, "0f48d2e8255dc93efc2dc2489c98e1b60caf9bc9d71a155f393185c7b6a502a0"), looks := true }, kinds := [], alts := [], laidByText := true, laidKinds := [.handle, .sentinel, .sentinel, .sentinel, .sentinel, .sentinel, .sentinel, .sentinel, .sentinel], laidTests := true, laidLooks := .later }
def IsingGridUptoCardSaid : Prop := Claim7.holds Tryd.pinned (.plain (OpenSpec.upto isingGridSpec)) isingGridUptoCard

/-- THE SECOND FORM's CARD OF 'demonlaw4.IsingFaces'. -/
def isingFacesUptoCard : Claim7 := { stood := { row := isingFacesUptoRow, standIns := [], harness := (true, "0f48d2e8255dc93efc2dc2489c98e1b60caf9bc9d71a155f393185c7b6a502a0"), looks := true }, kinds := [], alts := [], laidByText := true, laidKinds := [.handle, .sentinel, .sentinel, .sentinel, .sentinel, .sentinel, .sentinel, .sentinel, .sentinel], laidTests := true, laidLooks := .later }
def IsingFacesUptoCardSaid : Prop := Claim7.holds Tryd.pinned (.plain (OpenSpec.upto isingFacesSpec)) isingFacesUptoCard
end Rows
end Go.Proofs.YtoghnbcjkgookaaDoor
