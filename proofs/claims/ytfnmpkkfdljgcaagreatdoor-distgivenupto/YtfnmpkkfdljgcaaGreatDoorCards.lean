/-
  DERIVED. GIVEN WITH THE SEED: THE CARDS: each row of YtfnmpkkfdljgcaaGreatDoorRows.lean that lists a variable, with what it lists TIED to the program's text (the seventh form; the later family's looks); each row that meets fmt, with fmt's text TOLD by the authors' own Lean function (tested against real Go, not proved from fmt's source: count such statements apart). THE CARD IS WHAT COUNTS. Prove the row's statement (the work); the ties are given (YtfnmpkkfdljgcaaGreatDoorTie.lean); close each card by the builder's one call (the guide's Derived/Test/ToyasCard.lean, 'card_holds'). Laid BY PROGRAM, IN A SANDBOX (cutbox-door.mjs). By AI agents, Wed Nov 11 2026. No macro, syntax, notation, axiom, sorry.
-/
import Derived.Test.YtfnmpkkfdljgcaaGreatDoorRows
import GoSem.ClaimSeven
namespace Go.Proofs.YtfnmpkkfdljgcaaGreatDoor
namespace Rows

/-- THE TIED CARD OF 'demonlaw1.DistJoint'. -/
def distJointCard : Claim7 := { stood := { row := distJointRow, standIns := [], harness := (true, "fe194cce05f6e5ebad7fae04494b3382e0f361d3e9ce4b554e4bdb406e703675"), looks := true }, kinds := [], alts := [], laidByText := true, laidKinds := [.handle, .sentinel, .sentinel, .sentinel, .sentinel, .sentinel, .sentinel, .sentinel, .sentinel], laidTests := true, laidLooks := .later }
def DistJointCardSaid : Prop := Claim7.holds Tryz.pinned (.plain (OpenSpec.ofChange distJointSpec)) distJointCard

/-- THE TIED CARD OF 'demonlaw1.DistGiven'. -/
def distGivenCard : Claim7 := { stood := { row := distGivenRow, standIns := [], harness := (true, "fe194cce05f6e5ebad7fae04494b3382e0f361d3e9ce4b554e4bdb406e703675"), looks := true }, kinds := [], alts := [], laidByText := true, laidKinds := [.handle, .sentinel, .sentinel, .sentinel, .sentinel, .sentinel, .sentinel, .sentinel, .sentinel], laidTests := true, laidLooks := .later }
def DistGivenCardSaid : Prop := Claim7.holds Tryz.pinned (.plain (OpenSpec.ofChange distGivenSpec)) distGivenCard

/-- THE TIED CARD OF 'demonlaw1.DistMutual'. -/
def distMutualCard : Claim7 := { stood := { row := distMutualRow, standIns := [], harness := (true, "fe194cce05f6e5ebad7fae04494b3382e0f361d3e9ce4b554e4bdb406e703675"), looks := true }, kinds := [], alts := [], laidByText := true, laidKinds := [.handle, .sentinel, .sentinel, .sentinel, .sentinel, .sentinel, .sentinel, .sentinel, .sentinel], laidTests := true, laidLooks := .later }
def DistMutualCardSaid : Prop := Claim7.holds Tryz.pinned (.plain (OpenSpec.ofChange distMutualSpec)) distMutualCard

/-- THE SECOND FORM's CARD OF 'demonlaw1.DistJoint'. -/
def distJointUptoCard : Claim7 := { stood := { row := distJointUptoRow, standIns := [], harness := (true, "fe194cce05f6e5ebad7fae04494b3382e0f361d3e9ce4b554e4bdb406e703675"), looks := true }, kinds := [], alts := [], laidByText := true, laidKinds := [.handle, .sentinel, .sentinel, .sentinel, .sentinel, .sentinel, .sentinel, .sentinel, .sentinel], laidTests := true, laidLooks := .later }
def DistJointUptoCardSaid : Prop := Claim7.holds Tryz.pinned (.plain (OpenSpec.upto distJointSpec)) distJointUptoCard

/-- THE SECOND FORM's CARD OF 'demonlaw1.DistGiven'. -/
def distGivenUptoCard : Claim7 := { stood := { row := distGivenUptoRow, standIns := [], harness := (true, "fe194cce05f6e5ebad7fae04494b3382e0f361d3e9ce4b554e4bdb406e703675"), looks := true }, kinds := [], alts := [], laidByText := true, laidKinds := [.handle, .sentinel, .sentinel, .sentinel, .sentinel, .sentinel, .sentinel, .sentinel, .sentinel], laidTests := true, laidLooks := .later }
def DistGivenUptoCardSaid : Prop := Claim7.holds Tryz.pinned (.plain (OpenSpec.upto distGivenSpec)) distGivenUptoCard

/-- THE SECOND FORM's CARD OF 'demonlaw1.DistMutual'. -/
def distMutualUptoCard : Claim7 := { stood := { row := distMutualUptoRow, standIns := [], harness := (true, "fe194cce05f6e5ebad7fae04494b3382e0f361d3e9ce4b554e4bdb406e703675"), looks := true }, kinds := [], alts := [], laidByText := true, laidKinds := [.handle, .sentinel, .sentinel, .sentinel, .sentinel, .sentinel, .sentinel, .sentinel, .sentinel], laidTests := true, laidLooks := .later }
def DistMutualUptoCardSaid : Prop := Claim7.holds Tryz.pinned (.plain (OpenSpec.upto distMutualSpec)) distMutualUptoCard
end Rows
end Go.Proofs.YtfnmpkkfdljgcaaGreatDoor
