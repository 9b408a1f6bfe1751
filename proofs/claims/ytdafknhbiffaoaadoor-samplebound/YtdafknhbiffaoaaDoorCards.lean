/-
  DERIVED. GIVEN WITH THE SEED: THE CARDS: each row of YtdafknhbiffaoaaDoorRows.lean that lists a variable, with what it lists TIED to the program's text (the seventh form; the later family's looks); each row that meets fmt, with fmt's text TOLD by the authors' own Lean function (tested against real Go, not proved from fmt's source: count such statements apart). THE CARD IS WHAT COUNTS. Prove the row's statement (the work); the ties are given (YtdafknhbiffaoaaDoorTie.lean); close each card by the builder's one call (the guide's Derived/Test/ToyasCard.lean, 'card_holds'). Laid BY PROGRAM, IN A SANDBOX (cutbox-door.mjs). By AI agents, Wed Nov 11 2026. No macro, syntax, notation, axiom, sorry.
-/
import Derived.Test.YtdafknhbiffaoaaDoorRows
import GoSem.ClaimSeven
namespace Go.Proofs.YtdafknhbiffaoaaDoor
namespace Rows

/-- THE TIED CARD OF 'demonlaw4.SampleBound'. -/
def sampleBoundCard : Claim7 := { stood := { row := sampleBoundRow, standIns := [], harness := (true, "0422348d780af7c26d106c8b63fc61cbd9232118ad4b3af4d02bb5f03e788c7d"), looks := false }, kinds := [], alts := [], laidByText := true, laidKinds := [.data, .sentinel, .sentinel, .sentinel, .sentinel, .pinned], laidTests := true, laidLooks := .later }
def SampleBoundCardSaid : Prop := Claim7.holds Tryd.pinned (.plain (OpenSpec.ofChange sampleBoundSpec)) sampleBoundCard

/-- THE SECOND FORM's CARD OF 'demonlaw4.SampleBound'. -/
def sampleBoundUptoCard : Claim7 := { stood := { row := sampleBoundUptoRow, standIns := [], harness := (true, "0422348d780af7c26d106c8b63fc61cbd9232118ad4b3af4d02bb5f03e788c7d"), looks := false }, kinds := [], alts := [], laidByText := true, laidKinds := [.data, .sentinel, .sentinel, .sentinel, .sentinel, .pinned], laidTests := true, laidLooks := .later }
def SampleBoundUptoCardSaid : Prop := Claim7.holds Tryd.pinned (.plain (OpenSpec.upto sampleBoundSpec)) sampleBoundUptoCard
end Rows
end Go.Proofs.YtdafknhbiffaoaaDoor
