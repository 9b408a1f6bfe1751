/-
  DERIVED. GIVEN WITH THE SEED: THE CARDS: each row of YtofflboheiflaaaDoorRows.lean that lists a variable, with what it lists TIED to the program's text (the seventh form; the later family's looks); each row that meets fmt, with fmt's text TOLD by the authors' own Lean function (tested against real Go, not proved from fmt's source: count such statements apart). THE CARD IS WHAT COUNTS. Prove the row's statement (the work); the ties are given (YtofflboheiflaaaDoorTie.lean); close each card by the builder's one call (the guide's Derived/Test/ToyasCard.lean, 'card_holds'). Laid BY PROGRAM, IN A SANDBOX (cutbox-door.mjs). By AI agents, Wed Nov 11 2026. No macro, syntax, notation, axiom, sorry.
-/
import Derived.Test.YtofflboheiflaaaDoorRows
import GoSem.ClaimSeven
namespace Go.Proofs.YtofflboheiflaaaDoor
namespace Rows

/-- THE TIED CARD OF 'demonlaw1.DistMerge'. -/
def distMergeCard : Claim7 := { stood := { row := distMergeRow, standIns := [], harness := (true, "735136f553567db61ec0e85f9ca09d6aa99b4dcd3208effaaba02992bd7eafe0"), looks := true }, kinds := [], alts := [], laidByText := true, laidKinds := [.handle, .sentinel, .sentinel, .sentinel, .sentinel, .sentinel, .sentinel, .sentinel, .sentinel], laidTests := true, laidLooks := .later }
def DistMergeCardSaid : Prop := Claim7.holds Tryd.pinned (.plain (OpenSpec.ofChange distMergeSpec)) distMergeCard

/-- THE SECOND FORM's CARD OF 'demonlaw1.DistMerge'. -/
def distMergeUptoCard : Claim7 := { stood := { row := distMergeUptoRow, standIns := [], harness := (true, "735136f553567db61ec0e85f9ca09d6aa99b4dcd3208effaaba02992bd7eafe0"), looks := true }, kinds := [], alts := [], laidByText := true, laidKinds := [.handle, .sentinel, .sentinel, .sentinel, .sentinel, .sentinel, .sentinel, .sentinel, .sentinel], laidTests := true, laidLooks := .later }
def DistMergeUptoCardSaid : Prop := Claim7.holds Tryd.pinned (.plain (OpenSpec.upto distMergeSpec)) distMergeUptoCard
end Rows
end Go.Proofs.YtofflboheiflaaaDoor
