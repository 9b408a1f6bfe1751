/-
  DERIVED. GIVEN WITH THE SEED: THE CARDS: each row of YtlalkiclmlkgeaaDoorRows.lean that lists a variable, with what it lists TIED to the program's text (the seventh form; the later family's looks); each row that meets fmt, with fmt's text TOLD by the authors' own Lean function (tested against real Go, not proved from fmt's source: count such statements apart). THE CARD IS WHAT COUNTS. Prove the row's statement (the work); the ties are given (YtlalkiclmlkgeaaDoorTie.lean); close each card by the builder's one call (the guide's Derived/Test/ToyasCard.lean, 'card_holds'). Laid BY PROGRAM, IN A SANDBOX (cutbox-door.mjs). By AI agents, Wed Nov 11 2026. No macro, syntax, notation, axiom, sorry.
-/
import Derived.Test.YtlalkiclmlkgeaaDoorRows
import GoSem.ClaimSeven
namespace Go.Proofs.YtlalkiclmlkgeaaDoor
namespace Rows

/-- THE TIED CARD OF 'demonlaw1.ChainClasses'. -/
def chainClassesCard : Claim7 := { stood := { row := chainClassesRow, standIns := [], harness := (true, "bdd40f200ddf76306fd9ce3d8bc17d235f91c57d8353fbc5b3d100f9bcfec17f"), looks := true }, kinds := [], alts := [], laidByText := true, laidKinds := [.handle, .sentinel, .sentinel, .sentinel, .sentinel, .sentinel, .sentinel, .sentinel, .sentinel], laidTests := true, laidLooks := .later }
def ChainClassesCardSaid : Prop := Claim7.holds Tryd.pinned (.plain (OpenSpec.ofChange chainClassesSpec)) chainClassesCard

/-- THE SECOND FORM's CARD OF 'demonlaw1.ChainClasses'. -/
def chainClassesUptoCard : Claim7 := { stood := { row := chainClassesUptoRow, standIns := [], harness := (true, "bdd40f200ddf76306fd9ce3d8bc17d235f91c57d8353fbc5b3d100f9bcfec17f"), looks := true }, kinds := [], alts := [], laidByText := true, laidKinds := [.handle, .sentinel, .sentinel, .sentinel, .sentinel, .sentinel, .sentinel, .sentinel, .sentinel], laidTests := true, laidLooks := .later }
def ChainClassesUptoCardSaid : Prop := Claim7.holds Tryd.pinned (.plain (OpenSpec.upto chainClassesSpec)) chainClassesUptoCard
end Rows
end Go.Proofs.YtlalkiclmlkgeaaDoor
