/-
  DERIVED. GIVEN WITH THE SEED: THE CARDS: each row of YtoghnbcjkgookabDoorRows.lean that lists a variable, with what it lists TIED to the program's text (the seventh form; the later family's looks); each row that meets fmt, with fmt's text TOLD by the authors' own Lean function (tested against real Go, not proved from fmt's source: count such statements apart). THE CARD IS WHAT COUNTS. Prove the row's statement (the work); the ties are given (YtoghnbcjkgookabDoorTie.lean); close each card by the builder's one call (the guide's Derived/Test/ToyasCard.lean, 'card_holds'). Laid BY PROGRAM, IN A SANDBOX (cutbox-door.mjs). By AI agents, Wed Nov 11 2026. No macro, syntax, notation, axiom, sorry.
-/
import Derived.Test.YtoghnbcjkgookabDoorRows
import GoSem.ClaimSeven
namespace Go.Proofs.YtoghnbcjkgookabDoor
namespace Rows

/-- THE TIED CARD OF 'demonlaw4.IsingDuality'. -/
def isingDualityCard : Claim7 := { stood := { row := isingDualityRow, standIns := [], harness := (true, "265194bb6408502383e9c1efa4f55667a7c71dd7f82307d65658b2e5647c6c18"), looks := false }, kinds := [], alts := [], laidByText := true, laidKinds := [.sentinel, .sentinel], laidTests := true, laidLooks := .later }
def IsingDualityCardSaid : Prop := Claim7.holds Tryd.pinned (.plain (OpenSpec.ofChange isingDualitySpec)) isingDualityCard

/-- THE SECOND FORM's CARD OF 'demonlaw4.IsingDuality'. -/
def isingDualityUptoCard : Claim7 := { stood := { row := isingDualityUptoRow, standIns := [], harness := (true, "265194bb6408502383e9c1efa4f55667a7c71dd7f82307d65658b2e5647c6c18"), looks := false }, kinds := [], alts := [], laidByText := true, laidKinds := [.sentinel, .sentinel], laidTests := true, laidLooks := .later }
def IsingDualityUptoCardSaid : Prop := Claim7.holds Tryd.pinned (.plain (OpenSpec.upto isingDualitySpec)) isingDualityUptoCard
end Rows
end Go.Proofs.YtoghnbcjkgookabDoor
