/-
  DERIVED. GIVEN WITH THE SEED: THE CARDS: each row of YtpdenfjncpfogaaDoorRows.lean that lists a variable, with what it lists TIED to the program's text (the seventh form; the later family's looks); each row that meets fmt, with fmt's text TOLD by the authors' own Lean function (tested against real Go, not proved from fmt's source: count such statements apart). THE CARD IS WHAT COUNTS. Prove the row's statement (the work); the ties are given (YtpdenfjncpfogaaDoorTie.lean); close each card by the builder's one call (the guide's Derived/Test/ToyasCard.lean, 'card_holds'). Laid BY PROGRAM, IN A SANDBOX (cutbox-door.mjs). By AI agents, Wed Nov 11 2026. No macro, syntax, notation, axiom, sorry.
-/
import Derived.Test.YtpdenfjncpfogaaDoorRows
import GoSem.ClaimSeven
namespace Go.Proofs.YtpdenfjncpfogaaDoor
namespace Rows

/-- THE TIED CARD OF 'demonlaw4.IsingMean'. -/
def isingMeanCard : Claim7 := { stood := { row := isingMeanRow, standIns := [], harness := (true, "b931090a90275df24992e9cb287b6a3660b8e289b524a3d5a8819aba7d2c7e7e"), looks := true }, kinds := [], alts := [], laidByText := true, laidKinds := [.handle, .sentinel, .sentinel, .sentinel, .sentinel, .sentinel, .sentinel, .sentinel, .sentinel], laidTests := true, laidLooks := .later }
def IsingMeanCardSaid : Prop := Claim7.holds Tryd.pinned (.plain (OpenSpec.ofChange isingMeanSpec)) isingMeanCard

/-- THE TIED CARD OF 'demonlaw4.IsingExpansion'. -/
def isingExpansionCard : Claim7 := { stood := { row := isingExpansionRow, standIns := [], harness := (true, "b931090a90275df24992e9cb287b6a3660b8e289b524a3d5a8819aba7d2c7e7e"), looks := true }, kinds := [], alts := [], laidByText := true, laidKinds := [.sentinel, .sentinel], laidTests := true, laidLooks := .later }
def IsingExpansionCardSaid : Prop := Claim7.holds Tryd.pinned (.plain (OpenSpec.ofChange isingExpansionSpec)) isingExpansionCard

/-- THE SECOND FORM's CARD OF 'demonlaw4.IsingMean'. -/
def isingMeanUptoCard : Claim7 := { stood := { row := isingMeanUptoRow, standIns := [], harness := (true, "b931090a90275df24992e9cb287b6a3660b8e289b524a3d5a8819aba7d2c7e7e"), looks := true }, kinds := [], alts := [], laidByText := true, laidKinds := [.handle, .sentinel, .sentinel, .sentinel, .sentinel, .sentinel, .sentinel, .sentinel, .sentinel], laidTests := true, laidLooks := .later }
def IsingMeanUptoCardSaid : Prop := Claim7.holds Tryd.pinned (.plain (OpenSpec.upto isingMeanSpec)) isingMeanUptoCard

/-- THE SECOND FORM's CARD OF 'demonlaw4.IsingExpansion'. -/
def isingExpansionUptoCard : Claim7 := { stood := { row := isingExpansionUptoRow, standIns := [], harness := (true, "b931090a90275df24992e9cb287b6a3660b8e289b524a3d5a8819aba7d2c7e7e"), looks := true }, kinds := [], alts := [], laidByText := true, laidKinds := [.sentinel, .sentinel], laidTests := true, laidLooks := .later }
def IsingExpansionUptoCardSaid : Prop := Claim7.holds Tryd.pinned (.plain (OpenSpec.upto isingExpansionSpec)) isingExpansionUptoCard
end Rows
end Go.Proofs.YtpdenfjncpfogaaDoor
