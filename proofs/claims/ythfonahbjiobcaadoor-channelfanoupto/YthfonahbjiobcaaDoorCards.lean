/-
  DERIVED. GIVEN WITH THE SEED: THE CARDS: each row of YthfonahbjiobcaaDoorRows.lean that lists a variable, with what it lists TIED to the program's text (the seventh form; the later family's looks); each row that meets fmt, with fmt's text TOLD by the authors' own Lean function (tested against real Go, not proved from fmt's source: count such statements apart). THE CARD IS WHAT COUNTS. Prove the row's statement (the work); the ties are given (YthfonahbjiobcaaDoorTie.lean); close each card by the builder's one call (the guide's Derived/Test/ToyasCard.lean, 'card_holds'). Laid BY PROGRAM, IN A SANDBOX (cutbox-door.mjs). By AI agents, Wed Nov 11 2026. No macro, syntax, notation, axiom, sorry.
-/
import Derived.Test.YthfonahbjiobcaaDoorRows
import GoSem.ClaimSeven
namespace Go.Proofs.YthfonahbjiobcaaDoor
namespace Rows

/-- THE TIED CARD OF 'demonlaw3.ChannelFano'. -/
def channelFanoCard : Claim7 := { stood := { row := channelFanoRow, standIns := [], harness := (true, "32e25c046d829bd09a477a0a95e881b551a87c1d5189c202ce492014c673faa8"), looks := true }, kinds := [], alts := [], laidByText := true, laidKinds := [.sentinel, .sentinel], laidTests := true, laidLooks := .later }
def ChannelFanoCardSaid : Prop := Claim7.holds Tryd.pinned (.plain (OpenSpec.ofChange channelFanoSpec)) channelFanoCard

/-- THE SECOND FORM's CARD OF 'demonlaw3.ChannelFano'. -/
def channelFanoUptoCard : Claim7 := { stood := { row := channelFanoUptoRow, standIns := [], harness := (true, "32e25c046d829bd09a477a0a95e881b551a87c1d5189c202ce492014c673faa8"), looks := true }, kinds := [], alts := [], laidByText := true, laidKinds := [.sentinel, .sentinel], laidTests := true, laidLooks := .later }
def ChannelFanoUptoCardSaid : Prop := Claim7.holds Tryd.pinned (.plain (OpenSpec.upto channelFanoSpec)) channelFanoUptoCard
end Rows
end Go.Proofs.YthfonahbjiobcaaDoor
