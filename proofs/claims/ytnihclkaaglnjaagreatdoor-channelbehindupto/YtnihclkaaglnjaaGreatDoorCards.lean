/-
  DERIVED. GIVEN WITH THE SEED: THE CARDS: each row of YtnihclkaaglnjaaGreatDoorRows.lean that lists a variable, with what it lists TIED to the program's text (the seventh form; the later family's looks); each row that meets fmt, with fmt's text TOLD by the authors' own Lean function (tested against real Go, not proved from fmt's source: count such statements apart). THE CARD IS WHAT COUNTS. Prove the row's statement (the work); the ties are given (YtnihclkaaglnjaaGreatDoorTie.lean); close each card by the builder's one call (the guide's Derived/Test/ToyasCard.lean, 'card_holds'). Laid BY PROGRAM, IN A SANDBOX (cutbox-door.mjs). By AI agents, Wed Nov 11 2026. No macro, syntax, notation, axiom, sorry.
-/
import Derived.Test.YtnihclkaaglnjaaGreatDoorRows
import GoSem.ClaimSeven
namespace Go.Proofs.YtnihclkaaglnjaaGreatDoor
namespace Rows

/-- THE TIED CARD OF 'demonlaw3.ChannelBehind'. -/
def channelBehindCard : Claim7 := { stood := { row := channelBehindRow, standIns := [], harness := (true, "d2c181f02d82dbe17a37d48db1af248b6a1618f36671b65b06b33cee4c21e967"), looks := true }, kinds := [], alts := [], laidByText := true, laidKinds := [.handle, .sentinel, .sentinel, .sentinel, .sentinel, .sentinel, .sentinel, .sentinel, .sentinel], laidTests := true, laidLooks := .later }
def ChannelBehindCardSaid : Prop := Claim7.holds Tryz.pinned (.plain (OpenSpec.ofChange channelBehindSpec)) channelBehindCard

/-- THE SECOND FORM's CARD OF 'demonlaw3.ChannelBehind'. -/
def channelBehindUptoCard : Claim7 := { stood := { row := channelBehindUptoRow, standIns := [], harness := (true, "d2c181f02d82dbe17a37d48db1af248b6a1618f36671b65b06b33cee4c21e967"), looks := true }, kinds := [], alts := [], laidByText := true, laidKinds := [.handle, .sentinel, .sentinel, .sentinel, .sentinel, .sentinel, .sentinel, .sentinel, .sentinel], laidTests := true, laidLooks := .later }
def ChannelBehindUptoCardSaid : Prop := Claim7.holds Tryz.pinned (.plain (OpenSpec.upto channelBehindSpec)) channelBehindUptoCard
end Rows
end Go.Proofs.YtnihclkaaglnjaaGreatDoor
