/-
  DERIVED. GIVEN WITH THE SEED: THE CARDS: each row of YtphecjjblnnjdaaGreatDoorRows.lean that lists a variable, with what it lists TIED to the program's text (the seventh form; the later family's looks); each row that meets fmt, with fmt's text TOLD by the authors' own Lean function (tested against real Go, not proved from fmt's source: count such statements apart). THE CARD IS WHAT COUNTS. Prove the row's statement (the work); the ties are given (YtphecjjblnnjdaaGreatDoorTie.lean); close each card by the builder's one call (the guide's Derived/Test/ToyasCard.lean, 'card_holds'). Laid BY PROGRAM, IN A SANDBOX (cutbox-door.mjs). By AI agents, Wed Nov 11 2026. No macro, syntax, notation, axiom, sorry.
-/
import Derived.Test.YtphecjjblnnjdaaGreatDoorRows
import GoSem.ClaimSeven
namespace Go.Proofs.YtphecjjblnnjdaaGreatDoor
namespace Rows

/-- THE TIED CARD OF 'demonlaw3.ChannelThrough'. -/
def channelThroughCard : Claim7 := { stood := { row := channelThroughRow, standIns := [], harness := (true, "1f495c4f00391052b0828842bb82fbf78b0924eb042234aeafef98e2dc1fb79b"), looks := true }, kinds := [], alts := [], laidByText := true, laidKinds := [.handle, .sentinel, .sentinel, .sentinel, .sentinel, .sentinel, .sentinel, .sentinel, .sentinel], laidTests := true, laidLooks := .later }
def ChannelThroughCardSaid : Prop := Claim7.holds Tryz.pinned (.plain (OpenSpec.ofChange channelThroughSpec)) channelThroughCard

/-- THE TIED CARD OF 'demonlaw3.ChannelEven'. -/
def channelEvenCard : Claim7 := { stood := { row := channelEvenRow, standIns := [], harness := (true, "1f495c4f00391052b0828842bb82fbf78b0924eb042234aeafef98e2dc1fb79b"), looks := true }, kinds := [], alts := [], laidByText := true, laidKinds := [.handle, .sentinel, .sentinel, .sentinel, .sentinel, .sentinel, .sentinel, .sentinel, .sentinel], laidTests := true, laidLooks := .later }
def ChannelEvenCardSaid : Prop := Claim7.holds Tryz.pinned (.plain (OpenSpec.ofChange channelEvenSpec)) channelEvenCard

/-- THE TIED CARD OF 'demonlaw3.ChannelAbove'. -/
def channelAboveCard : Claim7 := { stood := { row := channelAboveRow, standIns := [], harness := (true, "1f495c4f00391052b0828842bb82fbf78b0924eb042234aeafef98e2dc1fb79b"), looks := true }, kinds := [], alts := [], laidByText := true, laidKinds := [.handle, .sentinel, .sentinel, .sentinel, .sentinel, .sentinel, .sentinel, .sentinel, .sentinel], laidTests := true, laidLooks := .later }
def ChannelAboveCardSaid : Prop := Claim7.holds Tryz.pinned (.plain (OpenSpec.ofChange channelAboveSpec)) channelAboveCard

/-- THE TIED CARD OF 'demonlaw3.ChannelReached'. -/
def channelReachedCard : Claim7 := { stood := { row := channelReachedRow, standIns := [], harness := (true, "1f495c4f00391052b0828842bb82fbf78b0924eb042234aeafef98e2dc1fb79b"), looks := true }, kinds := [], alts := [], laidByText := true, laidKinds := [.handle, .sentinel, .sentinel, .sentinel, .sentinel, .sentinel, .sentinel, .sentinel, .sentinel], laidTests := true, laidLooks := .later }
def ChannelReachedCardSaid : Prop := Claim7.holds Tryz.pinned (.plain (OpenSpec.ofChange channelReachedSpec)) channelReachedCard

/-- THE SECOND FORM's CARD OF 'demonlaw3.ChannelThrough'. -/
def channelThroughUptoCard : Claim7 := { stood := { row := channelThroughUptoRow, standIns := [], harness := (true, "1f495c4f00391052b0828842bb82fbf78b0924eb042234aeafef98e2dc1fb79b"), looks := true }, kinds := [], alts := [], laidByText := true, laidKinds := [.handle, .sentinel, .sentinel, .sentinel, .sentinel, .sentinel, .sentinel, .sentinel, .sentinel], laidTests := true, laidLooks := .later }
def ChannelThroughUptoCardSaid : Prop := Claim7.holds Tryz.pinned (.plain (OpenSpec.upto channelThroughSpec)) channelThroughUptoCard

/-- THE SECOND FORM's CARD OF 'demonlaw3.ChannelEven'. -/
def channelEvenUptoCard : Claim7 := { stood := { row := channelEvenUptoRow, standIns := [], harness := (true, "1f495c4f00391052b0828842bb82fbf78b0924eb042234aeafef98e2dc1fb79b"), looks := true }, kinds := [], alts := [], laidByText := true, laidKinds := [.handle, .sentinel, .sentinel, .sentinel, .sentinel, .sentinel, .sentinel, .sentinel, .sentinel], laidTests := true, laidLooks := .later }
def ChannelEvenUptoCardSaid : Prop := Claim7.holds Tryz.pinned (.plain (OpenSpec.upto channelEvenSpec)) channelEvenUptoCard

/-- THE SECOND FORM's CARD OF 'demonlaw3.ChannelAbove'. -/
def channelAboveUptoCard : Claim7 := { stood := { row := channelAboveUptoRow, standIns := [], harness := (true, "1f495c4f00391052b0828842bb82fbf78b0924eb042234aeafef98e2dc1fb79b"), looks := true }, kinds := [], alts := [], laidByText := true, laidKinds := [.handle, .sentinel, .sentinel, .sentinel, .sentinel, .sentinel, .sentinel, .sentinel, .sentinel], laidTests := true, laidLooks := .later }
def ChannelAboveUptoCardSaid : Prop := Claim7.holds Tryz.pinned (.plain (OpenSpec.upto channelAboveSpec)) channelAboveUptoCard

/-- THE SECOND FORM's CARD OF 'demonlaw3.ChannelReached'. -/
def channelReachedUptoCard : Claim7 := { stood := { row := channelReachedUptoRow, standIns := [], harness := (true, "1f495c4f00391052b0828842bb82fbf78b0924eb042234aeafef98e2dc1fb79b"), looks := true }, kinds := [], alts := [], laidByText := true, laidKinds := [.handle, .sentinel, .sentinel, .sentinel, .sentinel, .sentinel, .sentinel, .sentinel, .sentinel], laidTests := true, laidLooks := .later }
def ChannelReachedUptoCardSaid : Prop := Claim7.holds Tryz.pinned (.plain (OpenSpec.upto channelReachedSpec)) channelReachedUptoCard
end Rows
end Go.Proofs.YtphecjjblnnjdaaGreatDoor
