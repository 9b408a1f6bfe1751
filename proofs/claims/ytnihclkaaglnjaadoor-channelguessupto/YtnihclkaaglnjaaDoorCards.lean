/-
  DERIVED. GIVEN WITH THE SEED: THE CARDS: each row of YtnihclkaaglnjaaDoorRows.lean that lists a variable, with what it lists TIED to the program's text (the seventh form; the later family's looks); each row that meets fmt, with fmt's text TOLD by the authors' own Lean function (tested against real Go, not proved from fmt's source: count such statements apart). THE CARD IS WHAT COUNTS. Prove the row's statement (the work); the ties are given (YtnihclkaaglnjaaDoorTie.lean); close each card by the builder's one call (the guide's Derived/Test/ToyasCard.lean, 'card_holds'). Laid BY PROGRAM, IN A SANDBOX (cutbox-door.mjs). By AI agents, Wed Nov 11 2026. No macro, syntax, notation, axiom, sorry.
-/
import Derived.Test.YtnihclkaaglnjaaDoorRows
import GoSem.ClaimSeven
namespace Go.Proofs.YtnihclkaaglnjaaDoor
namespace Rows

/-- THE TIED CARD OF 'demonlaw3.ChannelValid'. -/
def channelValidCard : Claim7 := { stood := { row := channelValidRow, standIns := [], harness := (true, "166a20c577f7ac5575ee454c85541cb91bb2468935347529b0aadafafc47eed5"), looks := true }, kinds := [], alts := [], laidByText := true, laidKinds := [.handle, .sentinel, .sentinel, .sentinel, .sentinel, .sentinel, .sentinel, .sentinel, .sentinel], laidTests := true, laidLooks := .later }
def ChannelValidCardSaid : Prop := Claim7.holds Tryd.pinned (.plain (OpenSpec.ofChange channelValidSpec)) channelValidCard

/-- THE TIED CARD OF 'demonlaw3.ChannelTable'. -/
def channelTableCard : Claim7 := { stood := { row := channelTableRow, standIns := [], harness := (true, "166a20c577f7ac5575ee454c85541cb91bb2468935347529b0aadafafc47eed5"), looks := true }, kinds := [], alts := [], laidByText := true, laidKinds := [.handle, .sentinel, .sentinel, .sentinel, .sentinel, .sentinel, .sentinel, .sentinel, .sentinel], laidTests := true, laidLooks := .later }
def ChannelTableCardSaid : Prop := Claim7.holds Tryd.pinned (.plain (OpenSpec.ofChange channelTableSpec)) channelTableCard

/-- THE TIED CARD OF 'demonlaw3.ChannelGuess'. -/
def channelGuessCard : Claim7 := { stood := { row := channelGuessRow, standIns := [], harness := (true, "166a20c577f7ac5575ee454c85541cb91bb2468935347529b0aadafafc47eed5"), looks := true }, kinds := [], alts := [], laidByText := true, laidKinds := [.handle, .sentinel, .sentinel, .sentinel, .sentinel, .sentinel, .sentinel, .sentinel, .sentinel], laidTests := true, laidLooks := .later }
def ChannelGuessCardSaid : Prop := Claim7.holds Tryd.pinned (.plain (OpenSpec.ofChange channelGuessSpec)) channelGuessCard

/-- THE SECOND FORM's CARD OF 'demonlaw3.ChannelValid'. -/
def channelValidUptoCard : Claim7 := { stood := { row := channelValidUptoRow, standIns := [], harness := (true, "166a20c577f7ac5575ee454c85541cb91bb2468935347529b0aadafafc47eed5"), looks := true }, kinds := [], alts := [], laidByText := true, laidKinds := [.handle, .sentinel, .sentinel, .sentinel, .sentinel, .sentinel, .sentinel, .sentinel, .sentinel], laidTests := true, laidLooks := .later }
def ChannelValidUptoCardSaid : Prop := Claim7.holds Tryd.pinned (.plain (OpenSpec.upto channelValidSpec)) channelValidUptoCard

/-- THE SECOND FORM's CARD OF 'demonlaw3.ChannelTable'. -/
def channelTableUptoCard : Claim7 := { stood := { row := channelTableUptoRow, standIns := [], harness := (true, "166a20c577f7ac5575ee454c85541cb91bb2468935347529b0aadafafc47eed5"), looks := true }, kinds := [], alts := [], laidByText := true, laidKinds := [.handle, .sentinel, .sentinel, .sentinel, .sentinel, .sentinel, .sentinel, .sentinel, .sentinel], laidTests := true, laidLooks := .later }
def ChannelTableUptoCardSaid : Prop := Claim7.holds Tryd.pinned (.plain (OpenSpec.upto channelTableSpec)) channelTableUptoCard

/-- THE SECOND FORM's CARD OF 'demonlaw3.ChannelGuess'. -/
def channelGuessUptoCard : Claim7 := { stood := { row := channelGuessUptoRow, standIns := [], harness := (true, "166a20c577f7ac5575ee454c85541cb91bb2468935347529b0aadafafc47eed5"), looks := true }, kinds := [], alts := [], laidByText := true, laidKinds := [.handle, .sentinel, .sentinel, .sentinel, .sentinel, .sentinel, .sentinel, .sentinel, .sentinel], laidTests := true, laidLooks := .later }
def ChannelGuessUptoCardSaid : Prop := Claim7.holds Tryd.pinned (.plain (OpenSpec.upto channelGuessSpec)) channelGuessUptoCard
end Rows
end Go.Proofs.YtnihclkaaglnjaaDoor
