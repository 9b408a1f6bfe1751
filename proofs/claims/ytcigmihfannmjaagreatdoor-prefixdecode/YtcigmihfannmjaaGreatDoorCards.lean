/-
  DERIVED. GIVEN WITH THE SEED: THE CARDS: each row of YtcigmihfannmjaaGreatDoorRows.lean that lists a variable, with what it lists TIED to the program's text (the seventh form; the later family's looks); each row that meets fmt, with fmt's text TOLD by the authors' own Lean function (tested against real Go, not proved from fmt's source: count such statements apart). THE CARD IS WHAT COUNTS. Prove the row's statement (the work); the ties are given (YtcigmihfannmjaaGreatDoorTie.lean); close each card by the builder's one call (the guide's Derived/Test/ToyasCard.lean, 'card_holds'). Laid BY PROGRAM, IN A SANDBOX (cutbox-door.mjs). By AI agents, Wed Nov 11 2026. No macro, syntax, notation, axiom, sorry.
-/
import Derived.Test.YtcigmihfannmjaaGreatDoorRows
import GoSem.ClaimSeven
namespace Go.Proofs.YtcigmihfannmjaaGreatDoor
namespace Rows

/-- THE TIED CARD OF 'demonlaw2.PrefixValid'. -/
def prefixValidCard : Claim7 := { stood := { row := prefixValidRow, standIns := [], harness := (true, "7281081bf35bd8fae57db1fa5724967f768873b2e322368b8092d50e179d4794"), looks := true }, kinds := [], alts := [], laidByText := true, laidKinds := [.data, .data, .data, .data, .handle, .sentinel, .sentinel, .sentinel, .sentinel, .sentinel, .sentinel, .sentinel, .sentinel, .pinned], laidTests := true, laidLooks := .later }
def PrefixValidCardSaid : Prop := Claim7.holds Tryz.pinned (.plain (OpenSpec.ofChange prefixValidSpec)) prefixValidCard

/-- THE TIED CARD OF 'demonlaw2.PrefixUnique'. -/
def prefixUniqueCard : Claim7 := { stood := { row := prefixUniqueRow, standIns := [], harness := (true, "7281081bf35bd8fae57db1fa5724967f768873b2e322368b8092d50e179d4794"), looks := true }, kinds := [], alts := [], laidByText := true, laidKinds := [.data, .data, .data, .data, .handle, .sentinel, .sentinel, .sentinel, .sentinel, .sentinel, .sentinel, .sentinel, .sentinel, .pinned], laidTests := true, laidLooks := .later }
def PrefixUniqueCardSaid : Prop := Claim7.holds Tryz.pinned (.plain (OpenSpec.ofChange prefixUniqueSpec)) prefixUniqueCard

/-- THE TIED CARD OF 'demonlaw2.PrefixDecode'. -/
def prefixDecodeCard : Claim7 := { stood := { row := prefixDecodeRow, standIns := [], harness := (true, "7281081bf35bd8fae57db1fa5724967f768873b2e322368b8092d50e179d4794"), looks := true }, kinds := [], alts := [], laidByText := true, laidKinds := [.data, .data, .data, .data, .handle, .sentinel, .sentinel, .sentinel, .sentinel, .sentinel, .sentinel, .sentinel, .sentinel, .pinned], laidTests := true, laidLooks := .later }
def PrefixDecodeCardSaid : Prop := Claim7.holds Tryz.pinned (.plain (OpenSpec.ofChange prefixDecodeSpec)) prefixDecodeCard

/-- THE SECOND FORM's CARD OF 'demonlaw2.PrefixValid'. -/
def prefixValidUptoCard : Claim7 := { stood := { row := prefixValidUptoRow, standIns := [], harness := (true, "7281081bf35bd8fae57db1fa5724967f768873b2e322368b8092d50e179d4794"), looks := true }, kinds := [], alts := [], laidByText := true, laidKinds := [.data, .data, .data, .data, .handle, .sentinel, .sentinel, .sentinel, .sentinel, .sentinel, .sentinel, .sentinel, .sentinel, .pinned], laidTests := true, laidLooks := .later }
def PrefixValidUptoCardSaid : Prop := Claim7.holds Tryz.pinned (.plain (OpenSpec.upto prefixValidSpec)) prefixValidUptoCard

/-- THE SECOND FORM's CARD OF 'demonlaw2.PrefixUnique'. -/
def prefixUniqueUptoCard : Claim7 := { stood := { row := prefixUniqueUptoRow, standIns := [], harness := (true, "7281081bf35bd8fae57db1fa5724967f768873b2e322368b8092d50e179d4794"), looks := true }, kinds := [], alts := [], laidByText := true, laidKinds := [.data, .data, .data, .data, .handle, .sentinel, .sentinel, .sentinel, .sentinel, .sentinel, .sentinel, .sentinel, .sentinel, .pinned], laidTests := true, laidLooks := .later }
def PrefixUniqueUptoCardSaid : Prop := Claim7.holds Tryz.pinned (.plain (OpenSpec.upto prefixUniqueSpec)) prefixUniqueUptoCard

/-- THE SECOND FORM's CARD OF 'demonlaw2.PrefixDecode'. -/
def prefixDecodeUptoCard : Claim7 := { stood := { row := prefixDecodeUptoRow, standIns := [], harness := (true, "7281081bf35bd8fae57db1fa5724967f768873b2e322368b8092d50e179d4794"), looks := true }, kinds := [], alts := [], laidByText := true, laidKinds := [.data, .data, .data, .data, .handle, .sentinel, .sentinel, .sentinel, .sentinel, .sentinel, .sentinel, .sentinel, .sentinel, .pinned], laidTests := true, laidLooks := .later }
def PrefixDecodeUptoCardSaid : Prop := Claim7.holds Tryz.pinned (.plain (OpenSpec.upto prefixDecodeSpec)) prefixDecodeUptoCard
end Rows
end Go.Proofs.YtcigmihfannmjaaGreatDoor
