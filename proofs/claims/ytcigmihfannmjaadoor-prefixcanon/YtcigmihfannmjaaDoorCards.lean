/-
  DERIVED. GIVEN WITH THE SEED: THE CARDS: each row of YtcigmihfannmjaaDoorRows.lean that lists a variable, with what it lists TIED to the program's text (the seventh form; the later family's looks); each row that meets fmt, with fmt's text TOLD by the authors' own Lean function (tested against real Go, not proved from fmt's source: count such statements apart). THE CARD IS WHAT COUNTS. Prove the row's statement (the work); the ties are given (YtcigmihfannmjaaDoorTie.lean); close each card by the builder's one call (the guide's Derived/Test/ToyasCard.lean, 'card_holds'). Laid BY PROGRAM, IN A SANDBOX (cutbox-door.mjs). By AI agents, Wed Nov 11 2026. No macro, syntax, notation, axiom, sorry.
-/
import Derived.Test.YtcigmihfannmjaaDoorRows
import GoSem.ClaimSeven
namespace Go.Proofs.YtcigmihfannmjaaDoor
namespace Rows

/-- THE TIED CARD OF 'demonlaw2.PrefixMcMillan'. -/
def prefixMcMillanCard : Claim7 := { stood := { row := prefixMcMillanRow, standIns := [], harness := (true, "82a12901643e8a9320724319a29d479d17f524e89f3d78c9c0c1f76f032a6302"), looks := true }, kinds := [], alts := [], laidByText := true, laidKinds := [.data, .data, .data, .data, .sentinel, .sentinel, .sentinel, .sentinel, .pinned], laidTests := true, laidLooks := .later }
def PrefixMcMillanCardSaid : Prop := Claim7.holds Tryd.pinned (.plain (OpenSpec.ofChange prefixMcMillanSpec)) prefixMcMillanCard

/-- THE TIED CARD OF 'demonlaw2.PrefixKraft'. -/
def prefixKraftCard : Claim7 := { stood := { row := prefixKraftRow, standIns := [], harness := (true, "82a12901643e8a9320724319a29d479d17f524e89f3d78c9c0c1f76f032a6302"), looks := true }, kinds := [], alts := [], laidByText := true, laidKinds := [.data, .data, .data, .handle, .sentinel, .sentinel, .sentinel, .sentinel, .sentinel, .sentinel, .sentinel, .sentinel], laidTests := true, laidLooks := .later }
def PrefixKraftCardSaid : Prop := Claim7.holds Tryd.pinned (.plain (OpenSpec.ofChange prefixKraftSpec)) prefixKraftCard

/-- THE TIED CARD OF 'demonlaw2.PrefixCanon'. -/
def prefixCanonCard : Claim7 := { stood := { row := prefixCanonRow, standIns := [], harness := (true, "82a12901643e8a9320724319a29d479d17f524e89f3d78c9c0c1f76f032a6302"), looks := true }, kinds := [], alts := [], laidByText := true, laidKinds := [.data, .data, .data, .handle, .sentinel, .sentinel, .sentinel, .sentinel, .sentinel, .sentinel, .sentinel, .sentinel], laidTests := true, laidLooks := .later }
def PrefixCanonCardSaid : Prop := Claim7.holds Tryd.pinned (.plain (OpenSpec.ofChange prefixCanonSpec)) prefixCanonCard

/-- THE SECOND FORM's CARD OF 'demonlaw2.PrefixMcMillan'. -/
def prefixMcMillanUptoCard : Claim7 := { stood := { row := prefixMcMillanUptoRow, standIns := [], harness := (true, "82a12901643e8a9320724319a29d479d17f524e89f3d78c9c0c1f76f032a6302"), looks := true }, kinds := [], alts := [], laidByText := true, laidKinds := [.data, .data, .data, .data, .sentinel, .sentinel, .sentinel, .sentinel, .pinned], laidTests := true, laidLooks := .later }
def PrefixMcMillanUptoCardSaid : Prop := Claim7.holds Tryd.pinned (.plain (OpenSpec.upto prefixMcMillanSpec)) prefixMcMillanUptoCard

/-- THE SECOND FORM's CARD OF 'demonlaw2.PrefixKraft'. -/
def prefixKraftUptoCard : Claim7 := { stood := { row := prefixKraftUptoRow, standIns := [], harness := (true, "82a12901643e8a9320724319a29d479d17f524e89f3d78c9c0c1f76f032a6302"), looks := true }, kinds := [], alts := [], laidByText := true, laidKinds := [.data, .data, .data, .handle, .sentinel, .sentinel, .sentinel, .sentinel, .sentinel, .sentinel, .sentinel, .sentinel], laidTests := true, laidLooks := .later }
def PrefixKraftUptoCardSaid : Prop := Claim7.holds Tryd.pinned (.plain (OpenSpec.upto prefixKraftSpec)) prefixKraftUptoCard

/-- THE SECOND FORM's CARD OF 'demonlaw2.PrefixCanon'. -/
def prefixCanonUptoCard : Claim7 := { stood := { row := prefixCanonUptoRow, standIns := [], harness := (true, "82a12901643e8a9320724319a29d479d17f524e89f3d78c9c0c1f76f032a6302"), looks := true }, kinds := [], alts := [], laidByText := true, laidKinds := [.data, .data, .data, .handle, .sentinel, .sentinel, .sentinel, .sentinel, .sentinel, .sentinel, .sentinel, .sentinel], laidTests := true, laidLooks := .later }
def PrefixCanonUptoCardSaid : Prop := Claim7.holds Tryd.pinned (.plain (OpenSpec.upto prefixCanonSpec)) prefixCanonUptoCard
end Rows
end Go.Proofs.YtcigmihfannmjaaDoor
