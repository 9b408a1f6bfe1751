/-
  DERIVED. GIVEN WITH THE SEED: THE CARDS: each row of YtgklaadkglbclaaDoorRows.lean that lists a variable, with what it lists TIED to the program's text (the seventh form; the later family's looks); each row that meets fmt, with fmt's text TOLD by the authors' own Lean function (tested against real Go, not proved from fmt's source: count such statements apart). THE CARD IS WHAT COUNTS. Prove the row's statement (the work); the ties are given (YtgklaadkglbclaaDoorTie.lean); close each card by the builder's one call (the guide's Derived/Test/ToyasCard.lean, 'card_holds'). Laid BY PROGRAM, IN A SANDBOX (cutbox-door.mjs). By AI agents, Wed Nov 11 2026. No macro, syntax, notation, axiom, sorry.
-/
import Derived.Test.YtgklaadkglbclaaDoorRows
import GoSem.ClaimSeven
namespace Go.Proofs.YtgklaadkglbclaaDoor
namespace Rows

/-- THE TIED CARD OF 'demonlaw3.SecretPerfect'. -/
def secretPerfectCard : Claim7 := { stood := { row := secretPerfectRow, standIns := [], harness := (true, "f49e93a95efc851b0d3c53f14a99f2605c3d0c35589ef2a09beaae62eb60586a"), looks := true }, kinds := [], alts := [], laidByText := true, laidKinds := [.handle, .sentinel, .sentinel, .sentinel, .sentinel, .sentinel, .sentinel, .sentinel, .sentinel], laidTests := true, laidLooks := .later }
def SecretPerfectCardSaid : Prop := Claim7.holds Tryd.pinned (.plain (OpenSpec.ofChange secretPerfectSpec)) secretPerfectCard

/-- THE TIED CARD OF 'demonlaw3.SecretShare'. -/
def secretShareCard : Claim7 := { stood := { row := secretShareRow, standIns := [], harness := (true, "f49e93a95efc851b0d3c53f14a99f2605c3d0c35589ef2a09beaae62eb60586a"), looks := true }, kinds := [], alts := [], laidByText := true, laidKinds := [.handle, .sentinel, .sentinel, .sentinel, .sentinel, .sentinel, .sentinel, .sentinel, .sentinel], laidTests := true, laidLooks := .later }
def SecretShareCardSaid : Prop := Claim7.holds Tryd.pinned (.plain (OpenSpec.ofChange secretShareSpec)) secretShareCard

/-- THE TIED CARD OF 'demonlaw3.SecretJoin'. -/
def secretJoinCard : Claim7 := { stood := { row := secretJoinRow, standIns := [], harness := (true, "f49e93a95efc851b0d3c53f14a99f2605c3d0c35589ef2a09beaae62eb60586a"), looks := true }, kinds := [], alts := [], laidByText := true, laidKinds := [.handle, .sentinel, .sentinel, .sentinel, .sentinel, .sentinel, .sentinel, .sentinel, .sentinel], laidTests := true, laidLooks := .later }
def SecretJoinCardSaid : Prop := Claim7.holds Tryd.pinned (.plain (OpenSpec.ofChange secretJoinSpec)) secretJoinCard

/-- THE TIED CARD OF 'demonlaw3.SecretShamir'. -/
def secretShamirCard : Claim7 := { stood := { row := secretShamirRow, standIns := [], harness := (true, "f49e93a95efc851b0d3c53f14a99f2605c3d0c35589ef2a09beaae62eb60586a"), looks := true }, kinds := [], alts := [], laidByText := true, laidKinds := [.sentinel, .sentinel, .sentinel], laidTests := true, laidLooks := .later }
def SecretShamirCardSaid : Prop := Claim7.holds Tryd.pinned (.plain (OpenSpec.ofChange secretShamirSpec)) secretShamirCard

/-- THE SECOND FORM's CARD OF 'demonlaw3.SecretPerfect'. -/
def secretPerfectUptoCard : Claim7 := { stood := { row := secretPerfectUptoRow, standIns := [], harness := (true, "f49e93a95efc851b0d3c53f14a99f2605c3d0c35589ef2a09beaae62eb60586a"), looks := true }, kinds := [], alts := [], laidByText := true, laidKinds := [.handle, .sentinel, .sentinel, .sentinel, .sentinel, .sentinel, .sentinel, .sentinel, .sentinel], laidTests := true, laidLooks := .later }
def SecretPerfectUptoCardSaid : Prop := Claim7.holds Tryd.pinned (.plain (OpenSpec.upto secretPerfectSpec)) secretPerfectUptoCard

/-- THE SECOND FORM's CARD OF 'demonlaw3.SecretShare'. -/
def secretShareUptoCard : Claim7 := { stood := { row := secretShareUptoRow, standIns := [], harness := (true, "f49e93a95efc851b0d3c53f14a99f2605c3d0c35589ef2a09beaae62eb60586a"), looks := true }, kinds := [], alts := [], laidByText := true, laidKinds := [.handle, .sentinel, .sentinel, .sentinel, .sentinel, .sentinel, .sentinel, .sentinel, .sentinel], laidTests := true, laidLooks := .later }
def SecretShareUptoCardSaid : Prop := Claim7.holds Tryd.pinned (.plain (OpenSpec.upto secretShareSpec)) secretShareUptoCard

/-- THE SECOND FORM's CARD OF 'demonlaw3.SecretJoin'. -/
def secretJoinUptoCard : Claim7 := { stood := { row := secretJoinUptoRow, standIns := [], harness := (true, "f49e93a95efc851b0d3c53f14a99f2605c3d0c35589ef2a09beaae62eb60586a"), looks := true }, kinds := [], alts := [], laidByText := true, laidKinds := [.handle, .sentinel, .sentinel, .sentinel, .sentinel, .sentinel, .sentinel, .sentinel, .sentinel], laidTests := true, laidLooks := .later }
def SecretJoinUptoCardSaid : Prop := Claim7.holds Tryd.pinned (.plain (OpenSpec.upto secretJoinSpec)) secretJoinUptoCard

/-- THE SECOND FORM's CARD OF 'demonlaw3.SecretShamir'. -/
def secretShamirUptoCard : Claim7 := { stood := { row := secretShamirUptoRow, standIns := [], harness := (true, "f49e93a95efc851b0d3c53f14a99f2605c3d0c35589ef2a09beaae62eb60586a"), looks := true }, kinds := [], alts := [], laidByText := true, laidKinds := [.sentinel, .sentinel, .sentinel], laidTests := true, laidLooks := .later }
def SecretShamirUptoCardSaid : Prop := Claim7.holds Tryd.pinned (.plain (OpenSpec.upto secretShamirSpec)) secretShamirUptoCard
end Rows
end Go.Proofs.YtgklaadkglbclaaDoor
