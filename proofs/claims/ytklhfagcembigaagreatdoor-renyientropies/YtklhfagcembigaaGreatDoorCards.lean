/-
  DERIVED. GIVEN WITH THE SEED: THE CARDS: each row of YtklhfagcembigaaGreatDoorRows.lean that lists a variable, with what it lists TIED to the program's text (the seventh form; the later family's looks); each row that meets fmt, with fmt's text TOLD by the authors' own Lean function (tested against real Go, not proved from fmt's source: count such statements apart). THE CARD IS WHAT COUNTS. Prove the row's statement (the work); the ties are given (YtklhfagcembigaaGreatDoorTie.lean); close each card by the builder's one call (the guide's Derived/Test/ToyasCard.lean, 'card_holds'). Laid BY PROGRAM, IN A SANDBOX (cutbox-door.mjs). By AI agents, Wed Nov 11 2026. No macro, syntax, notation, axiom, sorry.
-/
import Derived.Test.YtklhfagcembigaaGreatDoorRows
import GoSem.ClaimSeven
namespace Go.Proofs.YtklhfagcembigaaGreatDoor
namespace Rows

/-- THE TIED CARD OF 'demonlaw5.RenyiEntropies'. -/
def renyiEntropiesCard : Claim7 := { stood := { row := renyiEntropiesRow, standIns := [], harness := (true, "1762d4dc254fecaea8eb72b7f25e2c65e5289c361300197a81a38f147ed56daf"), looks := true }, kinds := [], alts := [], laidByText := true, laidKinds := [.handle, .sentinel, .sentinel, .sentinel, .sentinel, .sentinel, .sentinel, .sentinel, .sentinel], laidTests := true, laidLooks := .later }
def RenyiEntropiesCardSaid : Prop := Claim7.holds Tryz.pinned (.plain (OpenSpec.ofChange renyiEntropiesSpec)) renyiEntropiesCard

/-- THE TIED CARD OF 'demonlaw5.RenyiOrder'. -/
def renyiOrderCard : Claim7 := { stood := { row := renyiOrderRow, standIns := [], harness := (true, "1762d4dc254fecaea8eb72b7f25e2c65e5289c361300197a81a38f147ed56daf"), looks := true }, kinds := [], alts := [], laidByText := true, laidKinds := [.handle, .sentinel, .sentinel, .sentinel, .sentinel, .sentinel, .sentinel, .sentinel, .sentinel], laidTests := true, laidLooks := .later }
def RenyiOrderCardSaid : Prop := Claim7.holds Tryz.pinned (.plain (OpenSpec.ofChange renyiOrderSpec)) renyiOrderCard

/-- THE TIED CARD OF 'demonlaw5.RenyiMassey'. -/
def renyiMasseyCard : Claim7 := { stood := { row := renyiMasseyRow, standIns := [], harness := (true, "1762d4dc254fecaea8eb72b7f25e2c65e5289c361300197a81a38f147ed56daf"), looks := true }, kinds := [], alts := [], laidByText := true, laidKinds := [.handle, .sentinel, .sentinel, .sentinel, .sentinel, .sentinel, .sentinel, .sentinel, .sentinel], laidTests := true, laidLooks := .later }
def RenyiMasseyCardSaid : Prop := Claim7.holds Tryz.pinned (.plain (OpenSpec.ofChange renyiMasseySpec)) renyiMasseyCard

/-- THE SECOND FORM's CARD OF 'demonlaw5.RenyiEntropies'. -/
def renyiEntropiesUptoCard : Claim7 := { stood := { row := renyiEntropiesUptoRow, standIns := [], harness := (true, "1762d4dc254fecaea8eb72b7f25e2c65e5289c361300197a81a38f147ed56daf"), looks := true }, kinds := [], alts := [], laidByText := true, laidKinds := [.handle, .sentinel, .sentinel, .sentinel, .sentinel, .sentinel, .sentinel, .sentinel, .sentinel], laidTests := true, laidLooks := .later }
def RenyiEntropiesUptoCardSaid : Prop := Claim7.holds Tryz.pinned (.plain (OpenSpec.upto renyiEntropiesSpec)) renyiEntropiesUptoCard

/-- THE SECOND FORM's CARD OF 'demonlaw5.RenyiOrder'. -/
def renyiOrderUptoCard : Claim7 := { stood := { row := renyiOrderUptoRow, standIns := [], harness := (true, "1762d4dc254fecaea8eb72b7f25e2c65e5289c361300197a81a38f147ed56daf"), looks := true }, kinds := [], alts := [], laidByText := true, laidKinds := [.handle, .sentinel, .sentinel, .sentinel, .sentinel, .sentinel, .sentinel, .sentinel, .sentinel], laidTests := true, laidLooks := .later }
def RenyiOrderUptoCardSaid : Prop := Claim7.holds Tryz.pinned (.plain (OpenSpec.upto renyiOrderSpec)) renyiOrderUptoCard

/-- THE SECOND FORM's CARD OF 'demonlaw5.RenyiMassey'. -/
def renyiMasseyUptoCard : Claim7 := { stood := { row := renyiMasseyUptoRow, standIns := [], harness := (true, "1762d4dc254fecaea8eb72b7f25e2c65e5289c361300197a81a38f147ed56daf"), looks := true }, kinds := [], alts := [], laidByText := true, laidKinds := [.handle, .sentinel, .sentinel, .sentinel, .sentinel, .sentinel, .sentinel, .sentinel, .sentinel], laidTests := true, laidLooks := .later }
def RenyiMasseyUptoCardSaid : Prop := Claim7.holds Tryz.pinned (.plain (OpenSpec.upto renyiMasseySpec)) renyiMasseyUptoCard
end Rows
end Go.Proofs.YtklhfagcembigaaGreatDoor
