/-
  DERIVED. GIVEN WITH THE SEED: THE CARDS: each row of YtiecbconcdncmabGreatDoorRows.lean that lists a variable, with what it lists TIED to the program's text (the seventh form; the later family's looks); each row that meets fmt, with fmt's text TOLD by the authors' own Lean function (tested against real Go, not proved from fmt's source: count such statements apart). THE CARD IS WHAT COUNTS. Prove the row's statement (the work); the ties are given (YtiecbconcdncmabGreatDoorTie.lean); close each card by the builder's one call (the guide's Derived/Test/ToyasCard.lean, 'card_holds'). Laid BY PROGRAM, IN A SANDBOX (cutbox-door.mjs). By AI agents, Wed Nov 11 2026. No macro, syntax, notation, axiom, sorry.
-/
import Derived.Test.YtiecbconcdncmabGreatDoorRows
import GoSem.ClaimSeven
namespace Go.Proofs.YtiecbconcdncmabGreatDoor
namespace Rows

/-- THE TIED CARD OF 'demonlaw1.LogsAdds'. -/
def logsAddsCard : Claim7 := { stood := { row := logsAddsRow, standIns := [], harness := (true, "9e1540312751154b1fd240049ae8dc37106c9e2f4896790bcb650e93ac4e053e"), looks := true }, kinds := [], alts := [], laidByText := true, laidKinds := [.handle, .sentinel, .sentinel, .sentinel, .sentinel, .sentinel, .sentinel, .sentinel, .sentinel], laidTests := true, laidLooks := .later }
def LogsAddsCardSaid : Prop := Claim7.holds Tryz.pinned (.plain (OpenSpec.ofChange logsAddsSpec)) logsAddsCard

/-- THE TIED CARD OF 'demonlaw1.LogsScales'. -/
def logsScalesCard : Claim7 := { stood := { row := logsScalesRow, standIns := [], harness := (true, "9e1540312751154b1fd240049ae8dc37106c9e2f4896790bcb650e93ac4e053e"), looks := true }, kinds := [], alts := [], laidByText := true, laidKinds := [.handle, .sentinel, .sentinel, .sentinel, .sentinel, .sentinel, .sentinel, .sentinel, .sentinel], laidTests := true, laidLooks := .later }
def LogsScalesCardSaid : Prop := Claim7.holds Tryz.pinned (.plain (OpenSpec.ofChange logsScalesSpec)) logsScalesCard

/-- THE TIED CARD OF 'demonlaw1.LogsReads'. -/
def logsReadsCard : Claim7 := { stood := { row := logsReadsRow, standIns := [], harness := (true, "9e1540312751154b1fd240049ae8dc37106c9e2f4896790bcb650e93ac4e053e"), looks := true }, kinds := [], alts := [], laidByText := true, laidKinds := [.data, .data, .data, .data, .handle, .sentinel, .sentinel, .sentinel, .sentinel, .sentinel, .sentinel, .sentinel, .sentinel, .sentinel, .sentinel, .pinned], laidTests := true, laidLooks := .later }
def LogsReadsCardSaid : Prop := Claim7.holds Tryz.pinned (.plain (OpenSpec.ofChange logsReadsSpec)) logsReadsCard

/-- THE SECOND FORM's CARD OF 'demonlaw1.LogsAdds'. -/
def logsAddsUptoCard : Claim7 := { stood := { row := logsAddsUptoRow, standIns := [], harness := (true, "9e1540312751154b1fd240049ae8dc37106c9e2f4896790bcb650e93ac4e053e"), looks := true }, kinds := [], alts := [], laidByText := true, laidKinds := [.handle, .sentinel, .sentinel, .sentinel, .sentinel, .sentinel, .sentinel, .sentinel, .sentinel], laidTests := true, laidLooks := .later }
def LogsAddsUptoCardSaid : Prop := Claim7.holds Tryz.pinned (.plain (OpenSpec.upto logsAddsSpec)) logsAddsUptoCard

/-- THE SECOND FORM's CARD OF 'demonlaw1.LogsScales'. -/
def logsScalesUptoCard : Claim7 := { stood := { row := logsScalesUptoRow, standIns := [], harness := (true, "9e1540312751154b1fd240049ae8dc37106c9e2f4896790bcb650e93ac4e053e"), looks := true }, kinds := [], alts := [], laidByText := true, laidKinds := [.handle, .sentinel, .sentinel, .sentinel, .sentinel, .sentinel, .sentinel, .sentinel, .sentinel], laidTests := true, laidLooks := .later }
def LogsScalesUptoCardSaid : Prop := Claim7.holds Tryz.pinned (.plain (OpenSpec.upto logsScalesSpec)) logsScalesUptoCard

/-- THE SECOND FORM's CARD OF 'demonlaw1.LogsReads'. -/
def logsReadsUptoCard : Claim7 := { stood := { row := logsReadsUptoRow, standIns := [], harness := (true, "9e1540312751154b1fd240049ae8dc37106c9e2f4896790bcb650e93ac4e053e"), looks := true }, kinds := [], alts := [], laidByText := true, laidKinds := [.data, .data, .data, .data, .handle, .sentinel, .sentinel, .sentinel, .sentinel, .sentinel, .sentinel, .sentinel, .sentinel, .sentinel, .sentinel, .pinned], laidTests := true, laidLooks := .later }
def LogsReadsUptoCardSaid : Prop := Claim7.holds Tryz.pinned (.plain (OpenSpec.upto logsReadsSpec)) logsReadsUptoCard
end Rows
end Go.Proofs.YtiecbconcdncmabGreatDoor
