/-
  NARROWER THAN 'FOR EVERY INPUT', by the rows' own cells (each row's printed sentence says how): LogsProducts: laid · LogsRing: laid.
  DERIVED. THE GIVEN ROWS OF THIS SEAT. 2 by the template 'for every input the law returns true; each argument reads behind the call as it read before'; 0 by the template 'total and deterministic' (their statements: YtiecbconcdncmabDoorTotals.lean).
  GIVEN WITH THE SEED: the statements are not yours to turn. If you find one false, say at which input.
  Laid BY PROGRAM, IN A SANDBOX (cutbox-rows.mjs): the forced cells as the released guide's own fill.sh prints them over the translation 4c7c9b68348c0a1f… (all of the seat's roots in one cut). By AI agents, Wed Nov 11 2026. No macro, syntax, notation, axiom, sorry.
-/
import Derived.Test.YtiecbconcdncmabDoorChecked
import GoSem.Claim
import GoSem.ClaimJoined
import GoSem.ClaimMapViews
import Derived.JoinedTies
import Derived.KernelRfl
namespace Go.Proofs.YtiecbconcdncmabDoor
/- THE CELL 'sum', in the pinned program and in every row, IS THE sha256 OF THE DUMP (.gsa) THAT YtiecbconcdncmabDoorProg.lean LOADS. Nothing in Lean hashes anything: it is a label: what it is worth is what the hold of that sum in a sandbox is worth. -/
noncomputable def Tryd.pinned : Pinned := { name := "ytiecbconcdncmabdoor", sum := "4c7c9b68348c0a1f931d8884307d1d2ea37fd5816e9b0e2e6f6f84b26f7f9a1e", checked := Tryd.checked }
namespace Rows
def none {H : Type} : Left H := { results := [], args := [] }

/- WHAT THE LISTED PACKAGE-LEVEL VARIABLES READ AS WHEN THE CALL BEGINS. Each datum BY PROGRAM (the guide's laid-datum.mjs) off the statement by which the dump's own 'gosem.cut.vars' lays the variable. In a bare row this is a premise. The card (YtiecbconcdncmabDoorCards.lean) ties it to the program's text. -/
def laid_demon_api_ErrBound {H : Type} : DataW H := .iface "*errors.errorString" (.ptr (.agg [.lit (.string [100, 101, 109, 111, 110, 58, 32, 98, 111, 117, 110, 100])]))
def laid_demon_api_ErrShape {H : Type} : DataW H := .iface "*errors.errorString" (.ptr (.agg [.lit (.string [100, 101, 109, 111, 110, 58, 32, 115, 104, 97, 112, 101])]))

/-- 'demonlaw1.LogsProducts': WHATEVER THE INPUT: true; the input reads as it did. -/
def logsProductsSpec : ChangeSpec := { name := "logsProducts", fn := fun _ => fun
  | [d1, d2] => { results := [.lit (.bool true)], args := [d1, d2] }
  | _ => none }
def logsProductsRow : OpenClaim := { program := "ytiecbconcdncmabdoor", sum := "4c7c9b68348c0a1f931d8884307d1d2ea37fd5816e9b0e2e6f6f84b26f7f9a1e", func := "demon/demonlaw1.LogsProducts", spec := "logsProducts", inPlace := ["math/bits.Add64"], unfollowed := true, recurses := true, named := ["demon/api.ErrShape", "demon/api.ErrBound"], apart := false, laid := [("demon/api.ErrBound", laid_demon_api_ErrBound), ("demon/api.ErrShape", laid_demon_api_ErrShape)] }
def LogsProductsSaid : Prop := logsProductsRow.holds Tryd.pinned (OpenSpec.ofChange logsProductsSpec)

/-- ITS FALSE NEIGHBOUR: 'it returns false'. Refute it at one input. -/
def logsProductsWrong : ChangeSpec := { name := "logsProducts", fn := fun _ => fun
  | [d1, d2] => { results := [.lit (.bool false)], args := [d1, d2] }
  | _ => none }
def LogsProductsWrongFalsely : Prop := logsProductsRow.holds Tryd.pinned (OpenSpec.ofChange logsProductsWrong)

/-- 'demonlaw1.LogsRing': WHATEVER THE INPUT: true; the input reads as it did. -/
def logsRingSpec : ChangeSpec := { name := "logsRing", fn := fun _ => fun
  | [d1, d2, d3] => { results := [.lit (.bool true)], args := [d1, d2, d3] }
  | _ => none }
def logsRingRow : OpenClaim := { program := "ytiecbconcdncmabdoor", sum := "4c7c9b68348c0a1f931d8884307d1d2ea37fd5816e9b0e2e6f6f84b26f7f9a1e", func := "demon/demonlaw1.LogsRing", spec := "logsRing", inPlace := ["math/bits.Add64"], unfollowed := true, recurses := true, named := ["demon/api.ErrShape", "demon/api.ErrBound"], apart := false, laid := [("demon/api.ErrBound", laid_demon_api_ErrBound), ("demon/api.ErrShape", laid_demon_api_ErrShape)] }
def LogsRingSaid : Prop := logsRingRow.holds Tryd.pinned (OpenSpec.ofChange logsRingSpec)

/-- ITS FALSE NEIGHBOUR: 'it returns false'. Refute it at one input. -/
def logsRingWrong : ChangeSpec := { name := "logsRing", fn := fun _ => fun
  | [d1, d2, d3] => { results := [.lit (.bool false)], args := [d1, d2, d3] }
  | _ => none }
def LogsRingWrongFalsely : Prop := logsRingRow.holds Tryd.pinned (OpenSpec.ofChange logsRingWrong)

/- THE SECOND FORM. 'bulk': how many values and letters a reading holds, each counted each time it is reached (what is shared counts as often as it is met; a slice's spare places count too). A statement '..UptoSaid' is the law's where the arguments, and the package variables that the reading takes, are together of bulk at most 1048576: NARROWER than '..Said'. Prove '..Said' where nothing that the law and all that it calls make is longer than what came in: it says more and counts as full. Else prove '..UptoSaid'. A law counts once. -/
mutual
def uptoBulk {H : Type} : DataW H → Nat
  | .lit (.string bytes) => bytes.length + 1
  | .lit _ => 1
  | .nil => 1
  | .ptr d => uptoBulk d + 1
  | .slice elems spare => uptoBulkAll elems + uptoBulkAll spare + 1
  | .agg parts => uptoBulkAll parts + 1
  | .iface _ d => uptoBulk d + 1
  | .map entries => uptoBulkEntries entries + 1
  | .held _ => 1
def uptoBulkAll {H : Type} : List (DataW H) → Nat
  | [] => 0
  | d :: r => uptoBulk d + uptoBulkAll r
def uptoBulkEntries {H : Type} : List (Lit × DataW H) → Nat
  | [] => 0
  | x :: r => uptoBulkEntry x + uptoBulkEntries r
def uptoBulkEntry {H : Type} : Lit × DataW H → Nat
  | (.string bytes, d) => bytes.length + uptoBulk d + 1
  | (_, d) => uptoBulk d + 1
 end
def uptoSmall : (H : Type) → List (DataW H) → Bool := fun _ ds => decide (uptoBulkAll ds ≤ 1048576)
def OpenSpec.upto (s : _root_.Go.ChangeSpec) : _root_.Go.OpenSpec := { _root_.Go.OpenSpec.ofChange s with cond := some uptoSmall }

/-- 'demonlaw1.LogsProducts', WHERE WHAT IT READS IS OF BULK AT MOST 1048576: true; the input reads as it did. -/
def logsProductsUptoRow : OpenClaim := { program := "ytiecbconcdncmabdoor", sum := "4c7c9b68348c0a1f931d8884307d1d2ea37fd5816e9b0e2e6f6f84b26f7f9a1e", func := "demon/demonlaw1.LogsProducts", spec := "logsProducts", inPlace := ["math/bits.Add64"], unfollowed := true, recurses := true, named := ["demon/api.ErrShape", "demon/api.ErrBound"], apart := false, laid := [("demon/api.ErrBound", laid_demon_api_ErrBound), ("demon/api.ErrShape", laid_demon_api_ErrShape)], narrowed := true }
def LogsProductsUptoSaid : Prop := logsProductsUptoRow.holds Tryd.pinned (OpenSpec.upto logsProductsSpec)

/-- 'demonlaw1.LogsRing', WHERE WHAT IT READS IS OF BULK AT MOST 1048576: true; the input reads as it did. -/
def logsRingUptoRow : OpenClaim := { program := "ytiecbconcdncmabdoor", sum := "4c7c9b68348c0a1f931d8884307d1d2ea37fd5816e9b0e2e6f6f84b26f7f9a1e", func := "demon/demonlaw1.LogsRing", spec := "logsRing", inPlace := ["math/bits.Add64"], unfollowed := true, recurses := true, named := ["demon/api.ErrShape", "demon/api.ErrBound"], apart := false, laid := [("demon/api.ErrBound", laid_demon_api_ErrBound), ("demon/api.ErrShape", laid_demon_api_ErrShape)], narrowed := true }
def LogsRingUptoSaid : Prop := logsRingUptoRow.holds Tryd.pinned (OpenSpec.upto logsRingSpec)

end Rows
end Go.Proofs.YtiecbconcdncmabDoor
