/-
  NARROWER THAN 'FOR EVERY INPUT', by the rows' own cells (each row's printed sentence says how): HeatJarzynski: laid · HeatCrooks: laid.
  DERIVED. THE GIVEN ROWS OF THIS SEAT. 2 by the template 'for every input the law returns true; each argument reads behind the call as it read before'; 0 by the template 'total and deterministic' (their statements: YthomgmhmbalnbaaDoorTotals.lean).
  GIVEN WITH THE SEED: the statements are not yours to turn. If you find one false, say at which input.
  Laid BY PROGRAM, IN A SANDBOX (cutbox-rows.mjs): the forced cells as the released guide's own fill.sh prints them over the translation 7ec4bcd2e27fbe94… (all of the seat's roots in one cut). By AI agents, Wed Nov 11 2026. No macro, syntax, notation, axiom, sorry.
-/
import Derived.Test.YthomgmhmbalnbaaDoorChecked
import GoSem.Claim
import GoSem.ClaimJoined
import GoSem.ClaimMapViews
import Derived.JoinedTies
import Derived.KernelRfl
namespace Go.Proofs.YthomgmhmbalnbaaDoor
/- THE CELL 'sum', in the pinned program and in every row, IS THE sha256 OF THE DUMP (.gsa) THAT YthomgmhmbalnbaaDoorProg.lean LOADS. Nothing in Lean hashes anything: it is a label: what it is worth is what the hold of that sum in a sandbox is worth. -/
noncomputable def Tryd.pinned : Pinned := { name := "ythomgmhmbalnbaadoor", sum := "7ec4bcd2e27fbe94b83a67bf223fc930bb15b7e8fe7d94b1051f2f49e078c110", checked := Tryd.checked }
namespace Rows
def none {H : Type} : Left H := { results := [], args := [] }

/- WHAT THE LISTED PACKAGE-LEVEL VARIABLES READ AS WHEN THE CALL BEGINS. Each datum BY PROGRAM (the guide's laid-datum.mjs) off the statement by which the dump's own 'gosem.cut.vars' lays the variable. In a bare row this is a premise. The card (YthomgmhmbalnbaaDoorCards.lean) ties it to the program's text. -/
def laid_demon_api_ErrBound {H : Type} : DataW H := .iface "*errors.errorString" (.ptr (.agg [.lit (.string [100, 101, 109, 111, 110, 58, 32, 98, 111, 117, 110, 100])]))
def laid_demon_api_ErrShape {H : Type} : DataW H := .iface "*errors.errorString" (.ptr (.agg [.lit (.string [100, 101, 109, 111, 110, 58, 32, 115, 104, 97, 112, 101])]))
def laid_demon_api_ErrKind {H : Type} : DataW H := .iface "*errors.errorString" (.ptr (.agg [.lit (.string [100, 101, 109, 111, 110, 58, 32, 107, 105, 110, 100])]))

/-- 'demonlaw4.HeatJarzynski': WHATEVER THE INPUT: true; the input reads as it did. -/
def heatJarzynskiSpec : ChangeSpec := { name := "heatJarzynski", fn := fun _ => fun
  | [d] => { results := [.lit (.bool true)], args := [d] }
  | _ => none }
def heatJarzynskiRow : OpenClaim := { program := "ythomgmhmbalnbaadoor", sum := "7ec4bcd2e27fbe94b83a67bf223fc930bb15b7e8fe7d94b1051f2f49e078c110", func := "demon/demonlaw4.HeatJarzynski", spec := "heatJarzynski", inPlace := ["math/bits.Add64", "math/bits.Sub64"], unfollowed := true, recurses := true, named := ["demon/api.ErrBound", "demon/api.ErrShape", "demon/api.ErrKind"], apart := false, laid := [("demon/api.ErrBound", laid_demon_api_ErrBound), ("demon/api.ErrShape", laid_demon_api_ErrShape), ("demon/api.ErrKind", laid_demon_api_ErrKind)] }
def HeatJarzynskiSaid : Prop := heatJarzynskiRow.holds Tryd.pinned (OpenSpec.ofChange heatJarzynskiSpec)

/-- ITS FALSE NEIGHBOUR: 'it returns false'. Refute it at one input. -/
def heatJarzynskiWrong : ChangeSpec := { name := "heatJarzynski", fn := fun _ => fun
  | [d] => { results := [.lit (.bool false)], args := [d] }
  | _ => none }
def HeatJarzynskiWrongFalsely : Prop := heatJarzynskiRow.holds Tryd.pinned (OpenSpec.ofChange heatJarzynskiWrong)

/-- 'demonlaw4.HeatCrooks': WHATEVER THE INPUT: true; the input reads as it did. -/
def heatCrooksSpec : ChangeSpec := { name := "heatCrooks", fn := fun _ => fun
  | [d1, d2] => { results := [.lit (.bool true)], args := [d1, d2] }
  | _ => none }
def heatCrooksRow : OpenClaim := { program := "ythomgmhmbalnbaadoor", sum := "7ec4bcd2e27fbe94b83a67bf223fc930bb15b7e8fe7d94b1051f2f49e078c110", func := "demon/demonlaw4.HeatCrooks", spec := "heatCrooks", inPlace := ["math/bits.Add64", "math/bits.Sub64"], unfollowed := true, recurses := true, named := ["demon/api.ErrBound", "demon/api.ErrShape", "demon/api.ErrKind"], apart := false, laid := [("demon/api.ErrBound", laid_demon_api_ErrBound), ("demon/api.ErrShape", laid_demon_api_ErrShape), ("demon/api.ErrKind", laid_demon_api_ErrKind)] }
def HeatCrooksSaid : Prop := heatCrooksRow.holds Tryd.pinned (OpenSpec.ofChange heatCrooksSpec)

/-- ITS FALSE NEIGHBOUR: 'it returns false'. Refute it at one input. -/
def heatCrooksWrong : ChangeSpec := { name := "heatCrooks", fn := fun _ => fun
  | [d1, d2] => { results := [.lit (.bool false)], args := [d1, d2] }
  | _ => none }
def HeatCrooksWrongFalsely : Prop := heatCrooksRow.holds Tryd.pinned (OpenSpec.ofChange heatCrooksWrong)

/- THE SECOND FORM. 'bulk': how many values and letters a reading holds, each counted each time it is reached (what is shared counts as often as it is met; a slice's spare places count too). A statement '..UptoSaid' is the law's where the arguments, and the package variables that the reading takes, are together of bulk at most 1048576: NARROWER than '..Said'. Prove '..Said' where nothing that the law and all that it calls make is longer than what came in: it says more and counts as full. Else prove '..UptoSaid'. A law counts once. -/
mutual
def uptoBulk {H : Type} : DataW H → Nat
  | .lit (.string bytes) => bytes.length + 1
  | .lit _ => 1
  | .nil => 1
  | .ptr d => uptoBulk d + 1
  | .slice elems spare => uptoBulkAll elems + uptoBulkAll spare + 1
  | .agg parts => uptoBulkAll parts + 1
  | .iface _ d => uptoBulk d + 1
  | .map entries => uptoBulkEntries entries + 1
  | .held _ => 1
def uptoBulkAll {H : Type} : List (DataW H) → Nat
  | [] => 0
  | d :: r => uptoBulk d + uptoBulkAll r
def uptoBulkEntries {H : Type} : List (Lit × DataW H) → Nat
  | [] => 0
  | x :: r => uptoBulkEntry x + uptoBulkEntries r
def uptoBulkEntry {H : Type} : Lit × DataW H → Nat
  | (.string bytes, d) => bytes.length + uptoBulk d + 1
  | (_, d) => uptoBulk d + 1
 end
def uptoSmall : (H : Type) → List (DataW H) → Bool := fun _ ds => decide (uptoBulkAll ds ≤ 1048576)
def OpenSpec.upto (s : _root_.Go.ChangeSpec) : _root_.Go.OpenSpec := { _root_.Go.OpenSpec.ofChange s with cond := some uptoSmall }

/-- 'demonlaw4.HeatJarzynski', WHERE WHAT IT READS IS OF BULK AT MOST 1048576: true; the input reads as it did. -/
def heatJarzynskiUptoRow : OpenClaim := { program := "ythomgmhmbalnbaadoor", sum := "7ec4bcd2e27fbe94b83a67bf223fc930bb15b7e8fe7d94b1051f2f49e078c110", func := "demon/demonlaw4.HeatJarzynski", spec := "heatJarzynski", inPlace := ["math/bits.Add64", "math/bits.Sub64"], unfollowed := true, recurses := true, named := ["demon/api.ErrBound", "demon/api.ErrShape", "demon/api.ErrKind"], apart := false, laid := [("demon/api.ErrBound", laid_demon_api_ErrBound), ("demon/api.ErrShape", laid_demon_api_ErrShape), ("demon/api.ErrKind", laid_demon_api_ErrKind)], narrowed := true }
def HeatJarzynskiUptoSaid : Prop := heatJarzynskiUptoRow.holds Tryd.pinned (OpenSpec.upto heatJarzynskiSpec)

/-- 'demonlaw4.HeatCrooks', WHERE WHAT IT READS IS OF BULK AT MOST 1048576: true; the input reads as it did. -/
def heatCrooksUptoRow : OpenClaim := { program := "ythomgmhmbalnbaadoor", sum := "7ec4bcd2e27fbe94b83a67bf223fc930bb15b7e8fe7d94b1051f2f49e078c110", func := "demon/demonlaw4.HeatCrooks", spec := "heatCrooks", inPlace := ["math/bits.Add64", "math/bits.Sub64"], unfollowed := true, recurses := true, named := ["demon/api.ErrBound", "demon/api.ErrShape", "demon/api.ErrKind"], apart := false, laid := [("demon/api.ErrBound", laid_demon_api_ErrBound), ("demon/api.ErrShape", laid_demon_api_ErrShape), ("demon/api.ErrKind", laid_demon_api_ErrKind)], narrowed := true }
def HeatCrooksUptoSaid : Prop := heatCrooksUptoRow.holds Tryd.pinned (OpenSpec.upto heatCrooksSpec)

end Rows
end Go.Proofs.YthomgmhmbalnbaaDoor
