/- A parameter of type []int opened. -/
import Derived.Test.YtdfcipdknfebpaaDoorInts
import Derived.Test.YtdfcipdknfebpaaDoorLaid
import Derived.Test.YtdfcipdknfebpaaDoorCards
import Derived.Test.YtdfcipdknfebpaaDoorTie
import Derived.SevenTiedAt
import Derived.ProofKit
import Derived.OpenShut
import Derived.ChangeOld
import Derived.Lib.SmallJoins
import Derived.Deep.Matrix
namespace Go.Proofs.YtdfcipdknfebpaaDoor
open Go.ChangeShapes Go.WideShapes Go.ChangeAt Go.RowKit Go.Joins Go.Deep

theorem Tryd.laidOut : laidOutB Tryd.prog = true := by kernel_rfl
theorem Tryd.cellsInt : Tryd.prog.cellsOf 3 = 1 := by kernel_rfl
end Go.Proofs.YtdfcipdknfebpaaDoor
