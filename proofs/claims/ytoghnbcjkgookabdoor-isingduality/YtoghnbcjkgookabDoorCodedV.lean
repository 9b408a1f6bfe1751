/- No error is told by a number here. -/
import Derived.Test.YtoghnbcjkgookabDoorCode
import Derived.Test.YtoghnbcjkgookabDoorWeights
