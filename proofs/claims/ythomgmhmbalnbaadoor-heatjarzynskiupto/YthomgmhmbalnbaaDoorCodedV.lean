/- No error is told by a number here. -/
import Derived.Test.YthomgmhmbalnbaaDoorCode
import Derived.Test.YthomgmhmbalnbaaDoorWeights
