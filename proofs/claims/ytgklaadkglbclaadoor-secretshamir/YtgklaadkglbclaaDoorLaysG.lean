/- Nothing of this kind is laid here. -/
import Derived.Test.YtgklaadkglbclaaDoorProg
