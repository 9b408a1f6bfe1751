/- Nothing of this kind is called on this seat's roads. -/
import Derived.Test.YtojljmapdafmaaaDoorProg
