/- Nothing of it is laid in this seat. -/
import Derived.Test.YtpdenfjncpfogaaDoorProg
