/- No error is told by a number here. -/
import Derived.Test.YtiegobkbinojeaaDoorErrs
