/- Nothing of slices or maps is met here. -/
import Derived.Test.YtlmehmbipbkeiaaDoorProg
