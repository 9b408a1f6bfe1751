/- Nothing is laid here: this translation has no slices.Grow. -/
import Derived.Test.YtfdncgonnbdplaaDoorProg
