/- Nothing is laid here: this translation has none of the functions that these contracts speak of. -/
import Derived.Test.YtnihclkaaglnjaaGreatDoorProg
