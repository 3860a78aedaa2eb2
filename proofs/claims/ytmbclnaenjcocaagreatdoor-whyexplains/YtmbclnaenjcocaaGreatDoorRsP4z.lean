/-
  What package reason's walks stand on, without the teller of Solve.
-/
import Derived.Test.YtmbclnaenjcocaaGreatDoorRsP3
import Derived.Test.YtmbclnaenjcocaaGreatDoorRsFrom5
import Derived.Deep.RegionWith
import Derived.Deep.RegionLaw
import Derived.Deep.LoopGhost

