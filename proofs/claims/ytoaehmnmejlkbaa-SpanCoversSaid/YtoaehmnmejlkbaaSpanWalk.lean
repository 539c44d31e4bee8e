/-
  Layer 3's code, walked: all its functions.
-/
import Derived.Test.YtoaehmnmejlkbaaSpanWalkB
import Derived.Test.YtoaehmnmejlkbaaSpanWalkG
