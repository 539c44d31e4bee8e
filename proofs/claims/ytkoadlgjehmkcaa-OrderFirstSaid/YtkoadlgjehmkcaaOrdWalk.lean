/-
  The walks of layer 8's code, together.
-/
import Derived.Test.YtkoadlgjehmkcaaOrdWalkC
import Derived.Test.YtkoadlgjehmkcaaOrdWalkE
import Derived.Test.YtkoadlgjehmkcaaOrdWalkF
