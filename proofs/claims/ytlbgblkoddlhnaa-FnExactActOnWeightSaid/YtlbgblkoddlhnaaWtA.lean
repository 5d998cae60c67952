/-
  Weights: what the program's ActOnWeight returns: see RiD.
-/
import Derived.Test.YtlbgblkoddlhnaaRiD
