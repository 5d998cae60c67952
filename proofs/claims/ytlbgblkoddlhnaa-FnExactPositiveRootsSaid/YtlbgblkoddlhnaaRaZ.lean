/-
  Roots: all that the laws of RootsUpTo, PositiveRoots and HighestRoot rest on.
-/
import Derived.Test.YtlbgblkoddlhnaaRa26
import Derived.Test.YtlbgblkoddlhnaaRa33
import Derived.Test.YtlbgblkoddlhnaaRa10
namespace Go.Proofs.Ytlbgblkoddlhnaa
end Go.Proofs.Ytlbgblkoddlhnaa
