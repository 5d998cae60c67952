/-
  Roots: what the model's reflection, height and sign return.
-/
import Derived.Test.YtlbgblkoddlhnabRsP
import Derived.Test.YtlbgblkoddlhnabWtT
import Derived.Test.YtlbgblkoddlhnabWtJ
namespace Go.Proofs.Ytlbgblkoddlhnab
open Go.RowKit

end Go.Proofs.Ytlbgblkoddlhnab
