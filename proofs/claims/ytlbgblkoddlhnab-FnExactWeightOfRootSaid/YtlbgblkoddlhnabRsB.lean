/-
  Roots: what the model's ReflectRoot and ActOnRoot return.
-/
import Derived.Test.YtlbgblkoddlhnabRsA
import Derived.Test.YtlbgblkoddlhnabWrdS
import Derived.Test.YtlbgblkoddlhnabApp
namespace Go.Proofs.Ytlbgblkoddlhnab
open Go.RowKit

end Go.Proofs.Ytlbgblkoddlhnab
