/-
  Weights and roots: what the program's ReflectWeight and ReflectRoot return (printed by mk_ri.py).
-/
import Derived.Test.YtlbgblkoddlhnabRiB
import Derived.Test.YtlbgblkoddlhnabWtC
import Derived.Test.YtlbgblkoddlhnabTrI
namespace Go.Proofs.Ytlbgblkoddlhnab
open Go.RowKit

/-! ### Lists filled from the front -/
/-! ### Lists filled from the front -/
end Go.Proofs.Ytlbgblkoddlhnab
