/-
  Weights: what the model's ReflectWeight, ActOnWeight, RhoOf, AddWeights and SimpleRootWeight return.
-/
import Derived.Test.YtlbgblkoddlhnabWtS
import Derived.Test.YtlbgblkoddlhnabWrdS
import Derived.Test.YtlbgblkoddlhnabApp
namespace Go.Proofs.Ytlbgblkoddlhnab
open Go.RowKit

/-- A copy: 'append([]int{}, v...)' behind a walk. -/
abbrev CopyEnd (w : World) (l : List Int) (x : Value) (w' : World) : Prop := OwnS w.heap.size w'.heap.size w' x l ∧ Below w.heap.size w w'
end Go.Proofs.Ytlbgblkoddlhnab
