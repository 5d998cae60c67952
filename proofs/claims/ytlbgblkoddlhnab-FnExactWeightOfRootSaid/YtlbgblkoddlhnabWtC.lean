/-
  The library's Clone at a list of ints.
-/
import Derived.Test.YtlbgblkoddlhnabApp
import Derived.Test.YtlbgblkoddlhnabFrm
import Derived.Lib.SliceRun
namespace Go.Proofs.Ytlbgblkoddlhnab
open Go.RowKit

theorem RowI.nil' (A B : Nat) (w : World) : RowI A B w (.slice none 0 0) [] := ⟨World.ownsRow_nil _ _ _ _, fun g h => by simp [Value.ownBlock] at h⟩
end Go.Proofs.Ytlbgblkoddlhnab
