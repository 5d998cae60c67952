/-
  Two closed facts of this seat's program.
-/
import Derived.Test.YtlbgblkoddlhnabRows
import Derived.Test.YtlbgblkoddlhnabLaw
namespace Go.Proofs.Ytlbgblkoddlhnab
theorem seat_own : ownKnob Try.prog.godebug = none := by kernel_rfl
theorem seat_laidOut : laidOutB Try.prog = true := by kernel_rfl
end Go.Proofs.Ytlbgblkoddlhnab
