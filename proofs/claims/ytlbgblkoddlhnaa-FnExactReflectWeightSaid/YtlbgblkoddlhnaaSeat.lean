/-
  Two closed facts of this seat's program.
-/
import Derived.Test.YtlbgblkoddlhnaaRows
import Derived.Test.YtlbgblkoddlhnaaLaw
namespace Go.Proofs.Ytlbgblkoddlhnaa
theorem seat_own : ownKnob Try.prog.godebug = none := by kernel_rfl
theorem seat_laidOut : laidOutB Try.prog = true := by kernel_rfl
end Go.Proofs.Ytlbgblkoddlhnaa
