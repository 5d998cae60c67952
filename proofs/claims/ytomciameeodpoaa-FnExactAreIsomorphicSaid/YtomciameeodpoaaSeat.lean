/-
  Two closed facts of this seat's program.
-/
import Derived.Test.YtomciameeodpoaaRows
import Derived.Test.YtomciameeodpoaaLaw
namespace Go.Proofs.Ytomciameeodpoaa
theorem seat_own : ownKnob Try.prog.godebug = none := by kernel_rfl
theorem seat_laidOut : laidOutB Try.prog = true := by kernel_rfl
end Go.Proofs.Ytomciameeodpoaa
