/-
  Two closed facts of this seat's program.
-/
import Derived.Test.YtbieimnbikmbcaaRows
import Derived.Test.YtbieimnbikmbcaaLaw
namespace Go.Proofs.Ytbieimnbikmbcaa
theorem seat_own : ownKnob Try.prog.godebug = none := by kernel_rfl
theorem seat_laidOut : laidOutB Try.prog = true := by kernel_rfl
end Go.Proofs.Ytbieimnbikmbcaa
