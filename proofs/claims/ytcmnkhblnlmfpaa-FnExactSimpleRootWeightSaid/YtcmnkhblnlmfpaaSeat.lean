/-
  Two closed facts of this seat's program.
-/
import Derived.Test.YtcmnkhblnlmfpaaRows
import Derived.Test.YtcmnkhblnlmfpaaLaw
namespace Go.Proofs.Ytcmnkhblnlmfpaa
theorem seat_own : ownKnob Try.prog.godebug = none := by kernel_rfl
theorem seat_laidOut : laidOutB Try.prog = true := by kernel_rfl
end Go.Proofs.Ytcmnkhblnlmfpaa
