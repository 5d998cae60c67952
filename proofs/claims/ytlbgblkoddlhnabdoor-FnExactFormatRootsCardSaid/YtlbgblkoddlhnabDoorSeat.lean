/-
  Two closed facts of this seat's program.
-/
import Derived.Test.YtlbgblkoddlhnabDoorRows
import Derived.Test.YtlbgblkoddlhnabDoorLaw
namespace Go.Proofs.YtlbgblkoddlhnabDoor
theorem seat_own : ownKnob Tryd.prog.godebug = none := by kernel_rfl
theorem seat_laidOut : laidOutB Tryd.prog = true := by kernel_rfl
end Go.Proofs.YtlbgblkoddlhnabDoor
