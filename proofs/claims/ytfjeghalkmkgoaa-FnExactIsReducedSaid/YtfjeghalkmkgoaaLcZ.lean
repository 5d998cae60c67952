/-
  Chapter 8: all that the exact laws of lengths, and those of the actions, want at once.
-/
import Derived.Test.YtfjeghalkmkgoaaLc12
import Derived.Test.YtfjeghalkmkgoaaLc17
import Derived.Test.YtfjeghalkmkgoaaLc25
import Derived.Test.YtfjeghalkmkgoaaLc28
import Derived.Test.YtfjeghalkmkgoaaLc38
import Derived.Test.YtfjeghalkmkgoaaLc35
import Derived.Test.YtfjeghalkmkgoaaLc23
import Derived.Test.YtfjeghalkmkgoaaLc39
import Derived.Test.YtfjeghalkmkgoaaLc06
namespace Go.Proofs.Ytfjeghalkmkgoaa
theorem lsAll : True := True.intro
end Go.Proofs.Ytfjeghalkmkgoaa
