/-
  Chapters 8 and 9: all that the exact laws of lengths and elements want at once.
-/
import Derived.Test.YtnlbmnielemgiaaLc21
import Derived.Test.YtnlbmnielemgiaaLc24
import Derived.Test.YtnlbmnielemgiaaLc32
import Derived.Test.YtnlbmnielemgiaaLc30
import Derived.Test.YtnlbmnielemgiaaLc20
import Derived.Test.YtnlbmnielemgiaaLc39
import Derived.Test.YtnlbmnielemgiaaLc40
import Derived.Test.YtnlbmnielemgiaaLc36
import Derived.Test.YtnlbmnielemgiaaLc06
import Derived.Test.YtnlbmnielemgiaaLc41
namespace Go.Proofs.Ytnlbmnielemgiaa
theorem lsAll : True := True.intro
end Go.Proofs.Ytnlbmnielemgiaa
