/-
  Chapter 10: all that the exact laws of exchange and deletion want at once.
-/
import Derived.Test.YtbmghddmilgngaaLc37
import Derived.Test.YtbmghddmilgngaaLc13
namespace Go.Proofs.Ytbmghddmilgngaa
theorem exAll : True := True.intro
end Go.Proofs.Ytbmghddmilgngaa
