/-
  Words: what the program's CompareWords, EqualWords, ReverseWord and ConcatWords return.
-/
import Derived.Lib.AppendZeros
import Derived.Test.YtbmghddmilgngaaLc24
import Derived.Test.YtbmghddmilgngaaLc17
namespace Go.Proofs.Ytbmghddmilgngaa
open Go.RowKit

def cmpI (x y : Int) : Int := if x < y then -1 else if y < x then 1 else 0
theorem cmpI_lt {x y : Int} (h : x < y) : cmpI x y = -1 := if_pos h
theorem cmpI_gt {x y : Int} (h : y < x) : cmpI x y = 1 := by unfold cmpI; rw [if_neg (by omega), if_pos h]
theorem cmpI_eq {x y : Int} (h : x = y) : cmpI x y = 0 := by unfold cmpI; rw [if_neg (by omega), if_neg (by omega)]
end Go.Proofs.Ytbmghddmilgngaa
