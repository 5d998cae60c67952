/-
  Words: what the model's functions of chapter 5 return.
-/
import Derived.Test.YtcmnkhblnlmfpaaDoorWrdP
import Derived.Test.YtcmnkhblnlmfpaaDoorIn
import Derived.Test.YtcmnkhblnlmfpaaDoorFrm
import Derived.Test.YtcmnkhblnlmfpaaDoorGrow
import Derived.Test.YtcmnkhblnlmfpaaDoorApp
import Derived.Test.YtcmnkhblnlmfpaaDoorGet
namespace Go.Proofs.YtcmnkhblnlmfpaaDoor
open Go.RowKit

theorem RowB.drawn1 {B : Nat} {w : World} {v : Value} {l : List Int} (h : RowB B w v l) (q : Nat) : RowB B (w.drewN q) v l := h.drewN q
theorem rev_take {l : List Int} {k : Nat} (h : k < l.length) : (l.drop (k + 1)).reverse ++ [l.getD k 0] = (l.drop k).reverse := by
  rw [List.drop_eq_getElem_cons h, List.reverse_cons]; simp [List.getD, h]
end Go.Proofs.YtcmnkhblnlmfpaaDoor
