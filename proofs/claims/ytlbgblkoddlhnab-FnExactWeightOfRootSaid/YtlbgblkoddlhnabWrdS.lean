/-
  Words: what the model's functions of chapter 5 return.
-/
import Derived.Test.YtlbgblkoddlhnabWrdP
import Derived.Test.YtlbgblkoddlhnabIn
import Derived.Test.YtlbgblkoddlhnabFrm
import Derived.Test.YtlbgblkoddlhnabGrow
import Derived.Test.YtlbgblkoddlhnabApp
import Derived.Test.YtlbgblkoddlhnabGet
namespace Go.Proofs.Ytlbgblkoddlhnab
open Go.RowKit

theorem RowB.drawn1 {B : Nat} {w : World} {v : Value} {l : List Int} (h : RowB B w v l) (q : Nat) : RowB B (w.drewN q) v l := h.drewN q
theorem rev_take {l : List Int} {k : Nat} (h : k < l.length) : (l.drop (k + 1)).reverse ++ [l.getD k 0] = (l.drop k).reverse := by
  rw [List.drop_eq_getElem_cons h, List.reverse_cons]; simp [List.getD, h]
end Go.Proofs.Ytlbgblkoddlhnab
