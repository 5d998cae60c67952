/-
  Roots: how long the answers are (no walk here).
-/
import Derived.Test.YtlbgblkoddlhnabRsP
namespace Go.Proofs.Ytlbgblkoddlhnab
open Go.RowKit

theorem refR_len (m : List (List Int)) (i : Int) (l : List Int) : (refR m i l).length = l.length := by
  by_cases h : RefOk m i l
  · rw [refR_yes h, rflR_len]
  · rw [refR_no h]
theorem actR_len (m : List (List Int)) (ws l : List Int) : (actR m ws l).length = l.length := by
  by_cases h : ActOk m ws l
  · rw [actR_yes h, actRW_len]
  · rw [actR_no h]
theorem simR_len (m : List (List Int)) (i : Int) : (simR m i).length ≤ 4 := by
  by_cases h : IsC m ∧ 0 ≤ i ∧ i ≤ (m.length : Int) - 1
  · rw [simR_yes h, unitR_len]; exact h.1.2.2.2
  · rw [simR_no h]; simp
theorem wrtL_len (m : List (List Int)) (l : List Int) : (wrtL m l).length ≤ 4 := by
  by_cases h : IsC m ∧ l.length = m.length
  · rw [wrtL_yes h, wrtK_len]; exact h.1.2.2.2
  · rw [wrtL_no h]; simp
end Go.Proofs.Ytlbgblkoddlhnab
