/-
  The model's range test: what the call returns.
-/
import Derived.Test.YtlbgblkoddlhnabDoorHelp
namespace Go.Proofs.YtlbgblkoddlhnabDoor
open Go.RowKit

def inB (x a b : Int) : Bool := decide (a ≤ x ∧ x ≤ b)
theorem inB_yes {x a b : Int} (h : a ≤ x ∧ x ≤ b) : inB x a b = true := decide_eq_true h
theorem inB_no {x a b : Int} (h : ¬ (a ≤ x ∧ x ≤ b)) : inB x a b = false := decide_eq_false h
end Go.Proofs.YtlbgblkoddlhnabDoor
