/-
  IsCartan of the program: what the call returns.
-/
import Derived.Test.YtlbgblkoddlhnabDoorBond
namespace Go.Proofs.YtlbgblkoddlhnabDoor
open Go.RowKit

def SizeOk (m : List (List Int)) : Prop := (1 ≤ m.length ∧ m.length ≤ 4) ∧ ∀ i, i < m.length → (m.getD i []).length = m.length
open Classical in
noncomputable def sizeB (m : List (List Int)) : Bool := decide (SizeOk m)
open Classical in
theorem sizeB_yes {m : List (List Int)} (h : SizeOk m) : sizeB m = true := decide_eq_true h
open Classical in
theorem sizeB_no {m : List (List Int)} (h : ¬ SizeOk m) : sizeB m = false := decide_eq_false h
open Classical in
noncomputable def okB (m : List (List Int)) (i j : Nat) : Bool := decide (okC m i j)
open Classical in
theorem okB_yes {m : List (List Int)} {i j : Nat} (h : okC m i j) : okB m i j = true := decide_eq_true h
open Classical in
theorem okB_no {m : List (List Int)} {i j : Nat} (h : ¬ okC m i j) : okB m i j = false := decide_eq_false h

end Go.Proofs.YtlbgblkoddlhnabDoor
