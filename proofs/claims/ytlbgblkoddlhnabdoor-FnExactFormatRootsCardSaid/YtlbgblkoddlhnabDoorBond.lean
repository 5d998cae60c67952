/-
  BondOf of the model: what the call returns.
-/
import Derived.Test.YtlbgblkoddlhnabDoorIsC
namespace Go.Proofs.YtlbgblkoddlhnabDoor
open Go.RowKit

open Classical in
noncomputable def isB (m : List (List Int)) : Bool := decide (IsC m)
open Classical in
theorem isB_yes {m : List (List Int)} (h : IsC m) : isB m = true := decide_eq_true h
open Classical in
theorem isB_no {m : List (List Int)} (h : ¬ IsC m) : isB m = false := decide_eq_false h
/-- The bond of two rows, from the product of the two entries. -/
def bondP (p : Int) : Int := if p = 0 then 2 else if p = 1 then 3 else if p = 2 then 4 else if p = 3 then 6 else 0
open Classical in
noncomputable def bond (m : List (List Int)) (i j : Int) : Int :=
  if IsC m ∧ (0 ≤ i ∧ i ≤ (m.length : Int) - 1) ∧ (0 ≤ j ∧ j ≤ (m.length : Int) - 1) then (if i = j then 1 else bondP (entry m i.toNat j.toNat * entry m j.toNat i.toNat)) else -1
theorem bond_eq {m : List (List Int)} {i : Nat} (h : IsC m) (hi : i < m.length) : bond m i i = 1 := by
  unfold bond; rw [if_pos ⟨h, by omega, by omega⟩, if_pos rfl]
theorem bond_ne {m : List (List Int)} {i j : Nat} (h : IsC m) (hi : i < m.length) (hj : j < m.length) (hn : i ≠ j) : bond m i j = bondP (entry m i j * entry m j i) := by
  unfold bond; rw [if_pos ⟨h, by omega, by omega⟩, if_neg (by omega)]; rfl
theorem isc_in {m : List (List Int)} (h : IsC m) {i j : Nat} (hi : i < m.length) (hj : j < m.length) (hn : i ≠ j) : -3 ≤ entry m i j ∧ entry m i j ≤ 0 := by
  rcases h.2.1 i j hi hj with h | h
  · exact absurd h.1 hn
  · exact h.2.1
theorem four {x : Int} (h : -3 ≤ x ∧ x ≤ 0) : x = 0 ∨ x = -1 ∨ x = -2 ∨ x = -3 := by omega
theorem bond_no {m : List (List Int)} {i j : Int} (h : ¬ (IsC m ∧ (0 ≤ i ∧ i ≤ (m.length : Int) - 1) ∧ (0 ≤ j ∧ j ≤ (m.length : Int) - 1))) : bond m i j = -1 := if_neg h

end Go.Proofs.YtlbgblkoddlhnabDoor
