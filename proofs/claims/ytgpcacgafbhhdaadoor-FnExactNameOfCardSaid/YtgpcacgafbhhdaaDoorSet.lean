/-
  SubCartan of the model and of the program: what each call returns.
-/
import Derived.Test.YtgpcacgafbhhdaaDoorPick
import Derived.Test.YtgpcacgafbhhdaaDoorJoS
import Derived.BigQuiet
namespace Go.Proofs.YtgpcacgafbhhdaaDoor
open Go.RowKit

/-! ### Sets of points -/
def setC (n : Nat) (l : List Int) (k : Nat) : Prop := (0 ≤ l.getD k 0 ∧ l.getD k 0 ≤ (n : Int) - 1) ∧ ¬ (0 < k ∧ l.getD k 0 ≤ l.getD (k - 1) 0)
def SetTo (n : Nat) (l : List Int) (k : Nat) : Prop := ∀ i, i < k → setC n l i
theorem setTo_step {n k : Nat} {l : List Int} (h : SetTo n l k) (hk : setC n l k) : SetTo n l (k + 1) := fun i hi => by
  rcases Nat.lt_or_ge i k with h' | h'
  · exact h i h'
  · obtain rfl : i = k := by omega
    exact hk
def IsSet (n : Nat) (l : List Int) : Prop := SetTo n l l.length
theorem isSet_no {n k : Nat} {l : List Int} (hk : k < l.length) (h : ¬ setC n l k) : ¬ IsSet n l := fun hs => h (hs k hk)
theorem isSet_pt {n : Nat} {l : List Int} (h : IsSet n l) : AllPt n l := fun k hk => (h k hk).1
theorem isSet_ge {n : Nat} {l : List Int} (h : IsSet n l) (k : Nat) (hk : k < l.length) : (k : Int) ≤ l.getD k 0 := by
  induction k with
  | zero => exact (h 0 hk).1.1
  | succ k ih =>
    have h1 := ih (by omega)
    have h2 := (h (k + 1) hk).2
    simp only [Nat.add_sub_cancel] at h2
    have h3 : ¬ l.getD (k + 1) 0 ≤ l.getD k 0 := fun h => h2 ⟨by omega, h⟩
    omega
theorem isSet_len {n : Nat} {l : List Int} (h : IsSet n l) : l.length ≤ n := by
  by_cases h0 : l.length = 0
  · omega
  · have h1 := isSet_ge h (l.length - 1) (by omega)
    have h2 := (h (l.length - 1) (by omega)).1.2
    omega
open Classical in
noncomputable def setB (n : Nat) (l : List Int) : Bool := decide (IsSet n l)
open Classical in
theorem setB_yes {n : Nat} {l : List Int} (h : IsSet n l) : setB n l = true := decide_eq_true h
open Classical in
theorem setB_no {n : Nat} {l : List Int} (h : ¬ IsSet n l) : setB n l = false := decide_eq_false h
/-- What SubCartan accepts. -/
def SubOk (m : List (List Int)) (l : List Int) : Prop := IsC m ∧ l ≠ [] ∧ IsSet m.length l
open Classical in
noncomputable def subB (m : List (List Int)) (l : List Int) : Bool := decide (SubOk m l)
noncomputable def subM (m : List (List Int)) (l : List Int) : List (List Int) := if subB m l = true then pick m l else []
open Classical in
theorem subB_yes {m : List (List Int)} {l : List Int} (h : SubOk m l) : subB m l = true := decide_eq_true h
open Classical in
theorem subB_no {m : List (List Int)} {l : List Int} (h : ¬ SubOk m l) : subB m l = false := decide_eq_false h
theorem subM_yes {m : List (List Int)} {l : List Int} (h : SubOk m l) : subM m l = pick m l := if_pos (subB_yes h)
theorem subM_no {m : List (List Int)} {l : List Int} (h : ¬ SubOk m l) : subM m l = [] := by unfold subM; rw [subB_no h]; rfl
theorem subM_small (m : List (List Int)) (l : List Int) : szSum (subM m l) ≤ 1048576 := by
  by_cases h : SubOk m l
  · rw [subM_yes h]
    have h1 := isSet_len h.2.2
    have h2 := h.1.2.2.2
    exact fullF_small _ _ (by omega)
  · rw [subM_no h]; decide
/-- The list's cell before. -/
theorem RowB.prev {B : Nat} {w : World} {b off n cap : Nat} {l : List Int} (h : RowB B w (.slice (some ⟨b, off, none⟩) n cap) l) {j : Nat} (hj : j < n) : w.cell? ⟨b, off + j, none⟩ = some (.int .i64 (l.getD j 0)) := by
  obtain ⟨b', off', hla, _, hlc⟩ := h.getD hj
  injection hla with hla
  injection hla with hla1 hla2
  subst hla1
  subst hla2
  exact hlc

/-! ### The program's isPointSet -/
end Go.Proofs.YtgpcacgafbhhdaaDoor
