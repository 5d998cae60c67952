/-
  Weights: which vectors are weights (no walk here).
-/
import Derived.Test.YtlbgblkoddlhnabDoorWtP
namespace Go.Proofs.YtlbgblkoddlhnabDoor
open Go.RowKit

def WtTo (l : List Int) (k : Nat) : Prop := ∀ j, j < k → -1000 ≤ l.getD j 0 ∧ l.getD j 0 ≤ 1000
theorem wtTo_zero (l : List Int) : WtTo l 0 := fun _ hj => absurd hj (Nat.not_lt_zero _)
theorem wtTo_step {k : Nat} {l : List Int} (h : WtTo l k) (hk : -1000 ≤ l.getD k 0 ∧ l.getD k 0 ≤ 1000) : WtTo l (k + 1) := fun j hj => by
  rcases Nat.lt_or_ge j k with h' | h'
  · exact h j h'
  · obtain rfl : j = k := by omega
    exact hk
def IsWt (c : List (List Int)) (l : List Int) : Prop := WtTo l l.length ∧ IsC c ∧ l.length = c.length
open Classical in
noncomputable def wtB (c : List (List Int)) (l : List Int) : Bool := decide (IsWt c l)
open Classical in
theorem wtB_yes {c : List (List Int)} {l : List Int} (h : IsWt c l) : wtB c l = true := decide_eq_true h
open Classical in
theorem wtB_no {c : List (List Int)} {l : List Int} (h : ¬ IsWt c l) : wtB c l = false := decide_eq_false h
theorem isWt_bad {c : List (List Int)} {l : List Int} {k : Nat} (hk : k < l.length) (h : ¬ (-1000 ≤ l.getD k 0 ∧ l.getD k 0 ≤ 1000)) : ¬ IsWt c l := fun h' => h (h'.1 k hk)
open Classical in
noncomputable def wtlB (l : List Int) : Bool := decide (WtTo l l.length)
open Classical in
theorem wtlB_yes {l : List Int} (h : WtTo l l.length) : wtlB l = true := decide_eq_true h
open Classical in
theorem wtlB_no {l : List Int} (h : ¬ WtTo l l.length) : wtlB l = false := decide_eq_false h
theorem wtB_is (m : List (List Int)) (l : List Int) : wtB m l = (isB m && decide (l.length = m.length) && wtlB l) := by
  by_cases hI : IsC m
  · by_cases h15 : l.length = m.length
    · by_cases hl : WtTo l l.length
      · rw [wtB_yes ⟨hl, hI, h15⟩, isB_yes hI, decide_eq_true h15, wtlB_yes hl]; rfl
      · rw [wtB_no (fun h => hl h.1), wtlB_no hl, Bool.and_false]
    · rw [wtB_no (fun h => h15 h.2.2), decide_eq_false h15, Bool.and_false, Bool.false_and]
  · rw [wtB_no (fun h => hI h.2.1), isB_no hI, Bool.false_and, Bool.false_and]
/-! ### A reflection in place: the first k numbers are new -/
def rflS (m : List (List Int)) (i : Nat) (l : List Int) (k : Nat) : List Int := reflK m i l k ++ l.drop k
theorem rflS_zero (m : List (List Int)) (i : Nat) (l : List Int) : rflS m i l 0 = l := by simp [rflS, reflK]
theorem rflS_len (m : List (List Int)) (i : Nat) (l : List Int) (k : Nat) (h : k ≤ l.length) : (rflS m i l k).length = l.length := by simp [rflS, reflK_len]; omega
theorem rflS_end (m : List (List Int)) (i : Nat) (l : List Int) : rflS m i l l.length = reflL m i l := by simp [rflS, reflL]
theorem rflS_get (m : List (List Int)) (i : Nat) (l : List Int) (k : Nat) (h : k < l.length) : (rflS m i l k)[k]? = some (l.getD k 0) := by
  unfold rflS
  rw [List.getElem?_append_right (by rw [reflK_len]; exact Nat.le_refl _), reflK_len, Nat.sub_self, List.getElem?_drop]
  simp [List.getD, h]
theorem rflS_step (m : List (List Int)) (i : Nat) (l : List Int) (k : Nat) (h : k < l.length) : (rflS m i l k).set k (reflE m i l k) = rflS m i l (k + 1) := by
  unfold rflS
  rw [List.set_append_right _ _ (by rw [reflK_len]; exact Nat.le_refl _), reflK_len, Nat.sub_self, List.drop_eq_getElem_cons h, List.set_cons_zero, ← reflK_step, List.append_assoc]
  rfl
end Go.Proofs.YtlbgblkoddlhnabDoor
