/-
  JoinCartans of the model: what the call returns.
-/
import Derived.Test.YtgpcacgafbhhdaaDoorTrI
import Derived.Test.YtgpcacgafbhhdaaDoorGrow2
namespace Go.Proofs.YtgpcacgafbhhdaaDoor
open Go.RowKit

def JoinOk (a b : List (List Int)) : Prop := IsC a ∧ IsC b ∧ a.length + b.length ≤ 4
open Classical in
noncomputable def joinB (a b : List (List Int)) : Bool := decide (JoinOk a b)
open Classical in
theorem joinB_yes {a b : List (List Int)} (h : JoinOk a b) : joinB a b = true := decide_eq_true h
open Classical in
theorem joinB_no {a b : List (List Int)} (h : ¬ JoinOk a b) : joinB a b = false := decide_eq_false h
def joinL (a b : List (List Int)) : List (List Int) := (a.map fun r => r ++ List.replicate b.length 0) ++ b.map fun r => List.replicate a.length 0 ++ r
noncomputable def joinM (a b : List (List Int)) : List (List Int) := if joinB a b = true then joinL a b else []
theorem joinM_yes {a b : List (List Int)} (h : JoinOk a b) : joinM a b = joinL a b := if_pos (joinB_yes h)
theorem joinM_no {a b : List (List Int)} (h : ¬ JoinOk a b) : joinM a b = [] := by unfold joinM; rw [joinB_no h]; rfl
theorem joinL_len (a b : List (List Int)) : (joinL a b).length = a.length + b.length := by simp [joinL]
theorem joinL_top (a b : List (List Int)) (k : Nat) (h : k < a.length) : (joinL a b).take k ++ [a.getD k [] ++ List.replicate b.length 0] = (joinL a b).take (k + 1) := by
  rw [getD_row a k h]
  rw [List.take_succ_eq_append_getElem (by rw [joinL_len]; omega)]
  congr 2
  unfold joinL
  rw [List.getElem_append_left (by simpa using h)]
  simp
theorem joinL_low (a b : List (List Int)) (k : Nat) (h : k < b.length) : (joinL a b).take (a.length + k) ++ [List.replicate a.length 0 ++ b.getD k []] = (joinL a b).take (a.length + (k + 1)) := by
  rw [getD_row b k h]
  rw [← Nat.add_assoc, List.take_succ_eq_append_getElem (by rw [joinL_len]; omega)]
  congr 2
  unfold joinL
  rw [List.getElem_append_right (by simp)]
  simp
theorem joinL_end (a b : List (List Int)) : (joinL a b).take (a.length + b.length) = joinL a b := List.take_of_length_le (by rw [joinL_len]; exact Nat.le_refl _)
theorem isC_row {m : List (List Int)} (h : IsC m) {k : Nat} (hk : k < m.length) : (m.getD k []).length = m.length := h.1 k hk
theorem ne_nil_of_len {l : List Int} (h : 0 < l.length) : l ≠ [] := fun e => by rw [e] at h; simp at h
theorem makesM2_nil {w w' : World} {x : Value} {m : List (List Int)} {c d : Bool} (hm : m = []) (hc : d = c) (h : MatI w.heap.size w'.heap.size w' x []) (hb : Below w.heap.size w w') : MakesM2 w m (.bool c) (.returned (.tuple #[x, .bool d])) w' :=
  ⟨x, by rw [hc], by rw [hm]; exact ⟨h, Nat.le_refl _⟩, hb⟩
/-- A row of a matrix: its header, read as a list. -/
theorem MatB.rowAt {B : Nat} {w : World} {a : Option Addr} {n cap : Nat} {m : List (List Int)} (h : MatB B w (.slice a n cap) m) {j : Nat} (hj : j < n) (hl : j < m.length) :
    ∃ b off ra rcap, a = some ⟨b, off, none⟩ ∧ b < B ∧ w.cell? ⟨b, off + j, none⟩ = some (.slice ra (m.getD j []).length rcap) ∧ RowB B w (.slice ra (m.getD j []).length rcap) (m.getD j []) := by
  rw [getD_row m j hl]
  obtain ⟨b, off, _, h1, h2, ra, rcap, h3, h4⟩ := h.get hj
  exact ⟨b, off, ra, rcap, h1, h2, h3, h4⟩

end Go.Proofs.YtgpcacgafbhhdaaDoor
