/-
  Words are read back from their texts (no walk here).
-/
import Derived.Test.YtnfogfkgbignbaaWrdP
namespace Go.Proofs.Ytnfogfkgbignbaa
open Go.RowKit

theorem let_back {x : Int} (h : 0 ≤ x ∧ x ≤ 3) : letN (letC x) = x ∧ letC x ≠ 101 := by
  rcases (show x = 0 ∨ x = 1 ∨ x = 2 ∨ x = 3 by omega) with rfl | rfl | rfl | rfl <;> decide
theorem let_all {w : List Int} (h : LetTo 4 w w.length) : ∀ x ∈ w, 0 ≤ x ∧ x ≤ 3 := fun x hx => by
  obtain ⟨k, hk, rfl⟩ := List.getElem_of_mem hx
  have := h k hk
  simp [List.getD, hk] at this
  omega
theorem map_back {w : List Int} (h : ∀ x ∈ w, 0 ≤ x ∧ x ≤ 3) : (w.map letC).map letN = w := by
  rw [List.map_map]
  conv => rhs; rw [← List.map_id w]
  exact List.map_congr_left fun x hx => (let_back (h x hx)).1
theorem par_fmt {w : List Int} (h : LetTo 4 w w.length) : fmtW w ≠ [] ∧ parW (fmtW w) = w := by
  by_cases he : w = []
  · subst he
    rw [fmtW_nil]
    exact ⟨by simp, rfl⟩
  · rw [fmtW_full h he]
    have hall := let_all h
    refine ⟨by simpa using he, ?_⟩
    have hne : w.map letC ≠ [101] := fun e => by
      cases w with
      | nil => exact he rfl
      | cons x r =>
        simp only [List.map_cons, List.cons.injEq] at e
        exact (let_back (hall x (by simp))).2 e.1
    unfold parW
    rw [if_neg hne]
    exact map_back hall
theorem isW_let {c : List (List Int)} {w : List Int} (h : IsW c w) : LetTo 4 w w.length := fun j hj => by
  have h1 := h.1 j hj
  have h2 := h.2.1.2.2.2
  omega
/-- What is parsed of a word's text: the word, if it is one. -/
theorem pw_fmt (c : List (List Int)) (w : List Int) : pwB c (fmtW w) = wordB c w ∧ (IsW c w → pwL c (fmtW w) = w) := by
  by_cases hW : IsW c w
  · obtain ⟨h1, h2⟩ := par_fmt (isW_let hW)
    have hok : PwOk c (fmtW w) := ⟨h1, by rw [h2]; exact hW⟩
    exact ⟨by rw [pwB_yes hok, wordB_yes hW], fun _ => by rw [pwL_yes hok]; exact h2⟩
  · refine ⟨?_, fun h => absurd h hW⟩
    rw [wordB_no hW]
    refine pwB_no (fun h => ?_)
    by_cases h4 : LetTo 4 w w.length
    · exact hW ((par_fmt h4).2 ▸ h.2)
    · exact h.1 (fmtW_bad h4)
end Go.Proofs.Ytnfogfkgbignbaa
