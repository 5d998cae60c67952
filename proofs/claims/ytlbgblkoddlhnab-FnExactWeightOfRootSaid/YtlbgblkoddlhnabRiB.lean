/-
  Roots: what the program's reflection in place leaves of a list of the call's own.
-/
import Derived.Test.YtlbgblkoddlhnabRiA
namespace Go.Proofs.Ytlbgblkoddlhnab
open Go.RowKit

theorem rowI_rowB {A B : Nat} {w : World} {g n cap : Nat} {l : List Int} (h : RowI A B w (.slice (some ⟨g, 0, none⟩) n cap) l) (hl : l.length = n) : RowB (g + 1) w (.slice (some ⟨g, 0, none⟩) n cap) l := by
  refine Or.inr ⟨g, 0, cap, by rw [hl], by omega, fun j hj => ?_⟩
  have h1 := h.1
  rw [hl] at h1
  have h2 := h1.cellAt j (by omega)
  rw [Nat.zero_add, h2]; simp [intsV, hj]
end Go.Proofs.Ytlbgblkoddlhnab
