/-
  A cell of a row that reads as a list.
-/
import Derived.Test.YtlbgblkoddlhnabDoorInts
namespace Go.Proofs.YtlbgblkoddlhnabDoor
open Go.RowKit

theorem RowB.getD {B : Nat} {w : World} {a : Option Addr} {n cap : Nat} {l : List Int} (h : RowB B w (.slice a n cap) l) {j : Nat} (hj : j < n) :
    ∃ b off, a = some ⟨b, off, none⟩ ∧ b < B ∧ w.cell? ⟨b, off + j, none⟩ = some (.int .i64 (l.getD j 0)) := by
  obtain ⟨b, off, hl, h1, h2, h3⟩ := h.get hj
  exact ⟨b, off, h1, h2, by rw [h3]; simp [List.getD, hl]⟩
end Go.Proofs.YtlbgblkoddlhnabDoor
