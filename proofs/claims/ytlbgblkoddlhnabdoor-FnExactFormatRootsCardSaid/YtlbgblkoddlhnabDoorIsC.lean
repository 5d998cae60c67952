/-
  IsCartan of the model: what the call returns.
-/
import Derived.Test.YtlbgblkoddlhnabDoorIn
namespace Go.Proofs.YtlbgblkoddlhnabDoor
open Go.RowKit

def entry (m : List (List Int)) (i j : Nat) : Int := (m.getD i []).getD j 0
def okC (m : List (List Int)) (i j : Nat) : Prop := (i = j ∧ entry m i j = 2) ∨ (i ≠ j ∧ (-3 ≤ entry m i j ∧ entry m i j ≤ 0) ∧ (entry m i j = 0 ↔ entry m j i = 0))
def IsC (m : List (List Int)) : Prop := (∀ i, i < m.length → (m.getD i []).length = m.length) ∧ (∀ i j, i < m.length → j < m.length → okC m i j) ∧ 1 ≤ m.length ∧ m.length ≤ 4
def IsAns (m : List (List Int)) (e : Ending) : Prop := (IsC m ∧ e = .returned (.bool true)) ∨ (¬ IsC m ∧ e = .returned (.bool false))
def Rows0 (m : List (List Int)) (n k : Nat) : Prop := ∀ i, i < k → (m.getD i []).length = n
def Ok0 (m : List (List Int)) (n k j : Nat) : Prop := (∀ i c, i < k → c < n → okC m i c) ∧ ∀ c, c < j → okC m k c
theorem ans_f {m : List (List Int)} (h : ¬ IsC m) : IsAns m (.returned (.bool false)) := Or.inr ⟨h, rfl⟩
theorem rows0_step {m : List (List Int)} {n k : Nat} (h : Rows0 m n k) (hk : (m.getD k []).length = n) : Rows0 m n (k + 1) := fun i hi => by
  rcases Nat.lt_or_ge i k with h' | h'
  · exact h i h'
  · have : i = k := by omega
    subst this; exact hk
theorem ok0_step {m : List (List Int)} {n k j : Nat} (h : Ok0 m n k j) (hk : okC m k j) : Ok0 m n k (j + 1) := ⟨h.1, fun c hc => by
  rcases Nat.lt_or_ge c j with h' | h'
  · exact h.2 c h'
  · have : c = j := by omega
    subst this; exact hk⟩
theorem ok0_row {m : List (List Int)} {n k : Nat} (h : Ok0 m n k n) : Ok0 m n (k + 1) 0 := ⟨fun i c hi hc => by
  rcases Nat.lt_or_ge i k with h' | h'
  · exact h.1 i c h' hc
  · have : i = k := by omega
    subst this; exact h.2 c hc, fun c hc => by omega⟩
theorem getD_row (m : List (List Int)) (i : Nat) (h : i < m.length) : m.getD i [] = m[i] := by simp [List.getD, h]

/-- One entry of a square matrix: the row's header and the cell. -/
theorem MatB.entry {B : Nat} {w : World} {a : Option Addr} {n cap : Nat} {m : List (List Int)} (h : MatB B w (.slice a n cap) m) (hr : Rows0 m n n) {i j : Nat} (hi : i < n) (hj : j < n) :
    ∃ b off rb roff rcap, a = some ⟨b, off, none⟩ ∧ w.cell? ⟨b, off + i, none⟩ = some (.slice (some ⟨rb, roff, none⟩) n rcap) ∧ w.cell? ⟨rb, roff + j, none⟩ = some (.int .i64 (entry m i j)) := by
  obtain ⟨b, off, hil, rfl, hb, ra, rcap, hc, hrow⟩ := h.get hi
  have hg := getD_row m i hil
  have hlen : m[i].length = n := by rw [← hg]; exact hr i hi
  rw [hlen] at hc hrow
  obtain ⟨rb, roff, hjl, rfl, _, hcell⟩ := hrow.get hj
  refine ⟨b, off, rb, roff, rcap, rfl, hc, ?_⟩
  rw [hcell]
  unfold Go.Proofs.YtlbgblkoddlhnabDoor.entry
  rw [hg]
  simp [List.getD, hjl]

end Go.Proofs.YtlbgblkoddlhnabDoor
