/-
  Lists of ints and matrices that can be read: what a value reads as, below a block.
-/
import Derived.Test.YtlbgblkoddlhnabDoorOwn
import Derived.Test.YtlbgblkoddlhnabDoorRows
import Derived.ProofKit
namespace Go.Proofs.YtlbgblkoddlhnabDoor
open Go.RowKit

/-- The value reads as this list of ints, from a block below B. -/
def RowB (B : Nat) (w : World) (v : Value) (l : List Int) : Prop :=
  (l = [] ∧ ∃ a cap, v = .slice a 0 cap) ∨ ∃ b off cap, v = .slice (some ⟨b, off, none⟩) l.length cap ∧ b < B ∧ ∀ j (h : j < l.length), w.cell? ⟨b, off + j, none⟩ = some (.int .i64 l[j])
theorem RowB.below {B B' : Nat} {w w' : World} {v : Value} {l : List Int} (h : RowB B w v l) (hb : Below B' w w') (hB : B ≤ B') : RowB B w' v l := by
  rcases h with h | ⟨b, off, cap, h1, h2, h3⟩
  · exact Or.inl h
  · exact Or.inr ⟨b, off, cap, h1, h2, fun j hj => (hb.cell (p := ⟨b, off + j, none⟩) (by show b < B'; omega)).trans (h3 j hj)⟩
theorem RowB.mono {B B' : Nat} {w : World} {v : Value} {l : List Int} (h : RowB B w v l) (hB : B ≤ B') : RowB B' w v l := by
  rcases h with h | ⟨b, off, cap, h1, h2, h3⟩
  · exact Or.inl h
  · exact Or.inr ⟨b, off, cap, h1, by omega, h3⟩
theorem RowB.slice {B : Nat} {w : World} {v : Value} {l : List Int} (h : RowB B w v l) : ∃ a cap, v = .slice a l.length cap := by
  rcases h with ⟨rfl, a, cap, rfl⟩ | ⟨b, off, cap, rfl, _, _⟩
  · exact ⟨a, cap, rfl⟩
  · exact ⟨_, cap, rfl⟩
/-- One int of the list. -/
theorem RowB.get {B : Nat} {w : World} {a : Option Addr} {n cap : Nat} {l : List Int} (h : RowB B w (.slice a n cap) l) {j : Nat} (hj : j < n) :
    ∃ b off, ∃ hl : j < l.length, a = some ⟨b, off, none⟩ ∧ b < B ∧ w.cell? ⟨b, off + j, none⟩ = some (.int .i64 l[j]) := by
  rcases h with ⟨rfl, a', cap', h⟩ | ⟨b, off, cap', h, h2, h3⟩
  · injection h with h1 h2 h3; omega
  · injection h with h4 h5 h6
    subst h4
    exact ⟨b, off, by omega, rfl, h2, h3 j (by omega)⟩

/-- The value reads as this list of lists, every block below B. -/
def MatB (B : Nat) (w : World) (v : Value) (m : List (List Int)) : Prop :=
  (m = [] ∧ ∃ a cap, v = .slice a 0 cap) ∨ ∃ b off cap, v = .slice (some ⟨b, off, none⟩) m.length cap ∧ b < B ∧ ∀ j (h : j < m.length), ∃ rv, w.cell? ⟨b, off + j, none⟩ = some rv ∧ RowB B w rv m[j]
theorem MatB.below {B B' : Nat} {w w' : World} {v : Value} {m : List (List Int)} (h : MatB B w v m) (hb : Below B' w w') (hB : B ≤ B') : MatB B w' v m := by
  rcases h with h | ⟨b, off, cap, h1, h2, h3⟩
  · exact Or.inl h
  · refine Or.inr ⟨b, off, cap, h1, h2, fun j hj => ?_⟩
    obtain ⟨rv, h4, h5⟩ := h3 j hj
    exact ⟨rv, (hb.cell (p := ⟨b, off + j, none⟩) (by show b < B'; omega)).trans h4, h5.below hb hB⟩
theorem MatB.mono {B B' : Nat} {w : World} {v : Value} {m : List (List Int)} (h : MatB B w v m) (hB : B ≤ B') : MatB B' w v m := by
  rcases h with h | ⟨b, off, cap, h1, h2, h3⟩
  · exact Or.inl h
  · refine Or.inr ⟨b, off, cap, h1, by omega, fun j hj => ?_⟩
    obtain ⟨rv, h4, h5⟩ := h3 j hj
    exact ⟨rv, h4, h5.mono hB⟩
theorem MatB.slice {B : Nat} {w : World} {v : Value} {m : List (List Int)} (h : MatB B w v m) : ∃ a cap, v = .slice a m.length cap := by
  rcases h with ⟨rfl, a, cap, rfl⟩ | ⟨b, off, cap, rfl, _, _⟩
  · exact ⟨a, cap, rfl⟩
  · exact ⟨_, cap, rfl⟩
/-- One row of the matrix, its header and its address. -/
theorem MatB.get {B : Nat} {w : World} {a : Option Addr} {n cap : Nat} {m : List (List Int)} (h : MatB B w (.slice a n cap) m) {j : Nat} (hj : j < n) :
    ∃ b off, ∃ hl : j < m.length, a = some ⟨b, off, none⟩ ∧ b < B ∧ ∃ ra rcap, w.cell? ⟨b, off + j, none⟩ = some (.slice ra m[j].length rcap) ∧ RowB B w (.slice ra m[j].length rcap) m[j] := by
  rcases h with ⟨rfl, a', cap', h⟩ | ⟨b, off, cap', h, h2, h3⟩
  · injection h with h1 h2 h3; omega
  · injection h with h4 h5 h6
    subst h4
    have hjl : j < m.length := by omega
    obtain ⟨rv, h7, h8⟩ := h3 j hjl
    obtain ⟨ra, rcap, h9⟩ := h8.slice
    rw [h9] at h7 h8
    exact ⟨b, off, hjl, rfl, h2, ra, rcap, h7, h8⟩
end Go.Proofs.YtlbgblkoddlhnabDoor
