/-
  Weights: what the program's reflection in place returns.
-/
import Derived.Test.YtlbgblkoddlhnabWtQ
import Derived.Test.YtlbgblkoddlhnabBondW
import Derived.Test.YtlbgblkoddlhnabTrS
import Derived.Test.YtlbgblkoddlhnabApp
import Derived.Test.YtlbgblkoddlhnabLine
import Derived.Deep.RegionLaw
namespace Go.Proofs.Ytlbgblkoddlhnab
open Go.RowKit

theorem RowI.at' {A B : Nat} {w : World} {v : Value} {l : List Int} (h : RowI A B w v l) (h0 : 0 < l.length) : ∃ g cap, v = .slice (some ⟨g, 0, none⟩) l.length cap ∧ A ≤ g ∧ g < B := by
  rcases h.1.2 with ⟨_, h'⟩ | ⟨g, cap, _, h', hA, _⟩
  · omega
  · exact ⟨g, cap, h', hA, h.2 g (by rw [h']; rfl)⟩

end Go.Proofs.Ytlbgblkoddlhnab
