/-
  Roots: heights and signs, as the laws ask for them.
-/
import Derived.Test.YtlbgblkoddlhnaaRsA
import Derived.Test.YtlbgblkoddlhnaaRiA
import Derived.Test.YtlbgblkoddlhnaaFrm
namespace Go.Proofs.Ytlbgblkoddlhnaa
open Go.RowKit

theorem hgts_b (B : Nat) (v : Value) (l : List Int) (w : World) (h : RowB B w v l) (hl : l.length ≤ maxLen) :
    Calls Try.prog 34 #[v] w fun e w' => e = .returned (.int .i64 (hgtL l)) ∧ Below w.heap.size w w' :=
  (hgts_any B v l w h hl).mono fun e w' ⟨h1, h2⟩ => ⟨h1, by rw [h2]; exact Below.refl _ _⟩
theorem hgti_b (B : Nat) (v : Value) (l : List Int) (w : World) (h : RowB B w v l) (hl : l.length ≤ maxLen) :
    Calls Try.prog 35 #[v] w fun e w' => e = .returned (.int .i64 (hgtL l)) ∧ Below w.heap.size w w' :=
  (hgti_any B v l w h hl).mono fun e w' ⟨h1, h2⟩ => ⟨h1, by rw [h2]; exact Below.refl _ _⟩
theorem sgns_b (B : Nat) (v : Value) (l : List Int) (w : World) (h : RowB B w v l) (hl : l.length ≤ maxLen) :
    Calls Try.prog 36 #[v] w fun e w' => e = .returned (.int .i64 (sgnL l)) ∧ Below w.heap.size w w' :=
  (sgns_any B v l w h hl).mono fun e w' ⟨h1, h2⟩ => ⟨h1, by rw [h2]; exact Below.refl _ _⟩
theorem sgni_b (B : Nat) (v : Value) (l : List Int) (w : World) (h : RowB B w v l) (hl : l.length ≤ maxLen) :
    Calls Try.prog 37 #[v] w fun e w' => e = .returned (.int .i64 (sgnL l)) ∧ Below w.heap.size w w' :=
  (sgni_any B v l w h hl).mono fun e w' ⟨h1, h2⟩ => ⟨h1, by rw [h2]; exact Below.refl _ _⟩
end Go.Proofs.Ytlbgblkoddlhnaa
