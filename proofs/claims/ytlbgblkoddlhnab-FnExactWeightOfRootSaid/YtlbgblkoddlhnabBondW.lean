/-
  BondOf of the model and of the program: what each call returns.
-/
import Derived.Test.YtlbgblkoddlhnabImC
import Derived.Test.YtlbgblkoddlhnabFrm
namespace Go.Proofs.Ytlbgblkoddlhnab
open Go.RowKit

theorem wrap_prod {x y : Int} (hx : -3 ≤ x ∧ x ≤ 0) (hy : -3 ≤ y ∧ y ≤ 0) : wrap64 (x * y) = x * y := by
  have h : 0 ≤ x * y ∧ x * y ≤ 9 := by
    have hx' : x = 0 ∨ x = -1 ∨ x = -2 ∨ x = -3 := four hx
    rcases hx' with rfl | rfl | rfl | rfl <;> omega
  exact IntWalk.wrap64_in _ ⟨by omega, by omega⟩
def ptB (i : Int) (n : Nat) : Bool := decide (0 ≤ i ∧ i ≤ (n : Int) - 1)
theorem ptB_yes {i : Int} {n : Nat} (h : 0 ≤ i ∧ i ≤ (n : Int) - 1) : ptB i n = true := decide_eq_true h
theorem ptB_no {i : Int} {n : Nat} (h : ¬ (0 ≤ i ∧ i ≤ (n : Int) - 1)) : ptB i n = false := decide_eq_false h
theorem icm_0 (B : Nat) (v : Value) (m : List (List Int)) (c : Bool) (hc : isB m = c) (w : World) (h : MatB B w v m) (hf : RowsFit m) :
    Calls Try.prog 16 #[v] w fun e w' => e = .returned (.bool c) ∧ ∃ m, w' = w.drewN m :=
  (icm_any B v m w h hf).mono fun e w' ⟨he, hw⟩ => ⟨by rw [he]; exact ret_boolean hc, hw⟩

end Go.Proofs.Ytlbgblkoddlhnab
