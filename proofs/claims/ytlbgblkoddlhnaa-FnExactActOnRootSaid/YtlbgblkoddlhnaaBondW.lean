/-
  BondOf of the model and of the program: what each call returns.
-/
import Derived.Test.YtlbgblkoddlhnaaImC
import Derived.Test.YtlbgblkoddlhnaaFrm
namespace Go.Proofs.Ytlbgblkoddlhnaa
open Go.RowKit

theorem wrap_prod {x y : Int} (hx : -3 ≤ x ∧ x ≤ 0) (hy : -3 ≤ y ∧ y ≤ 0) : wrap64 (x * y) = x * y := by
  have h : 0 ≤ x * y ∧ x * y ≤ 9 := by
    have hx' : x = 0 ∨ x = -1 ∨ x = -2 ∨ x = -3 := four hx
    rcases hx' with rfl | rfl | rfl | rfl <;> omega
  exact IntWalk.wrap64_in _ ⟨by omega, by omega⟩
def ptB (i : Int) (n : Nat) : Bool := decide (0 ≤ i ∧ i ≤ (n : Int) - 1)
theorem ptB_yes {i : Int} {n : Nat} (h : 0 ≤ i ∧ i ≤ (n : Int) - 1) : ptB i n = true := decide_eq_true h
theorem ptB_no {i : Int} {n : Nat} (h : ¬ (0 ≤ i ∧ i ≤ (n : Int) - 1)) : ptB i n = false := decide_eq_false h
set_option maxHeartbeats 400000 in
theorem pt_any (a : Option Addr) (n cap : Nat) (i : Int) (w : World) (_hl : n ≤ 2 ^ 63 - 1) :
    Calls Try.prog 58 #[.slice a n cap, .int .i64 i] w fun e w' => e = .returned (.bool (ptB i n)) ∧ w = w' := by
  by_cases h : 0 ≤ i
  · have h1 : decide (0 ≤ i) = true := decide_eq_true h
    by_cases h2 : i ≤ (n : Int) - 1
    · have HV := Lib.hid (ptB_yes ⟨h, h2⟩)
      have h3 : decide (i < (n : Int)) = true := decide_eq_true (by omega)
      go_enter Try.func58, Try.ntmps58
      go_wp2_with fail
      go_ret
      exact ⟨ret_boolean HV.out.symm, rfl⟩
    · have HV := Lib.hid (ptB_no (i := i) (n := n) (fun x => h2 x.2))
      have h3 : decide (i < (n : Int)) = false := decide_eq_false (by omega)
      go_enter Try.func58, Try.ntmps58
      go_wp2_with fail
      go_ret
      exact ⟨ret_boolean HV.out.symm, rfl⟩
  · have HV := Lib.hid (ptB_no (i := i) (n := n) (fun x => h x.1))
    have h1 : decide (0 ≤ i) = false := decide_eq_false h
    go_enter Try.func58, Try.ntmps58
    go_wp2_with fail
    go_ret
    exact ⟨ret_boolean HV.out.symm, rfl⟩
theorem pt_c (a : Option Addr) (n cap : Nat) (i : Int) (c : Bool) (hc : ptB i n = c) (w : World) (hl : n ≤ 2 ^ 63 - 1) :
    Calls Try.prog 58 #[.slice a n cap, .int .i64 i] w fun e w' => e = .returned (.bool c) ∧ w = w' :=
  (pt_any a n cap i w hl).mono fun e w' ⟨he, hw⟩ => ⟨by rw [he]; exact ret_boolean hc, hw⟩
theorem icm_0 (B : Nat) (v : Value) (m : List (List Int)) (c : Bool) (hc : isB m = c) (w : World) (h : MatB B w v m) (hf : RowsFit m) :
    Calls Try.prog 57 #[v] w fun e w' => e = .returned (.bool c) ∧ ∃ m, w' = w.drewN m :=
  (icm_any B v m w h hf).mono fun e w' ⟨he, hw⟩ => ⟨by rw [he]; exact ret_boolean hc, hw⟩

end Go.Proofs.Ytlbgblkoddlhnaa
