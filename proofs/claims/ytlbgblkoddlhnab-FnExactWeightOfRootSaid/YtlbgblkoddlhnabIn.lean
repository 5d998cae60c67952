/-
  The model's range test: what the call returns.
-/
import Derived.Test.YtlbgblkoddlhnabHelp
namespace Go.Proofs.Ytlbgblkoddlhnab
open Go.RowKit

def inB (x a b : Int) : Bool := decide (a ≤ x ∧ x ≤ b)
theorem inB_yes {x a b : Int} (h : a ≤ x ∧ x ≤ b) : inB x a b = true := decide_eq_true h
theorem inB_no {x a b : Int} (h : ¬ (a ≤ x ∧ x ≤ b)) : inB x a b = false := decide_eq_false h
set_option maxHeartbeats 400000 in
theorem l1in_any (x a b : Int) (w : World) :
    Calls Try.prog 18 #[.int .i64 x, .int .i64 a, .int .i64 b] w fun e w' => e = .returned (.bool (decide (a ≤ x ∧ x ≤ b))) ∧ w = w' := by
  go_enter Try.func18, Try.ntmps18
  go_wp2
  all_goals (go_ret; exact ⟨ret_boolean (by simp; try omega), rfl⟩)
theorem l1in_q (x a b : Int) (c : Bool) (hc : inB x a b = c) (w : World) (q : Nat) :
    Calls Try.prog 18 #[.int .i64 x, .int .i64 a, .int .i64 b] (w.drewN q) fun e w' => e = .returned (.bool c) ∧ ∃ m, w' = (w.drewN q).drewN m :=
  (l1in_any x a b (w.drewN q)).mono fun e w' ⟨he, hw⟩ => ⟨by rw [he]; exact ret_boolean hc, 0, hw.symm⟩
end Go.Proofs.Ytlbgblkoddlhnab
