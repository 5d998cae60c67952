/-
  The determinant by choosing a column for each row (no walk here): the sum over the columns that are left is the expansion along the first row.
-/
import Derived.Test.YtgpcacgafbhhdaaDet
namespace Go.Proofs.Ytgpcacgafbhhdaa
open Go.RowKit

/-! ### Signs of a choice -/
def sgnC (j : Nat) : List Nat → Int
  | [] => 1
  | c :: l => if j < c then -sgnC j l else sgnC j l
/-- The sign behind the first i columns of the choice. -/
def sgnT (j : Nat) (ch : List Nat) (i : Nat) : Int := sgnC j (ch.take i)
theorem sgnC_snoc (j c : Nat) (l : List Nat) : sgnC j (l ++ [c]) = if j < c then -sgnC j l else sgnC j l := by
  induction l with
  | nil => rfl
  | cons x l ih =>
    show (if j < x then -sgnC j (l ++ [c]) else sgnC j (l ++ [c])) = _
    rw [ih]
    show _ = if j < c then -(if j < x then -sgnC j l else sgnC j l) else (if j < x then -sgnC j l else sgnC j l)
    split <;> split <;> simp
theorem sgnC_one (j : Nat) (l : List Nat) : sgnC j l = 1 ∨ sgnC j l = -1 := by
  induction l with
  | nil => exact Or.inl rfl
  | cons x l ih =>
    show (if j < x then -sgnC j l else sgnC j l) = 1 ∨ (if j < x then -sgnC j l else sgnC j l) = -1
    split
    · rcases ih with h | h <;> rw [h] <;> simp
    · exact ih
/-! ### The sum over the columns that are left -/
def expF (m : List (List Int)) (n : Nat) : Nat → List Nat → Int
  | 0, _ => 1
  | k + 1, ch => ((List.range n).map fun j => if ch.contains j then 0 else sgnC j ch * entry m ch.length j * expF m n k (ch ++ [j])).sum
def expT (m : List (List Int)) (n k : Nat) (ch : List Nat) (j : Nat) : Int := if ch.contains j then 0 else sgnC j ch * entry m ch.length j * expF m n k (ch ++ [j])
def expS (m : List (List Int)) (n k : Nat) (ch : List Nat) (j : Nat) : Int := ((List.range j).map (expT m n k ch)).sum
theorem expS_step (m : List (List Int)) (n k : Nat) (ch : List Nat) (j : Nat) : expS m n k ch (j + 1) = expS m n k ch j + expT m n k ch j := by
  unfold expS
  rw [List.range_succ, List.map_append, List.sum_append]
  simp
theorem expS_end (m : List (List Int)) (n k : Nat) (ch : List Nat) : expS m n k ch n = expF m n (k + 1) ch := rfl
/-- 4, 4 * 3 * 4, .. : what a sum comes to at most. -/
def eB : Nat → Int
  | 0 => 1
  | n + 1 => 4 * (3 * eB n)
theorem eB_nonneg (n : Nat) : 0 ≤ eB n := by
  induction n with
  | zero => decide
  | succ n ih => exact Int.mul_nonneg (by omega) (by omega)
theorem expT_bd {m : List (List Int)} {n k : Nat} {ch : List Nat} {j : Nat} (hb : Bd m) (h : -(eB k) ≤ expF m n k (ch ++ [j]) ∧ expF m n k (ch ++ [j]) ≤ eB k) : -(3 * eB k) ≤ expT m n k ch j ∧ expT m n k ch j ≤ 3 * eB k := by
  have h0 := eB_nonneg k
  unfold expT
  split
  · omega
  · have hx : -3 ≤ sgnC j ch * entry m ch.length j ∧ sgnC j ch * entry m ch.length j ≤ 3 := by
      have := hb ch.length j
      rcases sgnC_one j ch with h1 | h1 <;> rw [h1] <;> omega
    exact mul_le3 hx h h0
theorem expS_bd {m : List (List Int)} {n k : Nat} {ch : List Nat} (hb : Bd m) (h : ∀ j, -(eB k) ≤ expF m n k (ch ++ [j]) ∧ expF m n k (ch ++ [j]) ≤ eB k) (j : Nat) :
    -((j : Int) * (3 * eB k)) ≤ expS m n k ch j ∧ expS m n k ch j ≤ (j : Int) * (3 * eB k) := by
  induction j with
  | zero => simp [expS]
  | succ j ih =>
    rw [expS_step]
    have h1 := expT_bd hb (h j)
    have e : ((j + 1 : Nat) : Int) * (3 * eB k) = (j : Int) * (3 * eB k) + 3 * eB k := by rw [Int.natCast_succ, Int.add_mul, Int.one_mul]
    rw [e]
    omega
theorem expF_bd {m : List (List Int)} {n : Nat} (hn : n ≤ 4) (hb : Bd m) (k : Nat) : ∀ ch, -(eB k) ≤ expF m n k ch ∧ expF m n k ch ≤ eB k := by
  induction k with
  | zero => intro ch; show -(1 : Int) ≤ 1 ∧ (1 : Int) ≤ 1; decide
  | succ k ih =>
    intro ch
    rw [← expS_end]
    have h1 := expS_bd (n := n) (ch := ch) hb (fun j => ih (ch ++ [j])) n
    have h0 := eB_nonneg k
    have h2 : (n : Int) * (3 * eB k) ≤ 4 * (3 * eB k) := Int.mul_le_mul_of_nonneg_right (by omega) (by omega)
    show -(4 * (3 * eB k)) ≤ _ ∧ _ ≤ 4 * (3 * eB k)
    omega
theorem eB_small (n : Nat) (h : n ≤ 4) : eB n ≤ 20736 := by
  rcases (show n = 0 ∨ n = 1 ∨ n = 2 ∨ n = 3 ∨ n = 4 by omega) with rfl | rfl | rfl | rfl | rfl <;> decide
/-! ### It is the determinant -/
theorem exp_det1 (m : List (List Int)) : expF m 1 1 [] = detF 1 m := by
  simp [expF, detF, sgnC, sgn, wdM, wdR, keepC, entry, List.range_succ, List.getD]
theorem exp_det2 (m : List (List Int)) : expF m 2 2 [] = detF 2 m := by
  have e : ∀ i j, ((m[i]?.getD [])[j]?.getD 0) = entry m i j := fun i j => by simp [entry, List.getD]
  simp [expF, detF, sgnC, sgn, wdM, wdR, keepC, List.range_succ, List.contains, List.elem]
  simp [entry, List.getD]
  simp only [e]
  grind
theorem exp_det3 (m : List (List Int)) : expF m 3 3 [] = detF 3 m := by
  have e : ∀ i j, ((m[i]?.getD [])[j]?.getD 0) = entry m i j := fun i j => by simp [entry, List.getD]
  simp [expF, detF, sgnC, sgn, wdM, wdR, keepC, List.range_succ, List.contains, List.elem]
  simp [entry, List.getD]
  simp only [e]
  grind
set_option maxHeartbeats 2000000 in
theorem exp_det4 (m : List (List Int)) : expF m 4 4 [] = detF 4 m := by
  have e : ∀ i j, ((m[i]?.getD [])[j]?.getD 0) = entry m i j := fun i j => by simp [entry, List.getD]
  simp [expF, detF, sgnC, sgn, wdM, wdR, keepC, List.range_succ, List.contains, List.elem]
  simp [entry, List.getD]
  simp only [e]
  grind
theorem exp_det (m : List (List Int)) (n : Nat) (h : n ≤ 4) : expF m n n [] = detF n m := by
  rcases (show n = 0 ∨ n = 1 ∨ n = 2 ∨ n = 3 ∨ n = 4 by omega) with rfl | rfl | rfl | rfl | rfl
  · rfl
  · exact exp_det1 m
  · exact exp_det2 m
  · exact exp_det3 m
  · exact exp_det4 m
end Go.Proofs.Ytgpcacgafbhhdaa
