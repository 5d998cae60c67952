/-
  TransposeCartan of the program: what the call returns.
-/
import Derived.Test.YtlbgblkoddlhnabTrS
import Derived.Test.YtlbgblkoddlhnabLine
namespace Go.Proofs.Ytlbgblkoddlhnab
open Go.RowKit

def zerosR (n : Nat) : List Int := List.replicate n 0
def zeros (n : Nat) : List (List Int) := List.replicate n (zerosR n)
theorem zeros_len (n : Nat) : (zeros n).length = n := by simp [zeros]
theorem zeros_get (n k : Nat) (h : k < (zeros n).length) : (zeros n)[k] = zerosR n := by simp [zeros]
theorem zerosR_len (n : Nat) : (zerosR n).length = n := by simp [zerosR]
theorem zeros_small (n : Nat) (h : n ≤ 1048576) : Small (zeros n) := ⟨by rw [zeros_len]; exact h, fun j hj => by rw [zeros_get, zerosR_len]; exact h⟩

theorem makeInts (n : Nat) (hn : n ≤ 1048576) (w : World) : (Instr.makeSlice 23 (.int .i64 n) (.int .i64 n)).run Try.prog w = .ok (.slice (some ⟨w.heap.size, 0, none⟩) n n) (w.alloc (.cells (intsV (zerosR n)).toArray 3)) := by
  obtain ⟨i0, hi, hz0, hz1, hz2⟩ := info_parts Try.infoInt
  have h := run_make (P := Try.prog) w 23 3 i0 (.int .i64 0) Try.underlying23 hi hz0 .i64 .i64 (n : Int) (n : Int) (by omega) (Int.le_refl _) (by rw [hz2]; omega) (by omega)
  rw [h, hz1, Nat.mul_one, Int.toNat_natCast]
  unfold zerosR
  rw [← madeI64]
theorem makeRows (n : Nat) (hn : n ≤ 1048576) (w : World) (m : List (List Int)) (hm : m.length = n) : (Instr.makeSlice 22 (.int .i64 n) (.int .i64 n)).run Try.prog w = .ok (.slice (some ⟨w.heap.size, 0, none⟩) n n) (w.alloc (.cells (hdrSt w.heap.size m 0).toArray 23)) := by
  obtain ⟨i0, hi, hz0, hz1, hz2⟩ := info_parts Try.infoRow
  have h := run_make (P := Try.prog) w 22 23 i0 (.slice none 0 0) Try.underlying22 hi hz0 .i64 .i64 (n : Int) (n : Int) (by omega) (Int.le_refl _) (by rw [hz2]; omega) (by omega)
  rw [h, hz1, Nat.mul_one, hdrSt_zero, hm, ← madeRows, Int.toNat_natCast]

/-! ### Entries set column by column -/
def stR (m : List (List Int)) (n k j r : Nat) : List Int := (List.range n).map fun c => if c < k ∨ (c = k ∧ r < j) then entry m c r else 0
def stM (m : List (List Int)) (n k j : Nat) : List (List Int) := (List.range n).map fun r => stR m n k j r
theorem stM_len (m : List (List Int)) (n k j : Nat) : (stM m n k j).length = n := by simp [stM]
theorem stR_len (m : List (List Int)) (n k j r : Nat) : (stR m n k j r).length = n := by simp [stR]
theorem stM_get (m : List (List Int)) (n k j r : Nat) (h : r < n) : (stM m n k j).getD r [] = stR m n k j r := by simp [stM, List.getD, h]
theorem stM_zero (m : List (List Int)) (n : Nat) : stM m n 0 0 = zeros n := by
  apply List.ext_getElem
  · simp [stM, zeros]
  · intro i h1 h2
    simp only [stM, zeros, zerosR, List.getElem_map, List.getElem_range, List.getElem_replicate, stR]
    apply List.ext_getElem
    · simp
    · intro c h3 h4; simp
theorem stM_next (m : List (List Int)) (n k : Nat) : stM m n k n = stM m n (k + 1) 0 := by
  apply List.ext_getElem
  · simp [stM]
  · intro i h1 h2
    have hi : i < n := by simpa [stM] using h1
    simp only [stM, List.getElem_map, List.getElem_range, stR]
    apply List.ext_getElem
    · simp
    · intro c h3 h4
      simp only [List.getElem_map, List.getElem_range]
      by_cases hc : c ≤ k
      · rw [if_pos (by omega), if_pos (by omega)]
      · rw [if_neg (by omega), if_neg (by omega)]
theorem stM_end (m : List (List Int)) (n : Nat) : stM m n n 0 = trN m n := by
  apply List.ext_getElem
  · simp [stM, trN]
  · intro i h1 h2
    simp only [stM, trN, List.getElem_map, List.getElem_range, stR, colR]
    apply List.ext_getElem
    · simp
    · intro c h3 h4
      have hc : c < n := by simpa using h3
      simp [hc]
theorem stM_step (m : List (List Int)) (n k j : Nat) (_hk : k < n) (hj : j < n) : set2 (stM m n k j) j k (entry m k j) = stM m n k (j + 1) := by
  apply List.ext_getElem
  · simp [stM, set2]
  · intro i h1 h2
    have hi : i < n := by simpa [stM] using h2
    by_cases hij : i = j
    · subst hij
      rw [set2_at, stM_get m n k i i hi]
      simp only [stM, List.getElem_map, List.getElem_range, stR]
      apply List.ext_getElem
      · simp
      · intro c h3 h4
        rw [List.getElem_set]
        simp only [List.getElem_map, List.getElem_range]
        by_cases hc : k = c
        · subst hc
          rw [if_pos rfl, if_pos (by omega)]
        · rw [if_neg hc]
          by_cases hlt : c < k
          · rw [if_pos (by omega), if_pos (by omega)]
          · rw [if_neg (by omega), if_neg (by omega)]
    · rw [set2_ne _ _ _ _ _ _ (by rw [stM_len]; exact hi) hij]
      simp only [stM, List.getElem_map, List.getElem_range, stR]
      apply List.ext_getElem
      · simp
      · intro c h3 h4
        simp only [List.getElem_map, List.getElem_range]
        by_cases hc : c < k ∨ (c = k ∧ i < j)
        · rw [if_pos hc, if_pos (by omega)]
        · rw [if_neg hc, if_neg (by omega)]

theorem trM_small (m : List (List Int)) : szSum (trM m) ≤ 1048576 := by
  by_cases hI : IsC m
  · rw [trM_yes hI]
    have h4 := hI.2.2.2
    have : ∀ n k, ((List.range k).map fun i => colR m n i).map List.length = List.replicate k n := by
      intro n k
      apply List.ext_getElem
      · simp
      · intro i h1 h2; simp [colR]
    unfold szSum
    rw [trN_len]
    unfold trN
    rw [this, List.sum_replicate_nat]
    have : m.length * m.length ≤ 4 * 4 := Nat.mul_le_mul h4 h4
    omega
  · rw [trM_no hI]; decide
end Go.Proofs.Ytlbgblkoddlhnab
