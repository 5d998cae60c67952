/-
  JoinCartans of the program: what the call returns.
-/
import Derived.Test.YtnfogfkgbignbaaJoS
import Derived.Test.YtnfogfkgbignbaaCopy
namespace Go.Proofs.Ytnfogfkgbignbaa
open Go.RowKit

/-- The first k rows are laid, the others are zeros. -/
def stJ (J : List (List Int)) (N k : Nat) : List (List Int) := J.take k ++ List.replicate (N - k) (zerosR N)
theorem stJ_len {J : List (List Int)} {N k : Nat} (hJ : J.length = N) (hk : k ≤ N) : (stJ J N k).length = N := by simp [stJ, hJ]; omega
theorem stJ_get {J : List (List Int)} {N k : Nat} (hJ : J.length = N) (hk : k < N) : (stJ J N k).getD k [] = zerosR N := by
  have h : (J.take k).length = k := by simp [hJ]; omega
  unfold stJ List.getD
  rw [List.getElem?_append_right (by omega), h, Nat.sub_self, List.getElem?_replicate, if_pos (by omega)]
  rfl
theorem stJ_step {J : List (List Int)} {N k : Nat} {row : List Int} (hJ : J.length = N) (hk : k < N) (hrow : J.take k ++ [row] = J.take (k + 1)) : (stJ J N k).set k row = stJ J N (k + 1) := by
  have h : (J.take k).length = k := by simp [hJ]; omega
  unfold stJ
  rw [← hrow, List.set_append_right _ _ (by omega), h, Nat.sub_self]
  obtain ⟨d, hd⟩ : ∃ d, N - k = d + 1 := ⟨N - k - 1, by omega⟩
  rw [hd, show N - (k + 1) = d by omega, List.replicate_succ, List.set_cons_zero]
  simp
theorem stJ_zero (J : List (List Int)) (N : Nat) : stJ J N 0 = zeros N := by simp [stJ, zeros]
theorem stJ_end {J : List (List Int)} {N : Nat} (hJ : J.length = N) : stJ J N N = J := by simp [stJ, ← hJ]
theorem spl_zeros_top (N : Nat) (r : List Int) (n n' : Nat) (hr : r.length = n) (hN : N = n + n') : spl (zerosR N) 0 r = r ++ List.replicate n' 0 := by
  subst hN; simp [spl, zerosR, hr]
theorem spl_zeros_low (N : Nat) (r : List Int) (n n' : Nat) (hr : r.length = n') (hN : N = n + n') : spl (zerosR N) n r = List.replicate n 0 ++ r := by
  subst hN; simp [spl, zerosR, hr, List.take_replicate]

theorem sum_map_le (l : List (List Int)) (N : Nat) (h : ∀ r ∈ l, r.length ≤ N) : (l.map List.length).sum ≤ l.length * N := by
  induction l with
  | nil => simp
  | cons r l ih =>
    simp only [List.map_cons, List.sum_cons, List.length_cons]
    have h1 := h r (by simp)
    have h2 := ih (fun x hx => h x (by simp [hx]))
    rw [Nat.add_mul]; omega
theorem joinM_small (a b : List (List Int)) : szSum (joinM a b) ≤ 1048576 := by
  by_cases hj : JoinOk a b
  · rw [joinM_yes hj]
    have hl := joinL_len a b
    obtain ⟨h1, h2, h3⟩ := hj
    have : ((joinL a b).map List.length).sum ≤ (joinL a b).length * 4 := sum_map_le _ 4 (fun r hr => by
      unfold joinL at hr
      rcases List.mem_append.1 hr with hr | hr
      · obtain ⟨x, hx, rfl⟩ := List.mem_map.1 hr
        obtain ⟨k, hk, rfl⟩ := List.getElem_of_mem hx
        have := isC_row h1 hk
        rw [getD_row a k hk] at this
        simp; omega
      · obtain ⟨x, hx, rfl⟩ := List.mem_map.1 hr
        obtain ⟨k, hk, rfl⟩ := List.getElem_of_mem hx
        have := isC_row h2 hk
        rw [getD_row b k hk] at this
        simp; omega)
    unfold szSum
    omega
  · rw [joinM_no hj]; decide
end Go.Proofs.Ytnfogfkgbignbaa
