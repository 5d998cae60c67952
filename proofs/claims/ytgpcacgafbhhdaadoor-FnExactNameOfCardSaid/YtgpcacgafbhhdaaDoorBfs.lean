/-
  A search through a graph of at most four points, as both sides walk it, and what it finds (no walk here).
-/
import Derived.Test.YtgpcacgafbhhdaaDoorOwn
namespace Go.Proofs.YtgpcacgafbhhdaaDoor

def visit1 (s : List Bool × List Nat) (j : Nat) : List Bool × List Nat := if s.1.getD j false then s else (s.1.set j true, s.2 ++ [j])
def visitL (l : List Nat) (s : List Bool × List Nat) : List Bool × List Nat := l.foldl visit1 s
def bfsStep (G : Nat → List Nat) (k : Nat) (s : List Bool × List Nat) : List Bool × List Nat := match s.2[k]? with | some p => visitL (G p) s | none => s
def bfsN (G : Nat → List Nat) (s : List Bool × List Nat) : Nat → List Bool × List Nat
  | 0 => s
  | k + 1 => bfsStep G k (bfsN G s k)
/-- What every step keeps. -/
def BInv (n C : Nat) (s : List Bool × List Nat) : Prop := s.1.length = n ∧ (∀ k, k < s.2.length → s.2.getD k 0 < n) ∧ s.2.length + s.1.count false = C ∧ 0 < s.2.length
theorem visit1_inv {n C : Nat} {s : List Bool × List Nat} {j : Nat} (h : BInv n C s) (hj : j < n) : BInv n C (visit1 s j) := by
  obtain ⟨h1, h2, h3, h9⟩ := h
  unfold visit1
  by_cases hs : s.1.getD j false = true
  · rw [if_pos hs]; exact ⟨h1, h2, h3, h9⟩
  · rw [if_neg hs]
    have hj' : j < s.1.length := by omega
    have hf : s.1[j] = false := by
      have : s.1.getD j false = s.1[j] := by simp [List.getD, hj']
      rw [this] at hs; simpa using hs
    refine ⟨by simp [h1], fun k hk => ?_, ?_, by simp⟩
    · simp only [List.length_append, List.length_singleton] at hk
      by_cases hk' : k < s.2.length
      · have := h2 k hk'
        simpa [List.getD, List.getElem?_append_left hk'] using this
      · obtain rfl : k = s.2.length := by omega
        simpa [List.getD] using hj
    · have hpos : 0 < s.1.count false := List.count_pos_iff.2 (hf ▸ List.getElem_mem hj')
      simp only [List.length_append, List.length_singleton]
      rw [List.count_set (h := hj')]
      simp [hf]
      omega
theorem visitL_inv {n C : Nat} (l : List Nat) {s : List Bool × List Nat} (h : BInv n C s) (hl : ∀ k, k < l.length → l.getD k 0 < n) : BInv n C (visitL l s) := by
  induction l generalizing s with
  | nil => exact h
  | cons x l ih =>
    refine ih (visit1_inv h (by have := hl 0 (by simp); simpa using this)) fun k hk => ?_
    have := hl (k + 1) (by simp; omega)
    simpa using this
theorem visitL_step (l : List Nat) (s : List Bool × List Nat) (j : Nat) (h : j < l.length) : visitL (l.take (j + 1)) s = visit1 (visitL (l.take j) s) (l.getD j 0) := by
  rw [List.take_succ_eq_append_getElem h]
  unfold visitL
  rw [List.foldl_append]
  simp [List.getD, h]
theorem visitL_all (l : List Nat) (s : List Bool × List Nat) : visitL (l.take l.length) s = visitL l s := by rw [List.take_length]
def GrIn (G : Nat → List Nat) (n : Nat) : Prop := ∀ p k, k < (G p).length → (G p).getD k 0 < n
theorem bfsN_inv {G : Nat → List Nat} {n C : Nat} (hG : GrIn G n) {s : List Bool × List Nat} (h : BInv n C s) (k : Nat) : BInv n C (bfsN G s k) := by
  induction k with
  | zero => exact h
  | succ k ih =>
    unfold bfsN bfsStep
    cases (bfsN G s k).2[k]? with
    | none => exact ih
    | some p => exact visitL_inv _ ih (hG p)
theorem bfsN_step {G : Nat → List Nat} {s : List Bool × List Nat} {k : Nat} (h : k < (bfsN G s k).2.length) : bfsN G s (k + 1) = visitL (G ((bfsN G s k).2.getD k 0)) (bfsN G s k) := by
  show bfsStep G k (bfsN G s k) = _
  unfold bfsStep
  rw [List.getElem?_eq_getElem h]
  simp [List.getD, h]
theorem bfsN_stop {G : Nat → List Nat} {s : List Bool × List Nat} {k : Nat} (h : (bfsN G s k).2.length ≤ k) (t : Nat) : bfsN G s (k + t) = bfsN G s k := by
  induction t with
  | zero => rfl
  | succ t ih =>
    show bfsStep G (k + t) (bfsN G s (k + t)) = _
    rw [ih]
    unfold bfsStep
    rw [List.getElem?_eq_none (by omega)]
theorem bfsN_end {G : Nat → List Nat} {s : List Bool × List Nat} {k N : Nat} (h : (bfsN G s k).2.length ≤ k) (hN : k ≤ N) : bfsN G s k = bfsN G s N := by
  obtain ⟨t, rfl⟩ : ∃ t, N = k + t := ⟨N - k, by omega⟩
  exact (bfsN_stop h t).symm

/-! ### Parts, as the model and as the program find them -/
def start (n i : Nat) (s : List Bool) : List Bool × List Nat := (s.set i true, [i])
def bfsE (G : Nat → List Nat) (s : List Bool × List Nat) : List Bool × List Nat := bfsN G s 6
def seenK (s : List Bool) (k : Nat) : List Nat := (List.range k).filter fun j => s.getD j false
def mPart (G : Nat → List Nat) (n i : Nat) : List Nat := seenK (bfsE G (start n i (List.replicate n false))).1 n
def partsM (G : Nat → List Nat) (n : Nat) : Nat → List (List Nat)
  | 0 => []
  | i + 1 => if (mPart G n i).getD 0 0 = i then partsM G n i ++ [mPart G n i] else partsM G n i
def sortN (n : Nat) (q : List Nat) : List Nat := (List.range n).filter fun k => q.contains k
def partsP (G : Nat → List Nat) (n : Nat) : Nat → List Bool × List (List Nat)
  | 0 => (List.replicate n false, [])
  | i + 1 => if (partsP G n i).1.getD i false then partsP G n i else ((bfsE G (start n i (partsP G n i).1)).1, (partsP G n i).2 ++ [sortN n (bfsE G (start n i (partsP G n i).1)).2])

/-! ### Graphs -/
/-- The neighbours in the graph with the edges 01, 02, 03, 12, 13, 23. -/
def grE (a b c d e f : Bool) (i j : Nat) : Bool := match i, j with
  | 0, 1 => a | 1, 0 => a | 0, 2 => b | 2, 0 => b | 0, 3 => c | 3, 0 => c | 1, 2 => d | 2, 1 => d | 1, 3 => e | 3, 1 => e | 2, 3 => f | 3, 2 => f
  | _, _ => false
def grN (E : Nat → Nat → Bool) (n p : Nat) : List Nat := (List.range n).filter (E p)
def endsN (G : Nat → List Nat) (k : Nat) : Nat := ((List.range k).map fun i => (G i).length).sum
def edgesN (E : Nat → Nat → Bool) (k : Nat) : Nat := ((List.range k).map fun i => ((List.range i).filter (E i)).length).sum
/-- What is wanted of a graph with n points. -/
def GrOk (G : Nat → List Nat) (n : Nat) : Prop :=
  (partsP G n n).2 = partsM G n n ∧ (∀ i, i < n → (mPart G n i).length ≠ 0) ∧ (∀ i, i < n → (partsP G n i).1.getD i false = false → (bfsE G (start n i (partsP G n i).1)).2.Perm (sortN n (bfsE G (start n i (partsP G n i).1)).2)) ∧ (partsM G n n).length ≤ n ∧ ((partsM G n n).map List.length).sum ≤ n
instance (G : Nat → List Nat) (n : Nat) : Decidable (GrOk G n) := by unfold GrOk; infer_instance
set_option maxRecDepth 100000 in
theorem edOk : ∀ a b c d e f : Bool, endsN (grN (grE a b c d e f) 1) 1 / 2 = edgesN (grE a b c d e f) 1 ∧ endsN (grN (grE a b c d e f) 2) 2 / 2 = edgesN (grE a b c d e f) 2 ∧ endsN (grN (grE a b c d e f) 3) 3 / 2 = edgesN (grE a b c d e f) 3 ∧ endsN (grN (grE a b c d e f) 4) 4 / 2 = edgesN (grE a b c d e f) 4 := by decide +kernel
set_option maxRecDepth 100000 in
theorem grOk1 : ∀ a b c d e f : Bool, GrOk (grN (grE a b c d e f) 1) 1 := by decide +kernel
set_option maxRecDepth 100000 in
theorem grOk2 : ∀ a b c d e f : Bool, GrOk (grN (grE a b c d e f) 2) 2 := by decide +kernel
set_option maxRecDepth 100000 in
theorem grOk3 : ∀ a b c d e f : Bool, GrOk (grN (grE a b c d e f) 3) 3 := by decide +kernel
set_option maxRecDepth 100000 in
theorem grOk4 : ∀ a b c d e f : Bool, GrOk (grN (grE a b c d e f) 4) 4 := by decide +kernel
theorem grOk_all (n : Nat) (h1 : 1 ≤ n) (h4 : n ≤ 4) (a b c d e f : Bool) : GrOk (grN (grE a b c d e f) n) n := by
  rcases (show n = 1 ∨ n = 2 ∨ n = 3 ∨ n = 4 by omega) with rfl | rfl | rfl | rfl
  · exact grOk1 a b c d e f
  · exact grOk2 a b c d e f
  · exact grOk3 a b c d e f
  · exact grOk4 a b c d e f
theorem edOk_all (n : Nat) (h1 : 1 ≤ n) (h4 : n ≤ 4) (a b c d e f : Bool) : endsN (grN (grE a b c d e f) n) n / 2 = edgesN (grE a b c d e f) n := by
  obtain ⟨q1, q2, q3, q4⟩ := edOk a b c d e f
  rcases (show n = 1 ∨ n = 2 ∨ n = 3 ∨ n = 4 by omega) with rfl | rfl | rfl | rfl
  · exact q1
  · exact q2
  · exact q3
  · exact q4
theorem seenK_yes {s : List Bool} {k : Nat} (h : s.getD k false = true) : seenK s k ++ [k] = seenK s (k + 1) := by
  unfold seenK
  rw [List.range_succ, List.filter_append]
  simp [← List.getD_eq_getElem?_getD, h]
theorem seenK_no {s : List Bool} {k : Nat} (h : s.getD k false = false) : seenK s k = seenK s (k + 1) := by
  unfold seenK
  rw [List.range_succ, List.filter_append]
  simp [← List.getD_eq_getElem?_getD, h]
theorem sortN_sorted (n : Nat) (q : List Nat) : (sortN n q).Pairwise fun x y => x ≤ y :=
  (List.pairwise_lt_range.filter _).imp fun h => Nat.le_of_lt h
theorem start_inv {n i : Nat} {s : List Bool} (hs : s.length = n) (hi : i < n) : BInv n (1 + (s.set i true).count false) (start n i s) :=
  ⟨by simp [start, hs], fun k hk => by
    obtain rfl : k = 0 := by simp [start] at hk; omega
    simpa [start] using hi, by simp [start], by simp [start]⟩
theorem start_le {n i : Nat} {s : List Bool} (hs : s.length = n) : 1 + (s.set i true).count false ≤ n + 1 := by
  have h1 : (s.set i true).count false ≤ (s.set i true).length := List.count_le_length
  rw [List.length_set] at h1
  omega
end Go.Proofs.YtgpcacgafbhhdaaDoor
